/- Brackets as the program counts them, on lists of bytes (no program). -/
import Derived.Test.YtndnialpedocnaaSpl
namespace Go.Proofs.Ytndnialpedocnaa.Upl
open Go.Proofs.Ytndnialpedocnaa.Spl

/-- the first place at which nothing is open and the byte asked for stands -/
def outP (op sh : T) (a : UInt8) : Nat → T → Option Nat
  | _, [] => none
  | d, b :: r =>
    if d = 0 ∧ b = a then some 0
    else if b ∈ op then (outP op sh a (d + 1) r).map (· + 1)
    else if 0 < d ∧ b ∈ sh then (outP op sh a (d - 1) r).map (· + 1)
    else (outP op sh a d r).map (· + 1)
def outI (op sh : T) (a : UInt8) (d : Nat) (s : T) (k : Nat) : Int := match outP op sh a d (s.drop k) with
  | none => -1
  | some e => ((k + e : Nat) : Int)
theorem outI_end {op sh : T} {a : UInt8} {d : Nat} {s : T} {k : Nat} (h : s.length ≤ k) : outI op sh a d s k = -1 := by
  unfold outI; rw [List.drop_of_length_le h]; rfl
theorem outI_step {op sh : T} {a : UInt8} {d d' : Nat} {s : T} {k : Nat} (h : outP op sh a d (s.drop k) = (outP op sh a d' (s.drop (k + 1))).map (· + 1)) : outI op sh a d s k = outI op sh a d' s (k + 1) := by
  unfold outI
  rw [h]
  cases outP op sh a d' (s.drop (k + 1)) with
  | none => rfl
  | some e =>
    show ((k + (e + 1) : Nat) : Int) = ((k + 1 + e : Nat) : Int)
    omega
theorem outI_zero (op sh : T) (a : UInt8) (s : T) : outI op sh a 0 s 0 = match outP op sh a 0 s with
    | none => -1
    | some e => (e : Int) := by
  unfold outI
  rw [List.drop_zero]
  cases outP op sh a 0 s with
  | none => rfl
  | some e => show ((0 + e : Nat) : Int) = (e : Int); rw [Nat.zero_add]

theorem out_lt (op sh : T) (a : UInt8) : ∀ (s : T) (d e : Nat), outP op sh a d s = some e → e < s.length
  | [], d, e, h => by cases h
  | b :: r, d, e, h => by
    have hi : ∀ d, (outP op sh a d r).map (· + 1) = some e → e < (b :: r).length := by
      intro d h
      cases h1 : outP op sh a d r with
      | none => rw [h1] at h; cases h
      | some x =>
        rw [h1] at h
        have := out_lt op sh a r d x h1
        have e2 : x + 1 = e := Option.some.inj h
        rw [List.length_cons]; omega
    rw [outP] at h
    split at h
    · cases h; rw [List.length_cons]; omega
    · split at h
      · exact hi _ h
      · split at h
        · exact hi _ h
        · exact hi _ h

/-- a bracket's end -/
theorem ends_out (o c : UInt8) (hne : c ≠ o) : ∀ (s : T) (d : Nat), endsP o c (d + 1) s = outP [o] [c] c d s
  | [], d => rfl
  | b :: r, d => by
    rw [endsP, outP]
    by_cases h1 : b = o
    · have h2 : ¬ (d = 0 ∧ b = c) := fun h => hne (h.2.symm.trans h1)
      rw [if_pos h1, if_neg h2, if_pos (List.mem_singleton.2 h1), ends_out o c hne r (d + 1)]
    · rw [if_neg h1]
      have m1 : ¬ b ∈ [o] := fun h => h1 (List.mem_singleton.1 h)
      by_cases h2 : b = c
      · rw [if_pos h2]
        by_cases h3 : d = 0
        · rw [if_pos (by omega), if_pos ⟨h3, h2⟩]
        · rw [if_neg (by omega), if_neg (fun h => h3 h.1), if_neg m1, if_pos ⟨by omega, List.mem_singleton.2 h2⟩, ← ends_out o c hne r (d - 1)]
          rw [show d + 1 - 1 = d - 1 + 1 by omega]
      · have m2 : ¬ b ∈ [c] := fun h => h2 (List.mem_singleton.1 h)
        rw [if_neg h2, if_neg (fun h => h2 h.2), if_neg m1, if_neg (fun h => m2 h.2), ends_out o c hne r d]

theorem map_cut (x : Option Nat) (cur : T) (b : UInt8) (r : T) : (x.map (· + 1)).map (fun k => (cur ++ (b :: r).take k, (b :: r).drop (k + 1))) = x.map (fun k => ((cur ++ [b]) ++ r.take k, r.drop (k + 1))) := by
  cases x with
  | none => rfl
  | some k =>
    show some (cur ++ b :: r.take k, r.drop (k + 1)) = some ((cur ++ [b]) ++ r.take k, r.drop (k + 1))
    rw [List.append_assoc]; rfl
theorem two_mem (b x y : UInt8) : b ∈ [x, y] ↔ b = x ∨ b = y := by simp
theorem colon_out : ∀ (s : T) (d : Nat) (cur : T), colonP d cur s = (outP [40, 123] [41, 125] 58 d s).map (fun k => (cur ++ s.take k, s.drop (k + 1)))
  | [], d, cur => rfl
  | b :: r, d, cur => by
    rw [colonP, outP]
    by_cases h1 : b = 40 ∨ b = 123
    · have h2 : ¬ (d = 0 ∧ b = 58) := fun h => by rcases h1 with e | e <;> rw [e] at h <;> exact absurd h.2 (by decide)
      rw [if_pos h1, if_neg h2, if_pos ((two_mem b 40 123).2 h1), map_cut, ← colon_out r (d + 1)]
    · have m1 : ¬ b ∈ [(40 : UInt8), 123] := fun h => h1 ((two_mem b 40 123).1 h)
      rw [if_neg h1]
      by_cases h3 : b = 41 ∨ b = 125
      · have h2 : ¬ (d = 0 ∧ b = 58) := fun h => by rcases h3 with e | e <;> rw [e] at h <;> exact absurd h.2 (by decide)
        rw [if_pos h3, if_neg h2, if_neg m1]
        by_cases h4 : 0 < d
        · rw [if_pos ⟨h4, (two_mem b 41 125).2 h3⟩, map_cut, ← colon_out r (d - 1)]
        · rw [if_neg (fun h => h4 h.1), map_cut, ← colon_out r d, show d - 1 = d by omega]
      · have m2 : ¬ (0 < d ∧ b ∈ [(41 : UInt8), 125]) := fun h => h3 ((two_mem b 41 125).1 h.2)
        rw [if_neg h3]
        by_cases h4 : b = 58 ∧ d = 0
        · rw [if_pos h4, if_pos ⟨h4.2, h4.1⟩]
          show some (cur, r) = some (cur ++ [], r)
          rw [List.append_nil]
        · rw [if_neg h4, if_neg (fun h => h4 ⟨h.2, h.1⟩), if_neg m1, if_neg m2, map_cut, ← colon_out r d]
theorem equal_out : ∀ (s : T) (d : Nat) (cur : T), equalP d cur s = (outP [40, 123] [41, 125] 61 d s).map (fun k => (cur ++ s.take k, s.drop (k + 1)))
  | [], d, cur => rfl
  | b :: r, d, cur => by
    rw [equalP, outP]
    by_cases h1 : b = 40 ∨ b = 123
    · have h2 : ¬ (d = 0 ∧ b = 61) := fun h => by rcases h1 with e | e <;> rw [e] at h <;> exact absurd h.2 (by decide)
      rw [if_pos h1, if_neg h2, if_pos ((two_mem b 40 123).2 h1), map_cut, ← equal_out r (d + 1)]
    · have m1 : ¬ b ∈ [(40 : UInt8), 123] := fun h => h1 ((two_mem b 40 123).1 h)
      rw [if_neg h1]
      by_cases h3 : b = 41 ∨ b = 125
      · have h2 : ¬ (d = 0 ∧ b = 61) := fun h => by rcases h3 with e | e <;> rw [e] at h <;> exact absurd h.2 (by decide)
        rw [if_pos h3, if_neg h2, if_neg m1]
        by_cases h4 : 0 < d
        · rw [if_pos ⟨h4, (two_mem b 41 125).2 h3⟩, map_cut, ← equal_out r (d - 1)]
        · rw [if_neg (fun h => h4 h.1), map_cut, ← equal_out r d, show d - 1 = d by omega]
      · have m2 : ¬ (0 < d ∧ b ∈ [(41 : UInt8), 125]) := fun h => h3 ((two_mem b 41 125).1 h.2)
        rw [if_neg h3]
        by_cases h4 : b = 61 ∧ d = 0
        · rw [if_pos h4, if_pos ⟨h4.2, h4.1⟩]
          show some (cur, r) = some (cur ++ [], r)
          rw [List.append_nil]
        · rw [if_neg h4, if_neg (fun h => h4 ⟨h.2, h.1⟩), if_neg m1, if_neg m2, map_cut, ← equal_out r d]

/-- a call's arguments, one cut at a time -/
theorem args_last (o c : UInt8) : ∀ (s : T) (d : Nat) (cur : T), argsP o c d (some 0) cur s = [cur ++ s]
  | [], d, cur => by rw [argsP, List.append_nil]
  | b :: r, d, cur => by
    have e : ∀ d', argsP o c d' (some 0) (cur ++ [b]) r = [cur ++ b :: r] := fun d' => by rw [args_last o c r d' (cur ++ [b]), List.append_assoc]; rfl
    rw [argsP]
    split
    · exact e _
    · split
      · exact e _
      · rw [if_neg (fun h => h.2.2 rfl)]; exact e _
theorem args_cut (o c : UInt8) (ho : (44 : UInt8) ≠ o) (hc : (44 : UInt8) ≠ c) (hne : c ≠ o) (m : Option Nat) (hm : m ≠ some 0) : ∀ (s : T) (d : Nat) (cur : T), argsP o c d m cur s = match outP [o] [c] 44 d s with
    | none => [cur ++ s]
    | some k => (cur ++ s.take k) :: argsP o c 0 (m.map (· - 1)) [] (s.drop (k + 1))
  | [], d, cur => by rw [argsP, outP, List.append_nil]
  | b :: r, d, cur => by
    have key : ∀ d' (x : Option Nat), argsP o c d' m (cur ++ [b]) r = (match x with
        | none => [(cur ++ [b]) ++ r]
        | some k => ((cur ++ [b]) ++ r.take k) :: argsP o c 0 (m.map (· - 1)) [] (r.drop (k + 1))) → argsP o c d' m (cur ++ [b]) r = match x.map (· + 1) with
        | none => [cur ++ b :: r]
        | some k => (cur ++ (b :: r).take k) :: argsP o c 0 (m.map (· - 1)) [] ((b :: r).drop (k + 1)) := fun d' x h => by
      rw [h]
      cases x with
      | none => show [(cur ++ [b]) ++ r] = [cur ++ b :: r]; rw [List.append_assoc]; rfl
      | some k =>
        show ((cur ++ [b]) ++ r.take k) :: _ = (cur ++ b :: r.take k) :: _
        rw [List.append_assoc]; rfl
    rw [argsP, outP]
    by_cases h1 : b = o
    · rw [if_pos h1, if_neg (fun h => ho (h.2.symm.trans h1)), if_pos (List.mem_singleton.2 h1)]
      exact key _ _ (args_cut o c ho hc hne m hm r (d + 1) (cur ++ [b]))
    · have m1 : ¬ b ∈ [o] := fun h => h1 (List.mem_singleton.1 h)
      rw [if_neg h1]
      by_cases h2 : b = c
      · rw [if_pos h2, if_neg (fun h => hc (h.2.symm.trans h2)), if_neg m1]
        by_cases h3 : 0 < d
        · rw [if_pos ⟨h3, List.mem_singleton.2 h2⟩]
          exact key _ _ (args_cut o c ho hc hne m hm r (d - 1) (cur ++ [b]))
        · rw [if_neg (fun h => h3 h.1), show d - 1 = d by omega]
          exact key _ _ (args_cut o c ho hc hne m hm r d (cur ++ [b]))
      · have m2 : ¬ (0 < d ∧ b ∈ [c]) := fun h => h2 (List.mem_singleton.1 h.2)
        rw [if_neg h2]
        by_cases h3 : b = 44 ∧ d = 0
        · rw [if_pos ⟨h3.1, h3.2, hm⟩, if_pos ⟨h3.2, h3.1⟩]
          show cur :: _ = (cur ++ []) :: _
          rw [List.append_nil]; rfl
        · rw [if_neg (fun h => h3 ⟨h.1, h.2.1⟩), if_neg (fun h => h3 ⟨h.2, h.1⟩), if_neg m1, if_neg m2]
          exact key _ _ (args_cut o c ho hc hne m hm r d (cur ++ [b]))

/-! ### from the front on, whatever the fuel -/
theorem s_other (p : UInt8 → T → Rd Nod) (n : Nat) (acc : List Nod) (cur : T) {b : UInt8} (r : T) (h : b ≠ 36) : scanP p (n + 1) acc cur (b :: r) = scanP p n acc (cur ++ [b]) r := by
  rw [scanP.eq_def]
  exact if_neg h
theorem s_sign (p : UInt8 → T → Rd Nod) (n : Nat) (acc : List Nod) (cur : T) (c : UInt8) (r : T) : scanP p (n + 1) acc cur (36 :: c :: r) = if c = 36 then scanP p n acc (cur ++ [36]) r
    else if c = 40 ∨ c = 123 then (match endsP c (shutOf c) 1 r with
      | none => .bad .form
      | some e => match p c (r.take e) with
        | .bad x => .bad x
        | .ok m => scanP p n (flushP acc cur ++ [m]) [] (r.drop (e + 1)))
    else scanP p n (flushP acc cur ++ [.mk 2 [] [.mk 1 [c] []]]) [] r := rfl
theorem scan_more (p : UInt8 → T → Rd Nod) : ∀ (n m : Nat) (acc : List Nod) (cur s : T), s.length < n → s.length < m → scanP p n acc cur s = scanP p m acc cur s
  | 0, _, _, _, _, h, _ => by omega
  | _ + 1, 0, _, _, _, _, h => by omega
  | n + 1, m + 1, acc, cur, [], _, _ => rfl
  | n + 1, m + 1, acc, cur, [b], hn, hm => by
    by_cases hb : b = 36
    · rw [hb]; rfl
    · rw [s_other p n acc cur [] hb, s_other p m acc cur [] hb]
      rw [List.length_singleton] at hn hm
      exact scan_more p n m _ _ [] (by rw [List.length_nil]; omega) (by rw [List.length_nil]; omega)
  | n + 1, m + 1, acc, cur, b :: c :: r, hn, hm => by
    rw [List.length_cons, List.length_cons] at hn hm
    by_cases hb : b = 36
    · rw [hb, s_sign, s_sign]
      split
      · exact scan_more p n m _ _ r (by omega) (by omega)
      · split
        · cases endsP c (shutOf c) 1 r with
          | none => rfl
          | some e =>
            dsimp only
            cases p c (r.take e) with
            | bad x => rfl
            | ok k =>
              dsimp only
              have := List.length_drop (i := e + 1) (l := r)
              exact scan_more p n m _ _ _ (by omega) (by omega)
        · exact scan_more p n m _ _ r (by omega) (by omega)
    · rw [s_other p n acc cur _ hb, s_other p m acc cur _ hb]
      exact scan_more p n m _ _ (c :: r) (by rw [List.length_cons]; omega) (by rw [List.length_cons]; omega)
def scan (p : UInt8 → T → Rd Nod) (acc : List Nod) (cur s : T) : Rd (List Nod) := scanP p (s.length + 1) acc cur s
theorem scan_is (p : UInt8 → T → Rd Nod) (n : Nat) (acc : List Nod) (cur s : T) (h : s.length < n) : scanP p n acc cur s = scan p acc cur s := scan_more p _ _ acc cur s h (by omega)
theorem scan_nil (p : UInt8 → T → Rd Nod) (acc : List Nod) (cur : T) : scan p acc cur [] = .ok (flushP acc cur) := rfl
theorem scan_byte (p : UInt8 → T → Rd Nod) (acc : List Nod) (cur : T) (b : UInt8) (r : T) (hb : b ≠ 36) : scan p acc cur (b :: r) = scan p acc (cur ++ [b]) r := by
  unfold scan
  exact s_other p _ acc cur r hb
theorem scan_plain (p : UInt8 → T → Rd Nod) : ∀ (a : T) (acc : List Nod) (cur r : T), (∀ b ∈ a, b ≠ 36) → scan p acc cur (a ++ r) = scan p acc (cur ++ a) r
  | [], acc, cur, r, _ => by rw [List.append_nil]; rfl
  | b :: a, acc, cur, r, h => by
    show scan p acc cur (b :: (a ++ r)) = _
    rw [scan_byte p acc cur b _ (h b List.mem_cons_self), scan_plain p a acc (cur ++ [b]) r (fun x hx => h x (List.mem_cons_of_mem _ hx)), List.append_assoc]
    rfl
/-- what stands behind a dollar -/
theorem scan_end (p : UInt8 → T → Rd Nod) (acc : List Nod) (cur : T) : scan p acc cur [36] = .ok (flushP acc (cur ++ [36])) := rfl
theorem scan_two (p : UInt8 → T → Rd Nod) (acc : List Nod) (cur r : T) : scan p acc cur (36 :: 36 :: r) = scan p acc (cur ++ [36]) r :=
  scan_is p (r.length + 2) acc (cur ++ [36]) r (by omega)
theorem scan_one (p : UInt8 → T → Rd Nod) (acc : List Nod) (cur : T) (c : UInt8) (r : T) (h1 : c ≠ 36) (h2 : ¬ (c = 40 ∨ c = 123)) : scan p acc cur (36 :: c :: r) = scan p (flushP acc cur ++ [.mk 2 [] [.mk 1 [c] []]]) [] r := by
  rw [← scan_is p (r.length + 2) _ [] r (by omega)]
  unfold scan
  rw [s_sign, if_neg h1, if_neg h2]
  rfl
theorem scan_ref (p : UInt8 → T → Rd Nod) (acc : List Nod) (cur : T) (c : UInt8) (r : T) (h2 : c = 40 ∨ c = 123) : scan p acc cur (36 :: c :: r) = match endsP c (shutOf c) 1 r with
    | none => .bad .form
    | some e => match p c (r.take e) with
      | .bad x => .bad x
      | .ok m => scan p (flushP acc cur ++ [m]) [] (r.drop (e + 1)) := by
  have h1 : c ≠ 36 := by rcases h2 with rfl | rfl <;> decide
  unfold scan
  rw [s_sign, if_neg h1, if_pos h2]
  cases endsP c (shutOf c) 1 r with
  | none => rfl
  | some e =>
    dsimp only
    cases p c (r.take e) with
    | bad x => rfl
    | ok m =>
      dsimp only
      have := List.length_drop (i := e + 1) (l := r)
      have h3 : (c :: r).length = r.length + 1 := rfl
      have h4 : ((36 : UInt8) :: c :: r).length = r.length + 2 := rfl
      exact scan_more p _ _ _ [] _ (by omega) (by omega)

end Go.Proofs.Ytndnialpedocnaa.Upl
