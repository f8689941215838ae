/- Brackets as the program counts them, on lists of bytes (no program). -/
import Derived.Test.YtmcdefkpkpaceaaGreatDoorStrsJ
import Derived.WalkKit
import Derived.WalkSpells
import Derived.IntWalk
import Derived.Below
import Derived.Lib.Hide
import Derived.Lib.Builder
import Derived.Lib.IndexLaws
import Derived.Deep.QuietTactic
import Derived.BigQuiet
import Derived.Test.YtmcdefkpkpaceaaGreatDoorShelf
import Derived.Lib.SplitLaws
import Derived.Test.YtmcdefkpkpaceaaGreatDoorProg
import Derived.OwnWalk
import Derived.Deep.DeepCutAuto
namespace Go.Proofs.YtmcdefkpkpaceaaGreatDoor.Upl
open Go.Proofs.YtmcdefkpkpaceaaGreatDoor.Spl

/-- the first place at which nothing is open and the byte asked for stands -/
def outP (op sh : T) (a : UInt8) : Nat → T → Option Nat
  | _, [] => none
  | d, b :: r =>
    if d = 0 ∧ b = a then some 0
    else if b ∈ op then (outP op sh a (d + 1) r).map (· + 1)
    else if 0 < d ∧ b ∈ sh then (outP op sh a (d - 1) r).map (· + 1)
    else (outP op sh a d r).map (· + 1)
def outI (op sh : T) (a : UInt8) (d : Nat) (s : T) (k : Nat) : Int := match outP op sh a d (s.drop k) with
  | none => -1
  | some e => ((k + e : Nat) : Int)
theorem outI_end {op sh : T} {a : UInt8} {d : Nat} {s : T} {k : Nat} (h : s.length ≤ k) : outI op sh a d s k = -1 := by
  unfold outI; rw [List.drop_of_length_le h]; rfl
theorem outI_step {op sh : T} {a : UInt8} {d d' : Nat} {s : T} {k : Nat} (h : outP op sh a d (s.drop k) = (outP op sh a d' (s.drop (k + 1))).map (· + 1)) : outI op sh a d s k = outI op sh a d' s (k + 1) := by
  unfold outI
  rw [h]
  cases outP op sh a d' (s.drop (k + 1)) with
  | none => rfl
  | some e =>
    show ((k + (e + 1) : Nat) : Int) = ((k + 1 + e : Nat) : Int)
    omega
theorem outI_zero (op sh : T) (a : UInt8) (s : T) : outI op sh a 0 s 0 = match outP op sh a 0 s with
    | none => -1
    | some e => (e : Int) := by
  unfold outI
  rw [List.drop_zero]
  cases outP op sh a 0 s with
  | none => rfl
  | some e => show ((0 + e : Nat) : Int) = (e : Int); rw [Nat.zero_add]

theorem out_lt (op sh : T) (a : UInt8) : ∀ (s : T) (d e : Nat), outP op sh a d s = some e → e < s.length
  | [], d, e, h => by cases h
  | b :: r, d, e, h => by
    have hi : ∀ d, (outP op sh a d r).map (· + 1) = some e → e < (b :: r).length := by
      intro d h
      cases h1 : outP op sh a d r with
      | none => rw [h1] at h; cases h
      | some x =>
        rw [h1] at h
        have := out_lt op sh a r d x h1
        have e2 : x + 1 = e := Option.some.inj h
        rw [List.length_cons]; omega
    rw [outP] at h
    split at h
    · cases h; rw [List.length_cons]; omega
    · split at h
      · exact hi _ h
      · split at h
        · exact hi _ h
        · exact hi _ h

/-- a bracket's end -/
theorem ends_out (o c : UInt8) (hne : c ≠ o) : ∀ (s : T) (d : Nat), endsP o c (d + 1) s = outP [o] [c] c d s
  | [], d => rfl
  | b :: r, d => by
    rw [endsP, outP]
    by_cases h1 : b = o
    · have h2 : ¬ (d = 0 ∧ b = c) := fun h => hne (h.2.symm.trans h1)
      rw [if_pos h1, if_neg h2, if_pos (List.mem_singleton.2 h1), ends_out o c hne r (d + 1)]
    · rw [if_neg h1]
      have m1 : ¬ b ∈ [o] := fun h => h1 (List.mem_singleton.1 h)
      by_cases h2 : b = c
      · rw [if_pos h2]
        by_cases h3 : d = 0
        · rw [if_pos (by omega), if_pos ⟨h3, h2⟩]
        · rw [if_neg (by omega), if_neg (fun h => h3 h.1), if_neg m1, if_pos ⟨by omega, List.mem_singleton.2 h2⟩, ← ends_out o c hne r (d - 1)]
          rw [show d + 1 - 1 = d - 1 + 1 by omega]
      · have m2 : ¬ b ∈ [c] := fun h => h2 (List.mem_singleton.1 h)
        rw [if_neg h2, if_neg (fun h => h2 h.2), if_neg m1, if_neg (fun h => m2 h.2), ends_out o c hne r d]

theorem map_cut (x : Option Nat) (cur : T) (b : UInt8) (r : T) : (x.map (· + 1)).map (fun k => (cur ++ (b :: r).take k, (b :: r).drop (k + 1))) = x.map (fun k => ((cur ++ [b]) ++ r.take k, r.drop (k + 1))) := by
  cases x with
  | none => rfl
  | some k =>
    show some (cur ++ b :: r.take k, r.drop (k + 1)) = some ((cur ++ [b]) ++ r.take k, r.drop (k + 1))
    rw [List.append_assoc]; rfl
theorem two_mem (b x y : UInt8) : b ∈ [x, y] ↔ b = x ∨ b = y := by simp
theorem colon_out : ∀ (s : T) (d : Nat) (cur : T), colonP d cur s = (outP [40, 123] [41, 125] 58 d s).map (fun k => (cur ++ s.take k, s.drop (k + 1)))
  | [], d, cur => rfl
  | b :: r, d, cur => by
    rw [colonP, outP]
    by_cases h1 : b = 40 ∨ b = 123
    · have h2 : ¬ (d = 0 ∧ b = 58) := fun h => by rcases h1 with e | e <;> rw [e] at h <;> exact absurd h.2 (by decide)
      rw [if_pos h1, if_neg h2, if_pos ((two_mem b 40 123).2 h1), map_cut, ← colon_out r (d + 1)]
    · have m1 : ¬ b ∈ [(40 : UInt8), 123] := fun h => h1 ((two_mem b 40 123).1 h)
      rw [if_neg h1]
      by_cases h3 : b = 41 ∨ b = 125
      · have h2 : ¬ (d = 0 ∧ b = 58) := fun h => by rcases h3 with e | e <;> rw [e] at h <;> exact absurd h.2 (by decide)
        rw [if_pos h3, if_neg h2, if_neg m1]
        by_cases h4 : 0 < d
        · rw [if_pos ⟨h4, (two_mem b 41 125).2 h3⟩, map_cut, ← colon_out r (d - 1)]
        · rw [if_neg (fun h => h4 h.1), map_cut, ← colon_out r d, show d - 1 = d by omega]
      · have m2 : ¬ (0 < d ∧ b ∈ [(41 : UInt8), 125]) := fun h => h3 ((two_mem b 41 125).1 h.2)
        rw [if_neg h3]
        by_cases h4 : b = 58 ∧ d = 0
        · rw [if_pos h4, if_pos ⟨h4.2, h4.1⟩]
          show some (cur, r) = some (cur ++ [], r)
          rw [List.append_nil]
        · rw [if_neg h4, if_neg (fun h => h4 ⟨h.2, h.1⟩), if_neg m1, if_neg m2, map_cut, ← colon_out r d]
theorem equal_out : ∀ (s : T) (d : Nat) (cur : T), equalP d cur s = (outP [40, 123] [41, 125] 61 d s).map (fun k => (cur ++ s.take k, s.drop (k + 1)))
  | [], d, cur => rfl
  | b :: r, d, cur => by
    rw [equalP, outP]
    by_cases h1 : b = 40 ∨ b = 123
    · have h2 : ¬ (d = 0 ∧ b = 61) := fun h => by rcases h1 with e | e <;> rw [e] at h <;> exact absurd h.2 (by decide)
      rw [if_pos h1, if_neg h2, if_pos ((two_mem b 40 123).2 h1), map_cut, ← equal_out r (d + 1)]
    · have m1 : ¬ b ∈ [(40 : UInt8), 123] := fun h => h1 ((two_mem b 40 123).1 h)
      rw [if_neg h1]
      by_cases h3 : b = 41 ∨ b = 125
      · have h2 : ¬ (d = 0 ∧ b = 61) := fun h => by rcases h3 with e | e <;> rw [e] at h <;> exact absurd h.2 (by decide)
        rw [if_pos h3, if_neg h2, if_neg m1]
        by_cases h4 : 0 < d
        · rw [if_pos ⟨h4, (two_mem b 41 125).2 h3⟩, map_cut, ← equal_out r (d - 1)]
        · rw [if_neg (fun h => h4 h.1), map_cut, ← equal_out r d, show d - 1 = d by omega]
      · have m2 : ¬ (0 < d ∧ b ∈ [(41 : UInt8), 125]) := fun h => h3 ((two_mem b 41 125).1 h.2)
        rw [if_neg h3]
        by_cases h4 : b = 61 ∧ d = 0
        · rw [if_pos h4, if_pos ⟨h4.2, h4.1⟩]
          show some (cur, r) = some (cur ++ [], r)
          rw [List.append_nil]
        · rw [if_neg h4, if_neg (fun h => h4 ⟨h.2, h.1⟩), if_neg m1, if_neg m2, map_cut, ← equal_out r d]

/-- a call's arguments, one cut at a time -/
theorem args_last (o c : UInt8) : ∀ (s : T) (d : Nat) (cur : T), argsP o c d (some 0) cur s = [cur ++ s]
  | [], d, cur => by rw [argsP, List.append_nil]
  | b :: r, d, cur => by
    have e : ∀ d', argsP o c d' (some 0) (cur ++ [b]) r = [cur ++ b :: r] := fun d' => by rw [args_last o c r d' (cur ++ [b]), List.append_assoc]; rfl
    rw [argsP]
    split
    · exact e _
    · split
      · exact e _
      · rw [if_neg (fun h => h.2.2 rfl)]; exact e _
theorem args_cut (o c : UInt8) (ho : (44 : UInt8) ≠ o) (hc : (44 : UInt8) ≠ c) (hne : c ≠ o) (m : Option Nat) (hm : m ≠ some 0) : ∀ (s : T) (d : Nat) (cur : T), argsP o c d m cur s = match outP [o] [c] 44 d s with
    | none => [cur ++ s]
    | some k => (cur ++ s.take k) :: argsP o c 0 (m.map (· - 1)) [] (s.drop (k + 1))
  | [], d, cur => by rw [argsP, outP, List.append_nil]
  | b :: r, d, cur => by
    have key : ∀ d' (x : Option Nat), argsP o c d' m (cur ++ [b]) r = (match x with
        | none => [(cur ++ [b]) ++ r]
        | some k => ((cur ++ [b]) ++ r.take k) :: argsP o c 0 (m.map (· - 1)) [] (r.drop (k + 1))) → argsP o c d' m (cur ++ [b]) r = match x.map (· + 1) with
        | none => [cur ++ b :: r]
        | some k => (cur ++ (b :: r).take k) :: argsP o c 0 (m.map (· - 1)) [] ((b :: r).drop (k + 1)) := fun d' x h => by
      rw [h]
      cases x with
      | none => show [(cur ++ [b]) ++ r] = [cur ++ b :: r]; rw [List.append_assoc]; rfl
      | some k =>
        show ((cur ++ [b]) ++ r.take k) :: _ = (cur ++ b :: r.take k) :: _
        rw [List.append_assoc]; rfl
    rw [argsP, outP]
    by_cases h1 : b = o
    · rw [if_pos h1, if_neg (fun h => ho (h.2.symm.trans h1)), if_pos (List.mem_singleton.2 h1)]
      exact key _ _ (args_cut o c ho hc hne m hm r (d + 1) (cur ++ [b]))
    · have m1 : ¬ b ∈ [o] := fun h => h1 (List.mem_singleton.1 h)
      rw [if_neg h1]
      by_cases h2 : b = c
      · rw [if_pos h2, if_neg (fun h => hc (h.2.symm.trans h2)), if_neg m1]
        by_cases h3 : 0 < d
        · rw [if_pos ⟨h3, List.mem_singleton.2 h2⟩]
          exact key _ _ (args_cut o c ho hc hne m hm r (d - 1) (cur ++ [b]))
        · rw [if_neg (fun h => h3 h.1), show d - 1 = d by omega]
          exact key _ _ (args_cut o c ho hc hne m hm r d (cur ++ [b]))
      · have m2 : ¬ (0 < d ∧ b ∈ [c]) := fun h => h2 (List.mem_singleton.1 h.2)
        rw [if_neg h2]
        by_cases h3 : b = 44 ∧ d = 0
        · rw [if_pos ⟨h3.1, h3.2, hm⟩, if_pos ⟨h3.2, h3.1⟩]
          show cur :: _ = (cur ++ []) :: _
          rw [List.append_nil]; rfl
        · rw [if_neg (fun h => h3 ⟨h.1, h.2.1⟩), if_neg (fun h => h3 ⟨h.2, h.1⟩), if_neg m1, if_neg m2]
          exact key _ _ (args_cut o c ho hc hne m hm r d (cur ++ [b]))

/-! ### from the front on, whatever the fuel -/
theorem s_other (p : UInt8 → T → Rd Nod) (n : Nat) (acc : List Nod) (cur : T) {b : UInt8} (r : T) (h : b ≠ 36) : scanP p (n + 1) acc cur (b :: r) = scanP p n acc (cur ++ [b]) r := by
  rw [scanP.eq_def]
  exact if_neg h
theorem s_sign (p : UInt8 → T → Rd Nod) (n : Nat) (acc : List Nod) (cur : T) (c : UInt8) (r : T) : scanP p (n + 1) acc cur (36 :: c :: r) = if c = 36 then scanP p n acc (cur ++ [36]) r
    else if c = 40 ∨ c = 123 then (match endsP c (shutOf c) 1 r with
      | none => .bad .form
      | some e => match p c (r.take e) with
        | .bad x => .bad x
        | .ok m => scanP p n (flushP acc cur ++ [m]) [] (r.drop (e + 1)))
    else scanP p n (flushP acc cur ++ [.mk 2 [] [.mk 1 [c] []]]) [] r := rfl
theorem scan_more (p : UInt8 → T → Rd Nod) : ∀ (n m : Nat) (acc : List Nod) (cur s : T), s.length < n → s.length < m → scanP p n acc cur s = scanP p m acc cur s
  | 0, _, _, _, _, h, _ => by omega
  | _ + 1, 0, _, _, _, _, h => by omega
  | n + 1, m + 1, acc, cur, [], _, _ => rfl
  | n + 1, m + 1, acc, cur, [b], hn, hm => by
    by_cases hb : b = 36
    · rw [hb]; rfl
    · rw [s_other p n acc cur [] hb, s_other p m acc cur [] hb]
      rw [List.length_singleton] at hn hm
      exact scan_more p n m _ _ [] (by rw [List.length_nil]; omega) (by rw [List.length_nil]; omega)
  | n + 1, m + 1, acc, cur, b :: c :: r, hn, hm => by
    rw [List.length_cons, List.length_cons] at hn hm
    by_cases hb : b = 36
    · rw [hb, s_sign, s_sign]
      split
      · exact scan_more p n m _ _ r (by omega) (by omega)
      · split
        · cases endsP c (shutOf c) 1 r with
          | none => rfl
          | some e =>
            dsimp only
            cases p c (r.take e) with
            | bad x => rfl
            | ok k =>
              dsimp only
              have := List.length_drop (i := e + 1) (l := r)
              exact scan_more p n m _ _ _ (by omega) (by omega)
        · exact scan_more p n m _ _ r (by omega) (by omega)
    · rw [s_other p n acc cur _ hb, s_other p m acc cur _ hb]
      exact scan_more p n m _ _ (c :: r) (by rw [List.length_cons]; omega) (by rw [List.length_cons]; omega)
def scan (p : UInt8 → T → Rd Nod) (acc : List Nod) (cur s : T) : Rd (List Nod) := scanP p (s.length + 1) acc cur s
theorem scan_is (p : UInt8 → T → Rd Nod) (n : Nat) (acc : List Nod) (cur s : T) (h : s.length < n) : scanP p n acc cur s = scan p acc cur s := scan_more p _ _ acc cur s h (by omega)
theorem scan_nil (p : UInt8 → T → Rd Nod) (acc : List Nod) (cur : T) : scan p acc cur [] = .ok (flushP acc cur) := rfl
theorem scan_byte (p : UInt8 → T → Rd Nod) (acc : List Nod) (cur : T) (b : UInt8) (r : T) (hb : b ≠ 36) : scan p acc cur (b :: r) = scan p acc (cur ++ [b]) r := by
  unfold scan
  exact s_other p _ acc cur r hb
theorem scan_plain (p : UInt8 → T → Rd Nod) : ∀ (a : T) (acc : List Nod) (cur r : T), (∀ b ∈ a, b ≠ 36) → scan p acc cur (a ++ r) = scan p acc (cur ++ a) r
  | [], acc, cur, r, _ => by rw [List.append_nil]; rfl
  | b :: a, acc, cur, r, h => by
    show scan p acc cur (b :: (a ++ r)) = _
    rw [scan_byte p acc cur b _ (h b List.mem_cons_self), scan_plain p a acc (cur ++ [b]) r (fun x hx => h x (List.mem_cons_of_mem _ hx)), List.append_assoc]
    rfl
/-- what stands behind a dollar -/
theorem scan_end (p : UInt8 → T → Rd Nod) (acc : List Nod) (cur : T) : scan p acc cur [36] = .ok (flushP acc (cur ++ [36])) := rfl
theorem scan_two (p : UInt8 → T → Rd Nod) (acc : List Nod) (cur r : T) : scan p acc cur (36 :: 36 :: r) = scan p acc (cur ++ [36]) r :=
  scan_is p (r.length + 2) acc (cur ++ [36]) r (by omega)
theorem scan_one (p : UInt8 → T → Rd Nod) (acc : List Nod) (cur : T) (c : UInt8) (r : T) (h1 : c ≠ 36) (h2 : ¬ (c = 40 ∨ c = 123)) : scan p acc cur (36 :: c :: r) = scan p (flushP acc cur ++ [.mk 2 [] [.mk 1 [c] []]]) [] r := by
  rw [← scan_is p (r.length + 2) _ [] r (by omega)]
  unfold scan
  rw [s_sign, if_neg h1, if_neg h2]
  rfl
theorem scan_ref (p : UInt8 → T → Rd Nod) (acc : List Nod) (cur : T) (c : UInt8) (r : T) (h2 : c = 40 ∨ c = 123) : scan p acc cur (36 :: c :: r) = match endsP c (shutOf c) 1 r with
    | none => .bad .form
    | some e => match p c (r.take e) with
      | .bad x => .bad x
      | .ok m => scan p (flushP acc cur ++ [m]) [] (r.drop (e + 1)) := by
  have h1 : c ≠ 36 := by rcases h2 with rfl | rfl <;> decide
  unfold scan
  rw [s_sign, if_neg h1, if_pos h2]
  cases endsP c (shutOf c) 1 r with
  | none => rfl
  | some e =>
    dsimp only
    cases p c (r.take e) with
    | bad x => rfl
    | ok m =>
      dsimp only
      have := List.length_drop (i := e + 1) (l := r)
      have h3 : (c :: r).length = r.length + 1 := rfl
      have h4 : ((36 : UInt8) :: c :: r).length = r.length + 2 := rfl
      exact scan_more p _ _ _ [] _ (by omega) (by omega)

end Go.Proofs.YtmcdefkpkpaceaaGreatDoor.Upl

/- The program's brackets: outside. -/
namespace Go.Proofs.YtmcdefkpkpaceaaGreatDoor.Uout
open Go.RowKit Go.Proofs.YtmcdefkpkpaceaaGreatDoor.Spl Go.Proofs.YtmcdefkpkpaceaaGreatDoor.Upl
open Go.Proofs.YtmcdefkpkpaceaaGreatDoor.Pure (bs)

theorem u8_eq (c d : UInt8) : (((c.toNat : Nat) : Int) == ((d.toNat : Nat) : Int)) = decide (c = d) := by
  rw [Bool.eq_iff_iff, beq_iff_eq, decide_eq_true_iff, ← UInt8.toNat_inj]; omega
theorem drop_at {s : T} {k : Nat} (h : k < s.length) : s.drop k = s[k] :: s.drop (k + 1) := List.drop_eq_getElem_cons h
/-- is a byte among others: by its place -/
theorem idx_mem (l : T) (c : UInt8) : (c ∈ l ∧ 0 ≤ Lib.indexByte l c) ∨ (c ∉ l ∧ Lib.indexByte l c = -1) := by
  have h0 := Lib.indexByte_ge l c
  rcases (show Lib.indexByte l c < 0 ∨ 0 ≤ Lib.indexByte l c by omega) with h1 | h1
  · refine .inr ⟨fun hm => ?_, by omega⟩
    obtain ⟨j, hj, e⟩ := List.getElem_of_mem hm
    exact Lib.indexByte_none (show Lib.indexByte l c = -1 by omega) j (by rw [List.getElem?_eq_getElem hj, e])
  · obtain ⟨o, ho⟩ := Int.eq_ofNat_of_zero_le h1
    exact .inl ⟨List.mem_of_getElem? (Lib.indexByte_some ho).1, h1⟩
theorem u8_back (c : UInt8) : ((c.toNat : Nat) : Int).toNat.toUInt8 = c := by simp
/-- what is looked for in the brackets' bytes -/
theorem index_is (l : T) (c : UInt8) (w : World) : Calls Tryz.prog 86 #[.string (bs l), .int .u8 ((c.toNat : Nat) : Int)] w fun e w' => e = .returned (.int .i64 (Lib.indexByte l c)) ∧ w' = w := by
  have h := Tryz.strings_IndexByte (bs l) ((c.toNat : Nat) : Int) w
  rw [u8_back] at h
  exact h
theorem index_yes (l : T) (c : UInt8) (w : World) (h : c ∈ l) : Calls Tryz.prog 86 #[.string (bs l), .int .u8 ((c.toNat : Nat) : Int)] w fun e w' => (∃ n : Nat, e = .returned (.int .i64 (n : Int))) ∧ w' = w := by
  refine (index_is l c w).mono ?_
  rintro e w' ⟨rfl, rfl⟩
  rcases idx_mem l c with ⟨_, h1⟩ | ⟨h1, _⟩
  · obtain ⟨n, hn⟩ := Int.eq_ofNat_of_zero_le h1
    exact ⟨⟨n, by rw [hn]⟩, rfl⟩
  · exact absurd h h1
theorem index_no (l : T) (c : UInt8) (w : World) (h : ¬ c ∈ l) : Calls Tryz.prog 86 #[.string (bs l), .int .u8 ((c.toNat : Nat) : Int)] w fun e w' => e = .returned (.int .i64 (-1)) ∧ w' = w := by
  refine (index_is l c w).mono ?_
  rintro e w' ⟨rfl, rfl⟩
  rcases idx_mem l c with ⟨h1, _⟩ | ⟨_, h1⟩
  · exact absurd h1 h
  · rw [h1]; exact ⟨rfl, rfl⟩

set_option maxRecDepth 100000 in
set_option maxHeartbeats 4000000 in
theorem outside_is (op sh s : T) (a : UInt8) (w : World) (hs : s.length ≤ 1000000) :
    Calls Tryz.prog 79 #[.agg #[.string (bs op), .string (bs sh)], .string (bs s), .int .u8 ((a.toNat : Nat) : Int)] w fun e W' => e = .returned (.int .i64 (outI op sh a 0 s 0)) ∧ Below w.heap.size w W' := by
  have hsz : (bs s).size = s.length := Pure.size_bs s
  have hg := heap_alloc_new w (.cells #[.string (bs op), .string (bs sh)] 136)
  have g0 : ∀ W : World, W.heap[w.heap.size]? = some (.cells #[.string (bs op), .string (bs sh)] 136) → W.cell? ⟨w.heap.size, 0, none⟩ = some (.string (bs op)) ∧ W.cell? ⟨w.heap.size, 1, none⟩ = some (.string (bs sh)) := fun W h => ⟨by rw [Lib.cell_of_heap h]; rfl, by rw [Lib.cell_of_heap h]; rfl⟩
  have HG := Lib.hid g0
  have HI := Lib.hid hg
  have HB0 := Lib.hid ((Below.refl w.heap.size w).alloc (Nat.le_refl _) (.cells #[.string (bs op), .string (bs sh)] 136))
  clear hg g0
  go_enter Tryz.func79, Tryz.ntmps79
  go_wp2_with fail
  generalize hW : w.alloc (.cells #[.string (bs op), .string (bs sh)] 136) = W1
  rw [hW] at HI HB0
  clear hW
  go_loopw [7, 11] (fun dv i wr => ∃ d k : Nat, d ≤ k ∧ k ≤ s.length ∧ dv = .int .i64 d ∧ i = .int .i64 k ∧ Hid (wr.heap[w.heap.size]? = some (.cells #[.string (bs op), .string (bs sh)] 136)) ∧ Hid (Below w.heap.size w wr) ∧ Hid (outI op sh a d s k = outI op sh a 0 s 0)) (fun _ i _ => s.length - (intOf i).toNat)
  case atStart => exact ⟨0, 0, Nat.le_refl _, Nat.zero_le _, rfl, rfl, HI, HB0, rfl⟩
  case round =>
    obtain ⟨d, k, hdk, hk, rfl, rfl, HI, HB, HE⟩ := hrel
    by_cases hlt : k < s.length
    · have hb : ((((bs s)[k]'(by rw [hsz]; exact hlt)).toNat : Nat) : Int) = (((s[k]).toNat : Nat) : Int) := rfl
      have e1 := u8_eq s[k] a
      have hdr := drop_at hlt
      obtain ⟨c0, c1⟩ := HG.out wr HI.out
      by_cases h1 : d = 0 ∧ s[k] = a
      · obtain ⟨rfl, h2⟩ := h1
        rw [decide_eq_true h2] at e1
        have HN : Hid (outI op sh a 0 s 0 = (k : Int)) := by
          show _ = _
          rw [← HE.out]
          unfold outI
          rw [hdr, outP, if_pos ⟨rfl, h2⟩]
          rfl
        clear hdr h2
        generalize s[k] = x at *
        go_wp2
        go_ret
        rw [HN.out]
        exact ⟨rfl, HB.out⟩
      · have HO := Lib.hid (fun W => index_is op s[k] W)
        have HS := Lib.hid (fun W => index_is sh s[k] W)
        rcases idx_mem op s[k] with ⟨ho, hi⟩ | ⟨ho, hi⟩
        · obtain ⟨n, hn⟩ := Int.eq_ofNat_of_zero_le hi
          rw [hn] at HO
          have HN : Hid (outI op sh a (d + 1) s (k + 1) = outI op sh a 0 s 0) := by
            show _ = _
            rw [← HE.out]
            exact (outI_step (by rw [hdr, outP, if_neg h1, if_pos ho])).symm
          clear hdr hi hn ho HS
          by_cases hd : d = 0
          · have h2 : ¬ s[k] = a := fun e => h1 ⟨hd, e⟩
            rw [decide_eq_false h2] at e1
            subst hd
            clear h1 h2
            generalize s[k] = x at *
            go_wp2_with fail
            go_quiet (first | (go_at_call 86; refine Calls.quiet_of_same (HO.out _)))
            go_wp2
            go_roundw
            case rel => exact ⟨1, k + 1, by omega, by omega, by go_num, by go_num, by first | exact HI | exact HI2, by first | exact HB | exact Strs.below_drewN HB2.out _ | exact Strs.below_drewN HB.out _ | exact Strs.below_drewN (Strs.below_drewN HB.out _) _, HN⟩
            case measure => simp [intOf]; omega
          · have hd0 : (((d : Nat) : Int) == 0) = false := by rw [beq_eq_false_iff_ne]; omega
            clear h1 e1
            generalize s[k] = x at *
            go_wp2_with fail
            go_quiet (first | (go_at_call 86; refine Calls.quiet_of_same (HO.out _)))
            go_wp2
            go_roundw
            case rel => exact ⟨d + 1, k + 1, by omega, by omega, by go_num, by go_num, by first | exact HI | exact HI2, by first | exact HB | exact Strs.below_drewN HB2.out _ | exact Strs.below_drewN HB.out _ | exact Strs.below_drewN (Strs.below_drewN HB.out _) _, HN⟩
            case measure => simp [intOf]; omega
        · rw [hi] at HO
          by_cases hd : d = 0
          · have h2 : ¬ s[k] = a := fun e => h1 ⟨hd, e⟩
            rw [decide_eq_false h2] at e1
            subst hd
            have HN : Hid (outI op sh a 0 s (k + 1) = outI op sh a 0 s 0) := by
              show _ = _
              rw [← HE.out]
              exact (outI_step (by rw [hdr, outP, if_neg h1, if_neg ho, if_neg (fun h => absurd h.1 (Nat.lt_irrefl 0))])).symm
            clear h1 h2 hdr hi ho HS
            generalize s[k] = x at *
            go_wp2_with fail
            go_quiet (first | (go_at_call 86; refine Calls.quiet_of_same (HO.out _)))
            go_wp2
            go_quiet (fail)
            go_wp2
            go_roundw
            case rel => exact ⟨0, k + 1, by omega, by omega, rfl, by go_num, by first | exact HI | exact HI2, by first | exact HB | exact Strs.below_drewN HB2.out _ | exact Strs.below_drewN HB.out _ | exact Strs.below_drewN (Strs.below_drewN HB.out _) _, HN⟩
            case measure => simp [intOf]; omega
          · have hd0 : (((d : Nat) : Int) == 0) = false := by rw [beq_eq_false_iff_ne]; omega
            have hd1 : 0 < d := by omega
            rcases idx_mem sh s[k] with ⟨hs1, hi2⟩ | ⟨hs1, hi2⟩
            · obtain ⟨n, hn⟩ := Int.eq_ofNat_of_zero_le hi2
              rw [hn] at HS
              have HN : Hid (outI op sh a (d - 1) s (k + 1) = outI op sh a 0 s 0) := by
                show _ = _
                rw [← HE.out]
                exact (outI_step (by rw [hdr, outP, if_neg h1, if_neg ho, if_pos ⟨by omega, hs1⟩])).symm
              have hd2 : ((d : Nat) : Int) - 1 = ((d - 1 : Nat) : Int) := by omega
              clear h1 e1 hdr hi hi2 hn ho hs1
              generalize s[k] = x at *
              go_wp2_with fail
              go_quiet (first | (go_at_call 86; refine Calls.quiet_of_same (HO.out _)))
              go_wp2_with fail
              obtain ⟨wq, hwq⟩ : ∃ wq, wr.drewN nq = wq := ⟨_, rfl⟩
              have d1 : wq.cell? ⟨w.heap.size, 1, none⟩ = some (.string (bs sh)) := by rw [← hwq]; exact c1
              have HI2 : Hid (wq.heap[w.heap.size]? = some (.cells #[.string (bs op), .string (bs sh)] 136)) := by rw [← hwq]; exact HI
              have HB2 : Hid (Below w.heap.size w wq) := by rw [← hwq]; exact Strs.below_drewN HB.out _
              rw [hwq]
              clear hwq HI HB
              go_quiet (first | (go_at_call 86; refine Calls.quiet_of_same (HS.out _)))
              go_wp2
              go_roundw
              case rel => exact ⟨d - 1, k + 1, by omega, by omega, by first | rfl | (rw [hd2]) | go_num, by go_num, by first | exact HI | exact HI2, by first | exact HB | exact Strs.below_drewN HB2.out _ | exact Strs.below_drewN HB.out _ | exact Strs.below_drewN (Strs.below_drewN HB.out _) _, HN⟩
              case measure => simp [intOf]; omega
            · rw [hi2] at HS
              have HN : Hid (outI op sh a d s (k + 1) = outI op sh a 0 s 0) := by
                show _ = _
                rw [← HE.out]
                exact (outI_step (by rw [hdr, outP, if_neg h1, if_neg ho, if_neg (fun h => hs1 h.2)])).symm
              clear h1 e1 hdr hi hi2 ho hs1
              generalize s[k] = x at *
              go_wp2_with fail
              go_quiet (first | (go_at_call 86; refine Calls.quiet_of_same (HO.out _)))
              go_wp2_with fail
              obtain ⟨wq, hwq⟩ : ∃ wq, wr.drewN nq = wq := ⟨_, rfl⟩
              have d1 : wq.cell? ⟨w.heap.size, 1, none⟩ = some (.string (bs sh)) := by rw [← hwq]; exact c1
              have HI2 : Hid (wq.heap[w.heap.size]? = some (.cells #[.string (bs op), .string (bs sh)] 136)) := by rw [← hwq]; exact HI
              have HB2 : Hid (Below w.heap.size w wq) := by rw [← hwq]; exact Strs.below_drewN HB.out _
              rw [hwq]
              clear hwq HI HB
              go_quiet (first | (go_at_call 86; refine Calls.quiet_of_same (HS.out _)))
              go_wp2
              go_roundw
              case rel => exact ⟨d, k + 1, by omega, by omega, rfl, by go_num, by first | exact HI | exact HI2, by first | exact HB | exact Strs.below_drewN HB2.out _ | exact Strs.below_drewN HB.out _ | exact Strs.below_drewN (Strs.below_drewN HB.out _) _, HN⟩
              case measure => simp [intOf]; omega
    · have HN : Hid (outI op sh a 0 s 0 = -1) := by
        show _ = _
        rw [← HE.out, outI_end (by omega)]
      go_wp2
      go_ret
      rw [HN.out]
      exact ⟨rfl, HB.out⟩

end Go.Proofs.YtmcdefkpkpaceaaGreatDoor.Uout

/- The program's nameEnd, Left. -/
namespace Go.Proofs.YtmcdefkpkpaceaaGreatDoor.Ulft
open Go.RowKit Go.Proofs.YtmcdefkpkpaceaaGreatDoor.Pure Go.Proofs.YtmcdefkpkpaceaaGreatDoor.Spl

theorem u8_eq (c d : UInt8) : (((c.toNat : Nat) : Int) == ((d.toNat : Nat) : Int)) = (c == d) := by
  rw [Bool.eq_iff_iff, beq_iff_eq, beq_iff_eq, ← UInt8.toNat_inj]; omega

theorem ret_str {a b : ByteArray} (h : a = b) : Ending.returned (.string a) = .returned (.string b) := by rw [h]
def strLen : Value → Nat
  | .string s => s.size
  | _ => 0
theorem ret_int {k : IntKind} {a b : Int} (h : a = b) : Ending.returned (.int k a) = .returned (.int k b) := by rw [h]

theorem isBl_mk {c : UInt8} {b : Bool} (h : isBl c = b) : (((c.toNat : Nat) : Int) == 32 || (((c.toNat : Nat) : Int) == 9 || ((c.toNat : Nat) : Int) == 10)) = b := by
  rw [← h, isBl]
  have e1 := u8_eq c 32
  have e2 := u8_eq c 9
  have e3 := u8_eq c 10
  have f1 : (((32 : UInt8).toNat : Nat) : Int) = 32 := rfl
  have f2 : (((9 : UInt8).toNat : Nat) : Int) = 9 := rfl
  have f3 : (((10 : UInt8).toNat : Nat) : Int) = 10 := rfl
  rw [f1] at e1; rw [f2] at e2; rw [f3] at e3
  rw [e1, e2, e3, Bool.or_assoc]

set_option maxHeartbeats 400000 in
/-- the program's blank, by its number's value -/
theorem blank_num (n : Int) (b : Bool) (w : World) (hm : (n == 32 || (n == 9 || n == 10)) = b) : Calls Tryz.prog 96 #[.int .u8 n] w fun e w' => e = .returned (.bool b) ∧ w = w' := by
  by_cases h1 : n = 32
  · subst h1
    have : b = true := by simpa using hm.symm
    subst this
    clear hm
    go_enter Tryz.func96, Tryz.ntmps96
    go_wp2
    go_ret
    exact ⟨rfl, rfl⟩
  · by_cases h2 : n = 9
    · subst h2
      have : b = true := by simpa using hm.symm
      subst this
      clear hm h1
      go_enter Tryz.func96, Tryz.ntmps96
      go_wp2
      go_ret
      exact ⟨rfl, rfl⟩
    · have h1' : (n == 32) = false := by simpa using h1
      have h2' : (n == 9) = false := by simpa using h2
      rw [h1', h2', Bool.false_or, Bool.false_or] at hm
      subst hm
      clear h1 h2
      go_enter Tryz.func96, Tryz.ntmps96
      go_wp2
      go_ret
      exact ⟨rfl, rfl⟩
set_option maxHeartbeats 800000 in
/-- the program's Left -/
theorem left_any (s : ByteArray) (w : World) (hs : s.size ≤ maxLen) :
    Calls Tryz.prog 93 #[.string s] w fun e w' => e = .returned (.string (leftB s)) ∧ w = w' := by
  unfold maxLen at hs
  go_enter Tryz.func93, Tryz.ntmps93
  go_wp2
  go_loop [3] (fun i => ∃ k : Nat, k ≤ s.size ∧ i = .int .i64 k ∧ Hid (left (s.data.toList.drop k) = left s.data.toList)) (fun i => s.size - (intOf i).toNat)
  case atStart => exact ⟨0, Nat.zero_le _, rfl, rfl⟩
  case round =>
    obtain ⟨k, hk, rfl, hinv⟩ := hrel
    by_cases hlt : k < s.size
    · cases hb : isBl s[k] with
      | true =>
        have HS := Lib.hid (left_step s k hlt hb)
        go_wp2_with (go_at_call 96; refine (blank_num _ true _ (isBl_mk hb)).mono ?_; rintro e w' ⟨rfl, rfl⟩)
        go_round
        case rel => exact ⟨k + 1, by omega, by go_num, HS.out.symm.trans hinv.out⟩
        case measure => simp [intOf]; omega
      | false =>
        have HS := Lib.hid (left_fin s k hinv.out (left_stop s k hlt hb))
        go_wp2_with (go_at_call 96; refine (blank_num _ false _ (isBl_mk hb)).mono ?_; rintro e w' ⟨rfl, rfl⟩)
        go_ret
        exact ⟨ret_str HS.out, rfl⟩
    · have HS := Lib.hid (left_fin s k hinv.out (left_end s k (by omega)))
      go_wp2
      go_ret
      exact ⟨ret_str HS.out, rfl⟩

def lead (s : T) : T := s.takeWhile letB
theorem lead_take {s : T} {k : Nat} (h : ∀ x ∈ s.take k, letB x = true) (hk : k ≤ s.length) (hn : ∀ h : k < s.length, letB s[k] = false) : lead s = s.take k ∧ s.dropWhile letB = s.drop k := by
  have e : s = s.take k ++ s.drop k := (List.take_append_drop k s).symm
  have h1 : (s.drop k).takeWhile letB = [] ∧ (s.drop k).dropWhile letB = s.drop k := by
    by_cases hl : k < s.length
    · rw [List.drop_eq_getElem_cons hl, List.takeWhile_cons_of_neg (by rw [hn hl]; exact Bool.false_ne_true), List.dropWhile_cons_of_neg (by rw [hn hl]; exact Bool.false_ne_true)]
      exact ⟨rfl, rfl⟩
    · rw [List.drop_of_length_le (by omega)]; exact ⟨rfl, rfl⟩
  have h2 := List.takeWhile_append_of_pos (l₁ := s.take k) (l₂ := s.drop k) h
  have h3 := List.dropWhile_append_of_pos (l₁ := s.take k) (l₂ := s.drop k) h
  rw [← e, h1.1, List.append_nil] at h2
  rw [← e, h1.2] at h3
  exact ⟨h2, h3⟩
theorem letB_cases (x : UInt8) : (letB x = true ∧ ((97 ≤ x.toNat ∧ x.toNat ≤ 122 ∧ x.toNat ≠ 45) ∨ x.toNat = 45)) ∨ (letB x = false ∧ (x.toNat < 97 ∨ 122 < x.toNat) ∧ x.toNat ≠ 45) := by
  have e1 : (97 ≤ x) ↔ 97 ≤ x.toNat := by rw [UInt8.le_iff_toNat_le]; exact Iff.rfl
  have e2 : (x ≤ 122) ↔ x.toNat ≤ 122 := by rw [UInt8.le_iff_toNat_le]; exact Iff.rfl
  have e3 : (x == 45) = decide (x.toNat = 45) := by
    rw [Bool.eq_iff_iff, beq_iff_eq, decide_eq_true_iff, ← UInt8.toNat_inj]; exact Iff.rfl
  unfold letB
  rw [e3]
  simp only [e1, e2]
  by_cases h1 : 97 ≤ x.toNat <;> by_cases h2 : x.toNat ≤ 122 <;> by_cases h3 : x.toNat = 45 <;> simp [h1, h2, h3] <;> omega
/-- how long the run of a name's bytes is, and what is behind it -/
theorem end_of {s : T} {k : Nat} (h : ∀ x ∈ s.take k, letB x = true) (hk : k ≤ s.length) (hn : ∀ h : k < s.length, letB s[k] = false) : (lead s).length = k := by
  rw [(lead_take h hk hn).1, List.length_take]; omega
theorem lead_len (s : T) : (lead s).length ≤ s.length := (List.takeWhile_sublist _).length_le
theorem lead_eq (s : T) : s.take (lead s).length = lead s ∧ s.drop (lead s).length = s.dropWhile letB := by
  have e : lead s ++ s.dropWhile letB = s := List.takeWhile_append_dropWhile
  have h1 := List.take_left (l₁ := lead s) (l₂ := s.dropWhile letB)
  have h2 := List.drop_left (l₁ := lead s) (l₂ := s.dropWhile letB)
  rw [e] at h1 h2
  exact ⟨h1, h2⟩

set_option maxRecDepth 100000 in
set_option maxHeartbeats 4000000 in
theorem nameEnd_is (s : T) (w : World) (hs : s.length ≤ 1000000) :
    Calls Tryz.prog 92 #[.string (bs s)] w fun e w' => e = .returned (.int .i64 ((lead s).length : Nat)) ∧ w = w' := by
  have hsz : (bs s).size = s.length := Pure.size_bs s
  go_enter Tryz.func92, Tryz.ntmps92
  go_wp2_with fail
  go_loop [3] (fun i => ∃ k : Nat, k ≤ s.length ∧ i = .int .i64 k ∧ Hid (∀ x ∈ s.take k, letB x = true)) (fun i => s.length - (intOf i).toNat)
  case atStart => exact ⟨0, Nat.zero_le _, rfl, fun x hx => by cases hx⟩
  case round =>
    obtain ⟨k, hk, rfl, HA⟩ := hrel
    by_cases hlt : k < s.length
    · have hb : ((((bs s)[k]'(by rw [hsz]; exact hlt)).toNat : Nat) : Int) = (((s[k]).toNat : Nat) : Int) := rfl
      rcases letB_cases s[k] with ⟨hl, hc⟩ | ⟨hl, hc, h45⟩
      · have HN : Hid (∀ x ∈ s.take (k + 1), letB x = true) := fun x hx => by
          rw [List.take_succ_eq_append_getElem hlt] at hx
          rcases List.mem_append.1 hx with h | h
          · exact HA.out x h
          · rw [List.mem_singleton.1 h]; exact hl
        clear hl
        generalize s[k] = x at *
        rcases hc with ⟨c1, c2, c3⟩ | c1
        · have t1 : (97 : Int) ≤ ((x.toNat : Nat) : Int) := by omega
          have t2 : ((x.toNat : Nat) : Int) ≤ 122 := by omega
          have t3 : (((x.toNat : Nat) : Int) == 45) = false := by rw [beq_eq_false_iff_ne]; omega
          have t4 : ¬ ((x.toNat : Nat) : Int) = 45 := by omega
          go_wp2_with fail
          go_round
          case rel => exact ⟨k + 1, by omega, by go_num, HN⟩
          case measure => simp [intOf]; omega
        · have t1 : ((x.toNat : Nat) : Int) = 45 := by omega
          rw [t1] at hb
          go_wp2_with fail
          go_round
          case rel => exact ⟨k + 1, by omega, by go_num, HN⟩
          case measure => simp [intOf]; omega
      · have HN : Hid ((lead s).length = k) := end_of HA.out hk fun _ => hl
        clear hl
        generalize s[k] = x at *
        have t3 : (((x.toNat : Nat) : Int) == 45) = false := by rw [beq_eq_false_iff_ne]; omega
        have t4 : ¬ ((x.toNat : Nat) : Int) = 45 := by omega
        rcases hc with hc | hc
        · have t1 : ¬ (97 : Int) ≤ ((x.toNat : Nat) : Int) := by omega
          go_wp2
          go_ret
          exact ⟨ret_int (by rw [HN.out]), rfl⟩
        · have t1 : (97 : Int) ≤ ((x.toNat : Nat) : Int) := by omega
          have t2 : ¬ ((x.toNat : Nat) : Int) ≤ 122 := by omega
          go_wp2
          go_ret
          exact ⟨ret_int (by rw [HN.out]), rfl⟩
    · have HN : Hid ((lead s).length = k) := end_of HA.out hk fun h => absurd h hlt
      go_wp2
      go_ret
      exact ⟨ret_int (by rw [HN.out]), rfl⟩

end Go.Proofs.YtmcdefkpkpaceaaGreatDoor.Ulft

/- The program's arguments. -/
namespace Go.Proofs.YtmcdefkpkpaceaaGreatDoor.Uargs
open Go.RowKit Go.Proofs.YtmcdefkpkpaceaaGreatDoor.Strs Go.Proofs.YtmcdefkpkpaceaaGreatDoor.Spl Go.Proofs.YtmcdefkpkpaceaaGreatDoor.Upl Go.Proofs.YtmcdefkpkpaceaaGreatDoor.Uout
open Go.Proofs.YtmcdefkpkpaceaaGreatDoor.Pure (bs)

def vals (zs : List T) : List Value := (zs.map bs).map Value.string
theorem vals_snoc (zs : List T) (y : T) : vals (zs ++ [y]) = vals zs ++ [.string (bs y)] := by unfold vals; rw [List.map_append, List.map_append]; rfl
/-- so many may be cut off yet -/
def more (most n : Nat) : Option Nat := if most = 0 then none else some (most - 1 - n)
theorem more_step (most n : Nat) : (more most n).map (· - 1) = more most (n + 1) := by
  unfold more
  split
  · rfl
  · show some (most - 1 - n - 1) = some (most - 1 - (n + 1)); rw [Nat.sub_sub]
theorem more_done {most n : Nat} (h : ¬ (most = 0 ∨ n < most - 1)) : more most n = some 0 := by
  unfold more
  rw [if_neg (fun e => h (.inl e))]
  have : ¬ n < most - 1 := fun e => h (.inr e)
  rw [show most - 1 - n = 0 by omega]
theorem more_not {most n : Nat} (h : most = 0 ∨ n < most - 1) : more most n ≠ some 0 := by
  unfold more
  split
  · exact fun e => by cases e
  · rename_i h0
    rcases h with h | h
    · exact absurd h h0
    · exact fun e => by have := Option.some.inj e; omega
theorem part_to (s : T) (k : Nat) : (bs s).extract 0 k = bs (s.take k) := Pure.ext_data (by rw [Lib.extract_from_zero]; rfl)
theorem part_from (s : T) (k : Nat) : (bs s).extract k s.length = bs (s.drop k) := by
  have h : (bs s).size = s.length := Pure.size_bs s
  rw [← h]
  exact Pure.ext_data (by rw [Lib.extract_to_end]; rfl)
theorem own_on {B e sz n : Nat} {w W : World} {v : Value} {xs : List Value} (h : w.ownsRow B e sz v n xs) (hb : Below w.heap.size w W) : W.ownsRow B e sz v n xs := by
  rcases h with ⟨h4, h5 | ⟨g, cap, cur, e1, e2, e3, e4⟩⟩
  · exact ⟨h4, .inl h5⟩
  · exact ⟨h4, .inr ⟨g, cap, cur, e1, e2, (hb.block g (Array.getElem?_eq_some_iff.1 e3).1).trans e3, e4⟩⟩
def strLen : Value → Nat
  | .string s => s.size
  | _ => 0

theorem fin_row {R l : List T} {v : Value} {B : Nat} {w W : World} (hR : R = l) (h : W.ownsRow B 9 1 v l.length (vals l)) (hb : Below w.heap.size w W) : ∃ A cp, (Ending.returned v) = .returned (.slice A R.length cp) ∧ SlIs W A cp (R.map bs) ∧ Below w.heap.size w W := by
  subst hR
  obtain ⟨A, cp, rfl, hs⟩ := slIs_of_own (w := W) (xs := R.map bs) (n := R.length) (List.length_map _) h
  exact ⟨A, cp, rfl, hs, hb⟩

set_option maxRecDepth 100000 in
set_option maxHeartbeats 8000000 in
theorem args_is (s : T) (most : Nat) (o c : UInt8) (w : World) (hs : s.length ≤ 1000000) (hm : most ≤ 100) (ho : (44 : UInt8) ≠ o) (hc : (44 : UInt8) ≠ c) (hne : c ≠ o) :
    Calls Tryz.prog 95 #[.agg #[.string (bs [o]), .string (bs [c])], .string (bs s), .int .i64 most] w fun e W' => ∃ A cp, e = .returned (.slice A (argsP o c 0 (more most 0) [] s).length cp) ∧ SlIs W' A cp ((argsP o c 0 (more most 0) [] s).map bs) ∧ Below w.heap.size w W' := by
  obtain ⟨i0, hi, hz0, hz1, hz2⟩ := info_parts infoString
  obtain ⟨R, hR⟩ : ∃ R, R = argsP o c 0 (more most 0) [] s := ⟨_, rfl⟩
  rw [← hR]
  have HR0 := Lib.hid hR
  clear hR
  have HI := Lib.hid (heap_alloc_new w (.cells #[.string (bs [o]), .string (bs [c])] 136))
  have HB0 := Lib.hid ((Below.refl w.heap.size w).alloc (Nat.le_refl _) (.cells #[.string (bs [o]), .string (bs [c])] 136))
  have hz : (w.alloc (.cells #[.string (bs [o]), .string (bs [c])] 136)).heap.size = w.heap.size + 1 := World.size_alloc _ _
  go_enter Tryz.func95, Tryz.ntmps95
  go_wp2_with fail
  generalize hW : w.alloc (.cells #[.string (bs [o]), .string (bs [c])] 136) = W1
  rw [hW] at HI HB0 hz
  clear hW
  go_loopw [1, 7] (fun sv v wr => ∃ (cur : T) (acc : List T), acc.length + cur.length ≤ s.length ∧ sv = .string (bs cur) ∧ wr.ownsRow (w.heap.size + 1) 9 1 v acc.length (vals acc) ∧ Hid (Below (w.heap.size + 1) W1 wr) ∧ Hid (R = acc ++ argsP o c 0 (more most acc.length) [] cur)) (fun sv _ _ => strLen sv)
  case atStart => exact ⟨s, [], by show 0 + _ ≤ _; omega, rfl, World.ownsRow_nil _ _ _ _, Below.refl _ _, HR0.out⟩
  case round =>
    obtain ⟨cur, acc, hac, rfl, hown, HB, HE⟩ := hrel
    have hgb : wr.heap[w.heap.size]? = some (.cells #[.string (bs [o]), .string (bs [c])] 136) := (HB.out.block _ (by omega)).trans HI.out
    have c0 : wr.cell? ⟨w.heap.size, 0, none⟩ = some (.string (bs [o])) := by rw [Lib.cell_of_heap hgb]; rfl
    have c1 : wr.cell? ⟨w.heap.size, 1, none⟩ = some (.string (bs [c])) := by rw [Lib.cell_of_heap hgb]; rfl
    have hsz : (bs cur).size = cur.length := Pure.size_bs cur
    obtain ⟨A9, c9, rfl, _⟩ := slIs_of_own (w := wr) (xs := acc.map bs) (n := acc.length) (List.length_map _) hown
    have hzr := HB.out.size
    by_cases hgo : most = 0 ∨ acc.length < most - 1
    · have HO := Lib.hid (fun W => outside_is [o] [c] cur 44 W (by omega))
      have hz44 : (((44 : UInt8).toNat : Nat) : Int) = 44 := rfl
      rw [hz44] at HO
      rw [outI_zero] at HO
      have HC := Lib.hid (args_cut o c ho hc hne (more most acc.length) (more_not hgo) cur 0 [])
      cases hx : outP [o] [c] 44 0 cur with
      | none =>
        rw [hx] at HO HC
        have HF : Hid (R = acc ++ [cur]) := by
          show _ = _
          rw [HE.out, HC.out]
          rfl
        clear hx hgb HC
        rcases hgo with h4 | h4
        · have hm0 : (((most : Nat) : Int) == 0) = true := by rw [h4]; rfl
          clear h4
          go_wp2_with (first | (go_at_call 79; refine (HO.out _).mono ?_; rintro e W2 ⟨rfl, hb2⟩; have HB2 := Lib.hid hb2; have hown2 := own_on hown hb2; have hs2 := hb2.size; clear hb2) | (at_builtin; refine wpList_append_own _ rfl _ _ 96 rfl (w.heap.size + 1) 9 i0 (.string .empty) 1 16 Tryz.underlying96 hi hz0 hz1 hz2 rfl (by decide) _ _ _ rfl (hown2.alloc _) ⟨W2.heap.size, 0, none⟩ 1 1 [.string (bs cur)] rfl rfl (cell_one_new _ _ _) (by simp [Value.oneCell']) (by unfold maxLen; omega) (by omega) (by simp; omega) ?_; intro v' wA hown' hgrow _; have HOA := Lib.hid hown'; have HGA := Lib.hid (below_append (HB.out.trans (HB2.out.mono (by omega))) (by omega) hown2 hgrow); clear hown' hgrow))
          go_ret
          refine fin_row (B := w.heap.size + 1) HF.out ?_ (HB0.out.trans (HGA.out.mono (by omega)))
          show wA.ownsRow _ _ _ _ (acc ++ [cur]).length (vals (acc ++ [cur]))
          rw [List.length_append, List.length_singleton, vals_snoc]; exact HOA.out
        · have hm0 : (((most : Nat) : Int) == 0) = false := by rw [beq_eq_false_iff_ne]; omega
          have hm1 : ((acc.length : Nat) : Int) < (most : Int) - 1 := by omega
          go_wp2_with (first | (go_at_call 79; refine (HO.out _).mono ?_; rintro e W2 ⟨rfl, hb2⟩; have HB2 := Lib.hid hb2; have hown2 := own_on hown hb2; have hs2 := hb2.size; clear hb2) | (at_builtin; refine wpList_append_own _ rfl _ _ 96 rfl (w.heap.size + 1) 9 i0 (.string .empty) 1 16 Tryz.underlying96 hi hz0 hz1 hz2 rfl (by decide) _ _ _ rfl (hown2.alloc _) ⟨W2.heap.size, 0, none⟩ 1 1 [.string (bs cur)] rfl rfl (cell_one_new _ _ _) (by simp [Value.oneCell']) (by unfold maxLen; omega) (by omega) (by simp; omega) ?_; intro v' wA hown' hgrow _; have HOA := Lib.hid hown'; have HGA := Lib.hid (below_append (HB.out.trans (HB2.out.mono (by omega))) (by omega) hown2 hgrow); clear hown' hgrow))
          go_ret
          refine fin_row (B := w.heap.size + 1) HF.out ?_ (HB0.out.trans (HGA.out.mono (by omega)))
          show wA.ownsRow _ _ _ _ (acc ++ [cur]).length (vals (acc ++ [cur]))
          rw [List.length_append, List.length_singleton, vals_snoc]; exact HOA.out
      | some k =>
        rw [hx] at HO HC
        have hkl := out_lt _ _ _ _ _ _ hx
        have HF : Hid (R = (acc ++ [cur.take k]) ++ argsP o c 0 (more most (acc ++ [cur.take k]).length) [] (cur.drop (k + 1))) := by
          show _ = _
          rw [HE.out, HC.out, List.length_append, List.length_singleton, ← more_step, List.append_assoc]
          rfl
        have hp1 := part_to cur k
        have hp2 := part_from cur (k + 1)
        have hl2 : (cur.drop (k + 1)).length = cur.length - (k + 1) := List.length_drop
        have hk1 : (0 : Int) ≤ (k : Int) := by omega
        have hk2 : (k : Int) + 1 ≤ (cur.length : Int) := by omega
        clear hx hgb HC
        rcases hgo with h4 | h4
        · have hm0 : (((most : Nat) : Int) == 0) = true := by rw [h4]; rfl
          clear h4
          go_wp2_with (first | (go_at_call 79; refine (HO.out _).mono ?_; rintro e W2 ⟨rfl, hb2⟩; have HB2 := Lib.hid hb2; have hown2 := own_on hown hb2; have hs2 := hb2.size; clear hb2) | (at_builtin; refine wpList_append_own _ rfl _ _ 96 rfl (w.heap.size + 1) 9 i0 (.string .empty) 1 16 Tryz.underlying96 hi hz0 hz1 hz2 rfl (by decide) _ _ _ rfl (hown2.alloc _) ⟨W2.heap.size, 0, none⟩ 1 1 [.string (bs (cur.take k))] rfl rfl (cell_one_new _ _ _) (by simp [Value.oneCell']) (by unfold maxLen; omega) (by omega) (by simp; omega) ?_; intro v' wA hown' hgrow _; have HOA := Lib.hid hown'; have HGA := Lib.hid (below_append (HB.out.trans (HB2.out.mono (by omega))) (by omega) hown2 hgrow); clear hown' hgrow))
          have HOB : Hid (wA.ownsRow (w.heap.size + 1) 9 1 v' (acc ++ [cur.take k]).length (vals (acc ++ [cur.take k]))) := by
            rw [List.length_append, List.length_singleton, vals_snoc]; exact HOA.out
          go_roundw
          case rel => exact ⟨cur.drop (k + 1), acc ++ [cur.take k], by rw [List.length_append, List.length_singleton, hl2]; omega, rfl, HOB.out, HGA.out, HF⟩
          case measure => simp [strLen, Pure.size_bs]; omega
        · have hm0 : (((most : Nat) : Int) == 0) = false := by rw [beq_eq_false_iff_ne]; omega
          have hm1 : ((acc.length : Nat) : Int) < (most : Int) - 1 := by omega
          go_wp2_with (first | (go_at_call 79; refine (HO.out _).mono ?_; rintro e W2 ⟨rfl, hb2⟩; have HB2 := Lib.hid hb2; have hown2 := own_on hown hb2; have hs2 := hb2.size; clear hb2) | (at_builtin; refine wpList_append_own _ rfl _ _ 96 rfl (w.heap.size + 1) 9 i0 (.string .empty) 1 16 Tryz.underlying96 hi hz0 hz1 hz2 rfl (by decide) _ _ _ rfl (hown2.alloc _) ⟨W2.heap.size, 0, none⟩ 1 1 [.string (bs (cur.take k))] rfl rfl (cell_one_new _ _ _) (by simp [Value.oneCell']) (by unfold maxLen; omega) (by omega) (by simp; omega) ?_; intro v' wA hown' hgrow _; have HOA := Lib.hid hown'; have HGA := Lib.hid (below_append (HB.out.trans (HB2.out.mono (by omega))) (by omega) hown2 hgrow); clear hown' hgrow))
          have HOB : Hid (wA.ownsRow (w.heap.size + 1) 9 1 v' (acc ++ [cur.take k]).length (vals (acc ++ [cur.take k]))) := by
            rw [List.length_append, List.length_singleton, vals_snoc]; exact HOA.out
          go_roundw
          case rel => exact ⟨cur.drop (k + 1), acc ++ [cur.take k], by rw [List.length_append, List.length_singleton, hl2]; omega, rfl, HOB.out, HGA.out, HF⟩
          case measure => simp [strLen, Pure.size_bs]; omega
    · have HF : Hid (R = acc ++ [cur]) := by
        show _ = _
        rw [HE.out, more_done hgo, args_last]
        rfl
      have hm0 : (((most : Nat) : Int) == 0) = false := by rw [beq_eq_false_iff_ne]; omega
      have hm1 : ¬ ((acc.length : Nat) : Int) < (most : Int) - 1 := by omega
      clear hgb
      go_wp2_with (at_builtin; refine wpList_append_own _ rfl _ _ 96 rfl (w.heap.size + 1) 9 i0 (.string .empty) 1 16 Tryz.underlying96 hi hz0 hz1 hz2 rfl (by decide) _ _ _ rfl (hown.alloc _) ⟨wr.heap.size, 0, none⟩ 1 1 [.string (bs cur)] rfl rfl (cell_one_new _ _ _) (by simp [Value.oneCell']) (by unfold maxLen; omega) (by omega) (by simp; omega) ?_; intro v' wA hown' hgrow _; have HOA := Lib.hid hown'; have HGA := Lib.hid (below_append HB.out (by omega) hown hgrow); clear hown' hgrow)
      go_ret
      refine fin_row (B := w.heap.size + 1) HF.out ?_ (HB0.out.trans (HGA.out.mono (by omega)))
      rw [List.length_append, List.length_singleton, vals_snoc]; exact HOA.out

end Go.Proofs.YtmcdefkpkpaceaaGreatDoor.Uargs
