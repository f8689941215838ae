/- What the laws of references ask of the plain Parse (no program). -/
import Derived.Test.YtpphkaolonjjdaaDoorSpl
namespace Go.Proofs.YtpphkaolonjjdaaDoor.Spf
open Go.Proofs.YtpphkaolonjjdaaDoor.Spl
open Go.Proofs.YtpphkaolonjjdaaDoor.Fpl (lookI)

def textN : Nod → T
  | .mk _ s _ => s
theorem scan_nil (p : UInt8 → T → Rd Nod) (n : Nat) (acc : List Nod) (cur : T) : scanP p (n + 1) acc cur [] = .ok (flushP acc cur) := rfl
theorem scan_other (p : UInt8 → T → Rd Nod) (n : Nat) (acc : List Nod) (cur : T) {b : UInt8} (r : T) (h : b ≠ 36) : scanP p (n + 1) acc cur (b :: r) = scanP p n acc (cur ++ [b]) r := by
  rw [scanP.eq_def]
  exact if_neg h
theorem scan_two (p : UInt8 → T → Rd Nod) (n : Nat) (acc : List Nod) (cur : T) (r : T) : scanP p (n + 1) acc cur (36 :: 36 :: r) = scanP p n acc (cur ++ [36]) r := rfl
theorem scan_ref (p : UInt8 → T → Rd Nod) (n : Nat) (acc : List Nod) (cur : T) (c : UInt8) (r : T) (h : c = 40 ∨ c = 123) : scanP p (n + 1) acc cur (36 :: c :: r) = match endsP c (shutOf c) 1 r with
    | none => .bad .form
    | some e => match p c (r.take e) with
      | .bad x => .bad x
      | .ok m => scanP p n (flushP acc cur ++ [m]) [] (r.drop (e + 1)) := by
  rcases h with rfl | rfl <;> rfl

/-! ### a text without a dollar; each dollar doubled -/
theorem scan_plain (p : UInt8 → T → Rd Nod) : ∀ (r : T) (n : Nat) (acc : List Nod) (cur : T), r.length < n → 36 ∉ r → scanP p n acc cur r = .ok (flushP acc (cur ++ r))
  | [], n + 1, acc, cur, _, _ => by rw [scan_nil, List.append_nil]
  | b :: r, n + 1, acc, cur, hn, hd => by
    have hb : b ≠ 36 := fun e => hd (by rw [e]; exact List.mem_cons_self)
    rw [scan_other p n acc cur r hb, scan_plain p r n acc (cur ++ [b]) (by rw [List.length_cons] at hn; omega) (fun h => hd (List.mem_cons_of_mem _ h)), List.append_assoc]
    rfl
/-- each dollar twice -/
def twice (s : T) : T := s.flatMap fun b => if b = 36 then [36, 36] else [b]
theorem twice_cons (b : UInt8) (r : T) : twice (b :: r) = (if b = 36 then [36, 36] else [b]) ++ twice r := rfl
theorem scan_twice (p : UInt8 → T → Rd Nod) : ∀ (r : T) (n : Nat) (acc : List Nod) (cur : T), (twice r).length < n → scanP p n acc cur (twice r) = .ok (flushP acc (cur ++ r))
  | [], n + 1, acc, cur, _ => by
    show scanP p (n + 1) acc cur [] = _
    rw [scan_nil, List.append_nil]
  | b :: r, n + 1, acc, cur, hn => by
    rw [twice_cons] at hn ⊢
    by_cases hb : b = 36
    · subst hb
      rw [if_pos rfl] at hn ⊢
      show scanP p (n + 1) acc cur (36 :: 36 :: twice r) = _
      have hl : (twice r).length + 2 < n + 1 := by
        have : ([36, 36] ++ twice r : T).length = (twice r).length + 2 := by rw [List.length_append]; show 2 + _ = _; omega
        omega
      rw [scan_two, scan_twice p r n acc (cur ++ [36]) (by omega), List.append_assoc]
      rfl
    · rw [if_neg hb] at hn ⊢
      show scanP p (n + 1) acc cur (b :: twice r) = _
      have hl : (twice r).length + 1 < n + 1 := by
        have : ([b] ++ twice r : T).length = (twice r).length + 1 := by rw [List.length_append]; show 1 + _ = _; omega
        omega
      rw [scan_other p n acc cur _ hb, scan_twice p r n acc (cur ++ [b]) (by omega), List.append_assoc]
      rfl
theorem whole_flush (s : T) : wholeP (flushP [] s) = .mk 1 s [] := by
  cases s <;> rfl
theorem parse_twice (s : T) : parse (twice s) = .ok (.mk 1 s []) := by
  unfold parse
  rw [parseP, scan_twice _ s _ [] [] (Nat.lt_succ_self _)]
  show Rd.ok (wholeP (flushP [] ([] ++ s))) = _
  rw [List.nil_append, whole_flush]
theorem parse_plain (s : T) (h : 36 ∉ s) : parse s = .ok (.mk 1 s []) := by
  unfold parse
  rw [parseP, scan_plain _ s _ [] [] (Nat.lt_succ_self _) h]
  show Rd.ok (wholeP (flushP [] ([] ++ s))) = _
  rw [List.nil_append, whole_flush]

/-! ### references within references -/
def openT (c : Bool) : T := if c then [36, 123] else [36, 40]
def shutT (c : Bool) : T := if c then [125] else [41]
def deepT (c : Bool) : Nat → T
  | 0 => [97]
  | k + 1 => openT c ++ deepT c k ++ shutT c
def opB (c : Bool) : UInt8 := if c then 123 else 40
def shB (c : Bool) : UInt8 := if c then 125 else 41
theorem open_is (c : Bool) : openT c = [36, opB c] := by cases c <;> rfl
theorem shut_is (c : Bool) : shutT c = [shB c] := by cases c <;> rfl
theorem shut_of (c : Bool) : shutOf (opB c) = shB c := by cases c <;> rfl
theorem op_two (c : Bool) : opB c = 40 ∨ opB c = 123 := by cases c <;> simp [opB]
theorem deep_succ (c : Bool) (k : Nat) : deepT c (k + 1) = 36 :: opB c :: (deepT c k ++ [shB c]) := by
  rw [deepT, open_is, shut_is]
  simp
/-- k references around the text a -/
def chainN : Nat → Nod
  | 0 => .mk 1 [97] []
  | k + 1 => .mk 2 [] [chainN k]
theorem ends_other (o c : UInt8) (d : Nat) {b : UInt8} (r : T) (h1 : b ≠ o) (h2 : b ≠ c) : endsP o c d (b :: r) = (endsP o c d r).map (· + 1) := by
  rw [endsP, if_neg h1, if_neg h2]
theorem ends_open (o c : UInt8) (d : Nat) (r : T) : endsP o c d (o :: r) = (endsP o c (d + 1) r).map (· + 1) := by
  rw [endsP, if_pos rfl]
theorem ends_shut (o c : UInt8) (d : Nat) (r : T) (h : c ≠ o) : endsP o c d (c :: r) = if d ≤ 1 then some 0 else (endsP o c (d - 1) r).map (· + 1) := by
  rw [endsP, if_neg h, if_pos rfl]
theorem br (c : Bool) : shB c ≠ opB c ∧ (36 : UInt8) ≠ opB c ∧ (36 : UInt8) ≠ shB c ∧ (97 : UInt8) ≠ opB c ∧ (97 : UInt8) ≠ shB c := by cases c <;> decide
theorem map_add (x : Option Nat) (a b : Nat) : (x.map (· + a)).map (· + b) = x.map (· + (a + b)) := by
  cases x with
  | none => rfl
  | some y => show some (y + a + b) = some (y + (a + b)); rw [Nat.add_assoc]
/-- what is whole is passed by -/
theorem ends_deep (c : Bool) : ∀ (k d : Nat) (r : T), 1 ≤ d → endsP (opB c) (shB c) d (deepT c k ++ r) = (endsP (opB c) (shB c) d r).map (· + (deepT c k).length)
  | 0, d, r, _ => by
    obtain ⟨_, _, _, h1, h2⟩ := br c
    exact ends_other _ _ d r h1 h2
  | k + 1, d, r, hd => by
    obtain ⟨h0, h1, h2, _, _⟩ := br c
    rw [deep_succ]
    show endsP (opB c) (shB c) d (36 :: opB c :: (deepT c k ++ [shB c] ++ r)) = _
    rw [ends_other _ _ d _ h1 h2, ends_open, List.append_assoc, ends_deep c k (d + 1) _ (by omega)]
    show Option.map _ (Option.map _ (Option.map _ (endsP (opB c) (shB c) (d + 1) (shB c :: r)))) = _
    rw [ends_shut _ _ _ _ h0, if_neg (by omega), Nat.add_sub_cancel, map_add, map_add, map_add]
    have hl : (36 :: opB c :: (deepT c k ++ [shB c])).length = 1 + (deepT c k).length + 1 + 1 := by
      rw [List.length_cons, List.length_cons, List.length_append, List.length_singleton]; omega
    rw [hl]
    refine congrArg (fun n => Option.map (fun x => x + n) (endsP (opB c) (shB c) d r)) ?_
    omega
theorem ends_at (c : Bool) (k : Nat) (r : T) : endsP (opB c) (shB c) 1 (deepT c k ++ shB c :: r) = some (deepT c k).length := by
  rw [ends_deep c k 1 _ (Nat.le_refl _), ends_shut _ _ _ _ (br c).1, if_pos (Nat.le_refl _)]
  show some (0 + _) = _
  rw [Nat.zero_add]
theorem ends_no (c : Bool) (k : Nat) : endsP (opB c) (shB c) 1 (deepT c k) = none := by
  have := ends_deep c k 1 [] (Nat.le_refl _)
  rw [List.append_nil] at this
  rw [this]; rfl
theorem name_deep (c : Bool) (k : Nat) : nameP (deepT c k) = none := by
  cases k with
  | zero => rfl
  | succ k =>
    rw [deep_succ]
    have h : letB 36 = false := by decide
    have h2 : lookI Fpl.tab [] = none := by kernel_rfl
    unfold nameP
    rw [List.dropWhile_cons_of_neg (by rw [h]; exact Bool.false_ne_true), List.takeWhile_cons_of_neg (by rw [h]; exact Bool.false_ne_true), h2]
theorem colon_no : ∀ (s : T) (d : Nat) (cur : T), 58 ∉ s → colonP d cur s = none
  | [], _, _, _ => rfl
  | b :: r, d, cur, h => by
    have hr : 58 ∉ r := fun x => h (List.mem_cons_of_mem _ x)
    have hb : ¬ (b = 58 ∧ d = 0) := fun e => h (by rw [e.1]; exact List.mem_cons_self)
    rw [colonP]
    split
    · exact colon_no r _ _ hr
    · split
      · exact colon_no r _ _ hr
      · first
        | exact colon_no r _ _ hr
        | (rw [if_neg hb]; exact colon_no r _ _ hr)
theorem deep_mem (c : Bool) : ∀ k, 58 ∉ deepT c k
  | 0 => by show (58 : UInt8) ∉ [97]; decide
  | k + 1 => by
    rw [deep_succ]
    have ho : (58 : UInt8) ≠ opB c := by cases c <;> decide
    have hs : (58 : UInt8) ≠ shB c := by cases c <;> decide
    intro h0
    rcases List.mem_cons.1 h0 with h1 | h1
    · exact absurd h1 (by decide)
    rcases List.mem_cons.1 h1 with h2 | h2
    · exact ho h2
    rcases List.mem_append.1 h2 with h3 | h3
    · exact deep_mem c k h3
    · exact hs (List.mem_singleton.1 h3)
theorem ref_deep (p : T → Rd Nod) (o : UInt8) (c : Bool) (k : Nat) : refP p o (deepT c k) = (listP p [deepT c k]).map (.mk 2 []) := by
  unfold refP cutsP
  rw [name_deep, colon_no _ 0 [] (deep_mem c k)]
def deepR (m k : Nat) : Rd Nod := if k ≤ m then .ok (chainN k) else .bad .deep
theorem list_one (p : T → Rd Nod) (s : T) : (listP p [s]).map (Nod.mk 2 []) = match p s with
    | .bad e => Rd.bad e
    | .ok n => Rd.ok (.mk 2 [] [n]) := by
  rw [listP]
  cases p s <;> rfl
/-- what a walk makes of a reference at the front -/
theorem scan_deep (p : UInt8 → T → Rd Nod) (n : Nat) (c : Bool) (k : Nat) (r : T) : scanP p (n + 1) [] [] (deepT c (k + 1) ++ r) = match p (opB c) (deepT c k) with
    | .bad x => Rd.bad x
    | .ok m => scanP p n [m] [] r := by
  have e : deepT c (k + 1) ++ r = 36 :: opB c :: (deepT c k ++ shB c :: r) := by rw [deep_succ]; simp
  rw [e, scan_ref p n [] [] (opB c) _ (op_two c), shut_of, ends_at]
  show (match p (opB c) ((deepT c k ++ shB c :: r).take (deepT c k).length) with
      | .bad x => Rd.bad x
      | .ok m => scanP p n (flushP [] [] ++ [m]) [] ((deepT c k ++ shB c :: r).drop ((deepT c k).length + 1))) = _
  rw [List.take_left, List.drop_append, List.drop_of_length_le (by omega), show (deepT c k).length + 1 - (deepT c k).length = 1 by omega]
  rfl
theorem parse_deep (c : Bool) : ∀ (k m : Nat), parseP m (deepT c k) = deepR m k
  | 0, 0 => rfl
  | 0, m + 1 => rfl
  | k + 1, 0 => by
    have h := scan_deep (fun _ _ => Rd.bad .deep) (deepT c (k + 1)).length c k []
    rw [List.append_nil] at h
    rw [parseP, h]; rfl
  | k + 1, m + 1 => by
    have h := scan_deep (refP (parseP m)) (deepT c (k + 1)).length c k []
    rw [List.append_nil] at h
    rw [parseP, h, ref_deep, list_one, parse_deep c k m]
    unfold deepR
    by_cases hk : k ≤ m
    · rw [if_pos hk, if_pos (by omega)]
      have hl : ∃ u, (deepT c (k + 1)).length = u + 1 := ⟨(deepT c k).length + 2, by rw [deep_succ]; simp⟩
      obtain ⟨u, hu⟩ := hl
      rw [hu]; rfl
    · rw [if_neg hk, if_neg (by omega)]; rfl
/-- the last bracket left off -/
theorem parse_less (c : Bool) (k m : Nat) : parseP m (deepT c (k + 1)).dropLast = .bad .form := by
  have e : (deepT c (k + 1)).dropLast = 36 :: opB c :: deepT c k := by
    rw [deep_succ]
    show 36 :: (opB c :: (deepT c k ++ [shB c])).dropLast = _
    rw [show opB c :: (deepT c k ++ [shB c]) = (opB c :: deepT c k) ++ [shB c] from rfl, List.dropLast_concat]
  have h : ∀ p n, scanP p (n + 1) [] [] (36 :: opB c :: deepT c k) = .bad .form := fun p n => by
    rw [scan_ref p n [] [] (opB c) _ (op_two c), shut_of, ends_no]
  rw [e]
  cases m with
  | zero => rw [parseP, h]; rfl
  | succ m => rw [parseP, h]; rfl
/-- one bracket more -/
theorem parse_more (c : Bool) (k m : Nat) : parseP m (deepT c (k + 1) ++ shutT c) = match deepR m (k + 1) with
    | .bad e => Rd.bad e
    | .ok n => Rd.ok (.mk 5 [] [n, .mk 1 (shutT c) []]) := by
  have hl : ∃ u, (deepT c (k + 1) ++ shutT c).length = u + 2 := ⟨(deepT c k).length + 2, by rw [deep_succ, shut_is]; simp⟩
  obtain ⟨u, hu⟩ := hl
  have hs : shB c ≠ 36 := (br c).2.2.1.symm
  cases m with
  | zero => rw [parseP, scan_deep]; rfl
  | succ m =>
    rw [parseP, scan_deep, ref_deep, list_one, parse_deep c k m]
    unfold deepR
    by_cases hk : k ≤ m
    · rw [if_pos hk, if_pos (by omega)]
      show Rd.map wholeP (scanP _ (deepT c (k + 1) ++ shutT c).length [_] [] (shutT c)) = _
      rw [hu, shut_is, scan_other _ _ _ _ _ hs, scan_nil]; rfl
    · rw [if_neg hk, if_neg (by omega)]; rfl

/-! ### calls -/
def digT (n : Nat) : T := [48 + UInt8.ofNat n]
def argT (c : Bool) (i : Nat) : T := (if c then [123] else [40]) ++ digT i ++ [44, 120] ++ shutT c
def argsT (c : Bool) : Nat → T
  | 0 => []
  | 1 => argT c 0
  | k + 2 => argsT c (k + 1) ++ [44] ++ argT c (k + 1)
def fnL : List (T × Nat × Nat) := [([115, 116, 114, 105, 112], 1, 1), ([115, 117, 98, 115, 116], 3, 3), ([105, 102], 2, 3), ([111, 114], 1, 99), ([99, 97, 108, 108], 1, 99), ([105, 110, 116, 99, 109, 112], 2, 5), ([102, 111, 114, 101, 97, 99, 104], 3, 3), ([119, 111, 114, 100], 2, 2)]
def callT (c : Bool) (f : T) (k : Nat) : T := openT c ++ f ++ [32, 32] ++ argsT c k ++ shutT c
def callB (c : Bool) (x : T × Nat × Nat) (k : Nat) : Bool :=
  match parse (callT c x.1 k) with
  | .bad .few => decide (k < x.2.1)
  | .ok (.mk 4 f l) => decide (x.2.1 ≤ k) && decide (f = x.1) && decide (l.length = min k x.2.2) &&
    l.all (fun n => match n with | .mk 1 _ [] => true | _ => false) &&
    (decide (k ≤ x.2.2) || (match l[x.2.2 - 1]? with | some n => decide (5 < (textN n).length) | none => false))
  | _ => false
theorem call_all : (fnL.all fun x => (List.range 8).all fun k => callB false x (k + 1) && callB true x (k + 1)) = true := by kernel_rfl

/-! ### the document's example -/
theorem parse_sub : parse [36, 40, 97, 58, 46, 99, 61, 46, 111, 41] = .ok (.mk 3 [] [.mk 1 [97] [], .mk 1 [46, 99] [], .mk 1 [46, 111] []]) := by kernel_rfl
theorem parse_open : parse [36, 40, 97] = .bad .form := by kernel_rfl
theorem parse_dollar : parse [120, 36, 36, 121] = .ok (.mk 1 [120, 36, 121] []) := by kernel_rfl

end Go.Proofs.YtpphkaolonjjdaaDoor.Spf
