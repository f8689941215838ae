/- How many nodes Parse gives, by a text's dollars and commas (no program). -/
import Derived.Test.YtpphkaolonjjdaaDoorDpsJ
import Derived.Test.YtpphkaolonjjdaaDoorRangeJ
namespace Go.Proofs.YtpphkaolonjjdaaDoor.Jwt
open Go.Proofs.YtpphkaolonjjdaaDoor.Spl Go.Proofs.YtpphkaolonjjdaaDoor.Nz Go.Proofs.YtpphkaolonjjdaaDoor.Fpl Go.Proofs.YtpphkaolonjjdaaDoor.Cpl Go.Proofs.YtpphkaolonjjdaaDoor.Ymu

def wB (b : UInt8) : Nat := if b = 36 then 8 else if b = 44 then 2 else 0
def wN : T → Nat
  | [] => 0
  | b :: r => wB b + wN r
theorem w_mu : ∀ s : T, 63 * wN s ≤ muL s
  | [] => Nat.le_refl _
  | b :: r => by
    have h := w_mu r
    have h1 : 63 * wB b ≤ muB b := by unfold wB muB; split <;> (try split) <;> omega
    rw [wN, muL]; omega
theorem w_app : ∀ x y : T, wN (x ++ y) = wN x + wN y
  | [], y => by rw [List.nil_append, wN, Nat.zero_add]
  | b :: x, y => by rw [List.cons_append, wN, wN, w_app x y, Nat.add_assoc]
theorem w_one (b : UInt8) : wN [b] = wB b := rfl
theorem w_cut (s : T) (e : Nat) : wN (s.take e) + wN (s.drop (e + 1)) ≤ wN s := by
  have h1 : wN (s.take e ++ s.drop e) = wN s := by rw [List.take_append_drop]
  rw [w_app] at h1
  have h2 : wN (s.drop (e + 1)) ≤ wN (s.drop e) := by
    rw [← List.drop_drop]
    cases s.drop e with
    | nil => exact Nat.le_refl _
    | cons b r => show wN r ≤ wB b + wN r; omega
  omega
theorem w_drop (p : UInt8 → Bool) : ∀ l : T, wN (l.dropWhile p) ≤ wN l
  | [] => Nat.le_refl _
  | b :: r => by
    have := w_drop p r
    rw [List.dropWhile_cons]
    split
    · rw [wN]; omega
    · exact Nat.le_refl _
def sumW (L : List T) : Nat := (L.map wN).sum
theorem sum_nil : sumW [] = 0 := rfl
theorem sum_cons (x : T) (L : List T) : sumW (x :: L) = wN x + sumW L := by unfold sumW; rw [List.map_cons, List.sum_cons]
theorem args_w (o c : UInt8) : ∀ (s : T) (d : Nat) (m : Option Nat) (cur : T), sumW (argsP o c d m cur s) + 2 * (argsP o c d m cur s).length ≤ wN cur + wN s + 2
  | [], d, m, cur => by rw [argsP, sum_cons, sum_nil]; show wN cur + 0 + 2 * 1 ≤ wN cur + 0 + 2; omega
  | b :: r, d, m, cur => by
    have hc : wN (cur ++ [b]) = wN cur + wB b := by rw [w_app, w_one]
    have hw : wN (b :: r) = wB b + wN r := rfl
    rw [argsP]
    split
    · have := args_w o c r (d + 1) m (cur ++ [b]); omega
    · split
      · have := args_w o c r (d - 1) m (cur ++ [b]); omega
      · split
        · rename_i h
          have h1 := args_w o c r 0 (m.map (· - 1)) []
          have h2 : wB b = 2 := by rw [h.1]; rfl
          have h3 : wN ([] : T) = 0 := rfl
          rw [sum_cons, List.length_cons]
          omega
        · have := args_w o c r d m (cur ++ [b]); omega
theorem colon_w : ∀ (s : T) (d : Nat) (cur a r : T), colonP d cur s = some (a, r) → wN a + wN r ≤ wN cur + wN s
  | [], d, cur, a, r, h => by rw [colonP] at h; cases h
  | b :: t, d, cur, a, r, h => by
    rw [colonP] at h
    have hc : wN (cur ++ [b]) = wN cur + wB b := by rw [w_app, w_one]
    have hw : wN (b :: t) = wB b + wN t := rfl
    split at h
    · have := colon_w t _ _ a r h; omega
    · split at h
      · have := colon_w t _ _ a r h; omega
      · split at h
        · cases h; omega
        · have := colon_w t _ _ a r h; omega
theorem equal_w : ∀ (s : T) (d : Nat) (cur a r : T), equalP d cur s = some (a, r) → wN a + wN r ≤ wN cur + wN s
  | [], d, cur, a, r, h => by rw [equalP] at h; cases h
  | b :: t, d, cur, a, r, h => by
    rw [equalP] at h
    have hc : wN (cur ++ [b]) = wN cur + wB b := by rw [w_app, w_one]
    have hw : wN (b :: t) = wB b + wN t := rfl
    split at h
    · have := equal_w t _ _ a r h; omega
    · split at h
      · have := equal_w t _ _ a r h; omega
      · split at h
        · cases h; omega
        · have := equal_w t _ _ a r h; omega
theorem cuts_w {s a b c : T} (h : cutsP s = some (a, b, c)) : wN a + wN b + wN c ≤ wN s := by
  unfold cutsP at h
  cases e : colonP 0 [] s with
  | none => rw [e] at h; cases h
  | some ar =>
    obtain ⟨a', r⟩ := ar
    rw [e] at h
    have h1 := colon_w s 0 [] a' r e
    dsimp only at h
    cases e2 : equalP 0 [] r with
    | none => rw [e2] at h; cases h
    | some bc =>
      obtain ⟨b', c'⟩ := bc
      rw [e2] at h
      have h2 := equal_w r 0 [] b' c' e2
      cases h
      have h3 : wN ([] : T) = 0 := rfl
      omega
theorem name_w {s f r : T} {i : Inf} (h : nameP s = some (f, r, i)) : wN r ≤ wN s := by
  have h2 := w_drop letB s
  unfold nameP at h
  split at h
  · rename_i b r' i' e1 e2
    split at h
    · cases h
      rw [← e1]
      exact h2
    · cases h
  · cases h

theorem z_cons (n : Nod) (l : List Nod) : sizs (toZs (n :: l)) = siz (toZ n) + sizs (toZs l) := by rw [toZs, sizs]
theorem z_app : ∀ l r : List Nod, sizs (toZs (l ++ r)) = sizs (toZs l) + sizs (toZs r)
  | [], r => by rw [List.nil_append]; show _ = 0 + _; omega
  | n :: l, r => by rw [List.cons_append, z_cons, z_cons, z_app l r]; omega
theorem z_mk (k : Nat) (s : T) (l : List Nod) : siz (toZ (.mk k s l)) = 1 + sizs (toZs l) := rfl
theorem z_nil : sizs (toZs []) = 0 := rfl
theorem z_flush (acc : List Nod) (cur : T) : sizs (toZs (flushP acc cur)) ≤ sizs (toZs acc) + 1 := by
  unfold flushP
  split
  · omega
  · rw [z_app, z_cons, z_mk, z_nil]; omega
theorem z_whole : ∀ l : List Nod, siz (toZ (wholeP l)) ≤ sizs (toZs l) + 1
  | [] => Nat.le_refl _
  | [n] => by show siz (toZ n) ≤ _; rw [z_cons]; omega
  | n :: n2 :: l => by show siz (toZ (.mk 5 [] (n :: n2 :: l))) ≤ _; rw [z_mk]; omega
theorem list_w (p : T → Rd Nod) : ∀ (L : List T) (ns : List Nod), (∀ t ∈ L, ∀ n, p t = .ok n → siz (toZ n) ≤ wN t + 2) → listP p L = .ok ns → sizs (toZs ns) ≤ sumW L + 2 * L.length
  | [], ns, _, h => by
    rw [listP] at h
    cases h
    exact Nat.zero_le _
  | s :: r, ns, hp, h => by
    rw [listP] at h
    cases e : p s with
    | bad x => rw [e] at h; cases h
    | ok n =>
      rw [e] at h
      cases e2 : listP p r with
      | bad x => rw [e2] at h; cases h
      | ok ns2 =>
        rw [e2] at h
        cases h
        have h1 := hp s (List.mem_cons_self ..) n e
        have h2 := list_w p r ns2 (fun t ht => hp t (List.mem_cons_of_mem _ ht)) e2
        rw [z_cons, sum_cons, List.length_cons]; omega
theorem ref_w (p : T → Rd Nod) (hp : ∀ t n, p t = .ok n → siz (toZ n) ≤ wN t + 2) (o : UInt8) (s : T) (n : Nod) (h : refP p o s = .ok n) : siz (toZ n) ≤ wN s + 7 := by
  unfold refP at h
  cases e : nameP s with
  | some fri =>
    obtain ⟨f, r, i⟩ := fri
    rw [e] at h
    dsimp only at h
    have h1 := name_w e
    obtain ⟨L, hL⟩ : ∃ L, L = argsP o (shutOf o) 0 (if i.mx = 0 then none else some (i.mx.toNat - 1)) [] (Pure.left r) := ⟨_, rfl⟩
    rw [← hL] at h
    have hw := args_w o (shutOf o) (Pure.left r) 0 (if i.mx = 0 then none else some (i.mx.toNat - 1)) []
    rw [← hL] at hw
    have hlf : wN (Pure.left r) ≤ wN r := w_drop Pure.isBl r
    have h0 : wN ([] : T) = 0 := rfl
    split at h
    · cases h
    · cases e2 : listP p L with
      | bad x => rw [e2] at h; cases h
      | ok ns =>
        rw [e2] at h
        cases h
        have h3 := list_w p L ns (fun t _ n hn => hp t n hn) e2
        rw [z_mk]; omega
  | none =>
    rw [e] at h
    dsimp only at h
    cases e2 : cutsP s with
    | some abc =>
      obtain ⟨a, b, c⟩ := abc
      rw [e2] at h
      dsimp only at h
      have hc := cuts_w e2
      cases e3 : listP p [a, b, c] with
      | bad x => rw [e3] at h; cases h
      | ok ns =>
        rw [e3] at h
        cases h
        have h3 := list_w p [a, b, c] ns (fun t _ n hn => hp t n hn) e3
        rw [sum_cons, sum_cons, sum_cons, sum_nil] at h3
        have h4 : ([a, b, c] : List T).length = 3 := rfl
        rw [z_mk]; omega
    | none =>
      rw [e2] at h
      dsimp only at h
      cases e3 : listP p [s] with
      | bad x => rw [e3] at h; cases h
      | ok ns =>
        rw [e3] at h
        cases h
        have h3 := list_w p [s] ns (fun t _ n hn => hp t n hn) e3
        rw [sum_cons, sum_nil] at h3
        have h4 : ([s] : List T).length = 1 := rfl
        rw [z_mk]; omega
theorem scan_w (p : UInt8 → T → Rd Nod) (hp : ∀ c t n, p c t = .ok n → siz (toZ n) ≤ wN t + 7) : ∀ (k : Nat) (acc : List Nod) (cur s : T) (ns : List Nod), scanP p k acc cur s = .ok ns → sizs (toZs ns) ≤ sizs (toZs acc) + wN s + 1
  | 0, acc, cur, s, ns, h => by
    rw [scanP] at h
    cases h
    have := z_flush acc cur; omega
  | k + 1, acc, cur, [], ns, h => by
    rw [scanP] at h
    cases h
    have := z_flush acc cur; omega
  | k + 1, acc, cur, b :: r, ns, h => by
    rw [scanP.eq_def] at h
    dsimp only at h
    have hw : wN (b :: r) = wB b + wN r := rfl
    split at h
    · rename_i hb
      have h8 : wB b = 8 := by rw [hb]; rfl
      cases r with
      | nil =>
        dsimp only at h
        cases h
        have := z_flush acc (cur ++ [36]); omega
      | cons c r2 =>
        dsimp only at h
        have hw2 : wN (c :: r2) = wB c + wN r2 := rfl
        split at h
        · have := scan_w p hp k acc (cur ++ [36]) r2 ns h; omega
        · split at h
          · cases e : endsP c (shutOf c) 1 r2 with
            | none => rw [e] at h; cases h
            | some x =>
              rw [e] at h
              dsimp only at h
              cases e2 : p c (r2.take x) with
              | bad y => rw [e2] at h; cases h
              | ok m =>
                rw [e2] at h
                dsimp only at h
                have h1 := hp c (r2.take x) m e2
                have h2 := w_cut r2 x
                have h3 := scan_w p hp k _ [] (r2.drop (x + 1)) ns h
                rw [z_app, z_cons, z_nil] at h3
                have h4 := z_flush acc cur
                omega
          · have h3 := scan_w p hp k _ [] r2 ns h
            rw [z_app, z_cons, z_mk, z_cons, z_mk, z_nil] at h3
            have h4 := z_flush acc cur
            omega
    · have := scan_w p hp k acc (cur ++ [b]) r ns h; omega
theorem parseP_w : ∀ (m : Nat) (s : T) (n : Nod), parseP m s = .ok n → siz (toZ n) ≤ wN s + 2
  | 0, s, n, h => by
    rw [parseP] at h
    cases e : scanP (fun _ _ => .bad .deep) (s.length + 1) [] [] s with
    | bad x => rw [e] at h; cases h
    | ok ns =>
      rw [e] at h
      cases h
      have h1 := scan_w (fun _ _ => .bad .deep) (fun c t n hn => by cases hn) _ [] [] s ns e
      have h2 := z_whole ns
      rw [z_nil] at h1; omega
  | m + 1, s, n, h => by
    rw [parseP] at h
    cases e : scanP (refP (parseP m)) (s.length + 1) [] [] s with
    | bad x => rw [e] at h; cases h
    | ok ns =>
      rw [e] at h
      cases h
      have h1 := scan_w (refP (parseP m)) (fun c t n hn => ref_w (parseP m) (fun t n hn => parseP_w m t n hn) c t n hn) _ [] [] s ns e
      have h2 := z_whole ns
      rw [z_nil] at h1; omega
/-- what Parse gives of a text of little weight -/
theorem parse_few (s : T) (hs : muL s ≤ 996132) (n : Nod) (h : parse s = .ok n) : siz (toZ n) ≤ 15813 := by
  have h1 := parseP_w 40 s n h
  have h2 := w_mu s
  omega

end Go.Proofs.YtpphkaolonjjdaaDoor.Jwt
