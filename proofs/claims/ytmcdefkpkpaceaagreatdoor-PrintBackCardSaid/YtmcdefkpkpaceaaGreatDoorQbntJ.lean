/- How long what is read can be when it is written again (no program). -/
import Derived.Test.YtmcdefkpkpaceaaGreatDoorNzJ
namespace Go.Proofs.YtmcdefkpkpaceaaGreatDoor.Qbnt
open Go.Proofs.YtmcdefkpkpaceaaGreatDoor.Spl Go.Proofs.YtmcdefkpkpaceaaGreatDoor.Nz Go.Proofs.YtmcdefkpkpaceaaGreatDoor.Qtp Go.Proofs.YtmcdefkpkpaceaaGreatDoor.Qparse

mutual
def mu : Nz → Nat
  | .mk k s l => if k = 1 then 2 * s.length else if k = 5 then mus l else 4 + s.length + mus l + l.length
def mus : List Nz → Nat
  | [] => 0
  | n :: r => mu n + mus r
end
theorem mus_app : ∀ a b : List Nod, mus (toZs (a ++ b)) = mus (toZs a) + mus (toZs b)
  | [], b => by rw [List.nil_append, toZs, mus, Nat.zero_add]
  | n :: r, b => by rw [List.cons_append, toZs, toZs, mus, mus, mus_app r b, Nat.add_assoc]
theorem mus_one (n : Nod) : mus (toZs [n]) = mu (toZ n) := by rw [toZs, toZs, mus, mus, Nat.add_zero]
theorem join_mu (b : T) (hb : b.length ≤ 1) : ∀ (l : List Nz), (∀ x ∈ l, (textZ x).length ≤ mu x) → (joinL b (textsZ l)).length ≤ mus l + b.length * l.length
  | [], _ => Nat.zero_le _
  | n :: r, h => by
    have hr : ∀ (r : List Nz), (∀ x ∈ r, (textZ x).length ≤ mu x) → ((textsZ r).map (b ++ ·)).flatten.length ≤ mus r + b.length * r.length := by
      intro r
      induction r with
      | nil => intro _; exact Nat.zero_le _
      | cons m r ih =>
        intro h
        have h1 := h m (List.mem_cons_self ..)
        have h2 := ih fun x hx => h x (List.mem_cons_of_mem _ hx)
        rw [textsZ, List.map_cons, List.flatten_cons, List.length_append, List.length_append, mus, List.length_cons, Nat.mul_succ]; omega
    have h1 := h n (List.mem_cons_self ..)
    have h2 := hr r fun x hx => h x (List.mem_cons_of_mem _ hx)
    rw [textsZ, joinL, List.length_append, mus, List.length_cons, Nat.mul_succ]; omega
theorem text_mu : ∀ (N : Nat) (x : Nz), wt x ≤ N → (textZ x).length ≤ mu x
  | 0, x, h => by have := wt_pos x; omega
  | N + 1, .mk k s l, h => by
    rw [wt] at h
    have hl : ∀ x ∈ l, (textZ x).length ≤ mu x := fun x hx => text_mu N x (by have := wts_le hx; omega)
    have j0 := join_mu [] (by decide) l hl
    have j1 := join_mu [44] (by decide) l hl
    have h2 := twice_len s
    rw [List.length_nil, Nat.zero_mul, Nat.add_zero] at j0
    rw [List.length_singleton, Nat.one_mul] at j1
    rw [textZ, mu]
    by_cases k1 : k = 1
    · rw [if_pos k1, if_pos k1]; exact h2
    · rw [if_neg k1, if_neg k1]
      by_cases k5 : k = 5
      · subst k5
        simpa using j0
      · rw [if_neg k5]
        split
        · simp only [List.length_append, List.length_cons, List.length_nil]; omega
        · split
          · split
            · rename_i x y z e
              rw [texts_map] at e
              match l, e with
              | [a, b, c], e =>
                simp only [List.map_cons, List.map_nil, List.cons.injEq, and_true] at e
                obtain ⟨rfl, rfl, rfl⟩ := e
                have ha := hl a (by simp)
                have hb := hl b (by simp)
                have hc := hl c (by simp)
                simp only [List.length_append, List.length_cons, List.length_nil, mus]; omega
            · exact Nat.zero_le _
          · split
            · simp only [List.length_append, List.length_cons, List.length_nil]; omega
            · exact Nat.zero_le _
theorem flush_mu (acc : List Nod) (cur : T) : mus (toZs (flushP acc cur)) ≤ mus (toZs acc) + 4 * cur.length := by
  unfold flushP
  cases cur with
  | nil => exact Nat.le_add_right _ _
  | cons x r =>
    rw [if_neg (by simp)]
    rw [mus_app, mus_one, toZ, mu, if_pos (by rfl)]; omega
theorem scan_mu (p : UInt8 → T → Rd Nod) (hp : ∀ o t m, p o t = .ok m → mu (toZ m) ≤ 4 * t.length + 12) : ∀ (n : Nat) (acc : List Nod) (cur s : T) (l : List Nod), scanP p n acc cur s = .ok l → mus (toZs l) ≤ mus (toZs acc) + 4 * cur.length + 4 * s.length
  | 0, acc, cur, s, l, h => by
    have := flush_mu acc cur
    rw [scanP] at h
    cases h
    omega
  | n + 1, acc, cur, [], l, h => by
    have := flush_mu acc cur
    rw [scanP] at h
    cases h
    omega
  | n + 1, acc, cur, b :: r, l, h => by
    have hf := flush_mu acc cur
    rw [scanP.eq_def] at h
    dsimp only at h
    split at h
    · split at h
      · have := flush_mu acc (cur ++ [36])
        cases h
        rw [List.length_append, List.length_singleton] at this
        rw [List.length_cons]; omega
      · rename_i c r2
        split at h
        · have := scan_mu p hp n _ _ _ _ h
          rw [List.length_append, List.length_singleton] at this
          rw [List.length_cons, List.length_cons]; omega
        · split at h
          · split at h
            · cases h
            · rename_i e he
              have hel := ends_lt _ _ _ _ _ he
              split at h
              · cases h
              · rename_i m hm
                have h1 := hp _ _ _ hm
                have := scan_mu p hp n _ _ _ _ h
                rw [mus_app, mus_one, List.length_nil, List.length_drop] at this
                rw [List.length_take] at h1
                rw [List.length_cons, List.length_cons]; omega
          · have := scan_mu p hp n _ _ _ _ h
            rw [mus_app, mus_one] at this
            have e7 : mu (toZ (.mk 2 [] [.mk 1 [c] []])) = 7 := by simp [toZ, toZs, mu, mus]
            rw [e7, List.length_nil] at this
            rw [List.length_cons, List.length_cons]; omega
    · have := scan_mu p hp n _ _ _ _ h
      rw [List.length_append, List.length_singleton] at this
      rw [List.length_cons]; omega
theorem whole_mu (l : List Nod) : mu (toZ (wholeP l)) ≤ mus (toZs l) := by
  match l with
  | [] => exact Nat.le_refl _
  | [n] => rw [mus_one]; exact Nat.le_refl _
  | a :: b :: r =>
    show mu (toZ (.mk 5 [] (a :: b :: r))) ≤ _
    rw [toZ, mu, if_neg (by decide), if_pos (by rfl)]; exact Nat.le_refl _
def tot : List T → Nat
  | [] => 0
  | t :: r => 4 * t.length + 1 + tot r
theorem list_mu (p : T → Rd Nod) (hp : ∀ t m, p t = .ok m → mu (toZ m) ≤ 4 * t.length) : ∀ (ts : List T) (l : List Nod), listP p ts = .ok l → mus (toZs l) + l.length ≤ tot ts
  | [], l, h => by rw [listP] at h; cases h; exact Nat.le_refl _
  | t :: r, l, h => by
    rw [listP] at h
    split at h
    · cases h
    · rename_i n hn
      cases hr : listP p r with
      | bad e => rw [hr] at h; cases h
      | ok m =>
        rw [hr] at h
        cases h
        have h1 := hp _ _ hn
        have h2 := list_mu p hp r m hr
        rw [toZs, mus, tot, List.length_cons]; omega
theorem args_tot (o c : UInt8) : ∀ (s : T) (d : Nat) (m : Option Nat) (cur : T), tot (argsP o c d m cur s) ≤ 4 * cur.length + 4 * s.length + 1
  | [], d, m, cur => by rw [argsP, tot, tot, List.length_nil]; omega
  | b :: r, d, m, cur => by
    have hs : ∀ d m, tot (argsP o c d m (cur ++ [b]) r) ≤ 4 * cur.length + 4 * (b :: r).length + 1 := fun d m => by
      have := args_tot o c r d m (cur ++ [b])
      rw [List.length_append, List.length_singleton] at this
      rw [List.length_cons]; omega
    rw [argsP]
    split
    · exact hs _ _
    · split
      · exact hs _ _
      · split
        · have := args_tot o c r 0 (m.map (· - 1)) []
          rw [List.length_nil] at this
          rw [tot, List.length_cons]; omega
        · exact hs _ _
theorem ref_mu (p : T → Rd Nod) (hp : ∀ t m, p t = .ok m → mu (toZ m) ≤ 4 * t.length) (o : UInt8) (t : T) (n : Nod) (h : refP p o t = .ok n) : mu (toZ n) ≤ 4 * t.length + 12 := by
  have hm : ∀ (j : Nat) (f : T) (ts : List T), j ≠ 1 → j ≠ 5 → (listP p ts).map (Nod.mk j f) = .ok n → mu (toZ n) ≤ 4 + f.length + tot ts := by
    intro j f ts j1 j5 e
    cases hx : listP p ts with
    | bad e1 => rw [hx] at e; cases e
    | ok l =>
      rw [hx] at e
      cases e
      have := list_mu p hp ts l hx
      rw [toZ, mu, if_neg (by omega), if_neg (by omega), toZs_len]; omega
  unfold refP at h
  split at h
  · rename_i f r i hn
    obtain ⟨hsp, _⟩ := Qref.name_parts hn
    have ha := args_tot o (shutOf o) (Pure.left r) 0 (if i.mx = 0 then none else some (i.mx.toNat - 1)) []
    have hl := Pure.left_length r
    dsimp only at h
    generalize argsP _ _ _ _ _ _ = l at h ha
    split at h
    · cases h
    · have := hm _ _ _ (by decide) (by decide) h
      rw [List.length_nil] at ha
      rw [hsp, List.length_append]; omega
  · split at h
    · rename_i a b c hk
      have hsp := Qcuts.cuts_split hk
      have := hm _ _ _ (by decide) (by decide) h
      simp only [tot, List.length_nil] at this
      rw [hsp]
      simp only [List.length_append, List.length_cons]; omega
    · have := hm _ _ _ (by decide) (by decide) h
      simp only [tot, List.length_nil] at this
      omega
theorem parseP_mu : ∀ (m : Nat) (s : T) (n : Nod), parseP m s = .ok n → mu (toZ n) ≤ 4 * s.length
  | 0, s, n, h => by
    rw [parseP] at h
    cases hx : scanP (fun _ _ => .bad .deep) (s.length + 1) [] [] s with
    | bad e => rw [hx] at h; cases h
    | ok l =>
      rw [hx] at h
      cases h
      have h1 := scan_mu _ (fun _ _ _ h => by cases h) _ _ _ _ _ hx
      have h2 := whole_mu l
      rw [toZs, mus, List.length_nil] at h1
      omega
  | m + 1, s, n, h => by
    rw [parseP] at h
    cases hx : scanP (refP (parseP m)) (s.length + 1) [] [] s with
    | bad e => rw [hx] at h; cases h
    | ok l =>
      rw [hx] at h
      cases h
      have h1 := scan_mu _ (fun o t n h => ref_mu (parseP m) (fun t n h => parseP_mu m t n h) o t n h) _ _ _ _ _ hx
      have h2 := whole_mu l
      rw [toZs, mus, List.length_nil] at h1
      omega
/-- what is read is written again with at most four times as many bytes -/
theorem parse_txt {s : T} {n : Nod} (h : parse s = .ok n) : (textZ (toZ n)).length ≤ 4 * s.length :=
  Nat.le_trans (text_mu _ _ (Nat.le_refl _)) (parseP_mu 40 s n h)

end Go.Proofs.YtmcdefkpkpaceaaGreatDoor.Qbnt

/- How many nodes what is read can have (no program). -/
namespace Go.Proofs.YtmcdefkpkpaceaaGreatDoor.Qbns
open Go.Proofs.YtmcdefkpkpaceaaGreatDoor.Spl Go.Proofs.YtmcdefkpkpaceaaGreatDoor.Nz Go.Proofs.YtmcdefkpkpaceaaGreatDoor.Qtp Go.Proofs.YtmcdefkpkpaceaaGreatDoor.Qparse

theorem sizs_app : ∀ a b : List Nod, sizs (toZs (a ++ b)) = sizs (toZs a) + sizs (toZs b)
  | [], b => by rw [List.nil_append, toZs, sizs, Nat.zero_add]
  | n :: r, b => by rw [List.cons_append, toZs, toZs, sizs, sizs, sizs_app r b, Nat.add_assoc]
theorem sizs_one (n : Nod) : sizs (toZs [n]) = siz (toZ n) := by rw [toZs, toZs, sizs, sizs, Nat.add_zero]
theorem flush_siz (acc : List Nod) (cur : T) : sizs (toZs (flushP acc cur)) ≤ sizs (toZs acc) + cur.length := by
  unfold flushP
  cases cur with
  | nil => exact Nat.le_add_right _ _
  | cons x r =>
    rw [if_neg (by simp)]
    rw [sizs_app, sizs_one, toZ, siz, toZs, sizs, List.length_cons]; omega
theorem scan_siz (p : UInt8 → T → Rd Nod) (hp : ∀ o t m, p o t = .ok m → siz (toZ m) ≤ t.length + 3) : ∀ (n : Nat) (acc : List Nod) (cur s : T) (l : List Nod), scanP p n acc cur s = .ok l → sizs (toZs l) ≤ sizs (toZs acc) + cur.length + s.length
  | 0, acc, cur, s, l, h => by
    have := flush_siz acc cur
    rw [scanP] at h
    cases h
    omega
  | n + 1, acc, cur, [], l, h => by
    have := flush_siz acc cur
    rw [scanP] at h
    cases h
    omega
  | n + 1, acc, cur, b :: r, l, h => by
    have hf := flush_siz acc cur
    rw [scanP.eq_def] at h
    dsimp only at h
    split at h
    · split at h
      · have := flush_siz acc (cur ++ [36])
        cases h
        rw [List.length_append, List.length_singleton] at this
        rw [List.length_cons]; omega
      · rename_i c r2
        split at h
        · have := scan_siz p hp n _ _ _ _ h
          rw [List.length_append, List.length_singleton] at this
          rw [List.length_cons, List.length_cons]; omega
        · split at h
          · split at h
            · cases h
            · rename_i e he
              have hel := ends_lt _ _ _ _ _ he
              split at h
              · cases h
              · rename_i m hm
                have h1 := hp _ _ _ hm
                have := scan_siz p hp n _ _ _ _ h
                rw [sizs_app, sizs_one, List.length_nil, List.length_drop] at this
                rw [List.length_take] at h1
                rw [List.length_cons, List.length_cons]; omega
          · have := scan_siz p hp n _ _ _ _ h
            rw [sizs_app, sizs_one] at this
            simp only [toZ, siz, toZs, sizs, List.length_nil] at this
            rw [List.length_cons, List.length_cons]; omega
    · have := scan_siz p hp n _ _ _ _ h
      rw [List.length_append, List.length_singleton] at this
      rw [List.length_cons]; omega
theorem whole_siz (l : List Nod) : siz (toZ (wholeP l)) ≤ sizs (toZs l) + 1 := by
  match l with
  | [] => exact Nat.le_refl _
  | [n] => rw [sizs_one]; exact Nat.le_succ _
  | a :: b :: r =>
    show siz (toZ (.mk 5 [] (a :: b :: r))) ≤ _
    rw [toZ, siz]; omega
/-- texts, with one for each -/
def tot : List T → Nat
  | [] => 0
  | t :: r => t.length + 1 + tot r
theorem list_siz (p : T → Rd Nod) (hp : ∀ t m, p t = .ok m → siz (toZ m) ≤ t.length + 1) : ∀ (ts : List T) (l : List Nod), listP p ts = .ok l → sizs (toZs l) ≤ tot ts
  | [], l, h => by rw [listP] at h; cases h; exact Nat.le_refl _
  | t :: r, l, h => by
    rw [listP] at h
    split at h
    · cases h
    · rename_i n hn
      cases hr : listP p r with
      | bad e => rw [hr] at h; cases h
      | ok m =>
        rw [hr] at h
        cases h
        have h1 := hp _ _ hn
        have h2 := list_siz p hp r m hr
        rw [toZs, sizs, tot]; omega
theorem args_tot (o c : UInt8) : ∀ (s : T) (d : Nat) (m : Option Nat) (cur : T), tot (argsP o c d m cur s) ≤ cur.length + s.length + 1
  | [], d, m, cur => by rw [argsP, tot, tot, List.length_nil]; omega
  | b :: r, d, m, cur => by
    have hs : ∀ d m, tot (argsP o c d m (cur ++ [b]) r) ≤ cur.length + (b :: r).length + 1 := fun d m => by
      have := args_tot o c r d m (cur ++ [b])
      rw [List.length_append, List.length_singleton] at this
      rw [List.length_cons]; omega
    rw [argsP]
    split
    · exact hs _ _
    · split
      · exact hs _ _
      · split
        · have := args_tot o c r 0 (m.map (· - 1)) []
          rw [List.length_nil] at this
          rw [tot, List.length_cons]; omega
        · exact hs _ _
theorem ref_siz (p : T → Rd Nod) (hp : ∀ t m, p t = .ok m → siz (toZ m) ≤ t.length + 1) (o : UInt8) (t : T) (n : Nod) (h : refP p o t = .ok n) : siz (toZ n) ≤ t.length + 3 := by
  have hm : ∀ (j : Nat) (f : T) (ts : List T), (listP p ts).map (Nod.mk j f) = .ok n → siz (toZ n) ≤ 1 + tot ts := by
    intro j f ts e
    cases hx : listP p ts with
    | bad e1 => rw [hx] at e; cases e
    | ok l =>
      rw [hx] at e
      cases e
      have := list_siz p hp ts l hx
      rw [toZ, siz]; omega
  unfold refP at h
  split at h
  · rename_i f r i hn
    obtain ⟨hsp, _⟩ := Qref.name_parts hn
    have ha := args_tot o (shutOf o) (Pure.left r) 0 (if i.mx = 0 then none else some (i.mx.toNat - 1)) []
    have hl := Pure.left_length r
    dsimp only at h
    generalize argsP _ _ _ _ _ _ = l at h ha
    split at h
    · cases h
    · have := hm _ _ _ h
      rw [List.length_nil] at ha
      rw [hsp, List.length_append]; omega
  · split at h
    · rename_i a b c hk
      have hsp := Qcuts.cuts_split hk
      have := hm _ _ _ h
      simp only [tot] at this
      rw [hsp]
      simp only [List.length_append, List.length_cons]; omega
    · have := hm _ _ _ h
      simp only [tot] at this
      omega
theorem parseP_siz : ∀ (m : Nat) (s : T) (n : Nod), parseP m s = .ok n → siz (toZ n) ≤ s.length + 1
  | 0, s, n, h => by
    rw [parseP] at h
    cases hx : scanP (fun _ _ => .bad .deep) (s.length + 1) [] [] s with
    | bad e => rw [hx] at h; cases h
    | ok l =>
      rw [hx] at h
      cases h
      have h1 := scan_siz _ (fun _ _ _ h => by cases h) _ _ _ _ _ hx
      have h2 := whole_siz l
      rw [toZs, sizs, List.length_nil] at h1
      omega
  | m + 1, s, n, h => by
    rw [parseP] at h
    cases hx : scanP (refP (parseP m)) (s.length + 1) [] [] s with
    | bad e => rw [hx] at h; cases h
    | ok l =>
      rw [hx] at h
      cases h
      have h1 := scan_siz _ (fun o t n h => ref_siz (parseP m) (fun t n h => parseP_siz m t n h) o t n h) _ _ _ _ _ hx
      have h2 := whole_siz l
      rw [toZs, sizs, List.length_nil] at h1
      omega
/-- what is read has at most as many nodes as the text has bytes, and one -/
theorem parse_siz {s : T} {n : Nod} (h : parse s = .ok n) : siz (toZ n) ≤ s.length + 1 := parseP_siz 40 s n h

end Go.Proofs.YtmcdefkpkpaceaaGreatDoor.Qbns
