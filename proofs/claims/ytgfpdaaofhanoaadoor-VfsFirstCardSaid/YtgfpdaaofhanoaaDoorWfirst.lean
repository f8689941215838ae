/- The first one wins (no program). -/
import Derived.Test.YtgfpdaaofhanoaaDoorWrot
namespace Go.Proofs.YtgfpdaaofhanoaaDoor.Wfirst
open Go.Proofs.YtgfpdaaofhanoaaDoor.Pth Go.Proofs.YtgfpdaaofhanoaaDoor.Vfs

theorem putR_keeps (d : Bool) (t : ByteArray) : ∀ (rest : Wy) {K : List Ent} {pre q : Wy} {e : Ent}, at_ K q = some e → at_ (putR d t K pre rest) q = some e
  | [], _, _, _, _, h => h
  | x :: r, K, pre, q, e, h => by
    cases hc : at_ K (pre ++ [x]) with
    | some n =>
      cases hn : n.dir with
      | true => rw [putR_there hc hn]; exact putR_keeps d t r h
      | false => rw [putR_file hc hn]; exact h
    | none => rw [putR_new hc]; exact putR_keeps d t r (at_snoc_some h)
/-- a file comes from what was put -/
theorem putR_file_from (d : Bool) (t : ByteArray) : ∀ (rest : Wy) {K : List Ent} {pre q : Wy} {e : Ent}, at_ K q = none → at_ (putR d t K pre rest) q = some e → e.dir = false → q = pre ++ rest ∧ d = false ∧ e.text = t
  | [], _, _, _, _, h0, h, _ => by rw [putR_nil, h0] at h; cases h
  | x :: r, K, pre, q, e, h0, h, hd => by
    cases hc : at_ K (pre ++ [x]) with
    | some n =>
      cases hn : n.dir with
      | true =>
        rw [putR_there hc hn] at h
        have := putR_file_from d t r h0 h hd
        rw [List.append_assoc] at this
        exact this
      | false => rw [putR_file hc hn, h0] at h; cases h
    | none =>
      rw [putR_new hc] at h
      cases hq : at_ (K ++ [nextE d t pre x r]) q with
      | none =>
        have := putR_file_from d t r hq h hd
        rw [List.append_assoc] at this
        exact this
      | some e0 =>
        have he : e0 = e := Option.some.inj ((putR_keeps d t r hq).symm.trans h)
        have hpt : (nextE d t pre x r).pt = q := Decidable.byContradiction fun hne => by
          rw [at_snoc_other hne, h0] at hq
          cases hq
        rw [at_snoc_same h0 hpt] at hq
        have hen : nextE d t pre x r = e := (Option.some.inj hq).trans he
        have hr : r = [] := Decidable.byContradiction fun hr => by
          have := nextE_dir d t pre x r hr
          rw [hen, hd] at this
          cases this
        subst hr
        have hx : nextE d t pre x [] = ⟨pre ++ [x], d, t⟩ := by unfold nextE; rw [if_pos rfl]
        rw [hx] at hen hpt
        rw [← hen] at hd ⊢
        exact ⟨hpt.symm, hd, rfl⟩
/-- what was put is there, or a file was in the way -/
theorem putR_or (d : Bool) (t : ByteArray) : ∀ (rest : Wy) {K : List Ent} {pre : Wy}, rest ≠ [] → (∃ e, at_ (putR d t K pre rest) (pre ++ rest) = some e) ∨ ∃ q s f, rest = q ++ s ∧ q ≠ [] ∧ s ≠ [] ∧ at_ K (pre ++ q) = some f ∧ f.dir = false
  | [], _, _, h => absurd rfl h
  | x :: r, K, pre, _ => by
    have e1 : pre ++ x :: r = (pre ++ [x]) ++ r := by rw [List.append_assoc]; rfl
    cases hc : at_ K (pre ++ [x]) with
    | some n =>
      cases hn : n.dir with
      | true =>
        rw [putR_there hc hn, e1]
        by_cases hr : r = []
        · subst hr
          exact .inl ⟨n, by rw [putR_nil, List.append_nil]; exact hc⟩
        · rcases putR_or d t r (K := K) (pre := pre ++ [x]) hr with h | ⟨q, s, f, h1, h2, h3, h4, h5⟩
          · exact .inl h
          · exact .inr ⟨x :: q, s, f, by rw [h1]; rfl, by simp, h3, by rw [List.append_assoc] at h4; exact h4, h5⟩
      | false =>
        by_cases hr : r = []
        · subst hr
          exact .inl ⟨n, by rw [putR_file hc hn]; exact hc⟩
        · exact .inr ⟨[x], r, n, rfl, by simp, hr, hc, hn⟩
    | none =>
      rw [putR_new hc, e1]
      by_cases hr : r = []
      · subst hr
        exact .inl ⟨_, by rw [putR_nil, List.append_nil]; exact at_snoc_same hc (nextE_pt ..)⟩
      · rcases putR_or d t r (K := K ++ [nextE d t pre x r]) (pre := pre ++ [x]) hr with h | ⟨q, s, f, h1, h2, h3, h4, h5⟩
        · exact .inl h
        · rw [at_snoc_other (fun e0 => h2 (by
            rw [nextE_pt] at e0
            exact (List.self_eq_append_right.1 e0))), List.append_assoc] at h4
          exact .inr ⟨x :: q, s, f, by rw [h1]; rfl, by simp, h3, h4, h5⟩

def upT (l : List Raw) (k : Nat) : List Ent := (l.take k).foldl putE []
theorem upT_succ {l : List Raw} {k : Nat} {x : Raw} (h : l[k]? = some x) : upT l (k + 1) = putE (upT l k) x := by
  obtain ⟨hk, rfl⟩ := List.getElem?_eq_some_iff.1 h
  unfold upT
  rw [List.take_succ_eq_append_getElem hk, List.foldl_append]; rfl
theorem upT_inv (l : List Raw) (k : Nat) : Vfs.Inv (upT l k) := foldl_inv _ inv_nil
theorem upT_keeps {l : List Raw} {q : Wy} {e : Ent} {k : Nat} (h : at_ (upT l k) q = some e) : ∀ m, k + m ≤ l.length → at_ (upT l (k + m)) q = some e
  | 0, _ => h
  | m + 1, hm => by
    have ih := upT_keeps h m (by omega)
    have hx : l[k + m]? = some l[k + m] := List.getElem?_eq_getElem (by omega)
    show at_ (upT l (k + m + 1)) q = some e
    rw [upT_succ hx]
    exact putR_keeps _ _ _ ih
/-- where a file comes from -/
theorem upT_from {l : List Raw} {q : Wy} {e : Ent} (hd : e.dir = false) : ∀ k, k ≤ l.length → at_ (upT l k) q = some e → ∃ j x, j < k ∧ l[j]? = some x ∧ partsOf x.path = q
  | 0, _, h => by cases h
  | k + 1, hk, h => by
    have hx : l[k]? = some l[k] := List.getElem?_eq_getElem (by omega)
    cases hc : at_ (upT l k) q with
    | some e0 =>
      have h2 := upT_keeps hc 1 (by omega)
      have he : e0 = e := Option.some.inj (h2.symm.trans h)
      subst he
      obtain ⟨j, x, h3, h4, h5⟩ := upT_from hd k (by omega) hc
      exact ⟨j, x, by omega, h4, h5⟩
    | none =>
      rw [upT_succ hx] at h
      obtain ⟨h1, _, _⟩ := putR_file_from _ _ _ hc h hd
      exact ⟨k, l[k], by omega, hx, h1.symm⟩
theorem first_wins {l : List Raw} {i : Nat} {x : Raw} {e : Ent} (hl : l.length ≤ 200) (hx : l[i]? = some x) (h0 : partsOf x.path ≠ []) (he : at_ (newL l) (partsOf x.path) = some e) (hd : e.dir = false)
    (hn : ∀ j y, j < i → l[j]? = some y → partsOf y.path ≠ partsOf x.path) : e.text = x.text := by
  have hi := (List.getElem?_eq_some_iff.1 hx).1
  have hall : newL l = upT l l.length := by
    unfold newL upT
    rw [List.take_of_length_le hl, List.take_length]
  rw [hall] at he
  cases hc : at_ (upT l i) (partsOf x.path) with
  | some e0 =>
    have h2 := upT_keeps hc (l.length - i) (by omega)
    rw [show i + (l.length - i) = l.length by omega] at h2
    have he0 : e0 = e := Option.some.inj (h2.symm.trans he)
    subst he0
    obtain ⟨j, y, h3, h4, h5⟩ := upT_from hd i (by omega) hc
    exact absurd h5 (hn j y h3 h4)
  | none =>
    have hor := putR_or x.dir (textOf x) (partsOf x.path) (K := upT l i) (pre := []) h0
    rcases hor with ⟨e1, h1⟩ | ⟨q, s, f, h1, h2, h3, h4, h5⟩
    · have h6 : at_ (upT l (i + 1)) (partsOf x.path) = some e1 := by rw [upT_succ hx]; exact h1
      have h7 := upT_keeps h6 (l.length - (i + 1)) (by omega)
      rw [show i + 1 + (l.length - (i + 1)) = l.length by omega] at h7
      have he1 : e1 = e := Option.some.inj (h7.symm.trans he)
      subst he1
      obtain ⟨_, h8, h9⟩ := putR_file_from _ _ _ hc h1 hd
      rw [h9]
      unfold textOf
      rw [h8]; rfl
    · have h6 := upT_keeps (h4 : at_ (upT l i) q = some f) (l.length - i) (by omega)
      rw [show i + (l.length - i) = l.length by omega] at h6
      rw [h1] at he
      obtain ⟨d, h7, h8⟩ := (upT_inv l l.length).pre he h2 h3
      rw [Option.some.inj (h6.symm.trans h7), h8] at h5
      cases h5

end Go.Proofs.YtgfpdaaofhanoaaDoor.Wfirst
