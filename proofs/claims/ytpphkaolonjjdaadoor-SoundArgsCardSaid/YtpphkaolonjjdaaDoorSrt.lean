/- Strictly rising lists of texts: sorted and compacted; two of them with the same members are the same. (No program.) -/
import Derived.Lib.SlicesCompact
import Derived.Lib.RowBridge
namespace Go.Proofs.YtpphkaolonjjdaaDoor.Srt

abbrev T := List UInt8
/-- strictly rising -/
def Up (l : List T) : Prop := l.Pairwise (· < ·)

theorem lt_of_le_ne {a b : T} (h : a ≤ b) (hn : a ≠ b) : a < b := by
  rcases Decidable.em (a < b) with h1 | h1
  · exact h1
  · exact absurd (List.le_antisymm h (List.not_lt.1 h1)) hn
theorem lt_irrefl' (a : T) : ¬ a < a := List.lt_irrefl a
theorem lt_trans' {a b c : T} (h : a < b) (k : b < c) : a < c := List.lt_trans h k
theorem not_lt_of_lt {a b : T} (h : a < b) : ¬ b < a := fun k => lt_irrefl' _ (lt_trans' h k)
theorem lt_or {a b : T} (h : ¬ a < b) : a = b ∨ b < a := by
  by_cases e : a = b
  · exact .inl e
  · exact .inr (lt_of_le_ne (List.not_lt.1 h) (fun h2 => e h2.symm))

/-- two strictly rising lists with the same members are the same -/
theorem up_unique : ∀ {l m : List T}, Up l → Up m → (∀ x, x ∈ l ↔ x ∈ m) → l = m
  | [], [], _, _, _ => rfl
  | [], b :: m, _, _, h => absurd ((h b).2 List.mem_cons_self) List.not_mem_nil
  | a :: l, [], _, _, h => absurd ((h a).1 List.mem_cons_self) List.not_mem_nil
  | a :: l, b :: m, hl, hm, h => by
    obtain ⟨ha, hl'⟩ := List.pairwise_cons.1 hl
    obtain ⟨hb, hm'⟩ := List.pairwise_cons.1 hm
    have hab : a = b := by
      rcases List.mem_cons.1 ((h a).1 List.mem_cons_self) with e | e
      · exact e
      · rcases List.mem_cons.1 ((h b).2 List.mem_cons_self) with e2 | e2
        · exact e2.symm
        · exact absurd (ha _ e2) (not_lt_of_lt (hb _ e))
    subst hab
    rw [up_unique hl' hm' (fun x => ?_)]
    constructor
    · intro hx
      rcases List.mem_cons.1 ((h x).1 (List.mem_cons_of_mem _ hx)) with e | e
      · subst e; exact absurd (ha _ hx) (lt_irrefl' _)
      · exact e
    · intro hx
      rcases List.mem_cons.1 ((h x).2 (List.mem_cons_of_mem _ hx)) with e | e
      · subst e; exact absurd (hb _ hx) (lt_irrefl' _)
      · exact e

theorem getBang (l : List T) (j : Nat) (h : j < l.length) : l.toArray[j]! = l[j] := by
  rw [getElem!_pos l.toArray j (by simpa using h)]; simp

/-- of a list that does not fall, what is kept of its first m rises strictly, and its members are theirs -/
theorem compact_upTo (l : List T) (hl : l.Pairwise (· ≤ ·)) : ∀ m, m ≤ l.length → Up (Lib.compactUpTo l.toArray m) ∧ ∀ x, x ∈ Lib.compactUpTo l.toArray m ↔ x ∈ l.take m
  | 0, _ => ⟨List.Pairwise.nil, fun x => by simp [Lib.compactUpTo]⟩
  | m + 1, hm => by
    obtain ⟨hu, hmem⟩ := compact_upTo l hl m (by omega)
    rw [Lib.compactUpTo_succ, getBang l m (by omega), List.take_succ_eq_append_getElem (by omega)]
    have hle : ∀ j (hj : j < m), l[j]'(by omega) ≤ l[m] := fun j hj => (List.pairwise_iff_getElem.1 hl) j m (by omega) (by omega) hj
    have hle' : ∀ y ∈ l.take m, y ≤ l[m] := fun y hy => by
      obtain ⟨j, hj, rfl⟩ := List.getElem_of_mem hy
      rw [List.length_take] at hj
      rw [List.getElem_take]
      exact hle j (by omega)
    by_cases hk : Lib.keeps l.toArray m = true
    · rw [if_pos hk]
      have hnew : ∀ y ∈ l.take m, y < l[m] := by
        intro y hy
        refine lt_of_le_ne (hle' y hy) (fun e => ?_)
        obtain ⟨j, hj, rfl⟩ := List.getElem_of_mem hy
        rw [List.length_take] at hj
        rw [List.getElem_take] at e
        have hk' : m = 0 ∨ l.toArray[m]! ≠ l.toArray[m - 1]! := by simpa [Lib.keeps] using hk
        rcases hk' with h0 | h0
        · omega
        · rw [getBang l m (by omega), getBang l (m - 1) (by omega)] at h0
          refine h0 (List.le_antisymm ?_ (hle (m - 1) (by omega)))
          rw [← e]
          by_cases hj2 : j = m - 1
          · subst hj2; exact List.le_refl _
          · exact (List.pairwise_iff_getElem.1 hl) j (m - 1) (by omega) (by omega) (by omega)
      refine ⟨?_, fun x => by rw [List.mem_append, List.mem_append, hmem]⟩
      unfold Up
      rw [List.pairwise_append]
      exact ⟨hu, List.pairwise_singleton _ _, fun y hy z hz => by rw [List.mem_singleton.1 hz]; exact hnew y ((hmem y).1 hy)⟩
    · have hk' : Lib.keeps l.toArray m = false := by simpa using hk
      rw [if_neg hk, List.append_nil]
      refine ⟨hu, fun x => ?_⟩
      rw [List.mem_append, hmem]
      constructor
      · exact .inl
      · rintro (h | h)
        · exact h
        · have hne : ¬ (m = 0 ∨ l.toArray[m]! ≠ l.toArray[m - 1]!) := by simpa [Lib.keeps] using hk'
          have h0 : 0 < m := by omega
          have heq : l[m] = l[m - 1]'(by omega) := by
            have := hne
            rw [getBang l m (by omega), getBang l (m - 1) (by omega)] at this
            exact Decidable.not_not.1 (fun e => this (.inr e))
          rw [List.mem_singleton.1 h, heq]
          exact List.mem_take_iff_getElem.2 ⟨m - 1, by omega, rfl⟩

/-- sorted, each once -/
def sortT (l : List T) : List T := Lib.compact (l.mergeSort fun x y => decide (x ≤ y))

theorem sorted_le (l : List T) : (l.mergeSort fun x y => decide (x ≤ y)).Pairwise (· ≤ ·) := by
  have h := List.pairwise_mergeSort (le := fun x y : T => decide (x ≤ y)) (by
    intro a b c h1 h2
    simp only [decide_eq_true_eq] at h1 h2 ⊢
    exact List.le_trans h1 h2) (by
    intro a b
    simp only [Bool.or_eq_true, decide_eq_true_eq]
    exact List.le_total a b) l
  exact h.imp (fun h => by simpa using h)

theorem sortT_up (l : List T) : Up (sortT l) := (compact_upTo _ (sorted_le l) _ (Nat.le_refl _)).1
theorem sortT_mem (l : List T) (x : T) : x ∈ sortT l ↔ x ∈ l := by
  have := (compact_upTo _ (sorted_le l) _ (Nat.le_refl _)).2 x
  rw [List.take_length] at this
  exact this.trans List.mem_mergeSort
theorem sortT_eq {l m : List T} (hm : Up m) (h : ∀ x, x ∈ m ↔ x ∈ l) : sortT l = m :=
  up_unique (sortT_up l) hm (fun x => (sortT_mem l x).trans (h x).symm)
theorem sortT_len (l : List T) : (sortT l).length ≤ l.length := by
  have h := Lib.compact_length_le (l.mergeSort fun x y => decide (x ≤ y))
  rwa [List.length_mergeSort] at h
theorem sortT_nil (l : List T) : sortT l = [] ↔ l = [] := by
  constructor
  · intro h
    cases l with
    | nil => rfl
    | cons a l => exact absurd ((sortT_mem (a :: l) a).2 List.mem_cons_self) (by rw [h]; exact List.not_mem_nil)
  · rintro rfl
    exact List.eq_nil_of_length_eq_zero (Nat.le_zero.1 (sortT_len []))

/-- what rises strictly, with one more put in its place -/
theorem up_insert (l : List T) (x : T) (k : Nat) (hl : Up l) (h1 : ∀ j y, j < k → l[j]? = some y → y < x) (h2 : ∀ j y, k ≤ j → l[j]? = some y → x < y) : Up (l.take k ++ x :: l.drop k) := by
  have hlo : ∀ y ∈ l.take k, y < x := fun y hy => by
    obtain ⟨j, hj, rfl⟩ := List.getElem_of_mem hy
    rw [List.length_take] at hj
    exact h1 j _ (by omega) (by rw [List.getElem_take, List.getElem?_eq_getElem (by omega)])
  have hhi : ∀ y ∈ l.drop k, x < y := fun y hy => by
    obtain ⟨j, hj, rfl⟩ := List.getElem_of_mem hy
    rw [List.length_drop] at hj
    exact h2 (k + j) _ (by omega) (by rw [List.getElem_drop, List.getElem?_eq_getElem (by omega)])
  unfold Up at *
  have hs := hl
  rw [← List.take_append_drop k l, List.pairwise_append] at hs
  rw [List.pairwise_append, List.pairwise_cons]
  refine ⟨hs.1, ⟨hhi, hs.2.1⟩, fun a ha b hb => ?_⟩
  rcases List.mem_cons.1 hb with rfl | hb
  · exact hlo a ha
  · exact lt_trans' (hlo a ha) (hhi b hb)
theorem mem_insert (l : List T) (x y : T) (k : Nat) : y ∈ l.take k ++ x :: l.drop k ↔ y = x ∨ y ∈ l := by
  rw [List.mem_append, List.mem_cons]
  have : y ∈ l ↔ y ∈ l.take k ∨ y ∈ l.drop k := by rw [← List.mem_append, List.take_append_drop]
  rw [this]
  constructor
  · rintro (h | h | h)
    · exact .inr (.inl h)
    · exact .inl h
    · exact .inr (.inr h)
  · rintro (h | h | h)
    · exact .inr (.inl h)
    · exact .inl h
    · exact .inr (.inr h)
theorem up_get {l : List T} (h : Up l) {i j : Nat} {x y : T} (hij : i < j) (hx : l[i]? = some x) (hy : l[j]? = some y) : x < y := by
  obtain ⟨hi, rfl⟩ := List.getElem?_eq_some_iff.1 hx
  obtain ⟨hj, rfl⟩ := List.getElem?_eq_some_iff.1 hy
  exact (List.pairwise_iff_getElem.1 h) i j hi hj hij

end Go.Proofs.YtpphkaolonjjdaaDoor.Srt
