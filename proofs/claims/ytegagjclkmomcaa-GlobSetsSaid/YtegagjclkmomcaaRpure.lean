/- Plain facts: a [ that no ] ends is not looked at again; pieces from the back; no program is named here. -/
import Derived.Test.YtegagjclkmomcaaGlb
namespace Go.Proofs.Ytegagjclkmomcaa.Rpure
open Go Go.Proofs.Ytegagjclkmomcaa.Glb

/-! ### a ] that ends something -/
def cl : Nat → List UInt8 → Bool
  | 0, _ => false
  | _, [] => false
  | n + 1, c :: r => c == 93 || cl n (unqR (c :: r))
theorem cl_fuel : ∀ (n m : Nat) (l : List UInt8), l.length ≤ n → l.length ≤ m → cl n l = cl m l := by
  intro n
  induction n with
  | zero =>
    intro m l hn _
    have : l = [] := List.eq_nil_of_length_eq_zero (by omega)
    subst this
    cases m <;> rfl
  | succ n ih =>
    intro m l hn hm
    cases l with
    | nil => cases m <;> rfl
    | cons c r =>
      obtain ⟨k, rfl⟩ : ∃ k, m = k + 1 := ⟨m - 1, by simp at hm; omega⟩
      have := unqR_lt (l := c :: r) (by simp)
      simp only [cl]
      rw [ih k _ (by simp at hn this ⊢; omega) (by simp at hm this ⊢; omega)]
def clL (l : List UInt8) : Bool := cl l.length l
theorem clL_cons (c : UInt8) (r : List UInt8) : clL (c :: r) = (c == 93 || clL (unqR (c :: r))) := by
  have h := unqR_lt (l := c :: r) (by simp)
  unfold clL
  rw [List.length_cons]
  simp only [cl]
  rw [cl_fuel r.length (unqR (c :: r)).length _ (by simp at h; omega) (Nat.le_refl _)]
theorem clL_next {l : List UInt8} (h : clL l = false) : clL (unqR l) = false := by
  cases l with
  | nil => rfl
  | cons c r =>
    rw [clL_cons] at h
    simp at h
    exact h.2
theorem unqR_plain {c : UInt8} {r : List UInt8} (h : c ≠ 92) : unqR (c :: r) = r := by
  cases r with
  | nil => rfl
  | cons d t => rw [unqR, if_neg h]
theorem clL_elR (r : List UInt8) : clL (elR r) = clL r := by
  unfold elR
  cases hr : rng r with
  | false => rfl
  | true =>
    match r, hr with
    | a :: b :: t, hr =>
      have hab : a = 45 ∧ b ≠ 93 := by
        simp [rng] at hr
        exact hr
      obtain ⟨rfl, hb⟩ := hab
      have e1 : clL (45 :: b :: t) = clL (b :: t) := by
        rw [clL_cons, unqR_plain (by decide)]
        rfl
      have e2 : clL (b :: t) = clL (unqR (b :: t)) := by
        rw [clL_cons]
        have : (b == 93) = false := by simpa using hb
        rw [this]; rfl
      rw [e1, e2]
      rfl
/-- a set is found just if a ] ends it -/
theorem inset_false : ∀ (n : Nat) (p : Nat → Bool) (l : List UInt8), l.length ≤ n → clL l = false → inset n false p l = none := by
  intro n
  induction n with
  | zero => intro p l _ _; rfl
  | succ n ih =>
    intro p l hn h
    cases l with
    | nil => rfl
    | cons c r =>
      have hc : ¬ c = 93 := by
        rw [clL_cons] at h
        simp at h
        exact h.1
      rw [inset, if_neg (by intro e; exact hc e.1)]
      have h1 := unqR_lt (l := c :: r) (by simp)
      have h2 := elR_le (unqR (c :: r))
      exact ih _ _ (by simp at hn h1 ⊢; omega) (by rw [clL_elR]; exact clL_next h)
theorem inset_first (n : Nat) (p : Nat → Bool) (l : List UInt8) (hn : l.length ≤ n) (h : clL (unqR l) = false) : inset n true p l = none := by
  cases l with
  | nil => cases n <;> rfl
  | cons c r =>
    obtain ⟨m, rfl⟩ : ∃ m, n = m + 1 := ⟨n - 1, by simp at hn; omega⟩
    rw [inset, if_neg (by intro e; cases e.2)]
    have h1 := unqR_lt (l := c :: r) (by simp)
    have h2 := elR_le (unqR (c :: r))
    exact inset_false _ _ _ (by simp at hn h1 ⊢; omega) (by rw [clL_elR]; exact h)
theorem inset_true : ∀ (n : Nat) (p : Nat → Bool) (l : List UInt8), l.length ≤ n → inset n false p l = none → clL l = false := by
  intro n
  induction n with
  | zero =>
    intro p l hn _
    rw [List.eq_nil_of_length_eq_zero (Nat.le_zero.1 hn)]; rfl
  | succ n ih =>
    intro p l hn h
    cases l with
    | nil => rfl
    | cons c r =>
      rw [inset] at h
      by_cases hc : c = 93
      · rw [if_pos ⟨hc, rfl⟩] at h; cases h
      · rw [if_neg (by intro e; exact hc e.1)] at h
        have h1 := unqR_lt (l := c :: r) (by simp)
        have h2 := elR_le (unqR (c :: r))
        have h3 := ih _ _ (by simp at hn h1 ⊢; omega) h
        rw [clL_elR] at h3
        rw [clL_cons, h3]
        simpa using hc
theorem inset_first_true (n : Nat) (p : Nat → Bool) (l : List UInt8) (hn : l.length ≤ n) (h : inset n true p l = none) : clL (unqR l) = false := by
  cases l with
  | nil => rfl
  | cons c r =>
    obtain ⟨m, rfl⟩ : ∃ m, n = m + 1 := ⟨n - 1, by simp at hn; omega⟩
    rw [inset, if_neg (by intro e; cases e.2)] at h
    have h1 := unqR_lt (l := c :: r) (by simp)
    have h2 := elR_le (unqR (c :: r))
    have h3 := inset_true _ _ _ (by simp at hn h1 ⊢; omega) h
    rw [clL_elR] at h3
    exact h3
theorem but_unq {r : List UInt8} (h : isBut r = true) : r.drop 1 = unqR r := by
  cases r with
  | nil => rfl
  | cons c t =>
    simp [isBut] at h
    rw [unqR_plain (by rcases h with rfl | rfl <;> decide)]
    rfl
/-- no set behind a [: then no ] but at the next two places -/
theorem none_dead {r : List UInt8} (h : readSet r = none) : clL (unqR (unqR r)) = false := by
  unfold readSet at h
  cases hb : isBut r with
  | false =>
    rw [hb] at h
    exact clL_next (inset_first_true _ _ _ (Nat.le_refl _) h)
  | true =>
    rw [hb] at h
    simp only [if_true, Option.map_eq_none_iff] at h
    have := inset_first_true _ _ _ (by rw [List.length_drop]; omega) h
    rw [but_unq hb] at this
    exact this
theorem dead_none {r : List UInt8} (h : clL (unqR r) = false) : readSet r = none := by
  unfold readSet
  cases hb : isBut r with
  | false => exact inset_first _ _ _ (Nat.le_refl _) h
  | true =>
    simp only [if_true, Option.map_eq_none_iff]
    apply inset_first _ _ _ (by rw [List.length_drop]; omega)
    rw [but_unq hb]
    exact clL_next h
/-- pieces, each [ looked at anew -/
def pcsF : Nat → List UInt8 → List Pc
  | 0, _ => []
  | _, [] => []
  | n + 1, c :: r => nextP (c :: r) false :: pcsF n (nextR (c :: r) false)
theorem next_dead (c : UInt8) (r : List UInt8) (h : clL (unqR (unqR (c :: r))) = false) : nextP (c :: r) true = nextP (c :: r) false ∧ nextR (c :: r) true = nextR (c :: r) false ∧ nextO (c :: r) true = true ∧ nextR (c :: r) true = unqR (c :: r) := by
  have e42 : c = 42 → unqR (c :: r) = r := by rintro rfl; exact unqR_plain (by decide)
  have e63 : c = 63 → unqR (c :: r) = r := by rintro rfl; exact unqR_plain (by decide)
  by_cases h91 : c = 91
  · subst h91
    have hn : readSet r = none := dead_none (by rw [unqR_plain (by decide)] at h; exact h)
    refine ⟨?_, ?_, ?_, ?_⟩
    · simp [nextP, hn]
    · simp [nextR, hn]
    · simp [nextO]
    · simp [nextR]
  · refine ⟨?_, ?_, ?_, ?_⟩
    · simp [nextP, h91]
    · simp [nextR, h91]
    · simp [nextO, h91]
    · by_cases h1 : c = 42
      · rw [e42 h1]; simp [nextR, h1]
      · by_cases h2 : c = 63
        · rw [e63 h2]; simp [nextR, h2]
        · simp [nextR, h1, h2, h91]
theorem pcs_same : ∀ (n : Nat) (l : List UInt8) (o : Bool), (o = true → clL (unqR (unqR l)) = false) → pcs n l o = pcsF n l := by
  intro n
  induction n with
  | zero => intro l o _; rfl
  | succ n ih =>
    intro l o h
    cases l with
    | nil => rfl
    | cons c r =>
      simp only [pcs, pcsF]
      cases o with
      | true =>
        obtain ⟨h1, h2, h3, h4⟩ := next_dead c r (h rfl)
        rw [h1, h3, ← h2, ih _ true (fun _ => by rw [h4]; exact clL_next (h rfl))]
      | false =>
        rw [ih]
        intro ho
        have h91 : c = 91 := by
          by_cases h91 : c = 91
          · exact h91
          · simp [nextO, h91] at ho
        subst h91
        cases hs : readSet r with
        | some x => simp [nextO, hs] at ho
        | none =>
          have : nextR (91 :: r) false = r := by simp [nextR, hs, unqR_plain]
          rw [this]
          exact none_dead hs
theorem pieces_same (l : List UInt8) : pieces l = pcsF l.length l := pcs_same _ _ _ (fun h => by cases h)

/-! ### one piece more at the back -/
theorem fit_snoc_star : ∀ (qs : List Pc) (x : Pc) (t : List UInt8), x.star = true → (fitL (qs ++ [x]) t = true ↔ ∃ j, j ≤ t.length ∧ fitL qs (t.take j) = true) := by
  intro qs
  induction qs with
  | nil =>
    intro x t hx
    rw [List.nil_append, fit_star_iff _ _ _ hx]
    constructor
    · intro _; exact ⟨0, Nat.zero_le _, by simp [fitL]⟩
    · intro _; exact ⟨t.length, Nat.le_refl _, by simp [fitL]⟩
  | cons y qs ih =>
    intro x t hx
    rw [List.cons_append]
    cases hy : y.star with
    | true =>
      rw [fit_star_iff _ _ _ hy]
      constructor
      · rintro ⟨k, hk, hf⟩
        rw [ih x _ hx] at hf
        obtain ⟨j, hj, hf⟩ := hf
        rw [List.length_drop] at hj
        refine ⟨k + j, by omega, ?_⟩
        rw [fit_star_iff _ _ _ hy]
        refine ⟨k, by rw [List.length_take]; omega, ?_⟩
        rw [List.drop_take, show k + j - k = j by omega]
        exact hf
      · rintro ⟨j, hj, hf⟩
        rw [fit_star_iff _ _ _ hy] at hf
        obtain ⟨k, hk, hf⟩ := hf
        rw [List.length_take] at hk
        rw [List.drop_take] at hf
        refine ⟨k, by omega, ?_⟩
        rw [ih x _ hx]
        exact ⟨j - k, by rw [List.length_drop]; omega, hf⟩
    | false =>
      cases t with
      | nil =>
        simp only [fitL, hy]
        constructor
        · intro h; cases h
        · rintro ⟨j, _, hf⟩; simp at hf
      | cons c t =>
        simp only [fitL, hy, Bool.false_eq_true, if_false]
        rw [Bool.and_eq_true, ih x t hx]
        constructor
        · rintro ⟨h1, j, hj, hf⟩
          exact ⟨j + 1, by simp; omega, by simp [h1, hf]⟩
        · rintro ⟨j, hj, hf⟩
          cases j with
          | zero => simp at hf
          | succ j =>
            simp at hf hj
            exact ⟨hf.1, j, hj, hf.2⟩
theorem fit_snoc_nil : ∀ (qs : List Pc) (x : Pc), x.star = false → fitL (qs ++ [x]) [] = false := by
  intro qs
  induction qs with
  | nil => intro x hx; simp [fitL, hx]
  | cons y qs ih =>
    intro x hx
    rw [List.cons_append]
    simp only [fitL, anyTail, ih x hx]
    split <;> rfl
theorem fit_snoc_one : ∀ (qs : List Pc) (x : Pc) (t : List UInt8) (c : UInt8), x.star = false → fitL (qs ++ [x]) (t ++ [c]) = (fitL qs t && x.has c.toNat) := by
  intro qs
  induction qs with
  | nil =>
    intro x t c hx
    cases t with
    | nil => simp [fitL, hx]
    | cons d t =>
      rw [List.nil_append, List.cons_append]
      simp only [fitL, hx]
      cases t <;> simp
  | cons y qs ih =>
    intro x t c hx
    rw [List.cons_append]
    cases hy : y.star with
    | true =>
      rw [Bool.eq_iff_iff, fit_star_iff _ _ _ hy, Bool.and_eq_true, fit_star_iff _ _ _ hy]
      constructor
      · rintro ⟨k, hk, hf⟩
        by_cases hkl : k ≤ t.length
        · rw [List.drop_append_of_le_length hkl, ih x _ c hx, Bool.and_eq_true] at hf
          exact ⟨⟨k, hkl, hf.1⟩, hf.2⟩
        · rw [List.drop_eq_nil_of_le (by simp at hk ⊢; omega), fit_snoc_nil qs x hx] at hf
          cases hf
      · rintro ⟨⟨k, hk, hf⟩, hc⟩
        refine ⟨k, by simp; omega, ?_⟩
        rw [List.drop_append_of_le_length hk, ih x _ c hx, hf, hc]; rfl
    | false =>
      cases t with
      | nil =>
        rw [List.nil_append]
        simp only [fitL, hy]
        rw [fit_snoc_nil qs x hx]
        simp
      | cons d t =>
        rw [List.cons_append]
        simp only [fitL, hy, Bool.false_eq_true, if_false]
        rw [ih x t c hx, Bool.and_assoc]
end Go.Proofs.Ytegagjclkmomcaa.Rpure
