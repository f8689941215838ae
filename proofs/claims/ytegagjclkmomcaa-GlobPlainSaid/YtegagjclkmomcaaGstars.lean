/- Plain facts on patterns of stars, question marks and letters; no program is named here. -/
import Derived.Test.YtegagjclkmomcaaGlb
namespace Go.Proofs.Ytegagjclkmomcaa.Gstars
open Go Go.Proofs.Ytegagjclkmomcaa.Glb

/-- the piece of one byte that is no [ and no backslash -/
def pieceOf (c : UInt8) : Pc := if c = 42 then ⟨true, true, none_⟩ else if c = 63 then ⟨true, false, neg none_⟩ else ⟨false, false, plus none_ c.toNat c.toNat⟩
theorem pcs_plain : ∀ (l : List UInt8) (n : Nat), l.length ≤ n → (∀ c ∈ l, c ≠ 91 ∧ c ≠ 92) → pcs n l false = l.map pieceOf := by
  intro l
  induction l with
  | nil => intro n _ _; cases n <;> rfl
  | cons c r ih =>
    intro n hn h
    obtain ⟨m, rfl⟩ : ∃ m, n = m + 1 := ⟨n - 1, by simp at hn; omega⟩
    have hc := h c (by simp)
    have hu1 : unqC (c :: r) = c := by
      cases r with
      | nil => rfl
      | cons d t => rw [unqC, if_neg hc.2]
    have hu2 : unqR (c :: r) = r := by
      cases r with
      | nil => rfl
      | cons d t => rw [unqR, if_neg hc.2]
    have h1 : nextP (c :: r) false = pieceOf c := by
      simp only [nextP, pieceOf, if_neg hc.1, byteP, hu1]
    have h2 : nextR (c :: r) false = r := by
      simp only [nextR, if_neg hc.1, hu2]
      split
      · rfl
      · split <;> rfl
    have h3 : nextO (c :: r) false = false := by simp only [nextO, if_neg hc.1]
    rw [pcs, h1, h2, h3, ih m (by simp at hn; omega) (fun d hd => h d (by simp [hd]))]
    rfl
theorem pieces_plain (l : List UInt8) (h : ∀ c ∈ l, c ≠ 91 ∧ c ≠ 92) : pieces l = l.map pieceOf := pcs_plain l _ (Nat.le_refl _) h

theorem has_self (c : UInt8) (h : c ≠ 42) : (pieceOf c).has c.toNat = true := by
  unfold pieceOf
  rw [if_neg h]
  split
  · rfl
  · simp [plus]
theorem star_no (c : UInt8) (h : c ≠ 42) : (pieceOf c).star = false := by
  unfold pieceOf
  rw [if_neg h]
  split <;> rfl
theorem star_yes : (pieceOf 42).star = true := rfl

/-- how many bytes are asked for -/
def need (l : List UInt8) : Nat := (l.filter (· != 42)).length
def okByte (c : UInt8) : Prop := c = 42 ∨ c = 63 ∨ c = 97
theorem has_a (c : UInt8) (h : okByte c) (h42 : c ≠ 42) : (pieceOf c).has 97 = true := by
  rcases h with rfl | rfl | rfl
  · exact absurd rfl h42
  · rfl
  · rfl
theorem drop_rep (n k : Nat) : (List.replicate n (97 : UInt8)).drop k = List.replicate (n - k) 97 := List.drop_replicate
/-- so many letters fit just if as many are asked for, or no more, where there is a star -/
theorem fit_count : ∀ (l : List UInt8), (∀ c ∈ l, okByte c) → ∀ n, fitL (l.map pieceOf) (List.replicate n 97) = (n == need l || (decide (need l < n) && l.contains 42)) := by
  intro l
  induction l with
  | nil => intro _ n; cases n <;> simp [fitL, need, List.replicate_succ]
  | cons c r ih =>
    intro h n
    have ihr := ih (fun d hd => h d (by simp [hd]))
    by_cases h42 : c = 42
    · subst h42
      rw [List.map_cons, fit_star _ _ _ star_yes]
      have hn : need (42 :: r) = need r := by simp [need]
      have hc : (42 :: r).contains 42 = true := by simp
      rw [hn, hc, Bool.eq_iff_iff, anyTail_iff]
      constructor
      · rintro ⟨k, hk, hf⟩
        rw [drop_rep, ihr] at hf
        rw [List.length_replicate] at hk
        simp at hf ⊢
        omega
      · intro hf
        simp at hf
        refine ⟨n - need r, by simp, ?_⟩
        rw [drop_rep, ihr]
        simp
        left
        omega
    · have hn : need (c :: r) = need r + 1 := by simp [need, h42]
      have hc : (c :: r).contains 42 = r.contains 42 := by
        have : ¬ (42 : UInt8) = c := fun e => h42 e.symm
        simp [this]
      rw [List.map_cons, hn, hc]
      cases n with
      | zero => simp [fitL, star_no c h42]
      | succ n =>
        rw [List.replicate_succ]
        have ha := has_a c (h c (by simp)) h42
        simp only [fitL, star_no c h42]
        rw [show (97 : UInt8).toNat = 97 from rfl, ha, ihr n, Bool.eq_iff_iff]
        simp
theorem magic_count (l : List UInt8) (h : ∀ c ∈ l, okByte c) : (l.map pieceOf).any (·.wild) = (l.contains 42 || l.contains 63) := by
  induction l with
  | nil => rfl
  | cons c r ih =>
    rw [List.map_cons, List.any_cons, ih (fun d hd => h d (by simp [hd]))]
    rcases h c (by simp) with rfl | rfl | rfl
    · simp [pieceOf]
    · simp [pieceOf]
    · simp [pieceOf]
theorem ok_simple {l : List UInt8} (h : ∀ c ∈ l, okByte c) : ∀ c ∈ l, c ≠ 91 ∧ c ≠ 92 := by
  intro c hc
  rcases h c hc with rfl | rfl | rfl <;> decide

/-! ### what is written -/
theorem fit_own : ∀ (u : List UInt8) (qs : List Pc) (s : List UInt8), fitL qs s = true → fitL (u.map pieceOf ++ qs) (u ++ s) = true := by
  intro u
  induction u with
  | nil => intro qs s h; exact h
  | cons c r ih =>
    intro qs s h
    rw [List.map_cons, List.cons_append, List.cons_append]
    by_cases h42 : c = 42
    · subst h42
      rw [fit_star_iff _ _ _ star_yes]
      exact ⟨1, by simp, by simpa using ih qs s h⟩
    · simp only [fitL, star_no c h42, has_self c h42]
      simpa using ih qs s h
/-- a byte's piece -/
def exactly (c : UInt8) : Pc := ⟨false, false, plus none_ c.toNat c.toNat⟩
theorem exactly_iff (c d : UInt8) : (exactly c).has d.toNat = (d == c) := by
  simp only [exactly, plus, none_, Bool.false_or]
  rw [Bool.eq_iff_iff, Bool.and_eq_true, decide_eq_true_iff, decide_eq_true_iff, beq_iff_eq, ← UInt8.toNat_inj]
  omega
theorem fit_exactly : ∀ (u s : List UInt8), fitL (u.map exactly) s = (s == u) := by
  intro u
  induction u with
  | nil => intro s; cases s <;> rfl
  | cons c r ih =>
    intro s
    cases s with
    | nil => rfl
    | cons d t =>
      rw [List.map_cons]
      show ((exactly c).has d.toNat && fitL (r.map exactly) t) = _
      rw [exactly_iff, ih t]
      rfl
end Go.Proofs.Ytegagjclkmomcaa.Gstars
