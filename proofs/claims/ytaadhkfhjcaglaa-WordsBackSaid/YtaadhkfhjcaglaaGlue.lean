/- Plain facts on words and blanks put together, and on what is cut from them again. -/
import Derived.Test.YtaadhkfhjcaglaaPure
namespace Go.Proofs.Ytaadhkfhjcaglaa.Glue
open Go Go.Proofs.Ytaadhkfhjcaglaa.Pure

def okB (l : List UInt8) : Prop := l ≠ [] ∧ (∀ c ∈ l, isBl c = true) ∧ l.length ≤ 3
def okW (l : List UInt8) : Prop := l ≠ [] ∧ (∀ c ∈ l, isBl c = false) ∧ l.length ≤ 9
def Pairs (ps : List (List UInt8 × List UInt8)) : Prop := ∀ p ∈ ps, okB p.1 ∧ okW p.2
def glue (ps : List (List UInt8 × List UInt8)) : List UInt8 := (ps.map fun p => p.1 ++ p.2).flatten

theorem okB_one : okB [32] := ⟨by simp, by decide, by decide⟩
theorem glue_nil : glue [] = [] := rfl
theorem glue_cons (p : List UInt8 × List UInt8) (r : List (List UInt8 × List UInt8)) : glue (p :: r) = p.1 ++ (p.2 ++ glue r) := by simp [glue]
theorem glue_snoc (ps : List (List UInt8 × List UInt8)) (b w : List UInt8) : glue (ps ++ [(b, w)]) = glue ps ++ b ++ w := by simp [glue]
theorem good_snoc {ps : List (List UInt8 × List UInt8)} {b w : List UInt8} (h : Pairs ps) (hb : okB b) (hw : okW w) : Pairs (ps ++ [(b, w)]) := by
  intro p hp
  rcases List.mem_append.1 hp with hp | hp
  · exact h p hp
  · obtain rfl : p = (b, w) := by simpa using hp
    exact ⟨hb, hw⟩
theorem glue_length {ps : List (List UInt8 × List UInt8)} (h : Pairs ps) : (glue ps).length ≤ 12 * ps.length := by
  induction ps with
  | nil => simp [glue]
  | cons p r ih =>
    have h1 := h p (by simp)
    have h2 := ih (fun q hq => h q (by simp [hq]))
    have h3 := h1.1.2.2
    have h4 := h1.2.2.2
    rw [glue_cons]
    simp only [List.length_append, List.length_cons]
    omega

theorem words_blanks (b l : List UInt8) (h : ∀ c ∈ b, isBl c = true) : words (b ++ l) = words l := by
  induction b with
  | nil => rfl
  | cons c r ih =>
    have h1 : isBl c = true := h c (by simp)
    rw [List.cons_append, words, cutFrom, if_pos h1, flush_nil]
    exact ih (fun d hd => h d (by simp [hd]))
theorem first_word (w l : List UInt8) (h : ∀ c ∈ w, isBl c = false) (hl : l = [] ∨ ∃ c r, l = c :: r ∧ isBl c = true) : first (w ++ l) = w ∧ after (w ++ l) = l := by
  induction w with
  | nil =>
    rcases hl with rfl | ⟨c, r, rfl, hc⟩
    · exact ⟨rfl, rfl⟩
    · simp [first, after, hc]
  | cons d r ih =>
    have h1 : isBl d = false := h d (by simp)
    obtain ⟨e1, e2⟩ := ih (fun e he => h e (by simp [he]))
    rw [first] at e1
    rw [after] at e2
    constructor
    · rw [List.cons_append, first, List.takeWhile_cons, if_pos (by simp [h1]), e1]
    · rw [List.cons_append, after, List.dropWhile_cons, if_pos (by simp [h1]), e2]
theorem words_plain (w l : List UInt8) (h0 : w ≠ []) (h : ∀ c ∈ w, isBl c = false) (hl : l = [] ∨ ∃ c r, l = c :: r ∧ isBl c = true) : words (w ++ l) = w :: words l := by
  obtain ⟨e1, e2⟩ := first_word w l h hl
  cases hc : w with
  | nil => exact absurd hc h0
  | cons c r =>
    have h1 := words_cons (w ++ l) c (r ++ l) (by rw [hc]; rfl) (h c (by simp [hc]))
    rw [e1, e2, hc] at h1
    exact h1
theorem words_word (w l : List UInt8) (hw : okW w) (hl : l = [] ∨ ∃ c r, l = c :: r ∧ isBl c = true) : words (w ++ l) = w :: words l :=
  words_plain w l hw.1 hw.2.1 hl
theorem glue_head (ps : List (List UInt8 × List UInt8)) (h : Pairs ps) : glue ps = [] ∨ ∃ c r, glue ps = c :: r ∧ isBl c = true := by
  cases ps with
  | nil => exact .inl rfl
  | cons p r =>
    have h1 := (h p (by simp)).1
    right
    rw [glue_cons]
    cases hp : p.1 with
    | nil => exact absurd hp h1.1
    | cons c t => exact ⟨c, _, rfl, h1.2.1 c (by simp [hp])⟩
/-- what was put together is cut again -/
theorem words_glue (ps : List (List UInt8 × List UInt8)) (h : Pairs ps) : words (glue ps) = ps.map (·.2) := by
  induction ps with
  | nil => rfl
  | cons p r ih =>
    have h1 := h p (by simp)
    have h2 : Pairs r := fun q hq => h q (by simp [hq])
    rw [glue_cons, words_blanks _ _ h1.1.2.1, words_word _ _ h1.2 (glue_head r h2), ih h2]
    rfl
theorem joinTail_glue (r : List (List UInt8)) : Lib.joinTail [32] r = glue (r.map fun w => ([32], w)) := by
  simp [Lib.joinTail, glue, List.map_map, Function.comp_def]
/-- words joined are cut again -/
theorem words_join (ws : List (List UInt8)) (h : ∀ w ∈ ws, okW w) : words (Lib.join ws [32]) = ws := by
  cases ws with
  | nil => rfl
  | cons w r =>
    have hg : Pairs (r.map fun w => ([32], w)) := by
      intro p hp
      obtain ⟨x, hx, rfl⟩ := List.mem_map.1 hp
      exact ⟨okB_one, h x (by simp [hx])⟩
    rw [Lib.join_cons, joinTail_glue, words_word _ _ (h w (by simp)) (glue_head _ hg), words_glue _ hg, List.map_map]
    simp [Function.comp_def]
theorem good_words {ps : List (List UInt8 × List UInt8)} (h : Pairs ps) : ∀ w ∈ ps.map (·.2), okW w := by
  intro w hw
  obtain ⟨p, hp, rfl⟩ := List.mem_map.1 hw
  exact (h p hp).2

/-! ### the ends -/
theorem left_app (l r : List UInt8) (h : left l ≠ []) : left (l ++ r) = left l ++ r := by
  induction l with
  | nil => exact absurd rfl h
  | cons c t ih =>
    rw [List.cons_append, left, left, List.dropWhile_cons, List.dropWhile_cons]
    by_cases hc : isBl c = true
    · rw [if_pos hc, if_pos hc]
      refine ih ?_
      rw [left, List.dropWhile_cons, if_pos hc] at h
      exact h
    · rw [if_neg hc, if_neg hc]; rfl
theorem left_snoc (u : List UInt8) (c : UInt8) (hc : isBl c = false) : ∃ v, left (u ++ [c]) = v ++ [c] := by
  induction u with
  | nil => exact ⟨[], by simp [left, hc]⟩
  | cons d t ih =>
    rw [List.cons_append, left, List.dropWhile_cons]
    by_cases hd : isBl d = true
    · rw [if_pos hd]; exact ih
    · rw [if_neg hd]; exact ⟨d :: t, rfl⟩
theorem trim_more (l : List UInt8) (h : l = [] ∨ ∃ u c, l = u ++ [c] ∧ isBl c = false) : right (left (l ++ [32])) = left l := by
  rcases h with rfl | ⟨u, c, rfl, hc⟩
  · decide
  · obtain ⟨v, hv⟩ := left_snoc u c hc
    rw [left_app _ _ (by rw [hv]; simp), right_snoc, if_pos (by decide), hv, right_snoc, if_neg (by simp [hc])]
theorem glue_last (ps : List (List UInt8 × List UInt8)) (h : Pairs ps) : glue ps = [] ∨ ∃ u c, glue ps = u ++ [c] ∧ isBl c = false := by
  rcases List.eq_nil_or_concat ps with rfl | ⟨qs, p, rfl⟩
  · exact .inl rfl
  · right
    obtain ⟨b, w⟩ := p
    have h1 := (h (b, w) (by simp)).2
    rcases List.eq_nil_or_concat w with hw | ⟨t, c, hw⟩
    · exact absurd hw h1.1
    · refine ⟨glue qs ++ b ++ t, c, ?_, h1.2.1 c (by simp [hw])⟩
      rw [List.concat_eq_append, glue_snoc, hw]
      simp

end Go.Proofs.Ytaadhkfhjcaglaa.Glue
