/- Plain facts on a text of so many words of so many letters, so many blanks between. -/
import Derived.Test.YtaadhkfhjcaglaaGlue
namespace Go.Proofs.Ytaadhkfhjcaglaa.Many
open Go Go.Proofs.Ytaadhkfhjcaglaa.Pure Go.Proofs.Ytaadhkfhjcaglaa.Glue

def letter (x : Nat) : UInt8 := ([97, 98, 99, 100, 101, 102, 103] : List UInt8).getD (x % 7) 0
def space (x : Nat) : UInt8 := ([32, 9, 10] : List UInt8).getD (x % 3) 0
def wrd (i m : Nat) : List UInt8 := (List.range m).map fun j => letter (i + j)
def gap (i g : Nat) : List UInt8 := (List.range g).map fun j => space (i + j)
/-- the text of the first k words -/
def text (m g : Nat) : Nat → List UInt8
  | 0 => []
  | k + 1 => text m g k ++ wrd k m ++ gap k g
/-- the words from i on, k of them, as they stand behind one another -/
def tail (m g : Nat) : Nat → Nat → List UInt8
  | _, 0 => []
  | i, k + 1 => wrd i m ++ (gap i g ++ tail m g (i + 1) k)

theorem letter_plain (x : Nat) : isBl (letter x) = false := by
  have h : x % 7 = 0 ∨ x % 7 = 1 ∨ x % 7 = 2 ∨ x % 7 = 3 ∨ x % 7 = 4 ∨ x % 7 = 5 ∨ x % 7 = 6 := by omega
  unfold letter
  rcases h with h | h | h | h | h | h | h <;> rw [h] <;> decide
theorem space_blank (x : Nat) : isBl (space x) = true := by
  have h : x % 3 = 0 ∨ x % 3 = 1 ∨ x % 3 = 2 := by omega
  unfold space
  rcases h with h | h | h <;> rw [h] <;> decide
theorem wrd_length (i m : Nat) : (wrd i m).length = m := by simp [wrd]
theorem gap_length (i g : Nat) : (gap i g).length = g := by simp [gap]
theorem wrd_zero (i : Nat) : wrd i 0 = [] := rfl
theorem gap_zero (i : Nat) : gap i 0 = [] := rfl
theorem wrd_succ (i m : Nat) : wrd i (m + 1) = wrd i m ++ [letter (i + m)] := by simp [wrd, List.range_succ]
theorem gap_succ (i g : Nat) : gap i (g + 1) = gap i g ++ [space (i + g)] := by simp [gap, List.range_succ]
theorem wrd_plain (i m : Nat) : ∀ c ∈ wrd i m, isBl c = false := by
  intro c hc
  obtain ⟨j, _, rfl⟩ := List.mem_map.1 hc
  exact letter_plain _
theorem gap_blank (i g : Nat) : ∀ c ∈ gap i g, isBl c = true := by
  intro c hc
  obtain ⟨j, _, rfl⟩ := List.mem_map.1 hc
  exact space_blank _
theorem text_length (m g k : Nat) : (text m g k).length = k * (m + g) := by
  induction k with
  | zero => simp [text]
  | succ k ih => simp only [text, List.length_append, wrd_length, gap_length, ih, Nat.succ_mul]; omega
theorem tail_snoc (m g i k : Nat) : tail m g i (k + 1) = tail m g i k ++ wrd (i + k) m ++ gap (i + k) g := by
  induction k generalizing i with
  | zero => simp [tail]
  | succ k ih =>
    have e : i + 1 + k = i + (k + 1) := by omega
    rw [tail, ih (i + 1), tail, e]
    simp [List.append_assoc]
theorem text_tail (m g k : Nat) : text m g k = tail m g 0 k := by
  induction k with
  | zero => rfl
  | succ k ih => rw [text, ih, tail_snoc]; simp
theorem cons_of_ne {α : Type} {l : List α} (h : l ≠ []) : ∃ c r, l = c :: r := by
  cases l with
  | nil => exact absurd rfl h
  | cons c r => exact ⟨c, r, rfl⟩
theorem gap_head (i g : Nat) (hg : 0 < g) (l : List UInt8) : ∃ c r, gap i g ++ l = c :: r ∧ isBl c = true := by
  obtain ⟨c, r, h⟩ := cons_of_ne (l := gap i g) (by intro h; have := congrArg List.length h; rw [gap_length] at this; simp at this; omega)
  exact ⟨c, r ++ l, by rw [h]; rfl, gap_blank i g c (by rw [h]; simp)⟩
theorem wrd_ne (i m : Nat) (hm : 0 < m) : wrd i m ≠ [] := by
  intro h
  have := congrArg List.length h
  rw [wrd_length] at this
  simp at this; omega
theorem words_tail (m g i k : Nat) (hm : 0 < m) (hg : 0 < g) : words (tail m g i k) = (List.range' i k).map fun x => wrd x m := by
  induction k generalizing i with
  | zero => rfl
  | succ k ih =>
    rw [tail, words_plain _ _ (wrd_ne i m hm) (wrd_plain i m) (.inr (gap_head i g hg _)), words_blanks _ _ (gap_blank i g), ih, List.range'_succ]
    rfl
theorem words_text (m g k : Nat) (hm : 0 < m) (hg : 0 < g) : words (text m g k) = (List.range' 0 k).map fun x => wrd x m := by
  rw [text_tail, words_tail m g 0 k hm hg]

/-- the words of the text -/
def xs (m k : Nat) : List ByteArray := (List.range' 0 k).map fun x => bs (wrd x m)
theorem xs_length (m k : Nat) : (xs m k).length = k := by simp [xs]
theorem xs_at (m k i : Nat) (h : i < k) : (xs m k)[i]? = some (bs (wrd i m)) := by
  rw [xs, List.getElem?_map, List.getElem?_range' h]; simp
theorem cut_text (m g k : Nat) (hm : 0 < m) (hg : 0 < g) : wordsB (bs (text m g k)) = xs m k := by
  rw [wordsB, bs_data, words_text m g k hm hg, List.map_map]; rfl
theorem lens_xs (m : Nat) (l : List Nat) : Lib.lens (l.map fun x => wrd x m) = l.length * m := by
  induction l with
  | nil => simp [Lib.lens]
  | cons x r ih =>
    simp only [Lib.lens, List.map_cons, List.sum_cons, wrd_length, List.length_cons, Nat.succ_mul] at *
    omega
theorem strip_size (m g k : Nat) (hm : 0 < m) (hg : 0 < g) : (stripB (bs (text m g k))).size = k * (m + 1) - 1 := by
  rw [stripB, joinB, size_bs, wordsB_data, bs_data, words_text m g k hm hg]
  cases k with
  | zero => simp [Lib.join_nil]
  | succ k =>
    have h := lens_xs m (List.range' 0 (k + 1))
    rw [List.range'_succ, List.map_cons] at h ⊢
    rw [Lib.join_length, h]
    simp only [List.length_cons, List.length_map, List.length_range', List.length_nil]
    rw [Nat.mul_add]
    omega
theorem left_plain (l : List UInt8) (h : l = [] ∨ ∃ c r, l = c :: r ∧ isBl c = false) : left l = l := by
  rcases h with rfl | ⟨c, r, rfl, hc⟩
  · rfl
  · rw [left, List.dropWhile_cons, if_neg (by simp [hc])]
theorem text_head (m g k : Nat) (hm : 0 < m) : text m g k = [] ∨ ∃ c r, text m g k = c :: r ∧ isBl c = false := by
  rw [text_tail]
  cases k with
  | zero => exact .inl rfl
  | succ k =>
    right
    obtain ⟨c, r, h⟩ := cons_of_ne (wrd_ne 0 m hm)
    exact ⟨c, _, by rw [tail, h]; rfl, wrd_plain 0 m c (by rw [h]; simp)⟩
theorem left_text (m g k : Nat) (hm : 0 < m) : left (text m g k) = text m g k := left_plain _ (text_head m g k hm)
theorem leftB_text (m g k : Nat) (hm : 0 < m) : leftB (bs (text m g k)) = bs (text m g k) := by
  rw [leftB, bs_data, left_text m g k hm]
theorem left_blanks (b l : List UInt8) (h : ∀ c ∈ b, isBl c = true) : left (b ++ l) = left l := by
  induction b with
  | nil => rfl
  | cons c r ih =>
    rw [List.cons_append, left, List.dropWhile_cons, if_pos (h c (by simp))]
    exact ih (fun d hd => h d (by simp [hd]))
theorem right_blanks (l b : List UInt8) (h : ∀ c ∈ b, isBl c = true) : right (l ++ b) = right l := by
  have e := left_blanks b.reverse l.reverse (fun c hc => h c (by simpa using hc))
  rw [left, left] at e
  rw [right, List.reverse_append, e, right]
theorem right_plain (l w : List UInt8) (h0 : w ≠ []) (h : ∀ c ∈ w, isBl c = false) : right (l ++ w) = l ++ w := by
  rcases List.eq_nil_or_concat w with hw | ⟨t, c, rfl⟩
  · exact absurd hw h0
  · rw [List.concat_eq_append] at h ⊢
    have hc : isBl c = false := h c (by simp)
    rw [← List.append_assoc, right_snoc, if_neg (by simp [hc])]
theorem trim_size (m g k : Nat) (hm : 0 < m) : (trimB (bs (text m g k))).size = k * (m + g) - g := by
  rw [trimB, leftB_text m g k hm, rightB, size_bs, bs_data]
  cases k with
  | zero => simp [text, right]
  | succ k =>
    rw [text, right_blanks _ _ (gap_blank k g), right_plain _ _ (wrd_ne k m hm) (wrd_plain k m), List.length_append, text_length, wrd_length, Nat.succ_mul]
    omega

end Go.Proofs.Ytaadhkfhjcaglaa.Many
