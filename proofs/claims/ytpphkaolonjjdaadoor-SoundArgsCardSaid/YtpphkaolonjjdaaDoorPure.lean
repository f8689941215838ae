/- Plain facts on lists of bytes: blanks, ends, words and joins; no program is named here. -/
import Derived.Lib.Join
import Derived.Lib.IndexBytes
namespace Go.Proofs.YtpphkaolonjjdaaDoor.Pure
open Go

def isBl (c : UInt8) : Bool := c == 32 || c == 9 || c == 10
def left (l : List UInt8) : List UInt8 := l.dropWhile isBl
def right (l : List UInt8) : List UInt8 := (l.reverse.dropWhile isBl).reverse
def first (l : List UInt8) : List UInt8 := l.takeWhile (fun c => !isBl c)
def after (l : List UInt8) : List UInt8 := l.dropWhile (fun c => !isBl c)
def flush (cur : List UInt8) : List (List UInt8) := if cur.isEmpty then [] else [cur]
def cutFrom : List UInt8 → List UInt8 → List (List UInt8)
  | cur, [] => flush cur
  | cur, c :: r => if isBl c then flush cur ++ cutFrom [] r else cutFrom (cur ++ [c]) r
def words (l : List UInt8) : List (List UInt8) := cutFrom [] l

def bs (l : List UInt8) : ByteArray := ⟨l.toArray⟩
def leftB (s : ByteArray) : ByteArray := bs (left s.data.toList)
def rightB (s : ByteArray) : ByteArray := bs (right s.data.toList)
def trimB (s : ByteArray) : ByteArray := rightB (leftB s)
def wlen (s : ByteArray) : Nat := (first s.data.toList).length
def wordsB (s : ByteArray) : List ByteArray := (words s.data.toList).map bs
def joinB (xs : List ByteArray) : ByteArray := bs (Lib.join (xs.map (·.data.toList)) [32])
def stripB (s : ByteArray) : ByteArray := joinB (wordsB s)

theorem bs_data (l : List UInt8) : (bs l).data.toList = l := rfl
theorem bs_self (s : ByteArray) : bs s.data.toList = s := Lib.mk_data s
theorem bs_inj {a b : List UInt8} (h : bs a = bs b) : a = b := by rw [← bs_data a, ← bs_data b, h]
theorem size_bs (l : List UInt8) : (bs l).size = l.length := by rw [Lib.size_eq, bs_data]
theorem ext_data {a b : ByteArray} (h : a.data.toList = b.data.toList) : a = b := by rw [← bs_self a, ← bs_self b, h]

theorem drop_cons (s : ByteArray) (k : Nat) (h : k < s.size) : s.data.toList.drop k = s[k] :: s.data.toList.drop (k + 1) := by
  rw [List.drop_eq_getElem_cons (by simpa using h)]; rfl
theorem take_snoc (s : ByteArray) (k : Nat) (h : k < s.size) : s.data.toList.take (k + 1) = s.data.toList.take k ++ [s[k]] := by
  rw [List.take_succ_eq_append_getElem (by simpa using h)]; rfl
theorem drop_size (s : ByteArray) (k : Nat) (h : s.size ≤ k) : s.data.toList.drop k = [] := by
  rw [List.drop_eq_nil_iff, ← Lib.size_eq]; exact h
theorem take_size (s : ByteArray) (k : Nat) (h : s.size ≤ k) : s.data.toList.take k = s.data.toList := by
  rw [List.take_of_length_le]; rw [← Lib.size_eq]; exact h

/-! ### the left end -/
theorem left_step (s : ByteArray) (k : Nat) (h : k < s.size) (hb : isBl s[k] = true) : left (s.data.toList.drop k) = left (s.data.toList.drop (k + 1)) := by
  rw [drop_cons s k h, left, List.dropWhile_cons, if_pos hb]; rfl
theorem left_stop (s : ByteArray) (k : Nat) (h : k < s.size) (hb : isBl s[k] = false) : left (s.data.toList.drop k) = s.data.toList.drop k := by
  rw [drop_cons s k h, left, List.dropWhile_cons, if_neg (by simp [hb])]
theorem left_end (s : ByteArray) (k : Nat) (h : s.size ≤ k) : left (s.data.toList.drop k) = s.data.toList.drop k := by
  rw [drop_size s k h]; rfl
theorem left_fin (s : ByteArray) (k : Nat) (h : left (s.data.toList.drop k) = left s.data.toList) (h2 : left (s.data.toList.drop k) = s.data.toList.drop k) : s.extract k s.size = leftB s :=
  ext_data (by rw [Lib.extract_to_end, leftB, bs_data, ← h, h2])
theorem left_length (l : List UInt8) : (left l).length ≤ l.length := (List.dropWhile_sublist _).length_le
theorem leftB_size (s : ByteArray) : (leftB s).size ≤ s.size := by rw [leftB, size_bs, Lib.size_eq]; exact left_length _
/-- what is left without blanks ahead begins with none -/
theorem left_head (l : List UInt8) (c : UInt8) (r : List UInt8) (h : left l = c :: r) : isBl c = false := by
  induction l with
  | nil => cases h
  | cons x t ih =>
    rw [left, List.dropWhile_cons] at h
    by_cases hx : isBl x = true
    · rw [if_pos hx] at h; exact ih h
    · rw [if_neg hx] at h
      injection h with h1 h2
      subst h1
      simpa using hx
theorem left_left (l : List UInt8) : left (left l) = left l := by
  cases h : left l with
  | nil => rfl
  | cons c r => rw [left, List.dropWhile_cons, if_neg (by simp [left_head l c r h])]

theorem leftB_tail (u : ByteArray) (h : 0 < u.size) (hb : isBl u[0] = true) : leftB (u.extract 1 u.size) = leftB u := by
  have e := left_step u 0 h hb
  rw [List.drop_zero] at e
  rw [leftB, Lib.extract_to_end, leftB, e]
theorem leftB_stop (u : ByteArray) (h : 0 < u.size) (hb : isBl u[0] = false) : leftB u = u := by
  have e := left_stop u 0 h hb
  rw [List.drop_zero] at e
  rw [leftB, e, bs_self]
theorem leftB_end (u : ByteArray) (h : u.size ≤ 0) : leftB u = u := by
  have e := left_end u 0 h
  rw [List.drop_zero] at e
  rw [leftB, e, bs_self]

/-! ### the right end -/
theorem right_snoc (l : List UInt8) (c : UInt8) : right (l ++ [c]) = if isBl c then right l else l ++ [c] := by
  simp only [right, List.reverse_append, List.reverse_cons, List.reverse_nil, List.nil_append, List.singleton_append, List.dropWhile_cons]
  by_cases h : isBl c = true <;> simp [h]
theorem right_step (s : ByteArray) (k : Nat) (h : k < s.size) (hb : isBl s[k] = true) : right (s.data.toList.take (k + 1)) = right (s.data.toList.take k) := by
  rw [take_snoc s k h, right_snoc, if_pos hb]
theorem right_stop (s : ByteArray) (k : Nat) (h : k < s.size) (hb : isBl s[k] = false) : right (s.data.toList.take (k + 1)) = s.data.toList.take (k + 1) := by
  rw [take_snoc s k h, right_snoc, if_neg (by simp [hb])]
theorem right_length (l : List UInt8) : (right l).length ≤ l.length := by
  rw [right, List.length_reverse]
  have := (List.dropWhile_sublist isBl (l := l.reverse)).length_le
  simpa using this
theorem rightB_size (s : ByteArray) : (rightB s).size ≤ s.size := by rw [rightB, size_bs, Lib.size_eq]; exact right_length _
theorem right_fin (s : ByteArray) (k : Nat) (h : right (s.data.toList.take k) = right s.data.toList) (h2 : right (s.data.toList.take k) = s.data.toList.take k) : s.extract 0 k = rightB s :=
  ext_data (by rw [Lib.extract_data, rightB, bs_data, ← h, h2]; simp)

theorem right_fin0 (s : ByteArray) (h : right (s.data.toList.take 0) = right s.data.toList) : ByteArray.empty = rightB s :=
  ext_data (by rw [rightB, bs_data, ← h]; rfl)
theorem rightB_end (u : ByteArray) (h : u.size = 0) : rightB u = u := by
  have e : u.data.toList = [] := List.eq_nil_of_length_eq_zero (by rw [← Lib.size_eq]; exact h)
  refine ext_data ?_
  rw [rightB, bs_data, e]; rfl
theorem rightB_init (u : ByteArray) (h : 0 < u.size) (hb : isBl (u[u.size - 1]'(by omega)) = true) : rightB (u.extract 0 (u.size - 1)) = rightB u := by
  have e := right_step u (u.size - 1) (by omega) hb
  rw [take_size u _ (by omega)] at e
  rw [rightB, Lib.extract_data, rightB, e, List.drop_zero, Nat.sub_zero]
theorem rightB_stop (u : ByteArray) (h : 0 < u.size) (hb : isBl (u[u.size - 1]'(by omega)) = false) : rightB u = u := by
  have e := right_stop u (u.size - 1) (by omega) hb
  rw [take_size u _ (by omega)] at e
  rw [rightB, e, bs_self]

/-! ### words -/
theorem first_step (s : ByteArray) (k : Nat) (h : k < s.size) (hb : isBl s[k] = false) : (first (s.data.toList.drop k)).length = (first (s.data.toList.drop (k + 1))).length + 1 := by
  rw [drop_cons s k h, first, List.takeWhile_cons, if_pos (by simp [hb])]; rfl
theorem first_stop (s : ByteArray) (k : Nat) (h : k < s.size) (hb : isBl s[k] = true) : (first (s.data.toList.drop k)).length = 0 := by
  rw [drop_cons s k h, first, List.takeWhile_cons, if_neg (by simp [hb])]; rfl
theorem first_end (s : ByteArray) (k : Nat) (h : s.size ≤ k) : (first (s.data.toList.drop k)).length = 0 := by
  rw [drop_size s k h]; rfl
theorem first_length (l : List UInt8) : (first l).length ≤ l.length := (List.takeWhile_sublist _).length_le
theorem wlen_le (s : ByteArray) : wlen s ≤ s.size := by rw [Lib.size_eq]; exact first_length _
theorem first_after (l : List UInt8) : first l ++ after l = l := List.takeWhile_append_dropWhile
theorem take_first (l : List UInt8) : l.take (first l).length = first l := by
  conv => lhs; arg 2; rw [← first_after l]
  rw [List.take_left']; rfl
theorem drop_first (l : List UInt8) : l.drop (first l).length = after l := by
  conv => lhs; arg 2; rw [← first_after l]
  rw [List.drop_left']; rfl

theorem flush_nil : flush [] = [] := rfl
theorem flush_cons {cur : List UInt8} (h : cur ≠ []) : flush cur = [cur] := by
  cases cur with
  | nil => exact absurd rfl h
  | cons c r => rfl
theorem cut_more (cur l : List UInt8) (h : cur ≠ []) : cutFrom cur l = (cur ++ first l) :: words (after l) := by
  induction l generalizing cur with
  | nil => simp [cutFrom, flush_cons h, first, after, words, flush_nil]
  | cons c r ih =>
    by_cases hc : isBl c = true
    · have e1 : first (c :: r) = [] := by simp [first, hc]
      have e2 : after (c :: r) = c :: r := by simp [after, hc]
      rw [e1, e2, cutFrom, if_pos hc, flush_cons h, words, cutFrom, if_pos hc, flush_nil]
      simp
    · have e1 : first (c :: r) = c :: first r := by simp [first, hc]
      have e2 : after (c :: r) = after r := by simp [after, hc]
      rw [e1, e2, cutFrom, if_neg hc, ih _ (by simp)]
      simp
theorem words_left (l : List UInt8) : words (left l) = words l := by
  induction l with
  | nil => rfl
  | cons c r ih =>
    rw [left, List.dropWhile_cons]
    by_cases hc : isBl c = true
    · rw [if_pos hc]
      have e : words (c :: r) = words r := by rw [words, cutFrom, if_pos hc, flush_nil]; rfl
      rw [e]; exact ih
    · rw [if_neg hc]
theorem words_nil : words [] = [] := rfl
theorem words_cons (l : List UInt8) (c : UInt8) (r : List UInt8) (hl : l = c :: r) (hc : isBl c = false) : words l = first l :: words (after l) := by
  subst hl
  have e1 : first (c :: r) = c :: first r := by simp [first, hc]
  have e2 : after (c :: r) = after r := by simp [after, hc]
  rw [e1, e2, words, cutFrom, if_neg (by simp [hc]), cut_more _ _ (by simp)]
  rfl
/-- a text without blanks ahead that is not empty: its first word, the words of what follows -/
theorem wordsB_head (s t : ByteArray) (hs : s = leftB t) (h : s.size ≠ 0) :
    wordsB s = s.extract 0 (wlen s) :: wordsB (leftB (s.extract (wlen s) s.size)) ∧ 0 < wlen s := by
  have hl : s.data.toList = left t.data.toList := by rw [hs]; rfl
  cases e : s.data.toList with
  | nil => rw [Lib.size_eq, e] at h; exact absurd rfl h
  | cons c r =>
    have hc : isBl c = false := left_head _ c r (by rw [← hl, e])
    constructor
    · have e1 : s.extract 0 (wlen s) = bs (first s.data.toList) := ext_data (by
        rw [Lib.extract_data, bs_data, wlen]; simpa using take_first _)
      have e2 : s.extract (wlen s) s.size = bs (after s.data.toList) := ext_data (by
        rw [Lib.extract_to_end, bs_data, wlen]; exact drop_first _)
      rw [e1, e2, wordsB, words_cons _ c r e hc, List.map_cons, wordsB, leftB, bs_data, bs_data, words_left]
    · rw [wlen, e]; simp [first, hc]
theorem wordsB_left (s : ByteArray) : wordsB (leftB s) = wordsB s := by rw [wordsB, leftB, bs_data, words_left]; rfl
theorem wordsB_empty (s : ByteArray) (h : s.size = 0) : wordsB s = [] := by
  have : s.data.toList = [] := List.eq_nil_of_length_eq_zero (by rw [← Lib.size_eq]; exact h)
  rw [wordsB, this]; rfl

theorem cut_blank (s : ByteArray) (k : Nat) (cur : List UInt8) (h : k < s.size) (hb : isBl s[k] = true) : cutFrom cur (s.data.toList.drop k) = flush cur ++ cutFrom [] (s.data.toList.drop (k + 1)) := by
  rw [drop_cons s k h, cutFrom, if_pos hb]
theorem cut_other (s : ByteArray) (k : Nat) (cur : List UInt8) (h : k < s.size) (hb : isBl s[k] = false) : cutFrom cur (s.data.toList.drop k) = cutFrom (cur ++ [s[k]]) (s.data.toList.drop (k + 1)) := by
  rw [drop_cons s k h, cutFrom, if_neg (by simp [hb])]
theorem cut_end (s : ByteArray) (k : Nat) (cur : List UInt8) (h : s.size ≤ k) : cutFrom cur (s.data.toList.drop k) = flush cur := by
  rw [drop_size s k h]; rfl

/-- how long words are, and how many -/
def total (xs : List (List UInt8)) : Nat := (xs.map (fun x => x.length + 1)).sum
theorem total_flush (cur : List UInt8) : total (flush cur) ≤ cur.length + 1 := by
  cases cur <;> simp [flush, total]
theorem total_cut (cur l : List UInt8) : total (cutFrom cur l) ≤ cur.length + l.length + 1 := by
  induction l generalizing cur with
  | nil => have := total_flush cur; simp only [cutFrom, List.length_nil]; omega
  | cons c r ih =>
    rw [cutFrom]
    split
    · have h1 := total_flush cur
      have h2 := ih []
      have e : total (flush cur ++ cutFrom [] r) = total (flush cur) + total (cutFrom [] r) := by simp [total]
      rw [e]; simp only [List.length_cons, List.length_nil] at *; omega
    · have h2 := ih (cur ++ [c])
      simp only [List.length_append, List.length_cons, List.length_nil] at *; omega
theorem total_count (xs : List (List UInt8)) : xs.length ≤ total xs := by
  induction xs with
  | nil => simp [total]
  | cons x r ih => simp only [total, List.map_cons, List.sum_cons, List.length_cons] at *; omega
theorem lens_total (xs : List (List UInt8)) : Lib.lens xs + xs.length = total xs := by
  induction xs with
  | nil => rfl
  | cons x r ih => simp only [Lib.lens, total, List.map_cons, List.sum_cons, List.length_cons] at *; omega
theorem join_total (xs : List (List UInt8)) : (Lib.join xs [32]).length ≤ total xs := by
  cases xs with
  | nil => simp [Lib.join_nil]
  | cons x r =>
    rw [Lib.join_length]
    have := lens_total (x :: r)
    simp only [List.length_cons, List.length_nil] at *; omega
theorem words_count (l : List UInt8) : (words l).length ≤ l.length + 1 := by
  have h1 := total_count (words l)
  have h2 := total_cut [] l
  simp only [words, List.length_nil] at *; omega
theorem wordsB_length (s : ByteArray) : (wordsB s).length ≤ s.size + 1 := by
  rw [wordsB, List.length_map, Lib.size_eq]; exact words_count _
theorem map_bs (xs : List (List UInt8)) : (xs.map bs).map (·.data.toList) = xs := by
  rw [List.map_map]
  conv => rhs; rw [← List.map_id xs]
  rfl
theorem wordsB_data (s : ByteArray) : (wordsB s).map (·.data.toList) = words s.data.toList := map_bs _
theorem join_words (s : ByteArray) : (Lib.join ((wordsB s).map (·.data.toList)) [32]).length ≤ s.size + 1 := by
  rw [wordsB_data]
  have h1 := join_total (words s.data.toList)
  have h2 := total_cut [] s.data.toList
  have h3 := Lib.size_eq s
  simp only [words, List.length_nil] at *; omega
theorem stripB_size (s : ByteArray) : (stripB s).size ≤ s.size + 1 := by
  rw [stripB, joinB, size_bs]; exact join_words s

/-! ### the document's way to cut: what is known ahead of place k, the last word having begun at f -/
def Inv (s : ByteArray) (k f : Nat) (acc : List ByteArray) : Prop :=
  (k ≤ s.size → acc ++ (cutFrom ((s.data.toList.drop f).take (k - f)) (s.data.toList.drop k)).map bs = wordsB s) ∧ (s.size < k → acc = wordsB s)
theorem inv_start (s : ByteArray) : Inv s 0 0 [] := ⟨fun _ => by simp [wordsB, words], fun h => absurd h (Nat.not_lt_zero _)⟩
theorem take_more (s : ByteArray) (f k : Nat) (hf : f ≤ k) (h : k < s.size) : (s.data.toList.drop f).take (k + 1 - f) = (s.data.toList.drop f).take (k - f) ++ [s[k]] := by
  have e : k + 1 - f = (k - f) + 1 := by omega
  have hl : k - f < (s.data.toList.drop f).length := by rw [List.length_drop, ← Lib.size_eq]; omega
  rw [e, List.take_succ_eq_append_getElem hl, List.getElem_drop]
  have e2 : f + (k - f) = k := by omega
  simp only [e2]
  rfl
theorem inv_other {s : ByteArray} {k f : Nat} {acc : List ByteArray} (hf : f ≤ k) (h : k < s.size) (hb : isBl s[k] = false) (hi : Inv s k f acc) : Inv s (k + 1) f acc :=
  ⟨fun _ => by rw [take_more s f k hf h, ← cut_other s k _ h hb]; exact hi.1 (by omega), fun h2 => by omega⟩
theorem cur_extract (s : ByteArray) (f k : Nat) : bs ((s.data.toList.drop f).take (k - f)) = s.extract f k := (Lib.extract_eq s f k).symm
theorem inv_cut {s : ByteArray} {k f : Nat} {acc : List ByteArray} (hf : f < k) (hk : k ≤ s.size) (hb : ∀ h : k < s.size, isBl s[k] = true) (hi : Inv s k f acc) : Inv s (k + 1) (k + 1) (acc ++ [s.extract f k]) := by
  have hne : (s.data.toList.drop f).take (k - f) ≠ [] := by
    intro h
    have := congrArg List.length h
    rw [List.length_take, List.length_drop, ← Lib.size_eq] at this
    simp only [List.length_nil] at this
    omega
  have h1 := hi.1 hk
  refine ⟨fun h2 => ?_, fun h2 => ?_⟩
  · rw [cut_blank s k _ (by omega) (hb (by omega)), flush_cons hne] at h1
    rw [← h1, Nat.sub_self, List.take_zero, ← cur_extract]
    simp
  · rw [cut_end s k _ (by omega), flush_cons hne] at h1
    rw [← h1, ← cur_extract]
    simp
theorem inv_skip {s : ByteArray} {k : Nat} {acc : List ByteArray} (hk : k ≤ s.size) (hb : ∀ h : k < s.size, isBl s[k] = true) (hi : Inv s k k acc) : Inv s (k + 1) (k + 1) acc := by
  have h1 := hi.1 hk
  rw [Nat.sub_self, List.take_zero] at h1
  refine ⟨fun h2 => ?_, fun h2 => ?_⟩
  · rw [cut_blank s k _ (by omega) (hb (by omega)), flush_nil] at h1
    rw [← h1, Nat.sub_self, List.take_zero]
    simp
  · rw [cut_end s k _ (by omega), flush_nil] at h1
    rw [← h1]
    simp

/-! ### joins, one by one -/
theorem join_take_one (xs : List (List UInt8)) (y : List UInt8) (h : xs[0]? = some y) : Lib.join (xs.take 1) [32] = y := by
  cases xs with
  | nil => cases h
  | cons x r => simp at h; subst h; simp [Lib.join_one]
theorem join_take_succ (xs : List (List UInt8)) (k : Nat) (y : List UInt8) (hk : 0 < k) (h : xs[k]? = some y) : Lib.join (xs.take (k + 1)) [32] = Lib.join (xs.take k) [32] ++ [32] ++ y := by
  cases xs with
  | nil => cases h
  | cons x r =>
    obtain ⟨j, rfl⟩ : ∃ j, k = j + 1 := ⟨k - 1, by omega⟩
    have h' : r[j]? = some y := by simpa using h
    rw [List.take_succ_cons, List.take_succ_cons, Lib.join_cons, Lib.join_cons, Lib.joinTail_take_succ _ _ _ _ h']
    simp [List.append_assoc]
theorem join_take_le (xs : List (List UInt8)) (k : Nat) : (Lib.join (xs.take k) [32]).length ≤ (Lib.join xs [32]).length := by
  cases xs with
  | nil => simp
  | cons x r =>
    cases k with
    | zero => simp [Lib.join_nil]
    | succ j =>
      rw [List.take_succ_cons, Lib.join_cons, Lib.join_cons, List.length_append, List.length_append]
      have := Lib.joinTail_take_le [32] r j
      omega

end Go.Proofs.YtpphkaolonjjdaaDoor.Pure
