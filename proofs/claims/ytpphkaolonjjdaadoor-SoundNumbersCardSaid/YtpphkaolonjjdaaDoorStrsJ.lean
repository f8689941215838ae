/- Lists of texts in memory, and what the document's Same answers. -/
import Derived.WalkKit
import Derived.WalkSpells
import Derived.OwnWalk
import Derived.IntWalk
import Derived.Below
import Derived.Lib.Hide
import Derived.Lib.AppendStr
import Derived.Laws.IdiomStrings
import Derived.Deep.AppendLies
import Derived.Deep.OwnRows
import Derived.Deep.QuietTactic
import Derived.BigQuiet
import Derived.Maps.AppendAt
import Derived.Test.YtpphkaolonjjdaaDoorProg
import Derived.Lib.Join
import Derived.Lib.IndexBytes
import Derived.Lib.SlicesCompact
import Derived.Lib.RowBridge
import Derived.KernelRfl
namespace Go.Proofs.YtpphkaolonjjdaaDoor.Strs
open Go.RowKit

theorem addr_add (b o j : Nat) : (⟨b, o, none⟩ : Addr).add j = ⟨b, o + j, none⟩ := by
  unfold Addr.add
  by_cases h : j = 0 <;> simp [h]

/-- a slice of the texts xs: its address and its capacity -/
def SlIs (w : World) (A : Option Addr) (c : Nat) (xs : List ByteArray) : Prop :=
  xs.length ≤ c ∧ (xs = [] ∨ ∃ b o, A = some ⟨b, o, none⟩ ∧ b < w.heap.size ∧ ∀ j x, xs[j]? = some x → w.cell? ⟨b, o + j, none⟩ = some (.string x))

theorem SlIs.below {w w' : World} {A : Option Addr} {c : Nat} {xs : List ByteArray} (h : SlIs w A c xs) (hb : Below w.heap.size w w') : SlIs w' A c xs := by
  refine ⟨h.1, ?_⟩
  rcases h.2 with h0 | ⟨b, o, rfl, hlt, hc⟩
  · exact .inl h0
  · exact .inr ⟨b, o, rfl, Nat.lt_of_lt_of_le hlt hb.size, fun j x hx => (hb.cell (p := ⟨b, o + j, none⟩) hlt).trans (hc j x hx)⟩

/-- the text at a place, also later -/
theorem SlIs.at_ {w : World} {A : Option Addr} {c k : Nat} {xs : List ByteArray} (h : SlIs w A c xs) {x : ByteArray} (hx : xs[k]? = some x) :
    ∃ b o, A = some ⟨b, o, none⟩ ∧ b < w.heap.size ∧ ∀ W, Below w.heap.size w W → W.cell? ⟨b, o + k, none⟩ = some (.string x) := by
  rcases h.2 with h0 | ⟨b, o, rfl, hb, hc⟩
  · rw [h0] at hx; cases hx
  · exact ⟨b, o, rfl, hb, fun W hW => (hW.cell (p := ⟨b, o + k, none⟩) hb).trans (hc k _ hx)⟩

theorem slIs_of_own {w : World} {base e : Nat} {v : Value} {n : Nat} {xs : List ByteArray} (hn : xs.length = n) (h : w.ownsRow base e 1 v n (xs.map Value.string)) :
    ∃ A c, v = .slice A n c ∧ SlIs w A c xs := by
  subst hn
  have hcells : ∀ g, v.ownBlock = some g → ∀ j u, (xs.map Value.string)[j]? = some u → w.cell? ((⟨g, 0, none⟩ : Addr).add j) = some u := fun g hg => h.cells (g := g) hg
  rcases h.2 with ⟨rfl, hn⟩ | ⟨g, cap, cur, rfl, _, hg, hn, _, _, _⟩
  · exact ⟨none, 0, by rw [hn], by omega, .inl (List.eq_nil_of_length_eq_zero hn)⟩
  · refine ⟨_, cap, rfl, hn, .inr ⟨g, 0, rfl, (Array.getElem?_eq_some_iff.1 hg).1, fun j x hx => ?_⟩⟩
    rw [← addr_add]
    exact hcells g rfl j _ (by rw [List.getElem?_map, hx]; rfl)

/-- a row made by the call, as a slice of texts -/
theorem slIs_of_row {w : World} {g t n : Nat} {f : Nat → Value} {ys : List ByteArray} (hl : ys.length = n) (h : w.rowIs g t n f) (hf : ∀ j x, ys[j]? = some x → f j = .string x) :
    SlIs w (some ⟨g, 0, none⟩) n ys := by
  refine ⟨by omega, .inr ⟨g, 0, rfl, h.lt, fun j x hx => ?_⟩⟩
  have hj := (List.getElem?_eq_some_iff.1 hx).1
  rw [Nat.zero_add, h.cell (by omega), hf j x hx]

theorem infoString : (Tryd.prog.info? 9).map (fun i => (i.zero, i.size, i.bytes)) = some (some (.string .empty), 1, 16) := by kernel_rfl
theorem ret_int {k : IntKind} {a b : Int} (h : a = b) : Ending.returned (.int k a) = .returned (.int k b) := by rw [h]
theorem ret_str {a b : ByteArray} (h : a = b) : Ending.returned (.string a) = .returned (.string b) := by rw [h]
theorem ret_bool {a b : Bool} (h : a = b) : Ending.returned (.bool a) = .returned (.bool b) := by rw [h]

theorem below_drewN {B : Nat} {a w : World} (h : Below B a w) (n : Nat) : Below B a (w.drewN n) := ⟨h.os, h.tape, h.output, h.size, h.block⟩
theorem below_append {B e n : Nat} {w wr w1 : World} {v : Value} {xs : List Value} {o : Obj} (hB : Below B w wr) (hBs : B ≤ wr.heap.size) (hown : wr.ownsRow B e 1 v n xs) (hg : (wr.alloc o).grownBy w1 v.ownBlock) : Below B w w1 :=
  (hB.alloc hBs o).grown hg (by simp; omega) (fun k e => (hown.lt k e).1)
theorem below_append0 {B e n : Nat} {w wr w1 : World} {v : Value} {xs : List Value} (hB : Below B w wr) (hBs : B ≤ wr.heap.size) (hown : wr.ownsRow B e 1 v n xs) (hg : wr.grownBy w1 v.ownBlock) : Below B w w1 :=
  hB.grown hg hBs (fun k e => (hown.lt k e).1)


end Go.Proofs.YtpphkaolonjjdaaDoor.Strs

/- Plain facts on lists of bytes: blanks, ends, words and joins; no program is named here. -/
namespace Go.Proofs.YtpphkaolonjjdaaDoor.Pure
open Go

def isBl (c : UInt8) : Bool := c == 32 || c == 9 || c == 10
def left (l : List UInt8) : List UInt8 := l.dropWhile isBl
def right (l : List UInt8) : List UInt8 := (l.reverse.dropWhile isBl).reverse
def first (l : List UInt8) : List UInt8 := l.takeWhile (fun c => !isBl c)
def after (l : List UInt8) : List UInt8 := l.dropWhile (fun c => !isBl c)
def flush (cur : List UInt8) : List (List UInt8) := if cur.isEmpty then [] else [cur]
def cutFrom : List UInt8 → List UInt8 → List (List UInt8)
  | cur, [] => flush cur
  | cur, c :: r => if isBl c then flush cur ++ cutFrom [] r else cutFrom (cur ++ [c]) r
def words (l : List UInt8) : List (List UInt8) := cutFrom [] l

def bs (l : List UInt8) : ByteArray := ⟨l.toArray⟩
def leftB (s : ByteArray) : ByteArray := bs (left s.data.toList)
def rightB (s : ByteArray) : ByteArray := bs (right s.data.toList)
def trimB (s : ByteArray) : ByteArray := rightB (leftB s)
def wlen (s : ByteArray) : Nat := (first s.data.toList).length
def wordsB (s : ByteArray) : List ByteArray := (words s.data.toList).map bs
def joinB (xs : List ByteArray) : ByteArray := bs (Lib.join (xs.map (·.data.toList)) [32])
def stripB (s : ByteArray) : ByteArray := joinB (wordsB s)

theorem bs_data (l : List UInt8) : (bs l).data.toList = l := rfl
theorem bs_self (s : ByteArray) : bs s.data.toList = s := Lib.mk_data s
theorem bs_inj {a b : List UInt8} (h : bs a = bs b) : a = b := by rw [← bs_data a, ← bs_data b, h]
theorem size_bs (l : List UInt8) : (bs l).size = l.length := by rw [Lib.size_eq, bs_data]
theorem ext_data {a b : ByteArray} (h : a.data.toList = b.data.toList) : a = b := by rw [← bs_self a, ← bs_self b, h]

theorem drop_cons (s : ByteArray) (k : Nat) (h : k < s.size) : s.data.toList.drop k = s[k] :: s.data.toList.drop (k + 1) := by
  rw [List.drop_eq_getElem_cons (by simpa using h)]; rfl
theorem take_snoc (s : ByteArray) (k : Nat) (h : k < s.size) : s.data.toList.take (k + 1) = s.data.toList.take k ++ [s[k]] := by
  rw [List.take_succ_eq_append_getElem (by simpa using h)]; rfl
theorem drop_size (s : ByteArray) (k : Nat) (h : s.size ≤ k) : s.data.toList.drop k = [] := by
  rw [List.drop_eq_nil_iff, ← Lib.size_eq]; exact h
theorem take_size (s : ByteArray) (k : Nat) (h : s.size ≤ k) : s.data.toList.take k = s.data.toList := by
  rw [List.take_of_length_le]; rw [← Lib.size_eq]; exact h

/-! ### the left end -/
theorem left_step (s : ByteArray) (k : Nat) (h : k < s.size) (hb : isBl s[k] = true) : left (s.data.toList.drop k) = left (s.data.toList.drop (k + 1)) := by
  rw [drop_cons s k h, left, List.dropWhile_cons, if_pos hb]; rfl
theorem left_stop (s : ByteArray) (k : Nat) (h : k < s.size) (hb : isBl s[k] = false) : left (s.data.toList.drop k) = s.data.toList.drop k := by
  rw [drop_cons s k h, left, List.dropWhile_cons, if_neg (by simp [hb])]
theorem left_end (s : ByteArray) (k : Nat) (h : s.size ≤ k) : left (s.data.toList.drop k) = s.data.toList.drop k := by
  rw [drop_size s k h]; rfl
theorem left_fin (s : ByteArray) (k : Nat) (h : left (s.data.toList.drop k) = left s.data.toList) (h2 : left (s.data.toList.drop k) = s.data.toList.drop k) : s.extract k s.size = leftB s :=
  ext_data (by rw [Lib.extract_to_end, leftB, bs_data, ← h, h2])
theorem left_length (l : List UInt8) : (left l).length ≤ l.length := (List.dropWhile_sublist _).length_le
theorem leftB_size (s : ByteArray) : (leftB s).size ≤ s.size := by rw [leftB, size_bs, Lib.size_eq]; exact left_length _
/-- what is left without blanks ahead begins with none -/
theorem left_head (l : List UInt8) (c : UInt8) (r : List UInt8) (h : left l = c :: r) : isBl c = false := by
  induction l with
  | nil => cases h
  | cons x t ih =>
    rw [left, List.dropWhile_cons] at h
    by_cases hx : isBl x = true
    · rw [if_pos hx] at h; exact ih h
    · rw [if_neg hx] at h
      injection h with h1 h2
      subst h1
      simpa using hx
theorem left_left (l : List UInt8) : left (left l) = left l := by
  cases h : left l with
  | nil => rfl
  | cons c r => rw [left, List.dropWhile_cons, if_neg (by simp [left_head l c r h])]

theorem leftB_tail (u : ByteArray) (h : 0 < u.size) (hb : isBl u[0] = true) : leftB (u.extract 1 u.size) = leftB u := by
  have e := left_step u 0 h hb
  rw [List.drop_zero] at e
  rw [leftB, Lib.extract_to_end, leftB, e]
theorem leftB_stop (u : ByteArray) (h : 0 < u.size) (hb : isBl u[0] = false) : leftB u = u := by
  have e := left_stop u 0 h hb
  rw [List.drop_zero] at e
  rw [leftB, e, bs_self]
theorem leftB_end (u : ByteArray) (h : u.size ≤ 0) : leftB u = u := by
  have e := left_end u 0 h
  rw [List.drop_zero] at e
  rw [leftB, e, bs_self]

/-! ### the right end -/
theorem right_snoc (l : List UInt8) (c : UInt8) : right (l ++ [c]) = if isBl c then right l else l ++ [c] := by
  simp only [right, List.reverse_append, List.reverse_cons, List.reverse_nil, List.nil_append, List.singleton_append, List.dropWhile_cons]
  by_cases h : isBl c = true <;> simp [h]
theorem right_step (s : ByteArray) (k : Nat) (h : k < s.size) (hb : isBl s[k] = true) : right (s.data.toList.take (k + 1)) = right (s.data.toList.take k) := by
  rw [take_snoc s k h, right_snoc, if_pos hb]
theorem right_stop (s : ByteArray) (k : Nat) (h : k < s.size) (hb : isBl s[k] = false) : right (s.data.toList.take (k + 1)) = s.data.toList.take (k + 1) := by
  rw [take_snoc s k h, right_snoc, if_neg (by simp [hb])]
theorem right_length (l : List UInt8) : (right l).length ≤ l.length := by
  rw [right, List.length_reverse]
  have := (List.dropWhile_sublist isBl (l := l.reverse)).length_le
  simpa using this
theorem rightB_size (s : ByteArray) : (rightB s).size ≤ s.size := by rw [rightB, size_bs, Lib.size_eq]; exact right_length _
theorem right_fin (s : ByteArray) (k : Nat) (h : right (s.data.toList.take k) = right s.data.toList) (h2 : right (s.data.toList.take k) = s.data.toList.take k) : s.extract 0 k = rightB s :=
  ext_data (by rw [Lib.extract_data, rightB, bs_data, ← h, h2]; simp)

theorem right_fin0 (s : ByteArray) (h : right (s.data.toList.take 0) = right s.data.toList) : ByteArray.empty = rightB s :=
  ext_data (by rw [rightB, bs_data, ← h]; rfl)
theorem rightB_end (u : ByteArray) (h : u.size = 0) : rightB u = u := by
  have e : u.data.toList = [] := List.eq_nil_of_length_eq_zero (by rw [← Lib.size_eq]; exact h)
  refine ext_data ?_
  rw [rightB, bs_data, e]; rfl
theorem rightB_init (u : ByteArray) (h : 0 < u.size) (hb : isBl (u[u.size - 1]'(by omega)) = true) : rightB (u.extract 0 (u.size - 1)) = rightB u := by
  have e := right_step u (u.size - 1) (by omega) hb
  rw [take_size u _ (by omega)] at e
  rw [rightB, Lib.extract_data, rightB, e, List.drop_zero, Nat.sub_zero]
theorem rightB_stop (u : ByteArray) (h : 0 < u.size) (hb : isBl (u[u.size - 1]'(by omega)) = false) : rightB u = u := by
  have e := right_stop u (u.size - 1) (by omega) hb
  rw [take_size u _ (by omega)] at e
  rw [rightB, e, bs_self]

/-! ### words -/
theorem first_step (s : ByteArray) (k : Nat) (h : k < s.size) (hb : isBl s[k] = false) : (first (s.data.toList.drop k)).length = (first (s.data.toList.drop (k + 1))).length + 1 := by
  rw [drop_cons s k h, first, List.takeWhile_cons, if_pos (by simp [hb])]; rfl
theorem first_stop (s : ByteArray) (k : Nat) (h : k < s.size) (hb : isBl s[k] = true) : (first (s.data.toList.drop k)).length = 0 := by
  rw [drop_cons s k h, first, List.takeWhile_cons, if_neg (by simp [hb])]; rfl
theorem first_end (s : ByteArray) (k : Nat) (h : s.size ≤ k) : (first (s.data.toList.drop k)).length = 0 := by
  rw [drop_size s k h]; rfl
theorem first_length (l : List UInt8) : (first l).length ≤ l.length := (List.takeWhile_sublist _).length_le
theorem wlen_le (s : ByteArray) : wlen s ≤ s.size := by rw [Lib.size_eq]; exact first_length _
theorem first_after (l : List UInt8) : first l ++ after l = l := List.takeWhile_append_dropWhile
theorem take_first (l : List UInt8) : l.take (first l).length = first l := by
  conv => lhs; arg 2; rw [← first_after l]
  rw [List.take_left']; rfl
theorem drop_first (l : List UInt8) : l.drop (first l).length = after l := by
  conv => lhs; arg 2; rw [← first_after l]
  rw [List.drop_left']; rfl

theorem flush_nil : flush [] = [] := rfl
theorem flush_cons {cur : List UInt8} (h : cur ≠ []) : flush cur = [cur] := by
  cases cur with
  | nil => exact absurd rfl h
  | cons c r => rfl
theorem cut_more (cur l : List UInt8) (h : cur ≠ []) : cutFrom cur l = (cur ++ first l) :: words (after l) := by
  induction l generalizing cur with
  | nil => simp [cutFrom, flush_cons h, first, after, words, flush_nil]
  | cons c r ih =>
    by_cases hc : isBl c = true
    · have e1 : first (c :: r) = [] := by simp [first, hc]
      have e2 : after (c :: r) = c :: r := by simp [after, hc]
      rw [e1, e2, cutFrom, if_pos hc, flush_cons h, words, cutFrom, if_pos hc, flush_nil]
      simp
    · have e1 : first (c :: r) = c :: first r := by simp [first, hc]
      have e2 : after (c :: r) = after r := by simp [after, hc]
      rw [e1, e2, cutFrom, if_neg hc, ih _ (by simp)]
      simp
theorem words_left (l : List UInt8) : words (left l) = words l := by
  induction l with
  | nil => rfl
  | cons c r ih =>
    rw [left, List.dropWhile_cons]
    by_cases hc : isBl c = true
    · rw [if_pos hc]
      have e : words (c :: r) = words r := by rw [words, cutFrom, if_pos hc, flush_nil]; rfl
      rw [e]; exact ih
    · rw [if_neg hc]
theorem words_nil : words [] = [] := rfl
theorem words_cons (l : List UInt8) (c : UInt8) (r : List UInt8) (hl : l = c :: r) (hc : isBl c = false) : words l = first l :: words (after l) := by
  subst hl
  have e1 : first (c :: r) = c :: first r := by simp [first, hc]
  have e2 : after (c :: r) = after r := by simp [after, hc]
  rw [e1, e2, words, cutFrom, if_neg (by simp [hc]), cut_more _ _ (by simp)]
  rfl
/-- a text without blanks ahead that is not empty: its first word, the words of what follows -/
theorem wordsB_head (s t : ByteArray) (hs : s = leftB t) (h : s.size ≠ 0) :
    wordsB s = s.extract 0 (wlen s) :: wordsB (leftB (s.extract (wlen s) s.size)) ∧ 0 < wlen s := by
  have hl : s.data.toList = left t.data.toList := by rw [hs]; rfl
  cases e : s.data.toList with
  | nil => rw [Lib.size_eq, e] at h; exact absurd rfl h
  | cons c r =>
    have hc : isBl c = false := left_head _ c r (by rw [← hl, e])
    constructor
    · have e1 : s.extract 0 (wlen s) = bs (first s.data.toList) := ext_data (by
        rw [Lib.extract_data, bs_data, wlen]; simpa using take_first _)
      have e2 : s.extract (wlen s) s.size = bs (after s.data.toList) := ext_data (by
        rw [Lib.extract_to_end, bs_data, wlen]; exact drop_first _)
      rw [e1, e2, wordsB, words_cons _ c r e hc, List.map_cons, wordsB, leftB, bs_data, bs_data, words_left]
    · rw [wlen, e]; simp [first, hc]
theorem wordsB_left (s : ByteArray) : wordsB (leftB s) = wordsB s := by rw [wordsB, leftB, bs_data, words_left]; rfl
theorem wordsB_empty (s : ByteArray) (h : s.size = 0) : wordsB s = [] := by
  have : s.data.toList = [] := List.eq_nil_of_length_eq_zero (by rw [← Lib.size_eq]; exact h)
  rw [wordsB, this]; rfl

theorem cut_blank (s : ByteArray) (k : Nat) (cur : List UInt8) (h : k < s.size) (hb : isBl s[k] = true) : cutFrom cur (s.data.toList.drop k) = flush cur ++ cutFrom [] (s.data.toList.drop (k + 1)) := by
  rw [drop_cons s k h, cutFrom, if_pos hb]
theorem cut_other (s : ByteArray) (k : Nat) (cur : List UInt8) (h : k < s.size) (hb : isBl s[k] = false) : cutFrom cur (s.data.toList.drop k) = cutFrom (cur ++ [s[k]]) (s.data.toList.drop (k + 1)) := by
  rw [drop_cons s k h, cutFrom, if_neg (by simp [hb])]
theorem cut_end (s : ByteArray) (k : Nat) (cur : List UInt8) (h : s.size ≤ k) : cutFrom cur (s.data.toList.drop k) = flush cur := by
  rw [drop_size s k h]; rfl

/-- how long words are, and how many -/
def total (xs : List (List UInt8)) : Nat := (xs.map (fun x => x.length + 1)).sum
theorem total_flush (cur : List UInt8) : total (flush cur) ≤ cur.length + 1 := by
  cases cur <;> simp [flush, total]
theorem total_cut (cur l : List UInt8) : total (cutFrom cur l) ≤ cur.length + l.length + 1 := by
  induction l generalizing cur with
  | nil => have := total_flush cur; simp only [cutFrom, List.length_nil]; omega
  | cons c r ih =>
    rw [cutFrom]
    split
    · have h1 := total_flush cur
      have h2 := ih []
      have e : total (flush cur ++ cutFrom [] r) = total (flush cur) + total (cutFrom [] r) := by simp [total]
      rw [e]; simp only [List.length_cons, List.length_nil] at *; omega
    · have h2 := ih (cur ++ [c])
      simp only [List.length_append, List.length_cons, List.length_nil] at *; omega
theorem total_count (xs : List (List UInt8)) : xs.length ≤ total xs := by
  induction xs with
  | nil => simp [total]
  | cons x r ih => simp only [total, List.map_cons, List.sum_cons, List.length_cons] at *; omega
theorem lens_total (xs : List (List UInt8)) : Lib.lens xs + xs.length = total xs := by
  induction xs with
  | nil => rfl
  | cons x r ih => simp only [Lib.lens, total, List.map_cons, List.sum_cons, List.length_cons] at *; omega
theorem join_total (xs : List (List UInt8)) : (Lib.join xs [32]).length ≤ total xs := by
  cases xs with
  | nil => simp [Lib.join_nil]
  | cons x r =>
    rw [Lib.join_length]
    have := lens_total (x :: r)
    simp only [List.length_cons, List.length_nil] at *; omega
theorem words_count (l : List UInt8) : (words l).length ≤ l.length + 1 := by
  have h1 := total_count (words l)
  have h2 := total_cut [] l
  simp only [words, List.length_nil] at *; omega
theorem wordsB_length (s : ByteArray) : (wordsB s).length ≤ s.size + 1 := by
  rw [wordsB, List.length_map, Lib.size_eq]; exact words_count _
theorem map_bs (xs : List (List UInt8)) : (xs.map bs).map (·.data.toList) = xs := by
  rw [List.map_map]
  conv => rhs; rw [← List.map_id xs]
  rfl
theorem wordsB_data (s : ByteArray) : (wordsB s).map (·.data.toList) = words s.data.toList := map_bs _
theorem join_words (s : ByteArray) : (Lib.join ((wordsB s).map (·.data.toList)) [32]).length ≤ s.size + 1 := by
  rw [wordsB_data]
  have h1 := join_total (words s.data.toList)
  have h2 := total_cut [] s.data.toList
  have h3 := Lib.size_eq s
  simp only [words, List.length_nil] at *; omega
theorem stripB_size (s : ByteArray) : (stripB s).size ≤ s.size + 1 := by
  rw [stripB, joinB, size_bs]; exact join_words s

/-! ### the document's way to cut: what is known ahead of place k, the last word having begun at f -/
def Inv (s : ByteArray) (k f : Nat) (acc : List ByteArray) : Prop :=
  (k ≤ s.size → acc ++ (cutFrom ((s.data.toList.drop f).take (k - f)) (s.data.toList.drop k)).map bs = wordsB s) ∧ (s.size < k → acc = wordsB s)
theorem inv_start (s : ByteArray) : Inv s 0 0 [] := ⟨fun _ => by simp [wordsB, words], fun h => absurd h (Nat.not_lt_zero _)⟩
theorem take_more (s : ByteArray) (f k : Nat) (hf : f ≤ k) (h : k < s.size) : (s.data.toList.drop f).take (k + 1 - f) = (s.data.toList.drop f).take (k - f) ++ [s[k]] := by
  have e : k + 1 - f = (k - f) + 1 := by omega
  have hl : k - f < (s.data.toList.drop f).length := by rw [List.length_drop, ← Lib.size_eq]; omega
  rw [e, List.take_succ_eq_append_getElem hl, List.getElem_drop]
  have e2 : f + (k - f) = k := by omega
  simp only [e2]
  rfl
theorem inv_other {s : ByteArray} {k f : Nat} {acc : List ByteArray} (hf : f ≤ k) (h : k < s.size) (hb : isBl s[k] = false) (hi : Inv s k f acc) : Inv s (k + 1) f acc :=
  ⟨fun _ => by rw [take_more s f k hf h, ← cut_other s k _ h hb]; exact hi.1 (by omega), fun h2 => by omega⟩
theorem cur_extract (s : ByteArray) (f k : Nat) : bs ((s.data.toList.drop f).take (k - f)) = s.extract f k := (Lib.extract_eq s f k).symm
theorem inv_cut {s : ByteArray} {k f : Nat} {acc : List ByteArray} (hf : f < k) (hk : k ≤ s.size) (hb : ∀ h : k < s.size, isBl s[k] = true) (hi : Inv s k f acc) : Inv s (k + 1) (k + 1) (acc ++ [s.extract f k]) := by
  have hne : (s.data.toList.drop f).take (k - f) ≠ [] := by
    intro h
    have := congrArg List.length h
    rw [List.length_take, List.length_drop, ← Lib.size_eq] at this
    simp only [List.length_nil] at this
    omega
  have h1 := hi.1 hk
  refine ⟨fun h2 => ?_, fun h2 => ?_⟩
  · rw [cut_blank s k _ (by omega) (hb (by omega)), flush_cons hne] at h1
    rw [← h1, Nat.sub_self, List.take_zero, ← cur_extract]
    simp
  · rw [cut_end s k _ (by omega), flush_cons hne] at h1
    rw [← h1, ← cur_extract]
    simp
theorem inv_skip {s : ByteArray} {k : Nat} {acc : List ByteArray} (hk : k ≤ s.size) (hb : ∀ h : k < s.size, isBl s[k] = true) (hi : Inv s k k acc) : Inv s (k + 1) (k + 1) acc := by
  have h1 := hi.1 hk
  rw [Nat.sub_self, List.take_zero] at h1
  refine ⟨fun h2 => ?_, fun h2 => ?_⟩
  · rw [cut_blank s k _ (by omega) (hb (by omega)), flush_nil] at h1
    rw [← h1, Nat.sub_self, List.take_zero]
    simp
  · rw [cut_end s k _ (by omega), flush_nil] at h1
    rw [← h1]
    simp

/-! ### joins, one by one -/
theorem join_take_one (xs : List (List UInt8)) (y : List UInt8) (h : xs[0]? = some y) : Lib.join (xs.take 1) [32] = y := by
  cases xs with
  | nil => cases h
  | cons x r => simp at h; subst h; simp [Lib.join_one]
theorem join_take_succ (xs : List (List UInt8)) (k : Nat) (y : List UInt8) (hk : 0 < k) (h : xs[k]? = some y) : Lib.join (xs.take (k + 1)) [32] = Lib.join (xs.take k) [32] ++ [32] ++ y := by
  cases xs with
  | nil => cases h
  | cons x r =>
    obtain ⟨j, rfl⟩ : ∃ j, k = j + 1 := ⟨k - 1, by omega⟩
    have h' : r[j]? = some y := by simpa using h
    rw [List.take_succ_cons, List.take_succ_cons, Lib.join_cons, Lib.join_cons, Lib.joinTail_take_succ _ _ _ _ h']
    simp [List.append_assoc]
theorem join_take_le (xs : List (List UInt8)) (k : Nat) : (Lib.join (xs.take k) [32]).length ≤ (Lib.join xs [32]).length := by
  cases xs with
  | nil => simp
  | cons x r =>
    cases k with
    | zero => simp [Lib.join_nil]
    | succ j =>
      rw [List.take_succ_cons, Lib.join_cons, Lib.join_cons, List.length_append, List.length_append]
      have := Lib.joinTail_take_le [32] r j
      omega

end Go.Proofs.YtpphkaolonjjdaaDoor.Pure

/- Strictly rising lists of texts: sorted and compacted; two of them with the same members are the same. (No program.) -/
namespace Go.Proofs.YtpphkaolonjjdaaDoor.Srt

abbrev T := List UInt8
/-- strictly rising -/
def Up (l : List T) : Prop := l.Pairwise (· < ·)

theorem lt_of_le_ne {a b : T} (h : a ≤ b) (hn : a ≠ b) : a < b := by
  rcases Decidable.em (a < b) with h1 | h1
  · exact h1
  · exact absurd (List.le_antisymm h (List.not_lt.1 h1)) hn
theorem lt_irrefl' (a : T) : ¬ a < a := List.lt_irrefl a
theorem lt_trans' {a b c : T} (h : a < b) (k : b < c) : a < c := List.lt_trans h k
theorem not_lt_of_lt {a b : T} (h : a < b) : ¬ b < a := fun k => lt_irrefl' _ (lt_trans' h k)
theorem lt_or {a b : T} (h : ¬ a < b) : a = b ∨ b < a := by
  by_cases e : a = b
  · exact .inl e
  · exact .inr (lt_of_le_ne (List.not_lt.1 h) (fun h2 => e h2.symm))

/-- two strictly rising lists with the same members are the same -/
theorem up_unique : ∀ {l m : List T}, Up l → Up m → (∀ x, x ∈ l ↔ x ∈ m) → l = m
  | [], [], _, _, _ => rfl
  | [], b :: m, _, _, h => absurd ((h b).2 List.mem_cons_self) List.not_mem_nil
  | a :: l, [], _, _, h => absurd ((h a).1 List.mem_cons_self) List.not_mem_nil
  | a :: l, b :: m, hl, hm, h => by
    obtain ⟨ha, hl'⟩ := List.pairwise_cons.1 hl
    obtain ⟨hb, hm'⟩ := List.pairwise_cons.1 hm
    have hab : a = b := by
      rcases List.mem_cons.1 ((h a).1 List.mem_cons_self) with e | e
      · exact e
      · rcases List.mem_cons.1 ((h b).2 List.mem_cons_self) with e2 | e2
        · exact e2.symm
        · exact absurd (ha _ e2) (not_lt_of_lt (hb _ e))
    subst hab
    rw [up_unique hl' hm' (fun x => ?_)]
    constructor
    · intro hx
      rcases List.mem_cons.1 ((h x).1 (List.mem_cons_of_mem _ hx)) with e | e
      · subst e; exact absurd (ha _ hx) (lt_irrefl' _)
      · exact e
    · intro hx
      rcases List.mem_cons.1 ((h x).2 (List.mem_cons_of_mem _ hx)) with e | e
      · subst e; exact absurd (hb _ hx) (lt_irrefl' _)
      · exact e

theorem getBang (l : List T) (j : Nat) (h : j < l.length) : l.toArray[j]! = l[j] := by
  rw [getElem!_pos l.toArray j (by simpa using h)]; simp

/-- of a list that does not fall, what is kept of its first m rises strictly, and its members are theirs -/
theorem compact_upTo (l : List T) (hl : l.Pairwise (· ≤ ·)) : ∀ m, m ≤ l.length → Up (Lib.compactUpTo l.toArray m) ∧ ∀ x, x ∈ Lib.compactUpTo l.toArray m ↔ x ∈ l.take m
  | 0, _ => ⟨List.Pairwise.nil, fun x => by simp [Lib.compactUpTo]⟩
  | m + 1, hm => by
    obtain ⟨hu, hmem⟩ := compact_upTo l hl m (by omega)
    rw [Lib.compactUpTo_succ, getBang l m (by omega), List.take_succ_eq_append_getElem (by omega)]
    have hle : ∀ j (hj : j < m), l[j]'(by omega) ≤ l[m] := fun j hj => (List.pairwise_iff_getElem.1 hl) j m (by omega) (by omega) hj
    have hle' : ∀ y ∈ l.take m, y ≤ l[m] := fun y hy => by
      obtain ⟨j, hj, rfl⟩ := List.getElem_of_mem hy
      rw [List.length_take] at hj
      rw [List.getElem_take]
      exact hle j (by omega)
    by_cases hk : Lib.keeps l.toArray m = true
    · rw [if_pos hk]
      have hnew : ∀ y ∈ l.take m, y < l[m] := by
        intro y hy
        refine lt_of_le_ne (hle' y hy) (fun e => ?_)
        obtain ⟨j, hj, rfl⟩ := List.getElem_of_mem hy
        rw [List.length_take] at hj
        rw [List.getElem_take] at e
        have hk' : m = 0 ∨ l.toArray[m]! ≠ l.toArray[m - 1]! := by simpa [Lib.keeps] using hk
        rcases hk' with h0 | h0
        · omega
        · rw [getBang l m (by omega), getBang l (m - 1) (by omega)] at h0
          refine h0 (List.le_antisymm ?_ (hle (m - 1) (by omega)))
          rw [← e]
          by_cases hj2 : j = m - 1
          · subst hj2; exact List.le_refl _
          · exact (List.pairwise_iff_getElem.1 hl) j (m - 1) (by omega) (by omega) (by omega)
      refine ⟨?_, fun x => by rw [List.mem_append, List.mem_append, hmem]⟩
      unfold Up
      rw [List.pairwise_append]
      exact ⟨hu, List.pairwise_singleton _ _, fun y hy z hz => by rw [List.mem_singleton.1 hz]; exact hnew y ((hmem y).1 hy)⟩
    · have hk' : Lib.keeps l.toArray m = false := by simpa using hk
      rw [if_neg hk, List.append_nil]
      refine ⟨hu, fun x => ?_⟩
      rw [List.mem_append, hmem]
      constructor
      · exact .inl
      · rintro (h | h)
        · exact h
        · have hne : ¬ (m = 0 ∨ l.toArray[m]! ≠ l.toArray[m - 1]!) := by simpa [Lib.keeps] using hk'
          have h0 : 0 < m := by omega
          have heq : l[m] = l[m - 1]'(by omega) := by
            have := hne
            rw [getBang l m (by omega), getBang l (m - 1) (by omega)] at this
            exact Decidable.not_not.1 (fun e => this (.inr e))
          rw [List.mem_singleton.1 h, heq]
          exact List.mem_take_iff_getElem.2 ⟨m - 1, by omega, rfl⟩

/-- sorted, each once -/
def sortT (l : List T) : List T := Lib.compact (l.mergeSort fun x y => decide (x ≤ y))

theorem sorted_le (l : List T) : (l.mergeSort fun x y => decide (x ≤ y)).Pairwise (· ≤ ·) := by
  have h := List.pairwise_mergeSort (le := fun x y : T => decide (x ≤ y)) (by
    intro a b c h1 h2
    simp only [decide_eq_true_eq] at h1 h2 ⊢
    exact List.le_trans h1 h2) (by
    intro a b
    simp only [Bool.or_eq_true, decide_eq_true_eq]
    exact List.le_total a b) l
  exact h.imp (fun h => by simpa using h)

theorem sortT_up (l : List T) : Up (sortT l) := (compact_upTo _ (sorted_le l) _ (Nat.le_refl _)).1
theorem sortT_mem (l : List T) (x : T) : x ∈ sortT l ↔ x ∈ l := by
  have := (compact_upTo _ (sorted_le l) _ (Nat.le_refl _)).2 x
  rw [List.take_length] at this
  exact this.trans List.mem_mergeSort
theorem sortT_eq {l m : List T} (hm : Up m) (h : ∀ x, x ∈ m ↔ x ∈ l) : sortT l = m :=
  up_unique (sortT_up l) hm (fun x => (sortT_mem l x).trans (h x).symm)
theorem sortT_len (l : List T) : (sortT l).length ≤ l.length := by
  have h := Lib.compact_length_le (l.mergeSort fun x y => decide (x ≤ y))
  rwa [List.length_mergeSort] at h
theorem sortT_nil (l : List T) : sortT l = [] ↔ l = [] := by
  constructor
  · intro h
    cases l with
    | nil => rfl
    | cons a l => exact absurd ((sortT_mem (a :: l) a).2 List.mem_cons_self) (by rw [h]; exact List.not_mem_nil)
  · rintro rfl
    exact List.eq_nil_of_length_eq_zero (Nat.le_zero.1 (sortT_len []))

/-- what rises strictly, with one more put in its place -/
theorem up_insert (l : List T) (x : T) (k : Nat) (hl : Up l) (h1 : ∀ j y, j < k → l[j]? = some y → y < x) (h2 : ∀ j y, k ≤ j → l[j]? = some y → x < y) : Up (l.take k ++ x :: l.drop k) := by
  have hlo : ∀ y ∈ l.take k, y < x := fun y hy => by
    obtain ⟨j, hj, rfl⟩ := List.getElem_of_mem hy
    rw [List.length_take] at hj
    exact h1 j _ (by omega) (by rw [List.getElem_take, List.getElem?_eq_getElem (by omega)])
  have hhi : ∀ y ∈ l.drop k, x < y := fun y hy => by
    obtain ⟨j, hj, rfl⟩ := List.getElem_of_mem hy
    rw [List.length_drop] at hj
    exact h2 (k + j) _ (by omega) (by rw [List.getElem_drop, List.getElem?_eq_getElem (by omega)])
  unfold Up at *
  have hs := hl
  rw [← List.take_append_drop k l, List.pairwise_append] at hs
  rw [List.pairwise_append, List.pairwise_cons]
  refine ⟨hs.1, ⟨hhi, hs.2.1⟩, fun a ha b hb => ?_⟩
  rcases List.mem_cons.1 hb with rfl | hb
  · exact hlo a ha
  · exact lt_trans' (hlo a ha) (hhi b hb)
theorem mem_insert (l : List T) (x y : T) (k : Nat) : y ∈ l.take k ++ x :: l.drop k ↔ y = x ∨ y ∈ l := by
  rw [List.mem_append, List.mem_cons]
  have : y ∈ l ↔ y ∈ l.take k ∨ y ∈ l.drop k := by rw [← List.mem_append, List.take_append_drop]
  rw [this]
  constructor
  · rintro (h | h | h)
    · exact .inr (.inl h)
    · exact .inl h
    · exact .inr (.inr h)
  · rintro (h | h | h)
    · exact .inr (.inl h)
    · exact .inl h
    · exact .inr (.inr h)
theorem up_get {l : List T} (h : Up l) {i j : Nat} {x y : T} (hij : i < j) (hx : l[i]? = some x) (hy : l[j]? = some y) : x < y := by
  obtain ⟨hi, rfl⟩ := List.getElem?_eq_some_iff.1 hx
  obtain ⟨hj, rfl⟩ := List.getElem?_eq_some_iff.1 hy
  exact (List.pairwise_iff_getElem.1 h) i j hi hj hij

end Go.Proofs.YtpphkaolonjjdaaDoor.Srt

/- The table of functions as plain lists; no program. -/
namespace Go.Proofs.YtpphkaolonjjdaaDoor.Fpl
open Go.Proofs.YtpphkaolonjjdaaDoor.Srt

/-- what a function is: so many at least, so many at most, lazy, pure -/
structure Inf where
  mn : Int
  mx : Int
  lz : Bool
  pu : Bool
deriving DecidableEq
def zero : Inf := ⟨0, 0, false, false⟩

/-- a name's, the first that there is -/
def lookI : List (T × Inf) → T → Option Inf
  | [], _ => none
  | (y, i) :: l, x => if y = x then some i else lookI l x
theorem look_none {l : List (T × Inf)} {x : T} : lookI l x = none ↔ x ∉ l.map Prod.fst := by
  induction l with
  | nil => simp [lookI]
  | cons r l ih =>
    obtain ⟨y, i⟩ := r
    rw [lookI]
    by_cases h : y = x
    · simp [h]
    · rw [if_neg h, ih]; simp [Ne.symm h]
theorem look_some {l : List (T × Inf)} {x : T} : (lookI l x).isSome = true ↔ x ∈ l.map Prod.fst := by
  rw [Option.isSome_iff_ne_none, ne_eq, look_none, Decidable.not_not]

/-- the program's, the last one ahead -/
def tab : List (T × Inf) := [
  ([105, 110, 102, 111], ⟨1, 1, false, false⟩),
  ([119, 97, 114, 110, 105, 110, 103], ⟨1, 1, false, false⟩),
  ([101, 114, 114, 111, 114], ⟨1, 1, false, false⟩),
  ([102, 108, 97, 118, 111, 114], ⟨1, 1, false, false⟩),
  ([111, 114, 105, 103, 105, 110], ⟨1, 1, false, false⟩),
  ([118, 97, 108, 117, 101], ⟨1, 1, false, false⟩),
  ([101, 118, 97, 108], ⟨1, 1, false, false⟩),
  ([99, 97, 108, 108], ⟨1, 0, false, false⟩),
  ([108, 101, 116], ⟨3, 3, true, false⟩),
  ([102, 111, 114, 101, 97, 99, 104], ⟨3, 3, true, false⟩),
  ([105, 110, 116, 99, 109, 112], ⟨2, 5, true, false⟩),
  ([97, 110, 100], ⟨1, 0, true, false⟩),
  ([111, 114], ⟨1, 0, true, false⟩),
  ([105, 102], ⟨2, 3, true, false⟩),
  ([119, 111, 114, 100, 108, 105, 115, 116], ⟨3, 3, false, true⟩),
  ([112, 97, 116, 115, 117, 98, 115, 116], ⟨3, 3, false, true⟩),
  ([115, 117, 98, 115, 116], ⟨3, 3, false, true⟩),
  ([106, 111, 105, 110], ⟨2, 2, false, true⟩),
  ([97, 100, 100, 112, 114, 101, 102, 105, 120], ⟨2, 2, false, true⟩),
  ([97, 100, 100, 115, 117, 102, 102, 105, 120], ⟨2, 2, false, true⟩),
  ([119, 111, 114, 100], ⟨2, 2, false, true⟩),
  ([102, 105, 108, 116, 101, 114, 45, 111, 117, 116], ⟨2, 2, false, true⟩),
  ([102, 105, 108, 116, 101, 114], ⟨2, 2, false, true⟩),
  ([102, 105, 110, 100, 115, 116, 114, 105, 110, 103], ⟨2, 2, false, true⟩),
  ([119, 105, 108, 100, 99, 97, 114, 100], ⟨1, 1, false, true⟩),
  ([97, 98, 115, 112, 97, 116, 104], ⟨1, 1, false, true⟩),
  ([98, 97, 115, 101, 110, 97, 109, 101], ⟨1, 1, false, true⟩),
  ([115, 117, 102, 102, 105, 120], ⟨1, 1, false, true⟩),
  ([110, 111, 116, 100, 105, 114], ⟨1, 1, false, true⟩),
  ([100, 105, 114], ⟨1, 1, false, true⟩),
  ([108, 97, 115, 116, 119, 111, 114, 100], ⟨1, 1, false, true⟩),
  ([102, 105, 114, 115, 116, 119, 111, 114, 100], ⟨1, 1, false, true⟩),
  ([119, 111, 114, 100, 115], ⟨1, 1, false, true⟩),
  ([115, 111, 114, 116], ⟨1, 1, false, true⟩),
  ([115, 116, 114, 105, 112], ⟨1, 1, false, true⟩)]
/-- all names, rising -/
def names : List T := [
  [97, 98, 115, 112, 97, 116, 104],
  [97, 100, 100, 112, 114, 101, 102, 105, 120],
  [97, 100, 100, 115, 117, 102, 102, 105, 120],
  [97, 110, 100],
  [98, 97, 115, 101, 110, 97, 109, 101],
  [99, 97, 108, 108],
  [100, 105, 114],
  [101, 114, 114, 111, 114],
  [101, 118, 97, 108],
  [102, 105, 108, 116, 101, 114],
  [102, 105, 108, 116, 101, 114, 45, 111, 117, 116],
  [102, 105, 110, 100, 115, 116, 114, 105, 110, 103],
  [102, 105, 114, 115, 116, 119, 111, 114, 100],
  [102, 108, 97, 118, 111, 114],
  [102, 111, 114, 101, 97, 99, 104],
  [105, 102],
  [105, 110, 102, 111],
  [105, 110, 116, 99, 109, 112],
  [106, 111, 105, 110],
  [108, 97, 115, 116, 119, 111, 114, 100],
  [108, 101, 116],
  [110, 111, 116, 100, 105, 114],
  [111, 114],
  [111, 114, 105, 103, 105, 110],
  [112, 97, 116, 115, 117, 98, 115, 116],
  [115, 111, 114, 116],
  [115, 116, 114, 105, 112],
  [115, 117, 98, 115, 116],
  [115, 117, 102, 102, 105, 120],
  [118, 97, 108, 117, 101],
  [119, 97, 114, 110, 105, 110, 103],
  [119, 105, 108, 100, 99, 97, 114, 100],
  [119, 111, 114, 100],
  [119, 111, 114, 100, 108, 105, 115, 116],
  [119, 111, 114, 100, 115]]
theorem names_len : names.length = 35 := rfl
theorem tab_len : tab.length = 35 := rfl
instance : DecidableRel (fun a b : T => a < b) := fun a b => inferInstanceAs (Decidable (a < b))
def upB : List T → Bool
  | a :: b :: l => decide (a < b) && upB (b :: l)
  | _ => true
theorem up_of : ∀ (l : List T), upB l = true → Up l
  | [], _ => List.Pairwise.nil
  | [a], _ => List.pairwise_singleton _ _
  | a :: b :: l, h => by
    rw [upB, Bool.and_eq_true, decide_eq_true_iff] at h
    have ih := up_of (b :: l) h.2
    refine List.pairwise_cons.2 ⟨fun c hc => ?_, ih⟩
    rcases List.mem_cons.1 hc with rfl | hc
    · exact h.1
    · exact lt_trans' h.1 ((List.pairwise_cons.1 ih).1 c hc)
theorem names_up : Up names := up_of names (by kernel_rfl)
def sub (a b : List T) : Bool := a.all fun x => decide (x ∈ b)
theorem sub_mem {a b : List T} (h : sub a b = true) {x : T} (hx : x ∈ a) : x ∈ b := of_decide_eq_true (List.all_eq_true.1 h x hx)
theorem names_tab (x : T) : x ∈ names ↔ x ∈ tab.map Prod.fst :=
  ⟨fun h => sub_mem (a := names) (b := tab.map Prod.fst) (by kernel_rfl) h, fun h => sub_mem (a := tab.map Prod.fst) (b := names) (by kernel_rfl) h⟩
theorem look_tab (x : T) : (lookI tab x).isSome = decide (x ∈ names) := by
  rw [Bool.eq_iff_iff, look_some, decide_eq_true_iff, names_tab]
def nodupB : List T → Bool
  | [] => true
  | a :: l => !decide (a ∈ l) && nodupB l
theorem nodup_of : ∀ (l : List T), nodupB l = true → l.Nodup
  | [], _ => List.nodup_nil
  | a :: l, h => by
    rw [nodupB, Bool.and_eq_true, Bool.not_eq_true', decide_eq_false_iff_not] at h
    exact List.nodup_cons.2 ⟨h.1, nodup_of l h.2⟩
theorem tab_nodup : (tab.map Prod.fst).Nodup := nodup_of _ (by kernel_rfl)
theorem sort_tab : sortT (tab.map Prod.fst) = names := sortT_eq names_up names_tab

end Go.Proofs.YtpphkaolonjjdaaDoor.Fpl

/- References read, on lists of bytes (no program): the document's Parse as a plain function. -/
namespace Go.Proofs.YtpphkaolonjjdaaDoor.Spl
open Go.Proofs.YtpphkaolonjjdaaDoor.Fpl

abbrev T := List UInt8
/-- an expansion: its kind, its text, what is below it -/
inductive Nod where
  | mk (k : Nat) (s : T) (l : List Nod)
/-- what may be wrong: it does not end, too few arguments, too deep -/
inductive Er where
  | form
  | few
  | deep
inductive Rd (α : Type) where
  | bad (e : Er)
  | ok (a : α)
def Rd.map {α β : Type} (f : α → β) : Rd α → Rd β
  | .bad e => .bad e
  | .ok a => .ok (f a)

def shutOf (o : UInt8) : UInt8 := if o = 123 then 125 else 41
/-- where the bracket is closed that is open d deep -/
def endsP (o c : UInt8) : Nat → T → Option Nat
  | _, [] => none
  | d, b :: r =>
    if b = o then (endsP o c (d + 1) r).map (· + 1)
    else if b = c then (if d ≤ 1 then some 0 else (endsP o c (d - 1) r).map (· + 1))
    else (endsP o c d r).map (· + 1)
/-- a call's arguments: d brackets open, m more may be cut off (none: as many as there are) -/
def argsP (o c : UInt8) : Nat → Option Nat → T → T → List T
  | _, _, cur, [] => [cur]
  | d, m, cur, b :: r =>
    if b = o then argsP o c (d + 1) m (cur ++ [b]) r
    else if b = c then argsP o c (d - 1) m (cur ++ [b]) r
    else if b = 44 ∧ d = 0 ∧ m ≠ some 0 then cur :: argsP o c 0 (m.map (· - 1)) [] r
    else argsP o c d m (cur ++ [b]) r
def letB (b : UInt8) : Bool := (decide (97 ≤ b) && decide (b ≤ 122)) || b == 45
/-- the function that a text begins a call of, what is behind its name, and what it is -/
def nameP (s : T) : Option (T × T × Inf) :=
  match s.dropWhile letB, lookI tab (s.takeWhile letB) with
  | b :: r, some i => if Pure.isBl b then some (s.takeWhile letB, b :: r, i) else none
  | _, _ => none
/-- the first colon at which no bracket is open: what is ahead of it and behind it -/
def colonP : Nat → T → T → Option (T × T)
  | _, _, [] => none
  | d, cur, b :: r =>
    if b = 40 ∨ b = 123 then colonP (d + 1) (cur ++ [b]) r
    else if b = 41 ∨ b = 125 then colonP (d - 1) (cur ++ [b]) r
    else if b = 58 ∧ d = 0 then some (cur, r)
    else colonP d (cur ++ [b]) r
/-- the first = behind it -/
def equalP : Nat → T → T → Option (T × T)
  | _, _, [] => none
  | d, cur, b :: r =>
    if b = 40 ∨ b = 123 then equalP (d + 1) (cur ++ [b]) r
    else if b = 41 ∨ b = 125 then equalP (d - 1) (cur ++ [b]) r
    else if b = 61 ∧ d = 0 then some (cur, r)
    else equalP d (cur ++ [b]) r
def cutsP (s : T) : Option (T × T × T) :=
  match colonP 0 [] s with
  | none => none
  | some (a, r) => match equalP 0 [] r with
    | none => none
    | some (b, c) => some (a, b, c)

def flushP (acc : List Nod) (cur : T) : List Nod := if cur.isEmpty then acc else acc ++ [.mk 1 cur []]
def wholeP : List Nod → Nod
  | [] => .mk 1 [] []
  | [n] => n
  | l => .mk 5 [] l
/-- texts, each read -/
def listP (p : T → Rd Nod) : List T → Rd (List Nod)
  | [] => .ok []
  | s :: r => match p s with
    | .bad e => .bad e
    | .ok n => (listP p r).map (n :: ·)
/-- what stands between brackets -/
def refP (p : T → Rd Nod) (o : UInt8) (s : T) : Rd Nod :=
  match nameP s with
  | some (f, r, i) =>
    let l := argsP o (shutOf o) 0 (if i.mx = 0 then none else some (i.mx.toNat - 1)) [] (Pure.left r)
    if l.length < i.mn.toNat then .bad .few else (listP p l).map (.mk 4 f)
  | none => match cutsP s with
    | some (a, b, c) => (listP p [a, b, c]).map (.mk 3 [])
    | none => (listP p [s]).map (.mk 2 [])
/-- from the front on; n: at least as many as there are bytes -/
def scanP (p : UInt8 → T → Rd Nod) : Nat → List Nod → T → T → Rd (List Nod)
  | 0, acc, cur, _ => .ok (flushP acc cur)
  | _ + 1, acc, cur, [] => .ok (flushP acc cur)
  | n + 1, acc, cur, b :: r =>
    if b = 36 then
      match r with
      | [] => .ok (flushP acc (cur ++ [36]))
      | c :: r2 =>
        if c = 36 then scanP p n acc (cur ++ [36]) r2
        else if c = 40 ∨ c = 123 then
          match endsP c (shutOf c) 1 r2 with
          | none => .bad .form
          | some e => match p c (r2.take e) with
            | .bad x => .bad x
            | .ok m => scanP p n (flushP acc cur ++ [m]) [] (r2.drop (e + 1))
        else scanP p n (flushP acc cur ++ [.mk 2 [] [.mk 1 [c] []]]) [] r2
    else scanP p n acc (cur ++ [b]) r
/-- a text; m: so many references within one another at most -/
def parseP : Nat → T → Rd Nod
  | 0, s => (scanP (fun _ _ => .bad .deep) (s.length + 1) [] [] s).map wholeP
  | m + 1, s => (scanP (refP (parseP m)) (s.length + 1) [] [] s).map wholeP
/-- the document's Parse -/
def parse (s : T) : Rd Nod := parseP 40 s

end Go.Proofs.YtpphkaolonjjdaaDoor.Spl
