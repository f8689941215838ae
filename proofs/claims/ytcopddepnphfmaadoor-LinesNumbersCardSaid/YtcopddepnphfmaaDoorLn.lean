/- Plain facts on lists of bytes: physical lines, backslashes at an end, remarks, logical lines; no program is named here. -/
import Derived.Lib.TrimByte
import Derived.Lib.Strings
import Derived.Test.YtcopddepnphfmaaDoorPure
namespace Go.Proofs.YtcopddepnphfmaaDoor.Ln
open Go Go.Proofs.YtcopddepnphfmaaDoor.Pure

/-- how many backslashes a text ends with -/
def tb (l : List UInt8) : Nat := (l.reverse.takeWhile (· == 92)).length
def odd (l : List UInt8) : Bool := tb l % 2 == 1
def lineOf (l : List UInt8) : List UInt8 := l.takeWhile (· != 10)
def restOf (l : List UInt8) : List UInt8 := (l.dropWhile (· != 10)).drop 1

theorem tb_nil : tb [] = 0 := rfl
theorem tb_snoc (l : List UInt8) (c : UInt8) : tb (l ++ [c]) = if c = 92 then tb l + 1 else 0 := by
  unfold tb
  rw [List.reverse_append, List.reverse_singleton, List.singleton_append, List.takeWhile_cons]
  by_cases h : c = 92
  · simp [h]
  · simp [h]
theorem tb_le (l : List UInt8) : tb l ≤ l.length := by
  unfold tb
  have := (List.takeWhile_sublist (· == (92 : UInt8)) (l := l.reverse)).length_le
  simpa using this
theorem tb_stop (a b : List UInt8) (c : UInt8) (h : c ≠ 92) : tb (a ++ c :: b) = tb b := by
  unfold tb
  rw [List.reverse_append, List.reverse_cons, List.append_assoc, List.takeWhile_append]
  split
  · next h1 =>
    rw [List.singleton_append, List.takeWhile_cons, if_neg (by simpa using h)]
    simp only [List.append_nil]
    exact h1.symm
  · rfl
theorem tb_trim (l : List UInt8) : (Lib.trimRightB l 92).length + tb l = l.length := by
  have h := congrArg List.length (List.takeWhile_append_dropWhile (p := (· == (92 : UInt8))) (l := l.reverse))
  rw [List.length_append, List.length_reverse] at h
  unfold Lib.trimRightB tb
  rw [List.length_reverse]
  omega
theorem tb_pos {l : List UInt8} (h : 0 < tb l) : ∃ u, l = u ++ [92] := by
  rcases List.eq_nil_or_concat l with rfl | ⟨u, c, rfl⟩
  · exact absurd h (Nat.lt_irrefl 0)
  · rw [List.concat_eq_append] at h ⊢
    rw [tb_snoc] at h
    by_cases hc : c = 92
    · exact ⟨u, by rw [hc]⟩
    · rw [if_neg hc] at h; exact absurd h (Nat.lt_irrefl 0)
theorem odd_pos {l : List UInt8} (h : odd l = true) : ∃ u, l = u ++ [92] := by
  refine tb_pos ?_
  have : tb l % 2 = 1 := by simpa [odd] using h
  omega

def tab9 : List UInt8 → List UInt8
  | [] => []
  | c :: r => if c = 9 then r else c :: r
theorem tab9_cons (c : UInt8) (r : List UInt8) : tab9 (c :: r) = if c = 9 then r else c :: r := rfl
theorem tab9_prefix (l : List UInt8) : Lib.trimPrefix l [9] = tab9 l := by
  cases l with
  | nil => rfl
  | cons c r =>
    rw [tab9_cons]
    unfold Lib.trimPrefix Lib.hasPrefix
    by_cases h : c = 9
    · subst h; simp [List.isPrefixOf]
    · rw [if_neg h, if_neg]
      simp [List.isPrefixOf]
      exact fun e => h e.symm
theorem tb_tab (l : List UInt8) : tb (tab9 l) = tb l := by
  cases l with
  | nil => rfl
  | cons c r =>
    rw [tab9_cons]
    by_cases h : c = 9
    · rw [if_pos h, h]
      exact (tb_stop [] r 9 (by decide)).symm
    · rw [if_neg h]
theorem bl_not {c : UInt8} (h : isBl c = true) : c ≠ 92 := by
  intro e; subst e; exact absurd h (by decide)
theorem left_cons (c : UInt8) (r : List UInt8) : left (c :: r) = if isBl c then left r else c :: r := by
  rw [left, List.dropWhile_cons]; rfl
theorem tb_left (l : List UInt8) : tb (left l) = tb l := by
  induction l with
  | nil => rfl
  | cons c r ih =>
    rw [left_cons]
    by_cases h : isBl c = true
    · rw [if_pos h, ih]
      exact (tb_stop [] r c (bl_not h)).symm
    · rw [if_neg h]

/-! ### remarks -/
def cutB (acc : List UInt8) : List UInt8 := acc.take (acc.length - tb acc + tb acc / 2)
def bareG : List UInt8 → List UInt8 → List UInt8
  | acc, [] => acc
  | acc, c :: r => if c = 35 then (if tb acc % 2 = 0 then cutB acc else bareG (cutB acc ++ [35]) r) else bareG (acc ++ [c]) r
def bare (l : List UInt8) : List UInt8 := bareG [] l
theorem bare_skip (a : List UInt8) : ∀ (acc r : List UInt8), (∀ c ∈ a, c ≠ 35) → bareG acc (a ++ r) = bareG (acc ++ a) r := by
  induction a with
  | nil => intro acc r _; simp
  | cons c a ih =>
    intro acc r h
    rw [List.cons_append, bareG, if_neg (h c (by simp)), ih _ _ (fun x hx => h x (by simp [hx]))]
    simp
theorem bare_end (acc a : List UInt8) (h : ∀ c ∈ a, c ≠ 35) : bareG acc a = acc ++ a := by
  have := bare_skip a acc [] h
  rw [List.append_nil] at this
  rw [this, bareG]
def Fresh (acc : List UInt8) : Prop := acc = [] ∨ ∃ u, acc = u ++ [35]
theorem tb_fresh {acc : List UInt8} (h : Fresh acc) (a : List UInt8) : tb (acc ++ a) = tb a := by
  rcases h with rfl | ⟨u, rfl⟩
  · rfl
  · rw [List.append_assoc]; exact tb_stop u a 35 (by decide)
theorem cut_fresh {acc : List UInt8} (h : Fresh acc) (a : List UInt8) : cutB (acc ++ a) = acc ++ cutB a := by
  have := tb_le a
  unfold cutB
  rw [tb_fresh h, List.length_append, List.take_append]
  rw [List.take_of_length_le (by omega)]
  congr 2
  omega
theorem bare_mark {acc : List UInt8} (h : Fresh acc) (a r : List UInt8) (ha : ∀ c ∈ a, c ≠ 35) :
    bareG acc (a ++ 35 :: r) = if tb a % 2 = 0 then acc ++ cutB a else bareG (acc ++ cutB a ++ [35]) r := by
  rw [bare_skip a acc _ ha, bareG, if_pos rfl, tb_fresh h, cut_fresh h]
theorem cutB_length (a : List UInt8) : (cutB a).length = a.length - tb a + tb a / 2 := by
  have := tb_le a
  unfold cutB
  rw [List.length_take]
  omega
theorem bareG_length (l : List UInt8) : ∀ acc : List UInt8, (bareG acc l).length ≤ acc.length + l.length := by
  induction l with
  | nil => intro acc; exact Nat.le_refl _
  | cons c r ih =>
    intro acc
    have h1 := tb_le acc
    have h2 := cutB_length acc
    rw [bareG]
    split
    · split
      · simp; omega
      · have := ih (cutB acc ++ [35]); simp at this ⊢; omega
    · have := ih (acc ++ [c]); simp at this ⊢; omega
theorem bare_length (l : List UInt8) : (bare l).length ≤ l.length := by have := bareG_length l []; simpa [bare] using this

/-! ### physical lines -/
theorem line_drop (l : List UInt8) : lineOf l ++ l.dropWhile (· != 10) = l := List.takeWhile_append_dropWhile
theorem rest_length {l : List UInt8} (h : l ≠ []) : (restOf l).length < l.length := by
  have h1 := congrArg List.length (line_drop l)
  rw [List.length_append] at h1
  have h2 : 0 < l.length := List.length_pos_iff.2 h
  unfold restOf
  rw [List.length_drop]
  omega
theorem rest_le (l : List UInt8) : (restOf l).length ≤ l.length := by
  cases l with
  | nil => exact Nat.le_refl _
  | cons c r => exact Nat.le_of_lt (rest_length (by simp))
theorem line_le (l : List UInt8) : (lineOf l).length ≤ l.length := (List.takeWhile_sublist _).length_le
theorem line_cons (c : UInt8) (r : List UInt8) : lineOf (c :: r) = if c = 10 then [] else c :: lineOf r := by
  unfold lineOf
  rw [List.takeWhile_cons]
  by_cases h : c = 10
  · simp [h]
  · simp [h]
theorem rest_cons (c : UInt8) (r : List UInt8) : restOf (c :: r) = if c = 10 then r else restOf r := by
  unfold restOf
  rw [List.dropWhile_cons]
  by_cases h : c = 10
  · simp [h]
  · simp [h]
theorem line_no (l : List UInt8) : ∀ c ∈ lineOf l, c ≠ 10 := by
  induction l with
  | nil => intro c hc; exact absurd hc (by simp [lineOf])
  | cons d r ih =>
    intro c hc
    rw [line_cons] at hc
    split at hc
    · exact absurd hc (by simp)
    · next h =>
      rcases List.mem_cons.1 hc with rfl | hc
      · exact h
      · exact ih c hc
theorem rest_cut (a r : List UInt8) (ha : ∀ c ∈ a, c ≠ 10) : lineOf (a ++ 10 :: r) = a ∧ restOf (a ++ 10 :: r) = r := by
  induction a with
  | nil => exact ⟨by rw [List.nil_append, line_cons, if_pos rfl], by rw [List.nil_append, rest_cons, if_pos rfl]⟩
  | cons c a ih =>
    obtain ⟨h1, h2⟩ := ih (fun x hx => ha x (by simp [hx]))
    have hc := ha c (by simp)
    exact ⟨by rw [List.cons_append, line_cons, if_neg hc, h1], by rw [List.cons_append, rest_cons, if_neg hc, h2]⟩
theorem rest_none (a : List UInt8) (ha : ∀ c ∈ a, c ≠ 10) : lineOf a = a ∧ restOf a = [] := by
  induction a with
  | nil => exact ⟨rfl, rfl⟩
  | cons c a ih =>
    obtain ⟨h1, h2⟩ := ih (fun x hx => ha x (by simp [hx]))
    have hc := ha c (by simp)
    exact ⟨by rw [line_cons, if_neg hc, h1], by rw [rest_cons, if_neg hc, h2]⟩
/-- where the next line begins is told by how much is left -/
theorem rest_is_suffix (l : List UInt8) : restOf l <:+ l := (List.drop_suffix 1 _).trans (List.dropWhile_suffix _)
theorem suffix_drop {a l : List UInt8} (h : a <:+ l) : l.drop (l.length - a.length) = a := (List.suffix_iff_eq_drop.1 h).symm

def lines2 (l : List UInt8) : List (List UInt8 × List UInt8) := if _h : l = [] then [] else (lineOf l, restOf l) :: lines2 (restOf l)
termination_by l.length
decreasing_by exact rest_length _h
theorem lines2_nil : lines2 [] = [] := by rw [lines2]; simp
theorem lines2_cons {l : List UInt8} (h : l ≠ []) : lines2 l = (lineOf l, restOf l) :: lines2 (restOf l) := by rw [lines2, dif_neg h]
theorem lines2_suffix (n : Nat) : ∀ l : List UInt8, l.length ≤ n → ∀ x ∈ lines2 l, x.2 <:+ l ∧ x.1.length ≤ l.length ∧ x.2.length < l.length := by
  induction n with
  | zero =>
    intro l h x hx
    rw [List.eq_nil_of_length_eq_zero (Nat.le_zero.1 h), lines2_nil] at hx
    exact absurd hx (by simp)
  | succ n ih =>
    intro l h x hx
    by_cases hl : l = []
    · rw [hl, lines2_nil] at hx; exact absurd hx (by simp)
    · have h1 := rest_length hl
      rw [lines2_cons hl] at hx
      rcases List.mem_cons.1 hx with rfl | hx
      · exact ⟨rest_is_suffix l, line_le l, h1⟩
      · obtain ⟨a, b, c⟩ := ih (restOf l) (by omega) x hx
        exact ⟨a.trans (rest_is_suffix l), by omega, by omega⟩
theorem lines2_count (n : Nat) : ∀ l : List UInt8, l.length ≤ n → (lines2 l).length ≤ l.length := by
  induction n with
  | zero =>
    intro l h
    rw [List.eq_nil_of_length_eq_zero (Nat.le_zero.1 h), lines2_nil]; exact Nat.le_refl _
  | succ n ih =>
    intro l h
    by_cases hl : l = []
    · rw [hl, lines2_nil]; exact Nat.le_refl _
    · have h1 := rest_length hl
      have := ih (restOf l) (by omega)
      rw [lines2_cons hl]; simp; omega

/-- the lines up to the first that does not go on -/
def upto : List (List UInt8 × List UInt8) → List (List UInt8 × List UInt8)
  | [] => []
  | x :: r => if odd x.1 then x :: upto r else [x]
theorem upto_prefix (r : List (List UInt8 × List UInt8)) : upto r <+: r := by
  induction r with
  | nil => exact List.prefix_refl _
  | cons x r ih =>
    rw [upto]
    split
    · exact List.cons_prefix_cons.2 ⟨rfl, ih⟩
    · exact ⟨r, rfl⟩
theorem upto_more (pre : List (List UInt8 × List UInt8)) (x : List UInt8 × List UInt8) (r : List (List UInt8 × List UInt8)) (h : ∀ y ∈ pre, odd y.1 = true) :
    upto (pre ++ x :: r) = pre ++ (if odd x.1 then x :: upto r else [x]) := by
  induction pre with
  | nil => rw [List.nil_append, upto]; rfl
  | cons y pre ih =>
    rw [List.cons_append, upto, if_pos (h y (by simp)), ih (fun z hz => h z (by simp [hz]))]
    rfl
theorem upto_all (pre : List (List UInt8 × List UInt8)) (h : ∀ y ∈ pre, odd y.1 = true) : upto pre = pre := by
  induction pre with
  | nil => rfl
  | cons y pre ih => rw [upto, if_pos (h y (by simp)), ih (fun z hz => h z (by simp [hz]))]
theorem upto_ne {r : List (List UInt8 × List UInt8)} (h : r ≠ []) : upto r ≠ [] := by
  cases r with
  | nil => exact absurd rfl h
  | cons x r => rw [upto]; split <;> simp
/-- all but the last go on -/
theorem upto_odd (r : List (List UInt8 × List UInt8)) : ∀ y ∈ (upto r).dropLast, odd y.1 = true := by
  induction r with
  | nil => intro y hy; exact absurd hy (by simp [upto])
  | cons x r ih =>
    intro y hy
    rw [upto] at hy
    by_cases hx : odd x.1 = true
    · rw [if_pos hx] at hy
      cases hr : upto r with
      | nil => rw [hr] at hy; exact absurd hy (by simp)
      | cons a b =>
        rw [hr, List.dropLast_cons_of_ne_nil (by simp)] at hy
        rcases List.mem_cons.1 hy with rfl | hy
        · exact hx
        · exact ih y (by rw [hr]; exact hy)
    · rw [if_neg hx] at hy; exact absurd hy (by simp)

def pieces (l : List UInt8) : List (List UInt8 × List UInt8) := upto (lines2 l)
theorem pieces_ne {l : List UInt8} (h : l ≠ []) : pieces l ≠ [] := upto_ne (by rw [lines2_cons h]; simp)
theorem pieces_cons {l : List UInt8} (h : l ≠ []) : pieces l = (lineOf l, restOf l) :: (if odd (lineOf l) then pieces (restOf l) else []) := by
  unfold pieces
  rw [lines2_cons h, upto]
  split <;> rfl
theorem pieces_mem (l : List UInt8) : ∀ x ∈ pieces l, x.2 <:+ l ∧ x.1.length ≤ l.length ∧ x.2.length < l.length :=
  fun x hx => lines2_suffix _ l (Nat.le_refl _) x ((upto_prefix _).subset hx)
theorem pieces_count (l : List UInt8) : (pieces l).length ≤ l.length := Nat.le_trans (upto_prefix _).length_le (lines2_count _ l (Nat.le_refl _))

/-! ### the text of a logical line -/
def step (recipe : Bool) (s t : List UInt8) : List UInt8 := if recipe then s ++ [10] ++ tab9 t else right s.dropLast ++ [32] ++ left t
theorem odd_step (recipe : Bool) (s t : List UInt8) : odd (step recipe s t) = odd t := by
  unfold odd step
  cases recipe
  · rw [if_neg (by simp), List.append_assoc, List.singleton_append, tb_stop _ _ _ (by decide), tb_left]
  · rw [if_pos rfl, List.append_assoc, List.singleton_append, tb_stop _ _ _ (by decide), tb_tab]
def textR (recipe : Bool) : List (List UInt8) → List UInt8
  | [] => []
  | r :: rs => rs.foldl (step recipe) r
theorem textR_snoc (recipe : Bool) (rs : List (List UInt8)) (t : List UInt8) (h : rs ≠ []) : textR recipe (rs ++ [t]) = step recipe (textR recipe rs) t := by
  cases rs with
  | nil => exact absurd rfl h
  | cons r rs => simp [textR, List.foldl_append]
theorem odd_text (recipe : Bool) (rs : List (List UInt8)) (t : List UInt8) : odd (textR recipe (rs ++ [t])) = odd t := by
  cases rs with
  | nil => rfl
  | cons r rs => rw [textR_snoc _ _ _ (by simp), odd_step]
def isTab (l : List UInt8) : Bool := l.head? == some 9
def textL (l : List UInt8) : List UInt8 := if isTab (lineOf l) then (textR true ((pieces l).map (·.1))).drop 1 else bare (textR false ((pieces l).map (·.1)))
def leftL (l : List UInt8) : List UInt8 := ((pieces l).getLast?.map (·.2)).getD []
theorem leftL_of {l : List UInt8} (P : List (List UInt8 × List UInt8)) (x : List UInt8 × List UInt8) (h : pieces l = P ++ [x]) : leftL l = x.2 := by
  unfold leftL; rw [h]; simp
theorem pieces_last {l : List UInt8} (h : l ≠ []) : ∃ P x, pieces l = P ++ [x] := by
  rcases List.eq_nil_or_concat (pieces l) with h1 | ⟨P, x, h1⟩
  · exact absurd h1 (pieces_ne h)
  · exact ⟨P, x, by rw [h1, List.concat_eq_append]⟩
theorem leftL_suffix {l : List UInt8} (h : l ≠ []) : leftL l <:+ l ∧ (leftL l).length < l.length := by
  obtain ⟨P, x, hP⟩ := pieces_last h
  rw [leftL_of P x hP]
  obtain ⟨a, _, c⟩ := pieces_mem l x (by rw [hP]; simp)
  exact ⟨a, c⟩
def allL (l : List UInt8) (n : Nat) : List (List UInt8 × Nat × Bool) := if _h : l = [] then [] else (textL l, n, isTab (lineOf l)) :: allL (leftL l) (n + (pieces l).length)
termination_by l.length
decreasing_by exact (leftL_suffix _h).2
theorem allL_nil (n : Nat) : allL [] n = [] := by rw [allL]; simp
theorem allL_cons {l : List UInt8} (h : l ≠ []) (n : Nat) : allL l n = (textL l, n, isTab (lineOf l)) :: allL (leftL l) (n + (pieces l).length) := by rw [allL, dif_neg h]

/-! ### as the program puts it together -/
theorem joinTail_snoc (sep : List UInt8) (L : List (List UInt8)) (y : List UInt8) : Lib.joinTail sep (L ++ [y]) = Lib.joinTail sep L ++ sep ++ y := by simp [Lib.joinTail, List.append_assoc]
theorem joinTail_app (sep : List UInt8) (L M : List (List UInt8)) : Lib.joinTail sep (L ++ M) = Lib.joinTail sep L ++ Lib.joinTail sep M := by simp [Lib.joinTail]
theorem fold_tab (rs : List (List UInt8)) : ∀ s, rs.foldl (step true) s = s ++ Lib.joinTail [10] (rs.map tab9) := by
  induction rs with
  | nil => intro s; simp [Lib.joinTail]
  | cons r rs ih =>
    intro s
    rw [List.foldl_cons, ih]
    simp [step, Lib.joinTail]
theorem recipe_is (r : List UInt8) (rs : List (List UInt8)) (h : isTab r = true) : (textR true (r :: rs)).drop 1 = Lib.join ((r :: rs).map tab9) [10] := by
  cases r with
  | nil => exact absurd h (by decide)
  | cons c u =>
    have hc : c = 9 := by simpa [isTab] using h
    subst hc
    rw [textR, fold_tab, List.map_cons, Lib.join_cons]
    rfl
theorem right_app (a b : List UInt8) : right (a ++ b) = if right b = [] then right a else a ++ right b := by
  unfold right
  rw [List.reverse_append, List.dropWhile_append]
  by_cases h : List.dropWhile isBl b.reverse = []
  · simp [h]
  · have : (List.dropWhile isBl b.reverse).isEmpty = false := by simpa using h
    rw [this]
    simp [h]
theorem right_right (l : List UInt8) : right (right l) = right l := by
  have := left_left l.reverse
  unfold right
  unfold left at this
  rw [List.reverse_reverse, this]
theorem right_bl {c : UInt8} (h : isBl c = true) : right [c] = [] := by simp [right, h]
theorem right_no {c : UInt8} (h : isBl c = false) : right [c] = [c] := by simp [right, h]
theorem trim_nil (u : List UInt8) : right (left u) = [] ↔ left u = [] := by
  constructor
  · intro h
    cases hl : left u with
    | nil => rfl
    | cons c r =>
      have hc := left_head u c r hl
      rw [hl, show c :: r = [c] ++ r from rfl, right_app, right_no hc] at h
      split at h
      · exact absurd h (by simp)
      · exact absurd h (by simp)
  · intro h; rw [h]; rfl
theorem left_snoc (u : List UInt8) (c : UInt8) (h : isBl c = false) : left (u ++ [c]) = left u ++ [c] := by
  induction u with
  | nil => rw [List.nil_append, left_cons, if_neg (by simp [h])]; rfl
  | cons d u ih =>
    rw [List.cons_append, left_cons, left_cons]
    split
    · exact ih
    · rfl
def midP (l : List (List UInt8)) : List (List UInt8) := (l.map (fun t => right (left t.dropLast))).filter (fun x => !x.isEmpty)
theorem midP_cons (t : List UInt8) (l : List (List UInt8)) : midP (t :: l) = if right (left t.dropLast) = [] then midP l else right (left t.dropLast) :: midP l := by
  unfold midP
  rw [List.map_cons, List.filter_cons]
  by_cases h : right (left t.dropLast) = []
  · simp [h]
  · rw [if_neg h, if_pos]
    simpa using h
theorem fold_mid (x0 last : List UInt8) (mid : List (List UInt8)) : ∀ (s : List UInt8) (L : List (List UInt8)), (∀ t ∈ mid, ∃ u, t = u ++ [92]) → right s.dropLast = x0 ++ Lib.joinTail [32] L → right (x0 ++ Lib.joinTail [32] L) = x0 ++ Lib.joinTail [32] L →
    (mid ++ [last]).foldl (step false) s = x0 ++ Lib.joinTail [32] (L ++ (midP mid ++ [left last])) := by
  induction mid with
  | nil =>
    intro s L _ h1 _
    rw [List.nil_append, List.foldl_cons, List.foldl_nil]
    simp only [step, Bool.false_eq_true, if_false]
    rw [h1, midP, List.map_nil, List.filter_nil, List.nil_append, joinTail_snoc]
    simp
  | cons t mid ih =>
    intro s L hm h1 h2
    obtain ⟨u, rfl⟩ := hm t (by simp)
    have hm' := fun x hx => hm x (List.mem_cons_of_mem _ hx)
    have e1 : step false s (u ++ [92]) = (x0 ++ Lib.joinTail [32] L ++ [32] ++ left u) ++ [92] := by
      simp only [step, Bool.false_eq_true, if_false]
      rw [h1, left_snoc u 92 (by decide)]; simp
    rw [List.cons_append, List.foldl_cons, e1, midP_cons, List.dropLast_concat]
    by_cases hu : left u = []
    · rw [if_pos ((trim_nil u).2 hu)]
      refine ih _ L hm' ?_ h2
      rw [List.dropLast_concat, hu, List.append_nil, right_app, if_pos (right_bl (by decide)), h2]
    · have hu' : right (left u) ≠ [] := fun h => hu ((trim_nil u).1 h)
      rw [if_neg hu']
      have e2 : right (x0 ++ Lib.joinTail [32] L ++ [32] ++ left u) = x0 ++ Lib.joinTail [32] (L ++ [right (left u)]) := by
        rw [right_app, if_neg hu', joinTail_snoc]; simp
      have := ih ((x0 ++ Lib.joinTail [32] L ++ [32] ++ left u) ++ [92]) (L ++ [right (left u)]) hm' (by rw [List.dropLast_concat, e2]) (by rw [← e2, right_right])
      rw [this]
      simp
/-- a line that is no recipe's, as the program puts it together -/
theorem plain_is (r0 last : List UInt8) (mid : List (List UInt8)) (h : ∀ t ∈ mid, ∃ u, t = u ++ [92]) :
    textR false (r0 :: (mid ++ [last])) = Lib.join (right r0.dropLast :: (midP mid ++ [left last])) [32] := by
  rw [textR, fold_mid (right r0.dropLast) last mid r0 [] h (by simp [Lib.joinTail]) (by simp [Lib.joinTail, right_right]), Lib.join_cons]
  rfl

theorem fold_len (M : Nat) (rs : List (List UInt8)) : ∀ s : List UInt8, (∀ t ∈ rs, t.length ≤ M) → (rs.foldl (step false) s).length ≤ s.length + rs.length * (M + 1) := by
  induction rs with
  | nil => intro s _; simp
  | cons r rs ih =>
    intro s h
    have h1 := h r (by simp)
    have h2 := ih (step false s r) (fun t ht => h t (by simp [ht]))
    have h3 : (step false s r).length ≤ s.length + (M + 1) := by
      have a := right_length s.dropLast
      have b := left_length r
      rw [List.length_dropLast] at a
      simp only [step, Bool.false_eq_true, if_false, List.length_append, List.length_singleton]
      omega
    rw [List.foldl_cons, List.length_cons, Nat.succ_mul]
    omega
theorem textR_len (M : Nat) (rs : List (List UInt8)) (h : ∀ t ∈ rs, t.length ≤ M) : (textR false rs).length ≤ rs.length * (M + 1) := by
  cases rs with
  | nil => simp [textR]
  | cons r rs =>
    have h1 := h r (by simp)
    have h2 := fold_len M rs r (fun t ht => h t (by simp [ht]))
    rw [textR, List.length_cons, Nat.succ_mul]
    omega

end Go.Proofs.YtcopddepnphfmaaDoor.Ln
