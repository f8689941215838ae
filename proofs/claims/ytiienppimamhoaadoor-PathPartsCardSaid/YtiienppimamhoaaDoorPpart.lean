/- What PathParts is made of: parts put together, on lists of bytes. -/
import Derived.Deep.DeepCutAuto
import Derived.Test.YtiienppimamhoaaDoorPrabs
import Derived.Test.YtiienppimamhoaaDoorPawake
import Derived.Test.YtiienppimamhoaaDoorPlace
import Derived.Test.YtiienppimamhoaaDoorNums
namespace Go.Proofs.YtiienppimamhoaaDoor.PathParts
open Go.RowKit Go.Proofs.YtiienppimamhoaaDoor.Pth Go.Proofs.YtiienppimamhoaaDoor.Pfn Go.Proofs.YtiienppimamhoaaDoor.Pabs Go.Proofs.YtiienppimamhoaaDoor.Prabs Go.Proofs.YtiienppimamhoaaDoor.Pawake Go.Proofs.YtiienppimamhoaaDoor.Nums
open Go.Proofs.YtiienppimamhoaaDoor.Place (place place_lt place_is)

/-- the parts there are -/
def partAt (q : Nat) : List UInt8 := [[97], [98, 46, 99], [46, 46], [46], [], [100], [101, 46, 102, 46, 103]].getD q []
theorem part_good : ∀ q, q < 7 → 47 ∉ partAt q := by decide +kernel
theorem part_len : ∀ q, q < 7 → (partAt q).length ≤ 5 := by decide +kernel
theorem index_part (q : Nat) (hq : q < 7) (W : World) : (Instr.index 27 (.agg #[.string ⟨#[97]⟩, .string ⟨#[98, 46, 99]⟩, .string ⟨#[46, 46]⟩, .string ⟨#[46]⟩, .string ⟨#[]⟩, .string ⟨#[100]⟩, .string ⟨#[101, 46, 102, 46, 103]⟩]) (.int .i64 (q : Int))).run Tryd.prog W = .ok (.string (bs (partAt q))) W := by
  have h : q = 0 ∨ q = 1 ∨ q = 2 ∨ q = 3 ∨ q = 4 ∨ q = 5 ∨ q = 6 := by omega
  rcases h with rfl | rfl | rfl | rfl | rfl | rfl | rfl <;> (show _ = _; kernel_rfl)

/-- what stands ahead of the next part -/
def preL (lead : Bool) (ps : List (List UInt8)) : List UInt8 := if lead || decide (0 < ps.length) then textL lead ps ++ [47] else []
theorem pre_true (lead : Bool) (ps : List (List UInt8)) (h : (lead || decide (0 < ps.length)) = true) : bs (textL lead ps) ++ (⟨#[47]⟩ : ByteArray) = bs (preL lead ps) := by
  rw [preL, if_pos h, bs_app]; rfl
theorem pre_false (lead : Bool) (ps : List (List UInt8)) (h : (lead || decide (0 < ps.length)) = false) : bs (textL lead ps) = bs (preL lead ps) := by
  rw [preL, if_neg (by rw [h]; exact Bool.false_ne_true)]
  cases lead with
  | true => cases h
  | false =>
    cases ps with
    | nil => rfl
    | cons q r => simp at h
theorem pre_text (lead : Bool) (ps : List (List UInt8)) (p : List UInt8) : bs (preL lead ps) ++ bs p = bs (textL lead (ps ++ [p])) := by
  rw [← bs_app]
  congr 1
  by_cases h : (lead || decide (0 < ps.length)) = true
  · rw [preL, if_pos h, text_snoc, List.append_assoc]
    · rfl
    · cases lead with
      | true => exact .inl rfl
      | false =>
        right
        intro e
        rw [e] at h
        simp at h
  · rw [preL, if_neg h]
    cases lead with
    | true => simp at h
    | false =>
      cases ps with
      | nil => show p = p ++ flatL []; rw [show flatL [] = [] from rfl, List.append_nil]
      | cons q r => simp at h
theorem pre_len (lead : Bool) (ps : List (List UInt8)) : (preL lead ps).length ≤ (textL lead ps).length + 1 := by
  rw [preL]
  split
  · rw [List.length_append]; exact Nat.le_refl _
  · exact Nat.zero_le _
theorem text_len (lead : Bool) (ps : List (List UInt8)) (p : List UInt8) : (textL lead (ps ++ [p])).length ≤ (textL lead ps).length + 1 + p.length := by
  have h := congrArg ByteArray.size (pre_text lead ps p)
  rw [ByteArray.size_append, size_bs, size_bs, size_bs] at h
  have := pre_len lead ps
  omega
/-- all of it -/
def wholeL (lead last : Bool) (ps : List (List UInt8)) : List UInt8 := textL lead ps ++ (if last then [47] else [])
theorem whole_true (lead : Bool) (ps : List (List UInt8)) : bs (textL lead ps) ++ (⟨#[47]⟩ : ByteArray) = bs (wholeL lead true ps) := by
  rw [wholeL, if_pos rfl, bs_app]; rfl
theorem whole_false (lead : Bool) (ps : List (List UInt8)) : bs (textL lead ps) = bs (wholeL lead false ps) := by
  rw [wholeL, if_neg Bool.false_ne_true, List.append_nil]
theorem whole_len (lead last : Bool) (ps : List (List UInt8)) : (wholeL lead last ps).length ≤ (textL lead ps).length + 1 := by
  rw [wholeL, List.length_append]
  cases last
  · exact Nat.le_succ _
  · exact Nat.le_refl _
theorem size_app (a b : ByteArray) : (a ++ b).size = a.size + b.size := ByteArray.size_append
theorem own_cells {w : World} {B e : Nat} {g c : Nat} {n : Nat} {xs : List (List UInt8)} (h : w.ownsRow B e 1 (.slice (some ⟨g, 0, none⟩) n c) n (cs xs)) :
    ∀ j u, (cs xs)[j]? = some u → w.cell? ((⟨g, 0, none⟩ : Addr).add j) = some u := fun j u hu => h.cells (g := g) rfl j u hu
theorem abs_len (l : List UInt8) (n : Nat) (h : l.length ≤ n) : (absL l).length ≤ 2 * n + 3 := by have := absL_length l; omega
/-- is a text the one that it is compared with? -/
theorem bool_data (s r : ByteArray) : (s.toList == r.toList) = decide (s = r) := by
  by_cases h : s = r
  · subst h; simp
  · have : s.toList ≠ r.toList := fun e => h (by
      rw [Lib.toList_data, Lib.toList_data] at e
      exact eq_of_data e)
    simp [h, this]

/-- what is to be shown of a whole text S with T = Abs(S) -/
structure Facts (S T : ByteArray) : Prop where
  small : S.size ≤ 200
  smallT : T.size ≤ 500
  abs1 : ∀ W, Calls Tryd.prog 16 #[.string S] W fun e W' => e = .returned (.string T) ∧ Below W.heap.size W W'
  abs2 : ∀ W, Calls Tryd.prog 16 #[.string T] W fun e W' => e = .returned (.string T) ∧ Below W.heap.size W W'
theorem facts_of (l : List UInt8) (h : l.length ≤ 200) : Facts (bs l) (bs (absL l)) := by
  have h2 := abs_len l 200 h
  refine ⟨by rw [size_bs]; exact h, by rw [size_bs]; omega, fun W => abs_lit _ _ W (by rw [size_bs]; omega) rfl, fun W => abs_lit _ _ W (by rw [size_bs]; omega) ?_⟩
  rw [data_bs, abs_abs]

theorem whole_abs (lead last : Bool) (ps : List (List UInt8)) (h : ∀ p ∈ ps, 47 ∉ p) :
    absL (wholeL lead last ps) = if flatL (pileL [] ps) = [] ∧ wholeL lead last ps ≠ [] then [47] else flatL (pileL [] ps) := abs_text lead last ps h
theorem flat_small (lead last : Bool) (ps : List (List UInt8)) (h : ∀ p ∈ ps, 47 ∉ p) (hw : (wholeL lead last ps).length ≤ 121) : (flatL (pileL [] ps)).length ≤ 245 := by
  by_cases h0 : flatL (pileL [] ps) = []
  · rw [h0]; exact Nat.zero_le _
  · have h1 := abs_len _ 121 hw
    rw [whole_abs lead last ps h, if_neg (fun k => h0 k.1)] at h1
    exact h1
theorem nil_of_size {l : List UInt8} (h : (bs l).size = 0) : l = [] := List.eq_nil_of_length_eq_zero (by rw [← size_bs]; exact h)
theorem whole_slash (lead last : Bool) (ps : List (List UInt8)) (h : ∀ p ∈ ps, 47 ∉ p) (h1 : (bs (flatL (pileL [] ps))).size = 0) (h2 : (bs (wholeL lead last ps)).size ≠ 0) : bs (absL (wholeL lead last ps)) = ⟨#[47]⟩ := by
  rw [whole_abs lead last ps h, if_pos ⟨nil_of_size h1, fun e => h2 (by rw [e]; rfl)⟩]; rfl
theorem whole_flat (lead last : Bool) (ps : List (List UInt8)) (h : ∀ p ∈ ps, 47 ∉ p) (h1 : (bs (flatL (pileL [] ps))).size ≠ 0 ∨ (bs (wholeL lead last ps)).size = 0) : bs (absL (wholeL lead last ps)) = bs (flatL (pileL [] ps)) := by
  rw [whole_abs lead last ps h, if_neg]
  rintro ⟨k1, k2⟩
  rcases h1 with h1 | h1
  · exact h1 (by rw [k1]; rfl)
  · exact k2 (nil_of_size h1)
theorem extract_none (S : ByteArray) (h : wayB S = 0) : S.extract 0 (wayB S) = ⟨#[]⟩ := by
  apply eq_of_data
  rw [h, take_data]; rfl
theorem dir_none (S : ByteArray) (h : wayB S = 0) : ((dirB S).toList == [46, 47]) = true := by
  rw [dirB, if_pos h, Lib.toList_data]; rfl
theorem dir_some (S : ByteArray) (h : wayB S ≠ 0) : dirB S = S.extract 0 (wayB S) := by rw [dirB, if_neg h]
theorem not_same (S : ByteArray) (h : wayB S ≠ 0) : ((notdirB S).toList == S.toList) = false := by
  rw [bool_data]; exact decide_eq_false (notdir_less S h)

end Go.Proofs.YtiienppimamhoaaDoor.PathParts
