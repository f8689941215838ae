/- The document's example of patterns holds. -/
import Derived.Test.YtepigemfkaeaeaaDoorReplace
namespace Go.Proofs.YtepigemfkaeaeaaDoor.PatAwake
open Go.RowKit Go.Proofs.YtepigemfkaeaeaaDoor.Pat Go.Proofs.YtepigemfkaeaeaaDoor.Build Go.Proofs.YtepigemfkaeaeaaDoor.Of Go.Proofs.YtepigemfkaeaeaaDoor.Match Go.Proofs.YtepigemfkaeaeaaDoor.Replace

theorem out_lit : outR ⟨#[37, 46, 99]⟩ ⟨#[37, 46, 111]⟩ ⟨#[97, 46, 99]⟩ = ⟨#[97, 46, 111]⟩ := by kernel_rfl
theorem ok_lit : okR ⟨#[37, 46, 99]⟩ ⟨#[97, 46, 99]⟩ = true := by kernel_rfl
theorem has_lit : hasB ⟨#[97, 92, 37, 98, 37, 99]⟩ = true := by kernel_rfl
theorem pre_lit : preB ⟨#[97, 92, 37, 98, 37, 99]⟩ = ⟨#[97, 37, 98]⟩ := by kernel_rfl
theorem post_lit : postB ⟨#[97, 92, 37, 98, 37, 99]⟩ = ⟨#[99]⟩ := by kernel_rfl
theorem stem_lit : stemB true ⟨#[97, 37, 98]⟩ ⟨#[99]⟩ ⟨#[97, 37, 98, 88, 99]⟩ = ⟨#[88]⟩ := by kernel_rfl
theorem ok2_lit : okB true ⟨#[97, 37, 98]⟩ ⟨#[99]⟩ ⟨#[97, 37, 98, 88, 99]⟩ = true := by kernel_rfl
theorem put_lit : putB true ⟨#[97, 37, 98]⟩ ⟨#[99]⟩ ⟨#[89]⟩ = ⟨#[97, 37, 98, 89, 99]⟩ := by kernel_rfl

theorem rep_call (w : World) : Calls Tryd.prog 13 #[.string ⟨#[37, 46, 99]⟩, .string ⟨#[37, 46, 111]⟩, .string ⟨#[97, 46, 99]⟩] w fun e W' => e = .returned (.tuple #[.string ⟨#[97, 46, 111]⟩, .bool true]) ∧ Below w.heap.size w W' :=
  (replace_is _ _ _ w (by decide) (by decide) (by decide)).mono fun e W' ⟨he, hb⟩ => ⟨he.trans (ret_two out_lit ok_lit), hb⟩
theorem of_call (w : World) : Calls Tryd.prog 9 #[.string ⟨#[97, 92, 37, 98, 37, 99]⟩] w fun e W' => e = .returned (.agg #[.bool true, .string ⟨#[97, 37, 98]⟩, .string ⟨#[99]⟩]) ∧ Below w.heap.size w W' :=
  (of_is _ w (by decide)).mono fun e W' ⟨he, hb⟩ => ⟨he.trans (patV_eq has_lit.symm pre_lit.symm post_lit.symm).symm, hb⟩
theorem match_call (w : World) : Calls Tryd.prog 11 #[.agg #[.bool true, .string ⟨#[97, 37, 98]⟩, .string ⟨#[99]⟩], .string ⟨#[97, 37, 98, 88, 99]⟩] w fun e W' => e = .returned (.tuple #[.string ⟨#[88]⟩, .bool true]) ∧ Below w.heap.size w W' :=
  (match_is true _ _ _ w (by decide) (by decide) (by decide)).mono fun e W' ⟨he, hb⟩ => ⟨he.trans (ret_two stem_lit ok2_lit), hb⟩
theorem put_call (w : World) : Calls Tryd.prog 15 #[.agg #[.bool true, .string ⟨#[97, 37, 98]⟩, .string ⟨#[99]⟩], .string ⟨#[89]⟩] w fun e W' => e = .returned (.string ⟨#[97, 37, 98, 89, 99]⟩) ∧ Below w.heap.size w W' :=
  (put_is true _ _ _ w (by decide) (by decide) (by decide)).mono fun e W' ⟨he, hb⟩ => ⟨he.trans (ret_str put_lit), hb⟩

/-- what is laid in a new place stays there -/
theorem laid_cells {w W : World} {h : Bool} {a b : ByteArray} (hb : Below (w.alloc (.cells #[.bool h, .string a, .string b] 24)).heap.size (w.alloc (.cells #[.bool h, .string a, .string b] 24)) W) :
    W.cell? ⟨w.heap.size, 0, none⟩ = some (.bool h) ∧ W.cell? ⟨w.heap.size, 1, none⟩ = some (.string a) ∧ W.cell? ⟨w.heap.size, 2, none⟩ = some (.string b) :=
  ⟨(hb.cell (p := ⟨w.heap.size, 0, none⟩) (by simp)).trans (cell_of_row _ _ 0 _ _ _ (heap_alloc_new w _)),
   (hb.cell (p := ⟨w.heap.size, 1, none⟩) (by simp)).trans (cell_of_row _ _ 1 _ _ _ (heap_alloc_new w _)),
   (hb.cell (p := ⟨w.heap.size, 2, none⟩) (by simp)).trans (cell_of_row _ _ 2 _ _ _ (heap_alloc_new w _))⟩

set_option maxRecDepth 100000 in
set_option maxHeartbeats 2000000 in
/-- the document's example -/
theorem awake_is (w : World) : Calls Tryd.prog 8 #[] w fun e W' => e = .returned (.bool true) ∧ Below w.heap.size w W' := by
  go_enter Tryd.func8, Tryd.ntmps8
  go_wp2_with fail
  refine (rep_call _).mono ?_
  rintro e w1 ⟨rfl, hb1⟩
  have B1 := Lib.hid hb1
  clear hb1
  go_wp2_with fail
  refine (of_call _).mono ?_
  rintro e w2 ⟨rfl, hb2⟩
  have B2 := Lib.hid (B1.out.trans (hb2.mono B1.out.size))
  have hs2 := B2.out.size
  clear hb2
  go_wp2_with fail
  refine (match_call _).mono ?_
  rintro e w3 ⟨rfl, hb3⟩
  obtain ⟨c0, c1, c2⟩ := laid_cells hb3
  have B3 := Lib.hid ((B2.out.alloc hs2 _).trans (hb3.mono (by simp; omega)))
  clear hb3
  go_wp2_with fail
  refine (put_call _).mono ?_
  rintro e w4 ⟨rfl, hb4⟩
  have B4 := Lib.hid (B3.out.trans (hb4.mono B3.out.size))
  clear hb4
  go_wp2
  go_ret
  exact ⟨rfl, B4.out⟩

end Go.Proofs.YtepigemfkaeaeaaDoor.PatAwake
