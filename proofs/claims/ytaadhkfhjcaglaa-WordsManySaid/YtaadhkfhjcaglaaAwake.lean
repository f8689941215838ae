/- The document's examples hold. -/
import Derived.Test.YtaadhkfhjcaglaaRefs
namespace Go.Proofs.Ytaadhkfhjcaglaa.Awake
open Go.RowKit Go.Proofs.Ytaadhkfhjcaglaa.Pure Go.Proofs.Ytaadhkfhjcaglaa.Ends Go.Proofs.Ytaadhkfhjcaglaa.Lists Go.Proofs.Ytaadhkfhjcaglaa.Refs

theorem two_is (w : World) (x y : ByteArray) : SlIs (w.alloc (.cells #[.string x, .string y] 9)) (some ⟨w.heap.size, 0, none⟩) 2 [x, y] := by
  refine ⟨Nat.le_refl _, .inr ⟨w.heap.size, 0, rfl, by simp, fun j z hz => ?_⟩⟩
  match j, hz with
  | 0, hz => simp at hz; subst hz; exact cell_of_row _ _ 0 _ _ _ (World.alloc_heap_new w _)
  | 1, hz => simp at hz; subst hz; exact cell_of_row _ _ 1 _ _ _ (World.alloc_heap_new w _)

theorem strip_lit (w : World) : Calls Try.prog 13 #[.string ⟨#[32, 32, 97, 32, 32, 98]⟩] w fun e W' => e = .returned (.string ⟨#[97, 32, 98]⟩) ∧ Below w.heap.size w W' :=
  (strip_is _ w (by decide)).mono fun e W' ⟨he, hb⟩ => ⟨he.trans (ret_str rfl), hb⟩
theorem split_lit (w : World) : Calls Try.prog 9 #[.string ⟨#[32, 120, 9, 121, 10]⟩] w fun e W' => ∃ A c, e = .returned (.slice A 2 c) ∧ Below w.heap.size w W' :=
  (split_is _ w (by decide)).mono fun e W' ⟨A, c, he, _, hb⟩ => ⟨A, c, he, hb⟩
theorem join_lit (w : World) : Calls Try.prog 11 #[.slice (some ⟨w.heap.size, 0, none⟩) 2 2] (w.alloc (.cells #[.string ⟨#[97]⟩, .string ⟨#[98]⟩] 9)) fun e W' => e = .returned (.string ⟨#[97, 32, 98]⟩) ∧ Below w.heap.size w W' :=
  (join_is _ 2 [⟨#[97]⟩, ⟨#[98]⟩] _ (two_is w ⟨#[97]⟩ ⟨#[98]⟩) (by decide) (by decide)).mono fun e W' ⟨he, hb⟩ => ⟨he.trans (ret_str rfl), ((Below.refl _ w).alloc (Nat.le_refl _) _).trans (hb.mono (by simp))⟩
theorem trim_lit (w : World) : Calls Try.prog 15 #[.string ⟨#[32, 97, 32, 98, 32]⟩] w fun e W' => e = .returned (.string ⟨#[97, 32, 98]⟩) ∧ w = W' :=
  (trim_any _ w (by decide)).mono fun e W' ⟨he, hb⟩ => ⟨he.trans (ret_str rfl), hb⟩
theorem left_lit (w : World) : Calls Try.prog 17 #[.string ⟨#[32, 97, 32]⟩] w fun e W' => e = .returned (.string ⟨#[97, 32]⟩) ∧ w = W' :=
  (left_any _ w (by decide)).mono fun e W' ⟨he, hb⟩ => ⟨he.trans (ret_str rfl), hb⟩

set_option maxHeartbeats 800000 in
/-- the document's examples -/
theorem awake_is (w : World) : Calls Try.prog 7 #[] w fun e W' => e = .returned (.bool true) ∧ Below w.heap.size w W' := by
  go_enter Try.func7, Try.ntmps7
  go_wp2_with fail
  refine (strip_lit _).mono ?_
  rintro e w1 ⟨rfl, hb⟩
  have H1 := Lib.hid hb
  clear hb
  go_wp2_with fail
  refine (split_lit _).mono ?_
  rintro e w2 ⟨A, c, rfl, hb⟩
  have H2 := Lib.hid (H1.out.trans (hb.mono H1.out.size))
  clear hb
  go_wp2_with fail
  refine (join_lit _).mono ?_
  rintro e w3 ⟨rfl, hb⟩
  have H3 := Lib.hid (H2.out.trans (hb.mono H2.out.size))
  clear hb
  go_wp2_with fail
  refine (trim_lit _).mono ?_
  rintro e w4 ⟨rfl, rfl⟩
  go_wp2_with fail
  refine (left_lit _).mono ?_
  rintro e w5 ⟨rfl, rfl⟩
  go_wp2
  go_ret
  exact ⟨rfl, H3.out⟩

end Go.Proofs.Ytaadhkfhjcaglaa.Awake
