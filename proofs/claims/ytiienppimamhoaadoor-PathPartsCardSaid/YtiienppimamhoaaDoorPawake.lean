/- The document's example of names: awake answers true. -/
import Derived.Test.YtiienppimamhoaaDoorPabs
namespace Go.Proofs.YtiienppimamhoaaDoor.Pawake
open Go.RowKit Go.Proofs.YtiienppimamhoaaDoor.Pth Go.Proofs.YtiienppimamhoaaDoor.Pfn Go.Proofs.YtiienppimamhoaaDoor.Pabs

theorem abs_lit (s r : ByteArray) (w : World) (hs : s.size ≤ 1000000) (h : bs (absL s.data.toList) = r) :
    Calls Tryd.prog 16 #[.string s] w fun e W' => e = .returned (.string r) ∧ Below w.heap.size w W' := by subst h; exact abs_is s w hs
theorem dir_lit (s r : ByteArray) (w : World) (hs : s.size ≤ 1000000) (h : dirB s = r) :
    Calls Tryd.prog 8 #[.string s] w fun e W' => e = .returned (.string r) ∧ w = W' := by subst h; exact dir_is s w (by omega)
theorem notdir_lit (s r : ByteArray) (w : World) (hs : s.size ≤ 1000000) (h : notdirB s = r) :
    Calls Tryd.prog 10 #[.string s] w fun e W' => e = .returned (.string r) ∧ w = W' := by subst h; exact notdir_is s w (by omega)
theorem suffix_lit (s r : ByteArray) (w : World) (hs : s.size ≤ 1000000) (h : sufB s = r) :
    Calls Tryd.prog 12 #[.string s] w fun e W' => e = .returned (.string r) ∧ w = W' := by subst h; exact suffix_is s w (by omega)
theorem base_lit (s r : ByteArray) (w : World) (hs : s.size ≤ 1000000) (h : baseB s = r) :
    Calls Tryd.prog 14 #[.string s] w fun e W' => e = .returned (.string r) ∧ w = W' := by subst h; exact base_is s w (by omega)

theorem x1 : bs (absL (⟨#[97, 47, 46, 46, 47, 98]⟩ : ByteArray).data.toList) = ⟨#[47, 98]⟩ := by kernel_rfl
theorem x2 : dirB ⟨#[97]⟩ = ⟨#[46, 47]⟩ := by kernel_rfl
theorem x3 : notdirB ⟨#[120, 47, 97, 46, 99]⟩ = ⟨#[97, 46, 99]⟩ := by kernel_rfl
theorem x4 : sufB ⟨#[120, 46, 100, 47, 97]⟩ = ⟨#[]⟩ := by kernel_rfl
theorem x5 : baseB ⟨#[97, 46, 99]⟩ = ⟨#[97]⟩ := by kernel_rfl

set_option maxHeartbeats 1000000 in
theorem awake_is (w : World) :
    Calls Tryd.prog 7 #[] w fun e W' => e = .returned (.bool true) ∧ Below w.heap.size w W' := by
  go_enter Tryd.func7, Tryd.ntmps7
  go_wp2_with fail
  refine (abs_lit _ _ _ (by decide) x1).mono ?_
  rintro e w1 ⟨rfl, hb⟩
  have HB := Lib.hid hb
  clear hb
  go_wp2_with fail
  refine (dir_lit _ _ _ (by decide) x2).mono ?_
  rintro e w' ⟨rfl, rfl⟩
  go_wp2_with fail
  refine (notdir_lit _ _ _ (by decide) x3).mono ?_
  rintro e w' ⟨rfl, rfl⟩
  go_wp2_with fail
  refine (suffix_lit _ _ _ (by decide) x4).mono ?_
  rintro e w' ⟨rfl, rfl⟩
  go_wp2_with fail
  refine (base_lit _ _ _ (by decide) x5).mono ?_
  rintro e w' ⟨rfl, rfl⟩
  go_wp2
  go_ret
  exact ⟨rfl, HB.out⟩

end Go.Proofs.YtiienppimamhoaaDoor.Pawake
