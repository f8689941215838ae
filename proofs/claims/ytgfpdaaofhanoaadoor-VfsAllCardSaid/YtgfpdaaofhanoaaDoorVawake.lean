/- The document's example of the file system holds. -/
import Derived.Shelf.SlSortCmp.NoneTotal
import Derived.Test.YtgfpdaaofhanoaaDoorVall
namespace Go.Proofs.YtgfpdaaofhanoaaDoor.Vawake
open Go.RowKit Go.Maps Go.Shelf Go.Proofs.YtgfpdaaofhanoaaDoor.Pth Go.Proofs.YtgfpdaaofhanoaaDoor.Strs Go.Proofs.YtgfpdaaofhanoaaDoor.Srt Go.Proofs.YtgfpdaaofhanoaaDoor.Vfs Go.Proofs.YtgfpdaaofhanoaaDoor.Vmap Go.Proofs.YtgfpdaaofhanoaaDoor.Vnames Go.Proofs.YtgfpdaaofhanoaaDoor.Vnew Go.Proofs.YtgfpdaaofhanoaaDoor.Vfind Go.Proofs.YtgfpdaaofhanoaaDoor.Vlook Go.Proofs.YtgfpdaaofhanoaaDoor.Vsort Go.Proofs.YtgfpdaaofhanoaaDoor.Vall

theorem sortsNone : SortsNone := fun w => AnyF.slices_SortFunc_none Tryd.sortEnt none 0 _ w

/-- entries laid anew -/
theorem ents_is (w : World) (l : List Raw) : EnIs (w.alloc (.cells (cells l).toArray 30)) (some ⟨w.heap.size, 0, none⟩) l.length l := by
  refine ⟨Nat.le_refl _, .inr ⟨w.heap.size, 0, rfl, by simp, fun j x hx => ?_⟩⟩
  obtain ⟨h1, h2, h3⟩ := cells_at l j x hx
  rw [Nat.zero_add, Lib.cell_of_heap (heap_alloc_new w _), Lib.cell_of_heap (heap_alloc_new w _), Lib.cell_of_heap (heap_alloc_new w _), List.getElem?_toArray, List.getElem?_toArray, List.getElem?_toArray]
  exact ⟨h1, h2, h3⟩

def raw0 : List Raw := [⟨⟨#[97, 47, 98]⟩, false, ⟨#[120]⟩⟩]
def L0 : List Ent := [⟨[[97]], true, ⟨#[]⟩⟩, ⟨[[97], [98]], false, ⟨#[120]⟩⟩]
theorem new0 : newL raw0 = L0 := by kernel_rfl
theorem look1 : lookN L0 ⟨#[97]⟩ = some ⟨⟨#[47, 97]⟩, true, ⟨#[]⟩, 2⟩ := by kernel_rfl
theorem look2 : lookN L0 ⟨#[47, 97, 47, 46, 47, 98]⟩ = some ⟨⟨#[47, 97, 47, 98]⟩, false, ⟨#[120]⟩, 0⟩ := by kernel_rfl
theorem list0 : (listN L0 ⟨#[47]⟩).length = 1 := by
  have h1 : lookN L0 ⟨#[47]⟩ = some ndRoot := by kernel_rfl
  have h2 : kids L0 (partsOf ⟨#[47]⟩) = [[97]] := by kernel_rfl
  rw [listN_eq, h1]
  show (dirK L0 (partsOf ⟨#[47]⟩) ndRoot).length = 1
  rw [dirK, h2]
  show (sortT [[97]]).length = 1
  rw [sortT_eq (l := [[97]]) (m := [[97]]) (by unfold Up; decide) (fun x => Iff.rfl)]
  rfl
theorem inv0 : Vfs.Inv L0 := by rw [← new0]; exact newL_inv _

set_option maxRecDepth 100000 in
set_option maxHeartbeats 2000000 in
theorem awake_is (w : World) : Calls Tryd.prog 6 #[] w fun e W' => e = .returned (.bool true) ∧ Below w.heap.size w W' := by
  have hnew := new_is (some ⟨w.heap.size, 0, none⟩) 1 1 raw0 (w.alloc (.cells #[.string ⟨#[97, 47, 98]⟩, .bool false, .string ⟨#[120]⟩] 30)) rfl (ents_is w raw0) (fun x hx => by rw [List.mem_singleton.1 hx]; exact ⟨by decide, by decide⟩) (by decide)
  rw [new0] at hnew
  have HNew := Lib.hid hnew
  clear hnew
  go_enter Tryd.func6, Tryd.ntmps6
  go_wp2_with fail
  refine HNew.out.mono ?_
  rintro e w1 ⟨fa, B, bl, rfl, hF, hb1⟩
  have HB1 := Lib.hid ((alloc_below w (.cells #[.string ⟨#[97, 47, 98]⟩, .bool false, .string ⟨#[120]⟩] 30)).trans (hb1.mono (by simp)))
  have HF := Lib.hid hF
  have HK1 := Lib.hid (fun W hW => look_is fa B bl L0 ⟨#[97]⟩ W (HF.out.below hW) inv0 (by decide) (by decide))
  rw [look1] at HK1
  have HK2 := Lib.hid (fun W hW => look_is fa B bl L0 ⟨#[47, 97, 47, 46, 47, 98]⟩ W (HF.out.below hW) inv0 (by decide) (by decide))
  rw [look2] at HK2
  have HK3 := Lib.hid (fun W hW => list_is fa B bl L0 ⟨#[47]⟩ W (HF.out.below hW) inv0 (by decide) (by decide))
  rw [list0] at HK3
  have HK4 := Lib.hid (fun W hW => all_is fa B bl L0 W (HF.out.below hW) inv0 (by decide) sortsNone)
  clear hF hb1 HNew
  go_wp2_with fail
  refine (HK1.out _ (Below.refl _ _)).mono ?_
  rintro e w2 ⟨rfl, hb2⟩
  unfold Nd.e
  have HB2 := Lib.hid hb2
  clear hb2 HK1
  go_wp2_with fail
  refine (HK2.out _ (HB2.out.alloc HB2.out.size _)).mono ?_
  rintro e w3 ⟨rfl, hb3⟩
  unfold Nd.e
  have g2 : w3.heap[w2.heap.size]? = some (.cells #[.string ⟨#[47, 97]⟩, .bool true, .string ⟨#[]⟩] 30 (0, 0)) := (hb3.block _ (by simp)).trans (heap_alloc_new w2 _)
  have hs3 := hb3.size
  rw [World.size_alloc] at hs3
  have c2 : (w3.alloc (.cells #[.string ⟨#[47, 97, 47, 98]⟩, .bool false, .string ⟨#[120]⟩] 30)).cell? ⟨w2.heap.size, 1, none⟩ = some (.bool true) := by
    rw [Lib.cell_of_heap ((Lib.alloc_old _ _ _ (by omega)).trans g2)]; rfl
  have HB3 := Lib.hid (HB2.out.trans (((alloc_below w2 (.cells #[.string ⟨#[47, 97]⟩, .bool true, .string ⟨#[]⟩] 30)).trans (hb3.mono (by simp))).mono HB2.out.size))
  clear hb3 HK2 g2 HB2
  go_wp2_with fail
  refine (HK3.out _ (HB3.out.alloc HB3.out.size _)).mono ?_
  rintro e w4 ⟨A4, c4, rfl, _, hb4⟩
  have HB4 := Lib.hid (HB3.out.trans (((alloc_below w3 (.cells #[.string ⟨#[47, 97, 47, 98]⟩, .bool false, .string ⟨#[120]⟩] 30)).trans (hb4.mono (by simp))).mono HB3.out.size))
  clear hb4 HK3 HB3 c2
  go_wp2_with fail
  refine (HK4.out _ HB4.out).mono ?_
  rintro e w5 ⟨A5, c5, M, rfl, _, _, _, hb5⟩
  have HB5 := Lib.hid (HB1.out.trans ((HB4.out.trans (hb5.mono HB4.out.size)).mono HB1.out.size))
  clear hb5 HK4 HB4
  go_wp2
  go_ret
  exact ⟨rfl, HB5.out⟩

end Go.Proofs.YtgfpdaaofhanoaaDoor.Vawake
