/- The document's example of lists holds. -/
import Derived.Test.YtmallbgmpmdjiaaDoorFilter
import Derived.Test.YtmallbgmpmdjiaaDoorSlice
import Derived.Test.YtmallbgmpmdjiaaDoorPairs
namespace Go.Proofs.YtmallbgmpmdjiaaDoor.Lawake
open Go.RowKit Go.Proofs.YtmallbgmpmdjiaaDoor.Strs Go.Proofs.YtmallbgmpmdjiaaDoor.Srt Go.Proofs.YtmallbgmpmdjiaaDoor.Sort Go.Proofs.YtmallbgmpmdjiaaDoor.Slice Go.Proofs.YtmallbgmpmdjiaaDoor.Each Go.Proofs.YtmallbgmpmdjiaaDoor.Pairs Go.Proofs.YtmallbgmpmdjiaaDoor.Filter

/-- a new list of texts -/
theorem lits_is (w : World) (l : List ByteArray) : SlIs (w.alloc (.cells (l.map Value.string).toArray 9)) (some ⟨w.heap.size, 0, none⟩) l.length l := by
  refine ⟨Nat.le_refl _, .inr ⟨w.heap.size, 0, rfl, by simp, fun j x hx => ?_⟩⟩
  rw [Nat.zero_add, Lib.cell_of_heap (heap_alloc_new w _)]
  rw [List.getElem?_toArray, List.getElem?_map, hx]
  rfl
theorem alloc_below (w : World) (o : Obj) : Below w.heap.size w (w.alloc o) := (Below.refl _ _).alloc (Nat.le_refl _) _

theorem filter_val : filterB [⟨#[37, 46, 99]⟩] false [⟨#[97, 46, 99]⟩, ⟨#[98, 46, 104]⟩] = [⟨#[97, 46, 99]⟩] := by kernel_rfl
theorem sort_val : sortB [⟨#[98]⟩, ⟨#[97]⟩, ⟨#[98]⟩] = [⟨#[97]⟩, ⟨#[98]⟩] := by
  have e : sortT [[98], [97], [98]] = [[97], [98]] := sortT_eq (by unfold Up; decide) (fun x => by simp; exact .inr)
  show (sortT [[98], [97], [98]]).map Pat.bs = _
  rw [e]; rfl
theorem slice_val : sliceB [⟨#[97]⟩, ⟨#[98]⟩, ⟨#[99]⟩] 2 9 = [⟨#[98]⟩, ⟨#[99]⟩] := by kernel_rfl
theorem pair_val : pairB [⟨#[97]⟩] [⟨#[49]⟩, ⟨#[50]⟩] = [⟨#[97, 49]⟩, ⟨#[50]⟩] := by kernel_rfl

theorem two_below (w : World) (o p : Obj) : Below w.heap.size w ((w.alloc o).alloc p) := (alloc_below w o).alloc (by simp) p

theorem filter_lit (w : World) : Calls Tryd.prog 12 #[.slice (some ⟨w.heap.size, 0, none⟩) 1 1, .slice (some ⟨w.heap.size + 1, 0, none⟩) 2 2, .bool false] ((w.alloc (.cells #[.string ⟨#[37, 46, 99]⟩] 9)).alloc (.cells #[.string ⟨#[97, 46, 99]⟩, .string ⟨#[98, 46, 104]⟩] 9)) fun e W' => ∃ A c, e = .returned (.slice A 1 c) ∧ SlIs W' A c [⟨#[97, 46, 99]⟩] ∧ Below w.heap.size w W' := by
  have h1 := (lits_is w [⟨#[37, 46, 99]⟩]).below (alloc_below _ (.cells #[.string ⟨#[97, 46, 99]⟩, .string ⟨#[98, 46, 104]⟩] 9))
  have h2 := lits_is (w.alloc (.cells #[.string ⟨#[37, 46, 99]⟩] 9)) [⟨#[97, 46, 99]⟩, ⟨#[98, 46, 104]⟩]
  rw [World.size_alloc] at h2
  refine (filter_is _ _ 2 2 1 1 false [⟨#[97, 46, 99]⟩, ⟨#[98, 46, 104]⟩] [⟨#[37, 46, 99]⟩] _ rfl h1 (by decide) (by decide) rfl h2 (by decide) (by decide)).mono ?_
  rintro e W' ⟨A, c, rfl, hs, hb⟩
  rw [filter_val] at hs ⊢
  exact ⟨A, c, rfl, hs, (two_below w _ _).trans (hb.mono (by simp; omega))⟩
theorem sort_lit (w : World) : Calls Tryd.prog 10 #[.slice (some ⟨w.heap.size, 0, none⟩) 3 3] (w.alloc (.cells #[.string ⟨#[98]⟩, .string ⟨#[97]⟩, .string ⟨#[98]⟩] 9)) fun e W' => ∃ A c, e = .returned (.slice A 2 c) ∧ SlIs W' A c [⟨#[97]⟩, ⟨#[98]⟩] ∧ Below w.heap.size w W' := by
  refine (sort_is _ 3 3 [⟨#[98]⟩, ⟨#[97]⟩, ⟨#[98]⟩] _ rfl (lits_is w [⟨#[98]⟩, ⟨#[97]⟩, ⟨#[98]⟩]) (by decide)).mono ?_
  rintro e W' ⟨A, c, rfl, hs, hb⟩
  rw [sort_val] at hs ⊢
  exact ⟨A, c, rfl, hs, (alloc_below w _).trans (hb.mono (by simp))⟩
theorem slice_lit (w : World) : Calls Tryd.prog 16 #[.slice (some ⟨w.heap.size, 0, none⟩) 3 3, .int .i64 2, .int .i64 9] (w.alloc (.cells #[.string ⟨#[97]⟩, .string ⟨#[98]⟩, .string ⟨#[99]⟩] 9)) fun e W' => ∃ A c, e = .returned (.slice A 2 c) ∧ Below w.heap.size w W' := by
  refine (slice_is _ 3 3 [⟨#[97]⟩, ⟨#[98]⟩, ⟨#[99]⟩] 2 9 _ rfl (lits_is w [⟨#[97]⟩, ⟨#[98]⟩, ⟨#[99]⟩]) (by decide) (by decide) (by decide)).mono ?_
  rintro e W' ⟨A, c, rfl, hs, hb⟩
  rw [slice_val]
  exact ⟨A, c, rfl, (alloc_below w _).trans (hb.mono (by simp))⟩
theorem pairs_lit (w : World) : Calls Tryd.prog 14 #[.slice (some ⟨w.heap.size, 0, none⟩) 1 1, .slice (some ⟨w.heap.size + 1, 0, none⟩) 2 2] ((w.alloc (.cells #[.string ⟨#[97]⟩] 9)).alloc (.cells #[.string ⟨#[49]⟩, .string ⟨#[50]⟩] 9)) fun e W' => ∃ A c, e = .returned (.slice A 2 c) ∧ SlIs W' A c [⟨#[97, 49]⟩, ⟨#[50]⟩] ∧ Below w.heap.size w W' := by
  have h1 := (lits_is w [⟨#[97]⟩]).below (alloc_below _ (.cells #[.string ⟨#[49]⟩, .string ⟨#[50]⟩] 9))
  have h2 := lits_is (w.alloc (.cells #[.string ⟨#[97]⟩] 9)) [⟨#[49]⟩, ⟨#[50]⟩]
  rw [World.size_alloc] at h2
  refine (pairs_is _ _ 1 2 1 2 [⟨#[97]⟩] [⟨#[49]⟩, ⟨#[50]⟩] _ rfl rfl h1 h2 (by decide) (by decide) (by decide) (by decide)).mono ?_
  rintro e W' ⟨A, c, rfl, hs, hb⟩
  rw [pair_val] at hs ⊢
  exact ⟨A, c, rfl, hs, (two_below w _ _).trans (hb.mono (by simp; omega))⟩
theorem each_lit (w : World) : Calls Tryd.prog 18 #[.slice (some ⟨w.heap.size, 0, none⟩) 1 1, .string ⟨#[120]⟩, .string ⟨#[121]⟩] (w.alloc (.cells #[.string ⟨#[97]⟩] 9)) fun e W' => ∃ A c, e = .returned (.slice A 1 c) ∧ Below w.heap.size w W' := by
  refine (each_is _ 1 1 [⟨#[97]⟩] ⟨#[120]⟩ ⟨#[121]⟩ _ rfl (lits_is w [⟨#[97]⟩]) (by decide) (by decide) (by decide) (by decide)).mono ?_
  rintro e W' ⟨A, c, rfl, hs, hb⟩
  exact ⟨A, c, rfl, (alloc_below w _).trans (hb.mono (by simp))⟩
theorem same_lit (w : World) (A : Option Addr) (c : Nat) (l : List ByteArray) (n : Nat) (hn : l.length = n) (h : SlIs w A c l) (hm : n ≤ maxLen) : Calls Tryd.prog 9 #[.slice A n c, .slice (some ⟨w.heap.size, 0, none⟩) n n] (w.alloc (.cells (l.map Value.string).toArray 9)) fun e W' => e = .returned (.bool true) ∧ Below w.heap.size w W' := by
  subst hn
  refine (same_is A _ l.length c l.length l _ rfl (h.below (alloc_below w _)) (lits_is w l) hm).mono ?_
  rintro e W' ⟨rfl, hb⟩
  exact ⟨rfl, (alloc_below w _).trans (hb.mono (by simp))⟩

set_option maxRecDepth 100000 in
set_option maxHeartbeats 2000000 in
/-- the document's example -/
theorem awake_is (w : World) : Calls Tryd.prog 8 #[] w fun e W' => e = .returned (.bool true) ∧ Below w.heap.size w W' := by
  go_enter Tryd.func8, Tryd.ntmps8
  go_wp2_with fail
  refine (filter_lit _).mono ?_
  rintro e w1 ⟨A1, c1, rfl, hs1, hb1⟩
  have B1 := Lib.hid hb1
  have hsm := same_lit w1 A1 c1 [⟨#[97, 46, 99]⟩] 1 rfl hs1 (by decide)
  have HSM := Lib.hid hsm
  clear hb1 hs1 hsm
  go_wp2_with fail
  refine HSM.out.mono ?_
  rintro e w2 ⟨rfl, hb2⟩
  have B2 := Lib.hid (B1.out.trans (hb2.mono B1.out.size))
  clear hb2 HSM
  go_wp2_with fail
  refine (sort_lit _).mono ?_
  rintro e w3 ⟨A3, c3, rfl, hs3, hb3⟩
  have B3 := Lib.hid (B2.out.trans (hb3.mono B2.out.size))
  have hsm := same_lit w3 A3 c3 [⟨#[97]⟩, ⟨#[98]⟩] 2 rfl hs3 (by decide)
  have HSM := Lib.hid hsm
  clear hb3 hs3 hsm
  go_wp2_with fail
  refine HSM.out.mono ?_
  rintro e w4 ⟨rfl, hb4⟩
  have B4 := Lib.hid (B3.out.trans (hb4.mono B3.out.size))
  clear hb4 HSM
  go_wp2_with fail
  refine (slice_lit _).mono ?_
  rintro e w5 ⟨A5, c5, rfl, hb5⟩
  have B5 := Lib.hid (B4.out.trans (hb5.mono B4.out.size))
  clear hb5
  go_wp2_with fail
  refine (pairs_lit _).mono ?_
  rintro e w6 ⟨A6, c6, rfl, hs6, hb6⟩
  have B6 := Lib.hid (B5.out.trans (hb6.mono B5.out.size))
  have hsm := same_lit w6 A6 c6 [⟨#[97, 49]⟩, ⟨#[50]⟩] 2 rfl hs6 (by decide)
  have HSM := Lib.hid hsm
  clear hb6 hs6 hsm
  go_wp2_with fail
  refine HSM.out.mono ?_
  rintro e w7 ⟨rfl, hb7⟩
  have B7 := Lib.hid (B6.out.trans (hb7.mono B6.out.size))
  clear hb7 HSM
  go_wp2_with fail
  refine (each_lit _).mono ?_
  rintro e w8 ⟨A8, c8, rfl, hb8⟩
  have B8 := Lib.hid (B7.out.trans (hb8.mono B7.out.size))
  clear hb8
  go_wp2
  go_ret
  exact ⟨rfl, B8.out⟩

end Go.Proofs.YtmallbgmpmdjiaaDoor.Lawake
