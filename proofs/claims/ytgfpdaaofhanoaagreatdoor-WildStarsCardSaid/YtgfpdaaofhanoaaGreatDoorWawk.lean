/- The document's example: awake. -/
import Derived.Test.YtgfpdaaofhanoaaGreatDoorWq
namespace Go.Proofs.YtgfpdaaofhanoaaGreatDoor.Wawk
open Go.RowKit Go.Proofs.YtgfpdaaofhanoaaGreatDoor.Pth Go.Proofs.YtgfpdaaofhanoaaGreatDoor.Strs Go.Proofs.YtgfpdaaofhanoaaGreatDoor.Vfs Go.Proofs.YtgfpdaaofhanoaaGreatDoor.Vmap Go.Proofs.YtgfpdaaofhanoaaGreatDoor.Vnames Go.Proofs.YtgfpdaaofhanoaaGreatDoor.Vnew Go.Proofs.YtgfpdaaofhanoaaGreatDoor.Vfind Go.Proofs.YtgfpdaaofhanoaaGreatDoor.Vlook Go.Proofs.YtgfpdaaofhanoaaGreatDoor.Wdp Go.Proofs.YtgfpdaaofhanoaaGreatDoor.Wst Go.Proofs.YtgfpdaaofhanoaaGreatDoor.Wsp Go.Proofs.YtgfpdaaofhanoaaGreatDoor.Wnm Go.Proofs.YtgfpdaaofhanoaaGreatDoor.Wex Go.Proofs.YtgfpdaaofhanoaaGreatDoor.Wal Go.Proofs.YtgfpdaaofhanoaaGreatDoor.Wok Go.Proofs.YtgfpdaaofhanoaaGreatDoor.Wq

def raw1 : List Raw := [⟨⟨#[97, 46, 99]⟩, false, ⟨#[]⟩⟩, ⟨⟨#[98, 46, 104]⟩, false, ⟨#[]⟩⟩, ⟨⟨#[100, 47, 101, 46, 99]⟩, false, ⟨#[]⟩⟩]
def L1 : List Ent := [⟨[[97, 46, 99]], false, ⟨#[]⟩⟩, ⟨[[98, 46, 104]], false, ⟨#[]⟩⟩, ⟨[[100]], true, ⟨#[]⟩⟩, ⟨[[100], [101, 46, 99]], false, ⟨#[]⟩⟩]
theorem new1 : newL raw1 = L1 := by kernel_rfl
theorem inv1 : Vfs.Inv L1 := by rw [← new1]; exact newL_inv _
theorem fs1 : FsOk L1 := FsOk.of inv1 (by decide) (by decide)
theorem ok1 : WordOk L1 [42, 46, 99] := WordOk.of inv1 (by kernel_rfl)
theorem ok2 : WordOk L1 [47, 42, 47, 101, 46, 99] := WordOk.of inv1 (by kernel_rfl)
theorem ok3 : WordOk L1 [120] := WordOk.of inv1 (by kernel_rfl)
theorem ok4 : WordOk L1 [97, 46, 99] := WordOk.of inv1 (by kernel_rfl)
theorem ok5 : WordOk L1 [42] := WordOk.of inv1 (by kernel_rfl)
theorem ex1 : expandP L1 [42, 46, 99] = [[97, 46, 99]] := expand_one inv1 (by kernel_rfl) (by kernel_rfl)
theorem ex2 : expandP L1 [47, 42, 47, 101, 46, 99] = [[47, 100, 47, 101, 46, 99]] := expand_one inv1 (by kernel_rfl) (by kernel_rfl)
theorem ex3 : expandP L1 [120] = [] := by
  unfold expandP
  rw [if_neg (show partsP [120] ≠ [] by decide), if_neg (show ¬ anyM (partsP [120]) = true by decide)]
  kernel_rfl
theorem ex4 : expandP L1 [97, 46, 99] = [[97, 46, 99]] := by
  unfold expandP
  rw [if_neg (show partsP [97, 46, 99] ≠ [] by decide), if_neg (show ¬ anyM (partsP [97, 46, 99]) = true by decide)]
  kernel_rfl
theorem ex5 : (expandP L1 [42]).length = 3 := by rw [expand_len inv1 (by kernel_rfl)]; kernel_rfl

/-- an entry's cells -/
def encR (x : Raw) : List Value := [.string x.path, .bool x.dir, .string x.text]
def cells (l : List Raw) : List Value := l.flatMap encR
theorem cells_at : ∀ (l : List Raw) (j : Nat) (x : Raw), l[j]? = some x → (cells l)[j * 3]? = some (.string x.path) ∧ (cells l)[j * 3 + 1]? = some (.bool x.dir) ∧ (cells l)[j * 3 + 2]? = some (.string x.text)
  | [], _, _, h => by cases h
  | y :: l, 0, x, h => by
    cases h
    exact ⟨rfl, rfl, rfl⟩
  | y :: l, j + 1, x, h => by
    obtain ⟨h1, h2, h3⟩ := cells_at l j x (by simpa using h)
    have e : ∀ k, (cells (y :: l))[(j + 1) * 3 + k]? = (cells l)[j * 3 + k]? := fun k => by
      show (encR y ++ cells l)[(j + 1) * 3 + k]? = _
      rw [List.getElem?_append_right (by show 3 ≤ _; omega)]
      congr 1
      show (j + 1) * 3 + k - 3 = _
      omega
    exact ⟨(e 0).trans h1, (e 1).trans h2, (e 2).trans h3⟩
theorem ents_is (w : World) (l : List Raw) : EnIs (w.alloc (.cells (cells l).toArray 40)) (some ⟨w.heap.size, 0, none⟩) l.length l := by
  refine ⟨Nat.le_refl _, .inr ⟨w.heap.size, 0, rfl, by simp, fun j x hx => ?_⟩⟩
  obtain ⟨h1, h2, h3⟩ := cells_at l j x hx
  rw [Nat.zero_add, Lib.cell_of_heap (heap_alloc_new w _), Lib.cell_of_heap (heap_alloc_new w _), Lib.cell_of_heap (heap_alloc_new w _), List.getElem?_toArray, List.getElem?_toArray, List.getElem?_toArray]
  exact ⟨h1, h2, h3⟩
/-- Expand, as a slice -/
theorem exp_is (fa : Addr) (Bm : Nat) (bl : List Nat) (L : List Ent) (s : T) (x : ByteArray) (zs : List T) (n : Nat) (w : World) (h : FsIs w fa Bm bl (dl L) L) (hf : FsOk L) (hs : WordOk L s) (hx : x = bs s) (hz : expandP L s = zs) (hn : zs.length = n) :
    Calls Tryz.prog 12 #[.pointer (some fa), .string x] w fun e W' => ∃ A c, e = .returned (.slice A n c) ∧ SlIs W' A c (zs.map bs) ∧ Below w.heap.size w W' := by
  subst hx hn
  refine (expand_is fa Bm bl L s w h hf hs).mono ?_
  rintro e W' ⟨v, rfl, ho, hb⟩
  rw [hz] at ho
  obtain ⟨A, c, rfl, hsl⟩ := slIs_of_own (xs := zs.map bs) (List.length_map _) ho
  exact ⟨A, c, rfl, hsl, hb⟩
theorem all4 : (allP L1 [[97, 46, 99], [42]]).length = 4 := by
  show (expandP L1 [97, 46, 99] ++ (expandP L1 [42] ++ [])).length = 4
  rw [List.length_append, List.append_nil, ex4, ex5]; rfl

set_option maxRecDepth 100000 in
set_option maxHeartbeats 4000000 in
theorem awake_is (w : World) : Calls Tryz.prog 8 #[] w fun e W' => e = .returned (.bool true) ∧ Below w.heap.size w W' := by
  have hnew := new_is (some ⟨w.heap.size, 0, none⟩) 3 3 raw1 (w.alloc (.cells #[.string ⟨#[97, 46, 99]⟩, .bool false, .string ⟨#[]⟩, .string ⟨#[98, 46, 104]⟩, .bool false, .string ⟨#[]⟩, .string ⟨#[100, 47, 101, 46, 99]⟩, .bool false, .string ⟨#[]⟩] 40)) rfl (ents_is w raw1) (fun x hx => by simp [raw1] at hx; rcases hx with rfl | rfl | rfl <;> exact ⟨by decide, by decide⟩) (by decide)
  rw [new1] at hnew
  have HNew := Lib.hid hnew
  clear hnew
  go_enter Tryz.func8, Tryz.ntmps8
  go_wp2_with fail
  refine HNew.out.mono ?_
  rintro e w1 ⟨fa, B, bl, rfl, hF, hb1⟩
  have HB1 := Lib.hid ((alloc_below w (.cells #[.string ⟨#[97, 46, 99]⟩, .bool false, .string ⟨#[]⟩, .string ⟨#[98, 46, 104]⟩, .bool false, .string ⟨#[]⟩, .string ⟨#[100, 47, 101, 46, 99]⟩, .bool false, .string ⟨#[]⟩] 40)).trans (hb1.mono (by simp)))
  have HF := Lib.hid hF
  have HX1 := Lib.hid (fun W (hW : Below w1.heap.size w1 W) => exp_is fa B bl L1 [42, 46, 99] ⟨#[42, 46, 99]⟩ _ 1 W (HF.out.below hW) fs1 ok1 rfl ex1 rfl)
  have HX2 := Lib.hid (fun W (hW : Below w1.heap.size w1 W) => exp_is fa B bl L1 [47, 42, 47, 101, 46, 99] ⟨#[47, 42, 47, 101, 46, 99]⟩ _ 1 W (HF.out.below hW) fs1 ok2 rfl ex2 rfl)
  have HX3 := Lib.hid (fun W (hW : Below w1.heap.size w1 W) => exp_is fa B bl L1 [120] ⟨#[120]⟩ _ 0 W (HF.out.below hW) fs1 ok3 rfl ex3 rfl)
  have HX4 := Lib.hid (fun W (hW : Below w1.heap.size w1 W) A c (hs : SlIs W A c ([[97, 46, 99], [42]].map bs)) => all_is fa B bl L1 W A 2 c [[97, 46, 99], [42]] (HF.out.below hW) fs1 rfl hs (fun s h => by simp at h; rcases h with rfl | rfl; exact ok4; exact ok5) (by rw [all4]; decide) (by decide))
  clear hF hb1 HNew
  go_wp2_with fail
  refine (HX1.out _ (Below.refl _ _)).mono ?_
  rintro e w2 ⟨A2, c2, rfl, hs2, hb2⟩
  have HB2 := Lib.hid hb2
  have hba : Below w1.heap.size w1 (w2.alloc (.cells #[.string ⟨#[97, 46, 99]⟩] 9)) := hb2.alloc hb2.size _
  have HSa := Lib.hid (same_is A2 (some ⟨w2.heap.size, 0, none⟩) 1 c2 1 [⟨#[97, 46, 99]⟩] (w2.alloc (.cells #[.string ⟨#[97, 46, 99]⟩] 9)) rfl (hs2.below (alloc_below w2 _)) (lits_is w2 [⟨#[97, 46, 99]⟩]) (by decide))
  have HBa := Lib.hid hba
  clear hs2 hb2 hba HX1
  go_wp2_with fail
  refine HSa.out.mono ?_
  rintro e w3 ⟨rfl, hb3⟩
  have HB3 := Lib.hid (HBa.out.trans (hb3.mono HBa.out.size))
  clear hb3 HSa
  go_wp2_with fail
  refine (HX2.out _ HB3.out).mono ?_
  rintro e w4 ⟨A4, c4, rfl, hs4, hb4⟩
  have hba : Below w1.heap.size w1 (w4.alloc (.cells #[.string ⟨#[47, 100, 47, 101, 46, 99]⟩] 9)) := (HB3.out.trans (hb4.mono HB3.out.size)).alloc (Nat.le_trans HB3.out.size hb4.size) _
  have HSb := Lib.hid (same_is A4 (some ⟨w4.heap.size, 0, none⟩) 1 c4 1 [⟨#[47, 100, 47, 101, 46, 99]⟩] (w4.alloc (.cells #[.string ⟨#[47, 100, 47, 101, 46, 99]⟩] 9)) rfl (hs4.below (alloc_below w4 _)) (lits_is w4 [⟨#[47, 100, 47, 101, 46, 99]⟩]) (by decide))
  have HBb := Lib.hid hba
  clear hs4 hb4 hba HX2
  go_wp2_with fail
  refine HSb.out.mono ?_
  rintro e w5 ⟨rfl, hb5⟩
  have HB5 := Lib.hid (HBb.out.trans (hb5.mono HBb.out.size))
  clear hb5 HSb
  go_wp2_with fail
  refine (HX3.out _ HB5.out).mono ?_
  rintro e w6 ⟨A6, c6, rfl, hs6, hb6⟩
  have HB6 := Lib.hid (HB5.out.trans (hb6.mono HB5.out.size))
  have hba : Below w1.heap.size w1 (w6.alloc (.cells #[.string ⟨#[97, 46, 99]⟩, .string ⟨#[42]⟩] 9)) := HB6.out.alloc HB6.out.size _
  have HAl := Lib.hid (HX4.out _ hba (some ⟨w6.heap.size, 0, none⟩) 2 (lits_is w6 [⟨#[97, 46, 99]⟩, ⟨#[42]⟩]))
  have HBc := Lib.hid hba
  clear hs6 hb6 hba HX3 HX4
  go_wp2_with fail
  refine HAl.out.mono ?_
  rintro e w7 ⟨v, rfl, ho7, hb7⟩
  rw [all4] at ho7
  obtain ⟨A7, c7, rfl, _⟩ := slIs_of_own (xs := (allP L1 [[97, 46, 99], [42]]).map bs) (by rw [List.length_map]; exact all4) ho7
  have HB7 := Lib.hid (HBc.out.trans (hb7.mono HBc.out.size))
  clear ho7 hb7 HAl
  go_wp2
  go_ret
  exact ⟨rfl, HB1.out.trans (HB7.out.mono HB1.out.size)⟩

end Go.Proofs.YtgfpdaaofhanoaaGreatDoor.Wawk
