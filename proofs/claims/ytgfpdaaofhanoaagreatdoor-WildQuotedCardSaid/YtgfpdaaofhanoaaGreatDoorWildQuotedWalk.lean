/- The law WildQuoted, walked. -/
import Derived.Test.YtgfpdaaofhanoaaGreatDoorWawk
import Derived.Test.YtgfpdaaofhanoaaGreatDoorPlace
namespace Go.Proofs.YtgfpdaaofhanoaaGreatDoor.WildQuoted
open Go.RowKit Go.Proofs.YtgfpdaaofhanoaaGreatDoor.Pth Go.Proofs.YtgfpdaaofhanoaaGreatDoor.Strs Go.Proofs.YtgfpdaaofhanoaaGreatDoor.Vfs Go.Proofs.YtgfpdaaofhanoaaGreatDoor.Vmap Go.Proofs.YtgfpdaaofhanoaaGreatDoor.Vnames Go.Proofs.YtgfpdaaofhanoaaGreatDoor.Vnew Go.Proofs.YtgfpdaaofhanoaaGreatDoor.Wdp Go.Proofs.YtgfpdaaofhanoaaGreatDoor.Wst Go.Proofs.YtgfpdaaofhanoaaGreatDoor.Wsp Go.Proofs.YtgfpdaaofhanoaaGreatDoor.Wex Go.Proofs.YtgfpdaaofhanoaaGreatDoor.Wok Go.Proofs.YtgfpdaaofhanoaaGreatDoor.Wq Go.Proofs.YtgfpdaaofhanoaaGreatDoor.Wawk
open Go.Proofs.YtgfpdaaofhanoaaGreatDoor.Place (place place_lt place_is)

def rawQ (b : UInt8) : List Raw := [⟨⟨#[97, b, 98]⟩, false, ⟨#[]⟩⟩, ⟨⟨#[120, 47, 97, b, 98]⟩, false, ⟨#[]⟩⟩, ⟨⟨#[97, 120, 98]⟩, false, ⟨#[]⟩⟩]
def LQ (b : UInt8) : List Ent := [⟨[[97, b, 98]], false, ⟨#[]⟩⟩, ⟨[[120]], true, ⟨#[]⟩⟩, ⟨[[120], [97, b, 98]], false, ⟨#[]⟩⟩, ⟨[[97, 120, 98]], false, ⟨#[]⟩⟩]
structure Fits (p : Nat) (b : UInt8) : Prop where
  idx : ∀ W, (Instr.index 47 (.agg #[.string ⟨#[42]⟩, .string ⟨#[63]⟩, .string ⟨#[91]⟩]) (.int .i64 (p : Int))).run Tryz.prog W = .ok (.string ⟨#[b]⟩) W
  new : newL (rawQ b) = LQ b
  fs : FsOk (LQ b)
  ok1 : WordOk (LQ b) [97, 92, b, 98]
  ok2 : WordOk (LQ b) [63, 47, 97, 92, b, 98]
  ex1 : expandP (LQ b) [97, 92, b, 98] = [[97, 92, b, 98]]
  ex2 : expandP (LQ b) [63, 47, 97, 92, b, 98] = [[120, 47, 97, b, 98]]
theorem fits0 : Fits 0 42 := by
  have hn : newL (rawQ 42) = LQ 42 := by kernel_rfl
  have hi : Vfs.Inv (LQ 42) := by rw [← hn]; exact newL_inv _
  refine ⟨fun W => by kernel_rfl, hn, FsOk.of hi (by decide) (by decide), WordOk.of hi (by kernel_rfl), WordOk.of hi (by kernel_rfl), ?_, expand_one hi (by kernel_rfl) (by kernel_rfl)⟩
  unfold expandP
  rw [if_neg (show partsP [97, 92, 42, 98] ≠ [] by decide), if_neg (show ¬ anyM (partsP [97, 92, 42, 98]) = true by decide)]
  kernel_rfl
theorem fits1 : Fits 1 63 := by
  have hn : newL (rawQ 63) = LQ 63 := by kernel_rfl
  have hi : Vfs.Inv (LQ 63) := by rw [← hn]; exact newL_inv _
  refine ⟨fun W => by kernel_rfl, hn, FsOk.of hi (by decide) (by decide), WordOk.of hi (by kernel_rfl), WordOk.of hi (by kernel_rfl), ?_, expand_one hi (by kernel_rfl) (by kernel_rfl)⟩
  unfold expandP
  rw [if_neg (show partsP [97, 92, 63, 98] ≠ [] by decide), if_neg (show ¬ anyM (partsP [97, 92, 63, 98]) = true by decide)]
  kernel_rfl
theorem fits2 : Fits 2 91 := by
  have hn : newL (rawQ 91) = LQ 91 := by kernel_rfl
  have hi : Vfs.Inv (LQ 91) := by rw [← hn]; exact newL_inv _
  refine ⟨fun W => by kernel_rfl, hn, FsOk.of hi (by decide) (by decide), WordOk.of hi (by kernel_rfl), WordOk.of hi (by kernel_rfl), ?_, expand_one hi (by kernel_rfl) (by kernel_rfl)⟩
  unfold expandP
  rw [if_neg (show partsP [97, 92, 91, 98] ≠ [] by decide), if_neg (show ¬ anyM (partsP [97, 92, 91, 98]) = true by decide)]
  kernel_rfl
theorem fits_all (p : Nat) (h : p < 3) : ∃ b, Fits p b := by
  match p, h with
  | 0, _ => exact ⟨_, fits0⟩
  | 1, _ => exact ⟨_, fits1⟩
  | 2, _ => exact ⟨_, fits2⟩
theorem add_is (x y : T) (h : x.length + y.length ≤ 1000) (W : World) : (Op.stringOp .add (bs x) (bs y)).run Tryz.prog W = .ok (.string (bs (x ++ y))) W := by
  rw [run_string_add_sum W _ _ (by rw [size_bs, size_bs]; omega), ← bs_app]

set_option maxRecDepth 100000 in
set_option maxHeartbeats 8000000 in
theorem walk_b (a0 : Int) (p : Nat) (b : UInt8) (w : World) (hP : ∀ W : World, Calls Tryz.prog 19 #[.int .i64 a0, .int .i64 3] W fun e w' => e = .returned (.int .i64 (p : Int)) ∧ W = w') (hf : Fits p b) :
    Calls Tryz.prog 6 #[.int .i64 a0] w fun e W' => e = .returned (.bool true) ∧ Below w.heap.size w W' := by
  have HP := Lib.hid hP
  have hidx := hf.idx
  have a1 : ∀ W, (Op.stringOp .add ⟨#[97]⟩ ⟨#[b]⟩).run Tryz.prog W = .ok (.string ⟨#[97, b]⟩) W := add_is [97] [b] (by simp)
  have a2 : ∀ W, (Op.stringOp .add ⟨#[97, b]⟩ ⟨#[98]⟩).run Tryz.prog W = .ok (.string ⟨#[97, b, 98]⟩) W := add_is [97, b] [98] (by simp)
  have a3 : ∀ W, (Op.stringOp .add ⟨#[120, 47, 97]⟩ ⟨#[b]⟩).run Tryz.prog W = .ok (.string ⟨#[120, 47, 97, b]⟩) W := add_is [120, 47, 97] [b] (by simp)
  have a4 : ∀ W, (Op.stringOp .add ⟨#[120, 47, 97, b]⟩ ⟨#[98]⟩).run Tryz.prog W = .ok (.string ⟨#[120, 47, 97, b, 98]⟩) W := add_is [120, 47, 97, b] [98] (by simp)
  have a5 : ∀ W, (Op.stringOp .add ⟨#[97, 92]⟩ ⟨#[b]⟩).run Tryz.prog W = .ok (.string ⟨#[97, 92, b]⟩) W := add_is [97, 92] [b] (by simp)
  have a6 : ∀ W, (Op.stringOp .add ⟨#[97, 92, b]⟩ ⟨#[98]⟩).run Tryz.prog W = .ok (.string ⟨#[97, 92, b, 98]⟩) W := add_is [97, 92, b] [98] (by simp)
  have a7 : ∀ W, (Op.stringOp .add ⟨#[63, 47, 97, 92]⟩ ⟨#[b]⟩).run Tryz.prog W = .ok (.string ⟨#[63, 47, 97, 92, b]⟩) W := add_is [63, 47, 97, 92] [b] (by simp)
  have a8 : ∀ W, (Op.stringOp .add ⟨#[63, 47, 97, 92, b]⟩ ⟨#[98]⟩).run Tryz.prog W = .ok (.string ⟨#[63, 47, 97, 92, b, 98]⟩) W := add_is [63, 47, 97, 92, b] [98] (by simp)
  have hnew := new_is (some ⟨w.heap.size, 0, none⟩) 3 3 (rawQ b) (w.alloc (.cells #[.string ⟨#[97, b, 98]⟩, .bool false, .string ⟨#[]⟩, .string ⟨#[120, 47, 97, b, 98]⟩, .bool false, .string ⟨#[]⟩, .string ⟨#[97, 120, 98]⟩, .bool false, .string ⟨#[]⟩] 40)) rfl (ents_is w (rawQ b)) (fun x hx => by
    simp [rawQ] at hx
    rcases hx with rfl | rfl | rfl
    · exact ⟨by show 3 ≤ _; omega, by show 0 ≤ _; omega⟩
    · exact ⟨by show 5 ≤ _; omega, by show 0 ≤ _; omega⟩
    · exact ⟨by show 3 ≤ _; omega, by show 0 ≤ _; omega⟩) (by decide)
  rw [hf.new] at hnew
  have HNew := Lib.hid hnew
  have HFi := Lib.hid hf
  clear hnew hP hf
  go_enter Tryz.func6, Tryz.ntmps6
  go_wp2_with fail
  refine (HP.out _).mono ?_
  rintro e w' ⟨rfl, rfl⟩
  clear HP
  go_wp2_with fail
  refine HNew.out.mono ?_
  rintro e w1 ⟨fa, B, bl, rfl, hF, hb1⟩
  have HB1 := Lib.hid ((alloc_below w (.cells #[.string ⟨#[97, b, 98]⟩, .bool false, .string ⟨#[]⟩, .string ⟨#[120, 47, 97, b, 98]⟩, .bool false, .string ⟨#[]⟩, .string ⟨#[97, 120, 98]⟩, .bool false, .string ⟨#[]⟩] 40)).trans (hb1.mono (by simp)))
  have HF := Lib.hid hF
  have HX1 := Lib.hid (fun W (hW : Below w1.heap.size w1 W) => exp_is fa B bl (LQ b) [97, 92, b, 98] ⟨#[97, 92, b, 98]⟩ _ 1 W (HF.out.below hW) HFi.out.fs HFi.out.ok1 rfl HFi.out.ex1 rfl)
  have HX2 := Lib.hid (fun W (hW : Below w1.heap.size w1 W) => exp_is fa B bl (LQ b) [63, 47, 97, 92, b, 98] ⟨#[63, 47, 97, 92, b, 98]⟩ _ 1 W (HF.out.below hW) HFi.out.fs HFi.out.ok2 rfl HFi.out.ex2 rfl)
  clear hF hb1 HNew hidx
  go_wp2_with fail
  refine (HX1.out _ (Below.refl _ _)).mono ?_
  rintro e w2 ⟨A2, c2, rfl, hs2, hb2⟩
  have hba : Below w1.heap.size w1 (w2.alloc (.cells #[.string ⟨#[97, 92, b, 98]⟩] 9)) := hb2.alloc hb2.size _
  have HSa := Lib.hid (same_is A2 (some ⟨w2.heap.size, 0, none⟩) 1 c2 1 [⟨#[97, 92, b, 98]⟩] (w2.alloc (.cells #[.string ⟨#[97, 92, b, 98]⟩] 9)) rfl (hs2.below (alloc_below w2 _)) (lits_is w2 [⟨#[97, 92, b, 98]⟩]) (by decide))
  have HBa := Lib.hid hba
  clear hs2 hb2 hba HX1
  go_wp2_with fail
  refine HSa.out.mono ?_
  rintro e w3 ⟨rfl, hb3⟩
  have HB3 := Lib.hid (HBa.out.trans (hb3.mono HBa.out.size))
  clear hb3 HSa
  go_wp2_with fail
  refine (HX2.out _ HB3.out).mono ?_
  rintro e w4 ⟨A4, c4, rfl, hs4, hb4⟩
  have hba : Below w1.heap.size w1 (w4.alloc (.cells #[.string ⟨#[120, 47, 97, b, 98]⟩] 9)) := (HB3.out.trans (hb4.mono HB3.out.size)).alloc (Nat.le_trans HB3.out.size hb4.size) _
  have HSb := Lib.hid (same_is A4 (some ⟨w4.heap.size, 0, none⟩) 1 c4 1 [⟨#[120, 47, 97, b, 98]⟩] (w4.alloc (.cells #[.string ⟨#[120, 47, 97, b, 98]⟩] 9)) rfl (hs4.below (alloc_below w4 _)) (lits_is w4 [⟨#[120, 47, 97, b, 98]⟩]) (by decide))
  have HBb := Lib.hid hba
  clear hs4 hb4 hba HX2
  go_wp2_with fail
  refine HSb.out.mono ?_
  rintro e w5 ⟨rfl, hb5⟩
  have HB5 := Lib.hid (HBb.out.trans (hb5.mono HBb.out.size))
  clear hb5 HSb
  go_wp2_with fail
  refine (awake_is _).mono ?_
  rintro e w9 ⟨rfl, hb9⟩
  have HB9 := Lib.hid (HB5.out.trans (hb9.mono HB5.out.size))
  clear hb9
  go_wp2
  go_ret
  exact ⟨rfl, HB1.out.trans (HB9.out.mono HB1.out.size)⟩

theorem walk (a0 : Int) (w : World) (w0 : (Lit.int .i64 a0).wf = true) :
    Calls Tryz.prog 6 #[.int .i64 a0] w fun e W' => e = .returned (.bool true) ∧ Below w.heap.size w W' := by
  obtain ⟨b, hb⟩ := fits_all (place a0 3) (place_lt a0 3 (by omega))
  exact walk_b a0 (place a0 3) b w (fun W => place_is a0 3 W (by omega) (by omega) w0) hb

end Go.Proofs.YtgfpdaaofhanoaaGreatDoor.WildQuoted
