/- The digits of a number below 100. -/
import Derived.Deep.RegionHeld3
import Derived.Deep.QuietTactic
import Derived.BigQuiet
import Derived.Test.YtmallbgmpmdjiaaDoorStrs
import Derived.Test.YtmallbgmpmdjiaaDoorPat
import Derived.Test.YtmallbgmpmdjiaaDoorPlace
namespace Go.Proofs.YtmallbgmpmdjiaaDoor.Ldig
open Go.RowKit Go.Proofs.YtmallbgmpmdjiaaDoor.Strs
open Go.Proofs.YtmallbgmpmdjiaaDoor.Pat (bs)

/-- the digits of a number below 100 -/
def digB (i : Nat) : ByteArray := if i < 10 then ⟨#[(48 + i).toUInt8]⟩ else ⟨#[(48 + i / 10).toUInt8]⟩ ++ ⟨#[(48 + i % 10).toUInt8]⟩
theorem digB_one {i : Nat} (h : i < 10) : digB i = ⟨#[(48 + i).toUInt8]⟩ := by rw [digB, if_pos h]
theorem digB_two {i : Nat} (h : ¬ i < 10) : digB i = ⟨#[(48 + i / 10).toUInt8]⟩ ++ ⟨#[(48 + i % 10).toUInt8]⟩ := by rw [digB, if_neg h]
theorem digB_size (i : Nat) : (digB i).size ≤ 2 := by
  unfold digB
  split
  · exact Nat.le_succ 1
  · rw [ByteArray.size_append]; exact Nat.le_refl 2

theorem cut_dig (i : Nat) (hi : i < 10) (W : World) : (Instr.slice 9 (.string ⟨#[48, 49, 50, 51, 52, 53, 54, 55, 56, 57]⟩) (some (.int .i64 (i : Int))) (some (.int .i64 ((i : Int) + 1))) none).run Tryd.prog W = .ok (.string ⟨#[(48 + i).toUInt8]⟩) W := by
  have h : i = 0 ∨ i = 1 ∨ i = 2 ∨ i = 3 ∨ i = 4 ∨ i = 5 ∨ i = 6 ∨ i = 7 ∨ i = 8 ∨ i = 9 := by omega
  rcases h with rfl | rfl | rfl | rfl | rfl | rfl | rfl | rfl | rfl | rfl <;> (show _ = _; kernel_rfl)

set_option maxHeartbeats 400000 in
/-- the digits of a number below 10 -/
theorem dig_one (i : Nat) (hi : i < 10) (w : World) :
    Calls Tryd.prog 22 #[.int .i64 (i : Int)] w fun e W' => e = .returned (.string (digB i)) ∧ W' = w := by
  have hsl := cut_dig i hi
  rw [digB_one hi]
  generalize (⟨#[(48 + i).toUInt8]⟩ : ByteArray) = t at hsl ⊢
  go_enter Tryd.func22, Tryd.ntmps22
  go_wp2
  go_ret
  exact ⟨rfl, rfl⟩

set_option maxHeartbeats 1000000 in
theorem dig_two (i a r : Nat) (ha : i / 10 = a) (hr : i % 10 = r) (h1 : ¬ i < 10) (h2 : i < 100) (w : World) :
    Calls Tryd.prog 22 #[.int .i64 (i : Int)] w fun e W' => e = .returned (.string (digB i)) ∧ ∃ m, W' = w.drewN m := by
  have ha10 : a < 10 := by omega
  have hr10 : r < 10 := by omega
  have hai : (i : Int) / 10 = (a : Int) := by omega
  have hri : (i : Int) % 10 = (r : Int) := by omega
  have hsl := cut_dig r hr10
  have HO := Lib.hid (fun W => dig_one a ha10 W)
  have HD := Lib.hid (digB_two h1)
  rw [ha, hr, ← digB_one ha10] at HD
  have hsz := digB_size a
  have z1 : (⟨#[(48 + r).toUInt8]⟩ : ByteArray).size = 1 := rfl
  generalize (⟨#[(48 + r).toUInt8]⟩ : ByteArray) = t at *
  generalize digB a = u at *
  have a1 : ∀ W, (Op.stringOp .add u t).run Tryd.prog W = .ok (.string (u ++ t)) W := fun W => run_string_add_sum W _ _ (by omega)
  rw [← HD.out] at a1
  generalize digB i = v at *
  go_enter Tryd.func22, Tryd.ntmps22
  go_wp2_with fail
  go_quiet (first | (go_at_call 22; refine Calls.quiet_of_same (HO.out _)))
  go_wp2
  go_ret
  exact ⟨rfl, _, rfl⟩

/-- the digits of a number below 100 -/
theorem dig_is (i : Nat) (h : i < 100) (w : World) :
    Calls Tryd.prog 22 #[.int .i64 (i : Int)] w fun e W' => e = .returned (.string (digB i)) ∧ Below w.heap.size w W' := by
  by_cases h1 : i < 10
  · exact (dig_one i h1 w).mono fun _ _ ⟨he, hw⟩ => ⟨he, hw ▸ Below.refl _ _⟩
  · refine (dig_two i _ _ rfl rfl h1 h w).mono ?_
    rintro e W' ⟨he, m, rfl⟩
    exact ⟨he, below_drewN (Below.refl _ _) m⟩

/-- the same of an integer -/
def digI (z : Int) : ByteArray := digB z.toNat
theorem digI_nat (i : Nat) : digI (i : Int) = digB i := rfl
theorem digI_is (z : Int) (h0 : 0 ≤ z) (h1 : z < 100) (w : World) :
    Calls Tryd.prog 22 #[.int .i64 z] w fun e W' => e = .returned (.string (digI z)) ∧ Below w.heap.size w W' := by
  obtain ⟨i, rfl⟩ := Int.eq_ofNat_of_zero_le h0
  exact dig_is i (by omega) w

end Go.Proofs.YtmallbgmpmdjiaaDoor.Ldig
