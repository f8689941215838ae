/- The digits of a number. -/
import Derived.Deep.RegionHeld3
import Derived.Deep.QuietTactic
import Derived.BigQuiet
import Derived.Test.YtgfpdaaofhanoaaGreatDoorStrs
import Derived.Test.YtgfpdaaofhanoaaGreatDoorPth
import Derived.Test.YtgfpdaaofhanoaaGreatDoorPlace
namespace Go.Proofs.YtgfpdaaofhanoaaGreatDoor.Vdig
open Go.RowKit Go.Proofs.YtgfpdaaofhanoaaGreatDoor.Strs Go.Proofs.YtgfpdaaofhanoaaGreatDoor.Pth

def digN (i : Nat) : List UInt8 := if h : i < 10 then [(48 + i).toUInt8] else digN (i / 10) ++ [(48 + i % 10).toUInt8]
termination_by i
decreasing_by omega
theorem digN_one {i : Nat} (h : i < 10) : digN i = [(48 + i).toUInt8] := by rw [digN, dif_pos h]
theorem digN_more {i : Nat} (h : ¬ i < 10) : digN i = digN (i / 10) ++ [(48 + i % 10).toUInt8] := by rw [digN, dif_neg h]
theorem digN_len (i : Nat) : (digN i).length ≤ i + 1 := by
  induction i using Nat.strongRecOn with
  | _ i ih =>
    by_cases h : i < 10
    · rw [digN_one h]; simp
    · rw [digN_more h, List.length_append]
      have := ih (i / 10) (by omega)
      simp; omega
theorem dig_byte (k : Nat) (h : k < 10) : (48 + k).toUInt8.toNat = 48 + k := by
  show (48 + k) % 256 = 48 + k
  omega
theorem digN_bytes (i : Nat) : ∀ b ∈ digN i, 48 ≤ b.toNat ∧ b.toNat < 58 := by
  induction i using Nat.strongRecOn with
  | _ i ih =>
    intro b hb
    by_cases h : i < 10
    · rw [digN_one h] at hb
      rw [List.mem_singleton.1 hb, dig_byte i h]; omega
    · rw [digN_more h] at hb
      rcases List.mem_append.1 hb with h1 | h1
      · exact ih _ (by omega) b h1
      · rw [List.mem_singleton.1 h1, dig_byte _ (by omega)]; omega

theorem cut_dig (i : Nat) (hi : i < 10) (W : World) : (Instr.slice 9 (.string ⟨#[48, 49, 50, 51, 52, 53, 54, 55, 56, 57]⟩) (some (.int .i64 (i : Int))) (some (.int .i64 ((i : Int) + 1))) none).run Tryz.prog W = .ok (.string ⟨#[(48 + i).toUInt8]⟩) W := by
  have h : i = 0 ∨ i = 1 ∨ i = 2 ∨ i = 3 ∨ i = 4 ∨ i = 5 ∨ i = 6 ∨ i = 7 ∨ i = 8 ∨ i = 9 := by omega
  rcases h with rfl | rfl | rfl | rfl | rfl | rfl | rfl | rfl | rfl | rfl <;> (show _ = _; kernel_rfl)

set_option maxRecDepth 100000 in
set_option maxHeartbeats 1000000 in
theorem dig_one (i : Nat) (hi : i < 10) (w : World) :
    Calls Tryz.prog 20 #[.int .i64 (i : Int)] w fun e W' => e = .returned (.string (bs (digN i))) ∧ ∃ m, W' = w.drewN m := by
  have hsl := cut_dig i hi
  have e1 : bs (digN i) = ⟨#[(48 + i).toUInt8]⟩ := by rw [digN_one hi]; rfl
  rw [e1]
  generalize (⟨#[(48 + i).toUInt8]⟩ : ByteArray) = t at hsl ⊢
  go_enter Tryz.func20, Tryz.ntmps20
  go_wp2
  go_ret
  exact ⟨rfl, 0, rfl⟩

set_option maxRecDepth 100000 in
set_option maxHeartbeats 1000000 in
theorem dig_step (i a r : Nat) (ha : i / 10 = a) (hr : i % 10 = r) (h1 : ¬ i < 10) (h2 : i ≤ 1000000) (w : World)
    (ih : ∀ W, Calls Tryz.prog 20 #[.int .i64 (a : Int)] W fun e W' => e = .returned (.string (bs (digN a))) ∧ ∃ m, W' = W.drewN m) :
    Calls Tryz.prog 20 #[.int .i64 (i : Int)] w fun e W' => e = .returned (.string (bs (digN i))) ∧ ∃ m, W' = w.drewN m := by
  have hr10 : r < 10 := by omega
  have hai : (i : Int) / 10 = (a : Int) := by omega
  have hri : (i : Int) % 10 = (r : Int) := by omega
  have hsl := cut_dig r hr10
  have HO := Lib.hid ih
  have e1 : bs (digN i) = bs (digN a) ++ ⟨#[(48 + r).toUInt8]⟩ := by rw [digN_more h1, ha, hr, bs_app]; rfl
  have HD := Lib.hid e1
  have hsz : (bs (digN a)).size ≤ 1000001 := by rw [size_bs]; have := digN_len a; omega
  have z1 : (⟨#[(48 + r).toUInt8]⟩ : ByteArray).size = 1 := rfl
  clear e1 ih
  generalize (⟨#[(48 + r).toUInt8]⟩ : ByteArray) = t at *
  generalize bs (digN a) = u at *
  have a1 : ∀ W, (Op.stringOp .add u t).run Tryz.prog W = .ok (.string (u ++ t)) W := fun W => run_string_add_sum W _ _ (by omega)
  rw [← HD.out] at a1
  generalize bs (digN i) = v at *
  go_enter Tryz.func20, Tryz.ntmps20
  go_wp2_with fail
  go_quiet (first | (go_at_call 20; refine Calls.quiet_of (HO.out _)))
  go_wp2
  go_ret
  exact ⟨rfl, _, rfl⟩

/-- the digits of a number up to a million -/
theorem dig_is (i : Nat) (h : i ≤ 1000000) : ∀ w, Calls Tryz.prog 20 #[.int .i64 (i : Int)] w fun e W' => e = .returned (.string (bs (digN i))) ∧ ∃ m, W' = w.drewN m := by
  induction i using Nat.strongRecOn with
  | _ i ih =>
    intro w
    by_cases h1 : i < 10
    · exact dig_one i h1 w
    · exact dig_step i _ _ rfl rfl h1 h w (ih (i / 10) (by omega) (by omega))
/-- the same of an integer -/
def digI (z : Int) : ByteArray := bs (digN z.toNat)
theorem digI_is (z : Int) (h0 : 0 ≤ z) (h1 : z ≤ 1000000) (w : World) : Calls Tryz.prog 20 #[.int .i64 z] w fun e W' => e = .returned (.string (digI z)) ∧ ∃ m, W' = w.drewN m := by
  obtain ⟨i, rfl⟩ := Int.eq_ofNat_of_zero_le h0
  exact dig_is i (by omega) w

end Go.Proofs.YtgfpdaaofhanoaaGreatDoor.Vdig
