/- The digit of a number below 10; the arrays of the law SyntaxCalls. -/
import Derived.Test.YtndnialpedocnaaUsam
import Derived.Test.YtndnialpedocnaaUcalls
namespace Go.Proofs.Ytndnialpedocnaa.Udig
open Go Go.RowKit Go.Proofs.Ytndnialpedocnaa.Spl Go.Proofs.Ytndnialpedocnaa.Spf Go.Proofs.Ytndnialpedocnaa.Ucalls
open Go.Proofs.Ytndnialpedocnaa.Pure (bs)

theorem cut_dig (i : Nat) (hi : i < 10) (W : World) : (Instr.slice 9 (.string ⟨#[48, 49, 50, 51, 52, 53, 54, 55, 56, 57]⟩) (some (.int .i64 (i : Int))) (some (.int .i64 ((i : Int) + 1))) none).run Try.prog W = .ok (.string (bs (digT i))) W := by
  have h : i = 0 ∨ i = 1 ∨ i = 2 ∨ i = 3 ∨ i = 4 ∨ i = 5 ∨ i = 6 ∨ i = 7 ∨ i = 8 ∨ i = 9 := by omega
  rcases h with rfl | rfl | rfl | rfl | rfl | rfl | rfl | rfl | rfl | rfl <;> (show _ = _; kernel_rfl)
set_option maxHeartbeats 400000 in
theorem dig_one (i : Nat) (hi : i < 10) (w : World) :
    Calls Try.prog 9 #[.int .i64 (i : Int)] w fun e W' => e = .returned (.string (bs (digT i))) ∧ W' = w := by
  have hsl := cut_dig i hi
  generalize bs (digT i) = t at hsl ⊢
  go_enter Try.func9, Try.ntmps9
  go_wp2
  go_ret
  exact ⟨rfl, rfl⟩
theorem name_run {p : Nat} (hp : p < 8) (W : World) : (Instr.index 31 (.agg #[.string ⟨#[115, 116, 114, 105, 112]⟩, .string ⟨#[115, 117, 98, 115, 116]⟩, .string ⟨#[105, 102]⟩, .string ⟨#[111, 114]⟩, .string ⟨#[99, 97, 108, 108]⟩, .string ⟨#[105, 110, 116, 99, 109, 112]⟩, .string ⟨#[102, 111, 114, 101, 97, 99, 104]⟩, .string ⟨#[119, 111, 114, 100]⟩]) (.int .i64 (p : Int))).run Try.prog W = .ok (.string (bs (nmF p))) W := by
  have h : Try.prog.underlying 31 = some (.array 8 9) := Try.underlying31
  simp [Instr.index, run_underlying h, asIntOf, go_sem]
  rw [if_pos hp]
  obtain rfl | rfl | rfl | rfl | rfl | rfl | rfl | rfl : p = 0 ∨ p = 1 ∨ p = 2 ∨ p = 3 ∨ p = 4 ∨ p = 5 ∨ p = 6 ∨ p = 7 := by omega
  all_goals rfl
theorem low_run {p : Nat} (hp : p < 8) (W : World) : (Instr.index 32 (.agg #[.int .i64 1, .int .i64 3, .int .i64 2, .int .i64 1, .int .i64 1, .int .i64 2, .int .i64 3, .int .i64 2]) (.int .i64 (p : Int))).run Try.prog W = .ok (.int .i64 ((loF p : Nat) : Int)) W := by
  have h : Try.prog.underlying 32 = some (.array 8 3) := Try.underlying32
  simp [Instr.index, run_underlying h, asIntOf, go_sem]
  rw [if_pos hp]
  obtain rfl | rfl | rfl | rfl | rfl | rfl | rfl | rfl : p = 0 ∨ p = 1 ∨ p = 2 ∨ p = 3 ∨ p = 4 ∨ p = 5 ∨ p = 6 ∨ p = 7 := by omega
  all_goals rfl
theorem high_run {p : Nat} (hp : p < 8) (W : World) : (Instr.index 32 (.agg #[.int .i64 1, .int .i64 3, .int .i64 3, .int .i64 99, .int .i64 99, .int .i64 5, .int .i64 3, .int .i64 2]) (.int .i64 (p : Int))).run Try.prog W = .ok (.int .i64 ((hiF p : Nat) : Int)) W := by
  have h : Try.prog.underlying 32 = some (.array 8 3) := Try.underlying32
  simp [Instr.index, run_underlying h, asIntOf, go_sem]
  rw [if_pos hp]
  obtain rfl | rfl | rfl | rfl | rfl | rfl | rfl | rfl : p = 0 ∨ p = 1 ∨ p = 2 ∨ p = 3 ∨ p = 4 ∨ p = 5 ∨ p = 6 ∨ p = 7 := by omega
  all_goals rfl

end Go.Proofs.Ytndnialpedocnaa.Udig
