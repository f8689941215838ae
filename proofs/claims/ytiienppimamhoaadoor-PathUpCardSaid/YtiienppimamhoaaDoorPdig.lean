/- What PathUp is made of, on lists of bytes, and the digits of a number below 12. -/
import Derived.Deep.RegionHeld3
import Derived.Deep.QuietTactic
import Derived.BigQuiet
import Derived.Test.YtiienppimamhoaaDoorPawake
import Derived.Test.YtiienppimamhoaaDoorPlace
namespace Go.Proofs.YtiienppimamhoaaDoor.PathUp
open Go.RowKit Go.Proofs.YtiienppimamhoaaDoor.Pth Go.Proofs.YtiienppimamhoaaDoor.Pfn Go.Proofs.YtiienppimamhoaaDoor.Pabs Go.Proofs.YtiienppimamhoaaDoor.Pawake
open Go.Proofs.YtiienppimamhoaaDoor.Place (place place_lt place_is)

/-- the digits of a number below 12 -/
def digL (i : Nat) : List UInt8 := if i < 10 then [(48 + i).toUInt8] else [49, (38 + i).toUInt8]
/-- down so many -/
def downL : Nat → List UInt8
  | 0 => []
  | i + 1 => downL i ++ 100 :: (digL i ++ [47])
/-- where one is, of i of k steps down, with j up -/
def wantL (k j : Nat) : Nat → List UInt8
  | 0 => []
  | i + 1 => if i + j < k then wantL k j i ++ 47 :: 100 :: digL i else wantL k j i
def upAt (d : Nat) : List UInt8 := [[46, 46, 47], [46, 46, 47, 47], [46, 46, 47, 46, 47]].getD d []
def upL (s : List UInt8) (d : Nat) : Nat → List UInt8
  | 0 => s
  | i + 1 => upL s d i ++ upAt d

/-- all that there are -/
theorem all_abs : ∀ k, k < 12 → ∀ j, j < 15 → ∀ d, d < 3 → absL (47 :: upL (downL k) d j) = orSlash (wantL k j k) ∧ (upL (downL k) d j = [] ∨ absL (upL (downL k) d j) = orSlash (wantL k j k)) ∧ absL (orSlash (wantL k j k) ++ [47, 46]) = orSlash (wantL k j k) := by decide +kernel
theorem dig_len (i : Nat) : (digL i).length ≤ 2 := by unfold digL; split <;> simp
theorem down_len : ∀ i, (downL i).length ≤ 4 * i
  | 0 => Nat.le_refl _
  | i + 1 => by
    have := down_len i
    have := dig_len i
    rw [downL, List.length_append, List.length_cons, List.length_append, List.length_cons, List.length_nil]; omega
theorem want_len (k j : Nat) : ∀ i, (wantL k j i).length ≤ 4 * i
  | 0 => Nat.le_refl _
  | i + 1 => by
    have := want_len k j i
    have := dig_len i
    rw [wantL]
    split
    · rw [List.length_append, List.length_cons, List.length_cons]; omega
    · omega
theorem up_at_len : ∀ d, d < 3 → (upAt d).length ≤ 5 := by decide +kernel
theorem up_len (s : List UInt8) (d : Nat) (hd : d < 3) : ∀ i, (upL s d i).length ≤ s.length + 5 * i
  | 0 => Nat.le_refl _
  | i + 1 => by
    have := up_len s d hd i
    have := up_at_len d hd
    rw [upL, List.length_append]; omega

theorem index_up (p : Nat) (hp : p < 3) (W : World) : (Instr.index 34 (.agg #[.string ⟨#[46, 46, 47]⟩, .string ⟨#[46, 46, 47, 47]⟩, .string ⟨#[46, 46, 47, 46, 47]⟩]) (.int .i64 (p : Int))).run Tryd.prog W = .ok (.string (bs (upAt p))) W := by
  have h : p = 0 ∨ p = 1 ∨ p = 2 := by omega
  rcases h with rfl | rfl | rfl <;> (show _ = _; kernel_rfl)

theorem cut_dig (i : Nat) (hi : i < 10) (W : World) : (Instr.slice 9 (.string ⟨#[48, 49, 50, 51, 52, 53, 54, 55, 56, 57]⟩) (some (.int .i64 (i : Int))) (some (.int .i64 ((i : Int) + 1))) none).run Tryd.prog W = .ok (.string (bs (digL i))) W := by
  have h : i = 0 ∨ i = 1 ∨ i = 2 ∨ i = 3 ∨ i = 4 ∨ i = 5 ∨ i = 6 ∨ i = 7 ∨ i = 8 ∨ i = 9 := by omega
  rcases h with rfl | rfl | rfl | rfl | rfl | rfl | rfl | rfl | rfl | rfl <;> (show _ = _; kernel_rfl)

set_option maxHeartbeats 400000 in
/-- the digits of a number below 10 -/
theorem dig_one (i : Nat) (hi : i < 10) (w : World) :
    Calls Tryd.prog 19 #[.int .i64 (i : Int)] w fun e W' => e = .returned (.string (bs (digL i))) ∧ w = W' := by
  have hsl := cut_dig i hi
  generalize bs (digL i) = t at hsl ⊢
  go_enter Tryd.func19, Tryd.ntmps19
  go_wp2
  go_ret
  exact ⟨rfl, rfl⟩
theorem dig1 (w : World) :
    Calls Tryd.prog 19 #[.int .i64 1] w fun e W' => e = .returned (.string ⟨#[49]⟩) ∧ w = W' := dig_one 1 (by omega) w
theorem below_drewN {B : Nat} {w w' : World} (h : Below B w w') : ∀ n, Below B w (w'.drewN n)
  | 0 => h
  | n + 1 => (below_drewN h n).drew
theorem wr0 : IntKind.i64.wrap 0 = 0 := by decide
theorem wr1 : IntKind.i64.wrap 1 = 1 := by decide
theorem wr2 : IntKind.i64.wrap 2 = 2 := by decide
theorem dig1q (w : World) :
    Calls Tryd.prog 19 #[.int .i64 1] w fun e W' => e = .returned (.string ⟨#[49]⟩) ∧ W' = w := (dig1 w).mono fun _ _ ⟨he, hw⟩ => ⟨he, hw.symm⟩
theorem dig1_held {w W : World} (k : Below w.heap.size w W) :
    Calls Tryd.prog 19 #[.int .i64 1] W fun e W' => e = .returned (.string ⟨#[49]⟩) ∧ Below w.heap.size w W' := (dig1 W).mono fun _ _ ⟨he, hw⟩ => ⟨he, hw ▸ k⟩
theorem add_10 (W : World) : (Op.stringOp .add ⟨#[49]⟩ ⟨#[48]⟩).run Tryd.prog W = .ok (.string (bs (digL 10))) W := run_string_add_sum W ⟨#[49]⟩ ⟨#[48]⟩ (by decide)
theorem add_11 (W : World) : (Op.stringOp .add ⟨#[49]⟩ ⟨#[49]⟩).run Tryd.prog W = .ok (.string (bs (digL 11))) W := run_string_add_sum W ⟨#[49]⟩ ⟨#[49]⟩ (by decide)
theorem cut_0 (W : World) : (Instr.slice 9 (.string ⟨#[48, 49, 50, 51, 52, 53, 54, 55, 56, 57]⟩) (some (.int .i64 0)) (some (.int .i64 1)) none).run Tryd.prog W = .ok (.string ⟨#[48]⟩) W := by kernel_rfl
theorem cut_1 (W : World) : (Instr.slice 9 (.string ⟨#[48, 49, 50, 51, 52, 53, 54, 55, 56, 57]⟩) (some (.int .i64 1)) (some (.int .i64 2)) none).run Tryd.prog W = .ok (.string ⟨#[49]⟩) W := by kernel_rfl

set_option maxHeartbeats 1000000 in
theorem dig_10 (w : World) :
    Calls Tryd.prog 19 #[.int .i64 10] w fun e W' => e = .returned (.string (bs (digL 10))) ∧ Below w.heap.size w W' := by
  have h0 := wr0
  have h1 := wr1
  have h2 := wr2
  have a1 := add_10
  have c1 := cut_0
  generalize bs (digL 10) = t at a1 ⊢
  go_enter Tryd.func19, Tryd.ntmps19
  go_wp2_with fail
  go_quiet (first | (go_at_call 19; refine Calls.quiet_of_same (dig1q _)))
  go_wp2
  go_ret
  exact ⟨rfl, below_drewN (Below.refl _ _) _⟩

set_option maxHeartbeats 1000000 in
theorem dig_11 (w : World) :
    Calls Tryd.prog 19 #[.int .i64 11] w fun e W' => e = .returned (.string (bs (digL 11))) ∧ Below w.heap.size w W' := by
  have h0 := wr0
  have h1 := wr1
  have h2 := wr2
  have a1 := add_11
  have c1 := cut_1
  generalize bs (digL 11) = t at a1 ⊢
  go_enter Tryd.func19, Tryd.ntmps19
  go_wp2_with fail
  go_quiet (first | (go_at_call 19; refine Calls.quiet_of_same (dig1q _)))
  go_wp2
  go_ret
  exact ⟨rfl, below_drewN (Below.refl _ _) _⟩

theorem dig_is (i : Nat) (hi : i < 12) (w : World) :
    Calls Tryd.prog 19 #[.int .i64 (i : Int)] w fun e W' => e = .returned (.string (bs (digL i))) ∧ Below w.heap.size w W' := by
  by_cases h : i < 10
  · exact (dig_one i h w).mono fun _ _ ⟨he, hw⟩ => ⟨he, hw ▸ Below.refl _ _⟩
  · have h2 : i = 10 ∨ i = 11 := by omega
    rcases h2 with rfl | rfl
    · exact dig_10 w
    · exact dig_11 w

end Go.Proofs.YtiienppimamhoaaDoor.PathUp
