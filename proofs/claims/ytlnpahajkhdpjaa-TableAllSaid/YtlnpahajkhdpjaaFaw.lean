/- What the law's awake answers. -/
import Derived.Test.YtlnpahajkhdpjaaFnm
namespace Go.Proofs.Ytlnpahajkhdpjaa.Faw
open Go Go.RowKit Go.Proofs.Ytlnpahajkhdpjaa.Strs Go.Proofs.Ytlnpahajkhdpjaa.Fpl Go.Proofs.Ytlnpahajkhdpjaa.Fmp Go.Proofs.Ytlnpahajkhdpjaa.Fnm

theorem find_if : findV ⟨#[105, 102]⟩ = .tuple #[.agg #[.int .i64 2, .int .i64 3, .bool true, .bool false], .bool true] := by kernel_rfl
theorem find_hop : findV ⟨#[104, 111, 112]⟩ = .tuple #[.agg #[.int .i64 0, .int .i64 0, .bool false, .bool false], .bool false] := by kernel_rfl

set_option maxRecDepth 100000 in
set_option maxHeartbeats 4000000 in
theorem awake_is (w : World) : Calls Try.prog 12 #[] w fun e W' => e = .returned (.bool true) ∧ Below w.heap.size w W' := by
  have hml : (maxLen : Nat) = 9223372036854775807 := by unfold maxLen; rfl
  have HM := Lib.hid hml
  clear hml
  go_enter Try.func12, Try.ntmps12
  go_wp2_with fail
  refine (find_is _ _ (by rw [HM.out]; decide)).mono ?_
  rintro e W1 ⟨rfl, hb1⟩
  rw [find_if]
  go_wp2_with fail
  refine (find_is _ _ (by rw [HM.out]; decide)).mono ?_
  rintro e W2 ⟨rfl, hb2⟩
  rw [find_hop]
  have hs2 := hb2.size
  rw [World.size_alloc] at hs2
  have hg : W2.heap[W1.heap.size]? = some (.cells #[.int .i64 2, .int .i64 3, .bool true, .bool false] 28 (0, 0)) := (hb2.block _ (by simp)).trans (heap_alloc_new W1 _)
  have hgo := (Lib.alloc_old W2 (.cells #[.int .i64 0, .int .i64 0, .bool false, .bool false] 28) W1.heap.size (by omega)).trans hg
  have k0 : (W2.alloc (.cells #[.int .i64 0, .int .i64 0, .bool false, .bool false] 28)).cell? ⟨W1.heap.size, 0, none⟩ = some (.int .i64 2) := by rw [Lib.cell_of_heap hgo]; rfl
  have k1 : (W2.alloc (.cells #[.int .i64 0, .int .i64 0, .bool false, .bool false] 28)).cell? ⟨W1.heap.size, 1, none⟩ = some (.int .i64 3) := by rw [Lib.cell_of_heap hgo]; rfl
  have k2 : (W2.alloc (.cells #[.int .i64 0, .int .i64 0, .bool false, .bool false] 28)).cell? ⟨W1.heap.size, 2, none⟩ = some (.bool true) := by rw [Lib.cell_of_heap hgo]; rfl
  have HB1 := Lib.hid hb1
  have HB2 := Lib.hid (hb2.mono (show w.heap.size ≤ _ by have := hb1.size; simp; omega))
  clear hb1 hb2 hg hgo
  go_wp2_with fail
  refine (names_is _).mono ?_
  rintro e W3 ⟨A, c, rfl, hsl, hb3⟩
  have HB3 := Lib.hid hb3
  clear hsl hb3 k0 k1 k2
  go_wp2
  go_ret
  have h1 := HB1.out.size
  have h2 := HB1.out.alloc (show w.heap.size ≤ W1.heap.size from h1) (.cells #[.int .i64 2, .int .i64 3, .bool true, .bool false] 28)
  have h3 := (h2.trans HB2.out).alloc (show w.heap.size ≤ W2.heap.size by omega) (.cells #[.int .i64 0, .int .i64 0, .bool false, .bool false] 28)
  exact ⟨rfl, h3.trans (HB3.out.mono (by simp; omega))⟩

end Go.Proofs.Ytlnpahajkhdpjaa.Faw
