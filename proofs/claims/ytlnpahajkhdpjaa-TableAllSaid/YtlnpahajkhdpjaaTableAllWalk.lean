/- The walk of the law TableAll. -/
import Derived.Test.YtlnpahajkhdpjaaFaw
import Derived.Test.YtlnpahajkhdpjaaFref
import Derived.Test.YtlnpahajkhdpjaaWplace
namespace Go.Proofs.Ytlnpahajkhdpjaa.TableAll
open Go Go.RowKit Go.Proofs.Ytlnpahajkhdpjaa.Strs Go.Proofs.Ytlnpahajkhdpjaa.Srt Go.Proofs.Ytlnpahajkhdpjaa.Fpl Go.Proofs.Ytlnpahajkhdpjaa.Fmp Go.Proofs.Ytlnpahajkhdpjaa.Fnm Go.Proofs.Ytlnpahajkhdpjaa.Faw Go.Proofs.Ytlnpahajkhdpjaa.Place Go.Proofs.Ytlnpahajkhdpjaa.Fref
open Go.Proofs.Ytlnpahajkhdpjaa.Pure (bs)

theorem refV_eq (x : ByteArray) : refV x = findV x := by
  unfold refV findV
  rw [refI_eq]
theorem names_small {x : T} (h : x ∈ names) : x.length ≤ 10 := by
  have : (names.all fun x => decide (x.length ≤ 10)) = true := by kernel_rfl
  exact of_decide_eq_true (List.all_eq_true.1 this x h)

set_option maxRecDepth 100000 in
set_option maxHeartbeats 8000000 in
theorem walk (s0 : ByteArray) (a1 : Int) (w : World) (hs0 : s0.size ≤ maxLen) (w1 : (Lit.int .i64 a1).wf = true) :
    Calls Try.prog 3 #[.string s0, .int .i64 a1] w fun e W' => e = .returned (.bool true) ∧ Below w.heap.size w W' := by
  have hp := place_lt a1 35 (by omega)
  have HP := Lib.hid (show ∀ W : World, Calls Try.prog 9 #[.int .i64 a1, .int .i64 35] W fun e w' => e = .returned (.int .i64 ((place a1 35 : Nat) : Int)) ∧ W = w' from fun W => Wplace.place_is a1 35 W (by omega) (by omega) w1)
  have hml : (maxLen : Nat) = 9223372036854775807 := by unfold maxLen; rfl
  clear w1
  generalize place a1 35 = p at *
  have hpl : p < names.length := hp
  have hx : namesB[p]? = some (bs names[p]) := by
    unfold namesB
    rw [List.getElem?_map, List.getElem?_eq_getElem hpl]; rfl
  have HX := Lib.hid hx
  have HS0 := Lib.hid (fun W => find_is s0 W hs0)
  have HS1 := Lib.hid (fun W => find_is (bs names[p]) W (by rw [hml, Pure.size_bs]; have := names_small (List.getElem_mem hpl); omega))
  have HR0 := Lib.hid (fun W => refFind_is s0 W)
  have HR1 := Lib.hid (fun W => refFind_is (bs names[p]) W)
  rw [refV_eq] at HR0 HR1
  unfold findV infV at HS0 HS1 HR0 HR1
  clear hx hml hs0
  generalize bs names[p] = x at *
  generalize (lookI tab s0.data.toList).getD zero = q0 at *
  generalize (lookI tab s0.data.toList).isSome = r0 at *
  generalize (lookI tab x.data.toList).getD zero = q1 at *
  generalize (lookI tab x.data.toList).isSome = r1 at *
  have hi0 : ∀ W, (Instr.index 26 (.agg #[.string s0, .string x]) (.int .i64 0)).run Try.prog W = .ok (.string s0) W := fun W => by
    have h : Try.prog.underlying 26 = some (.array 2 9) := Try.underlying26
    simp [Instr.index, run_underlying h, asIntOf, go_sem]
  have hi1 : ∀ W, (Instr.index 26 (.agg #[.string s0, .string x]) (.int .i64 1)).run Try.prog W = .ok (.string x) W := fun W => by
    have h : Try.prog.underlying 26 = some (.array 2 9) := Try.underlying26
    simp [Instr.index, run_underlying h, asIntOf, go_sem]
  go_enter Try.func3, Try.ntmps3
  go_wp2_with fail
  refine (names_is _).mono ?_
  rintro e W1 ⟨A, c, rfl, hsl, hb1⟩
  have HL := Lib.hid hsl
  have HB1 := Lib.hid hb1
  clear hsl hb1
  go_wp2_with fail
  refine (refNames_is _).mono ?_
  rintro e W2 ⟨A', c', rfl, hsl, hb2⟩
  have HL2 := Lib.hid (HL.out.below hb2)
  have HSame := Lib.hid (same_is A A' 35 c c' namesB W2 rfl HL2.out hsl (by unfold maxLen; omega))
  have HB2 := Lib.hid (HB1.out.trans (hb2.mono HB1.out.size))
  clear hsl hb2 HL HB1
  go_wp2_with fail
  refine HSame.out.mono ?_
  rintro e W3 ⟨rfl, hb3⟩
  obtain ⟨b, o, rfl, hbl, hcs⟩ := HL2.out.at_ HX.out
  have c1 := hcs W3 hb3
  have HB3 := Lib.hid (HB2.out.trans (hb3.mono HB2.out.size))
  clear hcs hbl hb3 HL2 HX HB2 HSame hpl
  go_wp2_with fail
  refine (HP.out _).mono ?_
  rintro e w' ⟨rfl, rfl⟩
  clear HP
  go_wp2_with fail
  clear c1
  go_loopw [26] (fun i wr => (i = .int .i64 0 ∨ i = .int .i64 1 ∨ i = .int .i64 2) ∧ Hid (Below w.heap.size w wr)) (fun i _ => 2 - (intOf i).toNat)
  case atStart => exact ⟨.inl rfl, HB3.out⟩
  case round =>
    obtain ⟨rfl | rfl | rfl, HB⟩ := hrel
    · go_wp2_with fail
      refine (HS0.out _).mono ?_
      rintro e W4 ⟨rfl, hb4⟩
      have HB4 := Lib.hid (HB.out.trans (hb4.mono HB.out.size))
      clear hb4
      go_wp2_with fail
      refine (HR0.out _).mono ?_
      rintro e W5 ⟨rfl, hb5⟩
      have hs5 := hb5.size
      rw [World.size_alloc] at hs5
      have hg : W5.heap[W4.heap.size]? = some (.cells #[.int .i64 q0.mn, .int .i64 q0.mx, .bool q0.lz, .bool q0.pu] 28 (0, 0)) := (hb5.block _ (by simp)).trans (heap_alloc_new W4 _)
      have hgo := (Lib.alloc_old W5 (.cells #[.int .i64 q0.mn, .int .i64 q0.mx, .bool q0.lz, .bool q0.pu] 31) W4.heap.size (by omega)).trans hg
      have k0 : (W5.alloc (.cells #[.int .i64 q0.mn, .int .i64 q0.mx, .bool q0.lz, .bool q0.pu] 31)).cell? ⟨W4.heap.size, 0, none⟩ = some (.int .i64 q0.mn) := by rw [Lib.cell_of_heap hgo]; rfl
      have k1 : (W5.alloc (.cells #[.int .i64 q0.mn, .int .i64 q0.mx, .bool q0.lz, .bool q0.pu] 31)).cell? ⟨W4.heap.size, 1, none⟩ = some (.int .i64 q0.mx) := by rw [Lib.cell_of_heap hgo]; rfl
      have k2 : (W5.alloc (.cells #[.int .i64 q0.mn, .int .i64 q0.mx, .bool q0.lz, .bool q0.pu] 31)).cell? ⟨W4.heap.size, 2, none⟩ = some (.bool q0.lz) := by rw [Lib.cell_of_heap hgo]; rfl
      have k3 : (W5.alloc (.cells #[.int .i64 q0.mn, .int .i64 q0.mx, .bool q0.lz, .bool q0.pu] 31)).cell? ⟨W4.heap.size, 3, none⟩ = some (.bool q0.pu) := by rw [Lib.cell_of_heap hgo]; rfl
      have HB5 := Lib.hid (((HB4.out.alloc HB4.out.size (.cells #[.int .i64 q0.mn, .int .i64 q0.mx, .bool q0.lz, .bool q0.pu] 28)).trans (hb5.mono (by have := HB4.out.size; simp; omega))).alloc (show w.heap.size ≤ W5.heap.size by have := HB4.out.size; omega) (.cells #[.int .i64 q0.mn, .int .i64 q0.mx, .bool q0.lz, .bool q0.pu] 31))
      clear hb5 hg hgo HB4 HB HB3 HS1 HR1 HS0 HR0 hs5
      go_wp2
      go_roundw
      case rel => exact ⟨.inr (.inl (by go_num)), HB5.out⟩
      case measure => simp [intOf] <;> omega
    · go_wp2_with fail
      refine (HS1.out _).mono ?_
      rintro e W4 ⟨rfl, hb4⟩
      have HB4 := Lib.hid (HB.out.trans (hb4.mono HB.out.size))
      clear hb4
      go_wp2_with fail
      refine (HR1.out _).mono ?_
      rintro e W5 ⟨rfl, hb5⟩
      have hs5 := hb5.size
      rw [World.size_alloc] at hs5
      have hg : W5.heap[W4.heap.size]? = some (.cells #[.int .i64 q1.mn, .int .i64 q1.mx, .bool q1.lz, .bool q1.pu] 28 (0, 0)) := (hb5.block _ (by simp)).trans (heap_alloc_new W4 _)
      have hgo := (Lib.alloc_old W5 (.cells #[.int .i64 q1.mn, .int .i64 q1.mx, .bool q1.lz, .bool q1.pu] 31) W4.heap.size (by omega)).trans hg
      have k0 : (W5.alloc (.cells #[.int .i64 q1.mn, .int .i64 q1.mx, .bool q1.lz, .bool q1.pu] 31)).cell? ⟨W4.heap.size, 0, none⟩ = some (.int .i64 q1.mn) := by rw [Lib.cell_of_heap hgo]; rfl
      have k1 : (W5.alloc (.cells #[.int .i64 q1.mn, .int .i64 q1.mx, .bool q1.lz, .bool q1.pu] 31)).cell? ⟨W4.heap.size, 1, none⟩ = some (.int .i64 q1.mx) := by rw [Lib.cell_of_heap hgo]; rfl
      have k2 : (W5.alloc (.cells #[.int .i64 q1.mn, .int .i64 q1.mx, .bool q1.lz, .bool q1.pu] 31)).cell? ⟨W4.heap.size, 2, none⟩ = some (.bool q1.lz) := by rw [Lib.cell_of_heap hgo]; rfl
      have k3 : (W5.alloc (.cells #[.int .i64 q1.mn, .int .i64 q1.mx, .bool q1.lz, .bool q1.pu] 31)).cell? ⟨W4.heap.size, 3, none⟩ = some (.bool q1.pu) := by rw [Lib.cell_of_heap hgo]; rfl
      have HB5 := Lib.hid (((HB4.out.alloc HB4.out.size (.cells #[.int .i64 q1.mn, .int .i64 q1.mx, .bool q1.lz, .bool q1.pu] 28)).trans (hb5.mono (by have := HB4.out.size; simp; omega))).alloc (show w.heap.size ≤ W5.heap.size by have := HB4.out.size; omega) (.cells #[.int .i64 q1.mn, .int .i64 q1.mx, .bool q1.lz, .bool q1.pu] 31))
      clear hb5 hg hgo HB4 HB HB3 HS1 HR1 HS0 HR0 hs5
      go_wp2
      go_roundw
      case rel => exact ⟨.inr (.inr (by go_num)), HB5.out⟩
      case measure => simp [intOf] <;> omega
    · go_wp2_with fail
      refine (awake_is _).mono ?_
      rintro e W4 ⟨rfl, hb4⟩
      have HB4 := Lib.hid (HB.out.trans (hb4.mono HB.out.size))
      clear hb4
      go_wp2
      go_ret
      exact ⟨rfl, HB4.out⟩

end Go.Proofs.Ytlnpahajkhdpjaa.TableAll
