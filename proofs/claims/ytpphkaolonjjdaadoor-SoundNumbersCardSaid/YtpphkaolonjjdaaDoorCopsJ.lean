/- The document's Ops: how many instructions a code in memory has. -/
import Derived.WalkKit
import Derived.WalkSpells
import Derived.IntWalk
import Derived.Lib.Hide
import Derived.StillTailTactics
import Derived.Deep.DeepCutAuto
import Derived.Test.YtpphkaolonjjdaaDoorProg
import Derived.Test.YtpphkaolonjjdaaDoorCplJ
namespace Go.Proofs.YtpphkaolonjjdaaDoor.Cops
open Go.RowKit Go.Proofs.YtpphkaolonjjdaaDoor.Spl Go.Proofs.YtpphkaolonjjdaaDoor.Cpl Go.Proofs.YtpphkaolonjjdaaDoor.Cin
open Go.Proofs.YtpphkaolonjjdaaDoor.Pure (bs)

theorem one_cell {w : World} {b : Nat} {x : Value} {t : TypeId} (h : w.heap[b]? = some (.cells #[x] t)) : w.cell? ⟨b, 0, none⟩ = some x := (Lib.cell_of_heap h 0).trans rfl
theorem ops_take (B : List (List Opp)) {j : Nat} {l : List Opp} (h : B[j]? = some l) : opsP (B.take (j + 1)) = opsP (B.take j) + l.length := by
  rw [List.take_add_one, h, ops_app]; rfl
theorem ops_take_le : ∀ (B : List (List Opp)) (j : Nat), opsP (B.take j) ≤ opsP B
  | [], j => by rw [List.take_nil]; exact Nat.le_refl _
  | x :: r, 0 => by rw [List.take_zero]; exact Nat.zero_le _
  | x :: r, j + 1 => by
    have := ops_take_le r j
    rw [List.take_succ_cons, opsP, opsP]; omega

set_option maxRecDepth 100000 in
set_option maxHeartbeats 2000000 in
/-- the document's Ops -/
theorem refOps_is (B : List (List Opp)) (S : Nat → Prop) (v : Value) (w : World) (h : CodeIn S w v B) (hn : opsP B ≤ 1000000000000000) (hl : B.length ≤ 1000000000000000) :
    Calls Tryd.prog 21 #[v] w fun e W' => e = .returned (.int .i64 (opsP B : Nat)) ∧ Below w.heap.size w W' := by
  obtain ⟨A, c, rfl, hc, hr⟩ := h
  obtain ⟨q, hq⟩ : ∃ q, q = B.length := ⟨_, rfl⟩
  rw [← hq] at hc hl ⊢
  obtain ⟨w1, hw1⟩ : ∃ w1, w.alloc (.cells #[.slice A q c] 24) = w1 := ⟨_, rfl⟩
  have hx1 : w1.heap[w.heap.size]? = some (.cells #[.slice A q c] 24) := by rw [← hw1]; exact heap_alloc_new w _
  have hb1 : Below w.heap.size w w1 := by rw [← hw1]; exact (Below.refl _ _).alloc (Nat.le_refl _) _
  have hz1 : w1.heap.size = w.heap.size + 1 := by rw [← hw1, World.size_alloc]
  have HW1 := Lib.hid hw1
  have HX1 := Lib.hid hx1
  have HB1 := Lib.hid hb1
  have HR := Lib.hid hr
  have HQ := Lib.hid hq
  have a0 := one_cell hx1
  clear hw1 hx1 hb1 hr hq
  go_enter Tryd.func21, Tryd.ntmps21
  go_upto_region 1 with fail
  rw [HW1.out]
  go_wp2_with fail
  go_loopw [3, 4] (fun n i wr => ∃ j : Nat, j ≤ q ∧ i = .int .i64 (j : Int) ∧ n = .int .i64 ((opsP (B.take j) : Nat) : Int) ∧ Hid (Below w1.heap.size w1 wr)) (fun _ i _ => q - (intOf i).toNat)
  case atStart => exact ⟨0, Nat.zero_le _, rfl, rfl, Below.refl _ _⟩
  case round =>
    obtain ⟨j, hj, rfl, rfl, HB⟩ := hrel
    have hx0 := (HB.out.block w.heap.size (by omega)).trans HX1.out
    have d0 := one_cell hx0
    have HBw := Lib.hid (HB1.out.trans (HB.out.mono (by omega)))
    clear a0 hx0
    by_cases hlt : j < q
    · obtain ⟨l, h1⟩ : ∃ l, B[j]? = some l := ⟨B[j]'(by rw [← HQ.out]; exact hlt), List.getElem?_eq_getElem _⟩
      obtain ⟨b, o, rfl, hb, hk⟩ := (HR.out.on HBw.out).get h1
      obtain ⟨A1, c1, hc1, _, e1⟩ := hk
      have hsum := ops_take B h1
      have hle := ops_take_le B (j + 1)
      have hjq : (j : Int) < (q : Int) := by omega
      obtain ⟨n0, hn0⟩ : ∃ n0, n0 = opsP (B.take j) := ⟨_, rfl⟩
      have hw0 : IntKind.i64.wrap ((n0 : Int) + (l.length : Int)) = ((n0 + l.length : Nat) : Int) := IntWalk.i64_in _ (by omega)
      rw [← hn0]
      go_wp2_with fail
      go_roundw
      case rel => exact ⟨j + 1, by omega, by go_num, by rw [hsum, ← hn0]; exact congrArg (Value.int .i64) (by omega), HB⟩
      case measure => simp [intOf]; omega
    · obtain rfl : j = q := by omega
      rw [List.take_of_length_le (Nat.le_of_eq HQ.out.symm)]
      go_wp2_with fail
      go_ret
      exact ⟨rfl, HBw.out⟩

end Go.Proofs.YtpphkaolonjjdaaDoor.Cops
