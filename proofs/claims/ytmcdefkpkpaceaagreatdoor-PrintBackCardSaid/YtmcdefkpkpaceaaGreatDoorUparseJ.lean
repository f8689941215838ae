/- The program's Parse: for every text of at most 999,999 bytes what the plain Parse answers. -/
import Derived.Defers
import Derived.Recover
import Derived.Laws.Pointers
import Derived.Test.YtmcdefkpkpaceaaGreatDoorUreadJ
namespace Go.Proofs.YtmcdefkpkpaceaaGreatDoor.Uparse
open Go.RowKit Go.Proofs.YtmcdefkpkpaceaaGreatDoor.Spl Go.Proofs.YtmcdefkpkpaceaaGreatDoor.Nodm Go.Proofs.YtmcdefkpkpaceaaGreatDoor.Unod Go.Proofs.YtmcdefkpkpaceaaGreatDoor.Ucall Go.Proofs.YtmcdefkpkpaceaaGreatDoor.Uref Go.Proofs.YtmcdefkpkpaceaaGreatDoor.Uall Go.Proofs.YtmcdefkpkpaceaaGreatDoor.Ubrk Go.Proofs.YtmcdefkpkpaceaaGreatDoor.Uread
open Go.Proofs.YtmcdefkpkpaceaaGreatDoor.Pure (bs)

theorem reads : ∀ m, m ≤ 40 → ReadIs (40 - m) (parseP m) 999999
  | 0, _ => fun s w hs => read_step 40 (Nat.le_refl _) (fun _ _ => .bad .deep) (fun _ _ _ => rfl) (fun h => absurd h (Nat.lt_irrefl _)) s w hs
  | m + 1, hm => fun s w hs => read_step (40 - (m + 1)) (by omega) (refP (parseP m)) (fun h => by omega) (fun _ t o W ho ht => by
      have h := ref_is (40 - m) (parseP m) 999999 (reads m (by omega)) t o ho W ht ht
      rw [show (((40 - m : Nat)) : Int) = ((40 - (m + 1) : Nat) : Int) + 1 by omega] at h
      exact h) s w hs
theorem read_is (s : T) (w : World) (hs : s.length ≤ 999999) : Calls Tryz.prog 33 #[.string (bs s), .int .i64 0] w fun e W' => ReadOut w.heap.size W' e (parse s) ∧ Below w.heap.size w W' := reads 40 (Nat.le_refl _) s w hs

theorem run_assert (k : Int) (xT : TypeId) (w : World) : (Instr.typeAssert (.iface 26 (.int .i64 k)) xT 26 false).run Tryz.prog w = .ok (.int .i64 k) w := by
  simp [Instr.typeAssert, run_underlying Tryz.underlying26]

set_option maxRecDepth 100000 in
set_option maxHeartbeats 400000 in
theorem catch_panicking (b : Nat) (x k : Int) (older : List PanicEntry) (w : World) (hc : w.cell? ⟨b, 0, none⟩ = some (.int .i64 x)) (hz : w.frozen? ⟨b, 0, none⟩ = false) :
    CallsD Tryz.prog 32 #[.pointer (some ⟨b, 0, none⟩)] (.panicking ({ v := .iface 26 (.int .i64 k), recovered := false } :: older)) w fun e u' w' =>
      e = .returned (.tuple #[]) ∧ u' = .panicking ({ v := .iface 26 (.int .i64 k), recovered := true } :: older) ∧ w' = w.setCell ⟨b, 0, none⟩ (.int .i64 k) := by
  refine callsD_of_wpS Tryz.func32 rfl fun c₀ cs hu => ?_
  apply wpS_seq
  apply wpS_region
  simp [wpOpsS, go_sem, recoverD, hu, Tryz.ntmps32, Exit.thenS]
  apply wpS_seq
  apply wpS_region
  simp [wpOpsS, go_sem, Exit.thenS]
  refine wpS_cond (t := true) (by simp [Act.eval, Array.replicate]) ?_
  simp only [if_true]
  apply wpS_region
  simp [wpOpsS, go_sem, run_assert, hc, hz, bodyPostS, results, Tryz.results32]

theorem catch_idle (b : Nat) (w : World) :
    CallsD Tryz.prog 32 #[.pointer (some ⟨b, 0, none⟩)] .returning w fun e u' w' => e = .returned (.tuple #[]) ∧ u' = .returning ∧ w' = w := by
  refine callsD_of_wpS Tryz.func32 rfl fun c₀ cs hu => ?_
  apply wpS_seq
  apply wpS_region
  simp [wpOpsS, go_sem, recoverD, hu, Tryz.ntmps32, Exit.thenS]
  apply wpS_seq
  apply wpS_region
  simp [wpOpsS, go_sem, Exit.thenS]
  refine wpS_cond (t := false) (by simp [Act.eval, Array.replicate]) ?_
  simp only [Bool.false_eq_true, if_false]
  refine wpS_of_wp (wp_skip ?_)
  cases c₀
  simp_all [bodyPostS, results, Tryz.results32]


def ParseOut (H : Nat) (W : World) (e : Ending) : Rd Nod → Prop
  | .ok n => ∃ v, e = .returned (.tuple #[v, .int .i64 0]) ∧ NodeIn (SF H W) W v n
  | .bad x => e = .returned (.tuple #[.agg #[.int .i64 0, .string .empty, .slice none 0 0], .int .i64 (errN x : Int)])

set_option maxRecDepth 100000 in
set_option maxHeartbeats 1000000 in
theorem parse_is (s : T) (w : World) (hs : s.length ≤ 999999) :
    Calls Tryz.prog 15 #[.string (bs s)] w fun e W' => ParseOut w.heap.size W' e (parse s) ∧ Below w.heap.size w W' := by
  have hmf : ∀ (fn : Fn) (first cap : Array Value) (w : World), (Instr.makeFunc fn first cap).run Tryz.prog w = .ok (.func fn first cap) w := fun _ _ _ _ => rfl
  obtain ⟨w1, hw1⟩ : ∃ w1, w1 = (w.alloc (.cells #[.int .i64 0, .string ⟨#[]⟩, .slice none 0 0] 25)).alloc (.cells #[.int .i64 0] 26) := ⟨_, rfl⟩
  have hz1 : w1.heap.size = w.heap.size + 2 := by rw [hw1, World.size_alloc, World.size_alloc]
  have hb1 : Below w.heap.size w w1 := by rw [hw1]; exact ((Below.refl _ _).alloc (Nat.le_refl _) _).alloc (by rw [World.size_alloc]; omega) _
  have hx1 : w1.heap[w.heap.size]? = some (.cells #[.int .i64 0, .string .empty, .slice none 0 0] 25) := by
    rw [hw1, Lib.alloc_old _ _ _ (by rw [World.size_alloc]; omega)]
    exact heap_alloc_new w _
  have hy1 : w1.heap[w.heap.size + 1]? = some (.cells #[.int .i64 0] 26) := by
    rw [hw1]
    have := heap_alloc_new (w.alloc (.cells #[.int .i64 0, .string ⟨#[]⟩, .slice none 0 0] 25)) (.cells #[.int .i64 0] 26)
    rw [World.size_alloc] at this
    exact this
  have HC := Lib.hid (read_is s w1 hs)
  have HB1 := Lib.hid hb1
  have HX1 := Lib.hid hx1
  have HY1 := Lib.hid hy1
  have HW1 := Lib.hid hw1
  clear hw1 hb1 hx1 hy1
  generalize parse s = R at *
  cases R with
  | bad x =>
    unfold ReadOut errPan at HC
    go_enter_defers Tryz.func15, Tryz.ntmps15
    go_wp2_with (go_at_call 33; rw [← HW1.out]; refine HC.out.mono ?_; rintro e W2 ⟨rfl, hb2⟩; have HB2 := Lib.hid hb2; clear hb2)
    have hb2 := HB2.out
    have hx2 := (hb2.block _ (by omega)).trans HX1.out
    have hy2 := (hb2.block _ (by omega)).trans HY1.out
    have hz2 := hb2.size
    refine leaves_cons (f := 32) (args := #[.pointer (some ⟨w.heap.size + 1, 0, none⟩)]) (by simp) (by simp [go_sem]) ?_
    refine (catch_panicking (w.heap.size + 1) 0 (errN x) [] W2 (by rw [Lib.cell_of_heap hy2]; rfl) (Lib.frozen_of_heap hy2 0)).mono ?_
    rintro e u' w'' ⟨rfl, rfl, rfl⟩
    have hx3 : (W2.setCell ⟨w.heap.size + 1, 0, none⟩ (.int .i64 (errN x : Int))).heap[w.heap.size]? = some (.cells #[.int .i64 0, .string .empty, .slice none 0 0] 25) := (heap_setCell_other W2 ⟨w.heap.size + 1, 0, none⟩ w.heap.size _ (by show w.heap.size ≠ w.heap.size + 1; omega)).trans hx2
    have hy3 : (W2.setCell ⟨w.heap.size + 1, 0, none⟩ (.int .i64 (errN x : Int))).heap[w.heap.size + 1]? = some (.cells #[.int .i64 (errN x : Int)] 26) := heap_setCell_same W2 (w.heap.size + 1) 0 _ _ _ hy2
    obtain ⟨e0, e1, e2⟩ := cells_three hx3
    have e3 : (W2.setCell ⟨w.heap.size + 1, 0, none⟩ (.int .i64 (errN x : Int))).cell? ⟨w.heap.size + 1, 0, none⟩ = some (.int .i64 (errN x : Int)) := by rw [Lib.cell_of_heap hy3]; rfl
    have hbe : Below w.heap.size w (W2.setCell ⟨w.heap.size + 1, 0, none⟩ (.int .i64 (errN x : Int))) := (HB1.out.trans (hb2.mono (by omega))).setCell (p := ⟨_, _, none⟩) (Nat.le_succ _) _
    generalize W2.setCell ⟨w.heap.size + 1, 0, none⟩ (.int .i64 (errN x : Int)) = W3 at *
    refine ⟨.tuple #[.agg #[.int .i64 0, .string .empty, .slice none 0 0], .int .i64 (errN x : Int)], ?_, rfl, hbe⟩
    simp [results, Tryz.results15, go_sem, e0, e1, e2, e3]
  | ok n =>
    obtain ⟨mk, ms, ml⟩ := n
    unfold ReadOut at HC
    go_enter_defers Tryz.func15, Tryz.ntmps15
    go_wp2_with (go_at_call 33; rw [← HW1.out]; refine HC.out.mono ?_; rintro e W2 ⟨⟨v, rfl, hv⟩, hb2⟩; obtain ⟨A2, c2, rfl, hns⟩ := hv.inv; have hx2 := (hb2.block _ (by omega)).trans HX1.out; have hy2 := (hb2.block _ (by omega)).trans HY1.out; obtain ⟨e0, e1, e2⟩ := cells_three hx2; have f0 := frozen_of_row W2 w.heap.size 0 _ _ hx2; have f1 := frozen_of_row W2 w.heap.size 1 _ _ hx2; have f2 := frozen_of_row W2 w.heap.size 2 _ _ hx2; have e3 : W2.cell? ⟨w.heap.size + 1, 0, none⟩ = some (.int .i64 0) := (by rw [Lib.cell_of_heap hy2]; rfl); have f3 := frozen_of_row W2 (w.heap.size + 1) 0 _ _ hy2; have HX2 := Lib.hid hx2; have HY2 := Lib.hid hy2; have HB2 := Lib.hid hb2; have HN2 := Lib.hid hns; clear hv hb2 hns hx2 hy2)
    obtain ⟨W3, hW3⟩ : ∃ W3, ((W2.setCell ⟨w.heap.size, 0, none⟩ (.int .i64 (mk : Int))).setCell ⟨w.heap.size, 1, none⟩ (.string (bs ms))).setCell ⟨w.heap.size, 2, none⟩ (.slice A2 ml.length c2) = W3 := ⟨_, rfl⟩
    obtain ⟨z1, z2, z3, z4⟩ := three_far W2 W3 _ _ _ _ _ _ _ _ HX2.out hW3
    rw [hW3]
    have hy3 : W3.heap[w.heap.size + 1]? = some (.cells #[.int .i64 0] 26) := (z3 _ (by omega)).trans HY2.out
    have hx4 : (W3.setCell ⟨w.heap.size + 1, 0, none⟩ (.int .i64 0)).heap[w.heap.size]? = _ := (heap_setCell_other W3 ⟨w.heap.size + 1, 0, none⟩ w.heap.size _ (by show w.heap.size ≠ w.heap.size + 1; omega)).trans z1
    have hy4 : (W3.setCell ⟨w.heap.size + 1, 0, none⟩ (.int .i64 0)).heap[w.heap.size + 1]? = some (.cells #[.int .i64 0] 26) := heap_setCell_same W3 (w.heap.size + 1) 0 _ _ _ hy3
    have hbe : Below w.heap.size w (W3.setCell ⟨w.heap.size + 1, 0, none⟩ (.int .i64 0)) := ((HB1.out.trans (HB2.out.mono (by omega))).trans z4).setCell (p := ⟨_, _, none⟩) (Nat.le_succ _) _
    have hfar : ∀ k, k ≠ w.heap.size → k ≠ w.heap.size + 1 → (W3.setCell ⟨w.heap.size + 1, 0, none⟩ (.int .i64 0)).heap[k]? = W2.heap[k]? := fun k h1 h2 => (heap_setCell_other W3 ⟨w.heap.size + 1, 0, none⟩ k _ h2).trans (z3 k h1)
    have hsz4 : W2.heap.size ≤ (W3.setCell ⟨w.heap.size + 1, 0, none⟩ (.int .i64 0)).heap.size := by simpa using z2
    generalize W3.setCell ⟨w.heap.size + 1, 0, none⟩ (.int .i64 0) = W4 at *
    obtain ⟨y0, y1, y2⟩ := cells_three hx4
    have y3 : W4.cell? ⟨w.heap.size + 1, 0, none⟩ = some (.int .i64 0) := by rw [Lib.cell_of_heap hy4]; rfl
    refine leaves_cons (f := 32) (args := #[.pointer (some ⟨w.heap.size + 1, 0, none⟩)]) (by simp) (by simp [go_sem]) ?_
    refine (catch_idle (w.heap.size + 1) W4).mono ?_
    rintro e u' w'' ⟨rfl, rfl, rfl⟩
    refine ⟨.tuple #[.agg #[.int .i64 (mk : Int), .string (bs ms), .slice A2 ml.length c2], .int .i64 0], ?_, ⟨_, rfl, ?_⟩, hbe⟩
    · simp [results, Tryz.results15, go_sem, y0, y1, y2, y3]
    · exact (HN2.out.move (S' := SF w.heap.size w'') (fun b hb _ => by
        have hb1 := hb.1
        exact ⟨⟨by omega, hb.2.of (hfar b (by omega) (by omega))⟩, hfar b (by omega) (by omega)⟩) hsz4).node mk ms

end Go.Proofs.YtmcdefkpkpaceaaGreatDoor.Uparse
