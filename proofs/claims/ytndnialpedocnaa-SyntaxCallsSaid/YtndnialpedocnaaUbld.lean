/- The program's row: a dollar written; how many bytes wait, as a text, none of them any more. -/
import Derived.Deep.RegionLaw
import Derived.Test.YtndnialpedocnaaUrow
namespace Go.Proofs.Ytndnialpedocnaa.Ubld
open Go.RowKit Go.Proofs.Ytndnialpedocnaa.Spl Go.Proofs.Ytndnialpedocnaa.Nodm Go.Proofs.Ytndnialpedocnaa.Unod Go.Proofs.Ytndnialpedocnaa.Urow
open Go.Proofs.Ytndnialpedocnaa.Pure (bs)

set_option maxRecDepth 100000 in
set_option maxHeartbeats 1000000 in
/-- a dollar is written -/
theorem write_byte (X : Nat → Prop) (B b H : Nat) (u : Value) (acc : List Nod) (cur : T) (w : World) (h : RowAt X B b H u acc cur w) (hlen : cur.length ≤ 100000000) :
    Calls Try.prog 21 #[.pointer (some ⟨b, 1, none⟩), .int .u8 36] w fun e W' => e = .returned .nilIface ∧ RowAt X B b W'.heap.size u acc (cur ++ [36]) W' ∧ Below B w W' := by
  obtain ⟨i0, hi, hz0, hz1, hz2⟩ := info_parts infoByte
  have hBb := h.at_
  have hHz := h.hz
  have huH := Lib.hid h.uH
  obtain ⟨p, v, vs, hg, hp, hu, hl, hn, hv, _⟩ := h.st
  have HC := Lib.hid (check_is b u p v w hg hp)
  have HU := Lib.hid hu
  have HL := Lib.hid hl
  have HNd := Lib.hid hn
  have hblt := heap_lt hg
  have hvb := own_ne hv hg (by decide)
  have hvt : ∀ (g : Nat) (cs : Array Value) (fr : Nat × Nat), w.heap[g]? = some (.cells cs 25 fr) → v.ownBlock ≠ some g ∧ g ≠ b ∧ g < w.heap.size := fun g cs fr hh => ⟨own_ne hv hh (by decide), fun e => by
    rw [e, hg] at hh
    simp only [Option.some.injEq, Obj.cells.injEq] at hh
    exact absurd hh.2.1 (by decide), heap_lt hh⟩
  have HV := Lib.hid hvt
  have hbl : (Lib.byteCells cur).length = cur.length := Lib.byteCells_length cur
  clear hl hn hu hg hp h hvt
  go_enter Try.func21, Try.ntmps21
  go_wp2_with fail
  refine HC.out.mono ?_
  rintro e w1 ⟨rfl, hg1, hf1⟩
  have hs1 := hf1.size
  have hv1 : w1.ownsRow B 5 1 v cur.length (Lib.byteCells cur) := by
    refine ⟨hv.1, ?_⟩
    rcases hv.2 with hn | ⟨g, cap, cu, rfl, hb, hg, rest⟩
    · exact .inl hn
    · exact .inr ⟨g, cap, cu, rfl, hb, (hf1.block g (heap_lt hg) (fun e => hvb (by rw [e]; rfl))).trans hg, rest⟩
  obtain ⟨c0, c1, c2⟩ := cells_at hg1
  go_wp2_with (at_builtin; refine wpList_append_own _ rfl _ _ 41 rfl B 5 i0 (.int .u8 0) 1 1 Try.underlying41 hi hz0 hz1 hz2 rfl (by decide) _ _ _ rfl (hv1.alloc _) ⟨w1.heap.size, 0, none⟩ 1 1 [.int .u8 36] rfl rfl (cell_one_new _ _ _) (by simp [Value.oneCell']) (by unfold maxLen; omega) (by omega) (by simp; omega) ?_)
  intro v' w2 hown' hgrow _
  have hb2 : w2.heap[b]? = some (.cells #[u, .pointer (some ⟨b, 1, none⟩), v] 45) := (hgrow.block b (by have := heap_lt hg1; simp; omega) (fun e => hvb e.symm)).trans ((Lib.alloc_old w1 _ b (heap_lt hg1)).trans hg1)
  obtain ⟨d0, d1, d2⟩ := cells_at hb2
  have f2 : w2.frozen? ⟨b, 2, none⟩ = false := Lib.frozen_of_heap hb2 2
  have hvb2 := own_ne hown' hb2 (by decide)
  have HO := Lib.hid hown'
  have HG2 := Lib.hid hgrow
  have HB2 := Lib.hid hb2
  have HF1 := Lib.hid hf1
  obtain ⟨ao, n', cap, rfl⟩ : ∃ ao n' cap, v' = .slice ao n' cap := by
    rcases hown'.2 with ⟨hv, _⟩ | ⟨g, cap, cur, hv, _⟩
    · exact ⟨_, _, _, hv⟩
    · exact ⟨_, _, _, hv⟩
  clear hown' hgrow hb2 hf1
  go_wp2
  go_ret
  have hall : ∀ (g : Nat) (cs : Array Value) (fr : Nat × Nat), w.heap[g]? = some (.cells cs 25 fr) → (w2.setCell ⟨b, 2, none⟩ (.slice ao n' cap)).heap[g]? = w.heap[g]? := fun g cs fr h => by
    obtain ⟨h1, h2, h3⟩ := HV.out g cs fr h
    rw [heap_setCell_other w2 ⟨b, 2, none⟩ g _ h2, HG2.out.block g (by simp; omega) (fun e => h1 e.symm), Lib.alloc_old w1 _ g (by omega)]
    exact HF1.out.block g h3 h2
  have hzz : w.heap.size ≤ (w2.setCell ⟨b, 2, none⟩ (.slice ao n' cap)).heap.size := by have := HG2.out.size; simp at this ⊢; omega
  refine ⟨rfl, ⟨hBb, by omega, Nat.le_refl _, fun k e => by have := huH.out k e; omega, _, .slice ao n' cap, vs, heap_setCell_same w2 b 2 _ _ _ HB2.out, .inr rfl, own_same HU.out hall, HL.out, nodes_same HNd.out hall hzz, ?_, fun k e => by have := (HO.out.lt k e).2; simp; omega⟩, ?_⟩
  · have e1 : Lib.byteCells (cur ++ [36]) = Lib.byteCells cur ++ [.int .u8 36] := Lib.byteCells_append _ _
    rw [e1, List.length_append]
    exact ownsRow_setCell_other HO.out hvb2 _
  · exact (((HF1.out.below hBb (by omega)).alloc (by omega) _).grown HG2.out (by simp; omega) (fun k hk => (hv1.lt k hk).1)).setCell (p := ⟨b, 2, none⟩) hBb _

set_option maxRecDepth 100000 in
set_option maxHeartbeats 400000 in
/-- how many bytes wait -/
theorem len_is (b : Nat) (x p : Value) (A : Option Addr) (n c : Nat) (w : World) (hg : w.heap[b]? = some (.cells #[x, p, .slice A n c] 45)) :
    Calls Try.prog 27 #[.pointer (some ⟨b, 1, none⟩)] w fun e W' => e = .returned (.int .i64 n) ∧ W' = w := by
  obtain ⟨c0, c1, c2⟩ := cells_at hg
  go_enter Try.func27, Try.ntmps27
  go_wp2
  go_ret
  exact ⟨rfl, rfl⟩

theorem freeze_other (w : World) (g n k : Nat) (h : k ≠ g) : (w.freeze ⟨g, 0, none⟩ n).heap[k]? = w.heap[k]? := by
  unfold World.freeze
  split
  · rfl
  · simp only [Array.getElem?_modify]
    rw [if_neg (fun e => h e.symm)]

set_option maxRecDepth 100000 in
set_option maxHeartbeats 400000 in
/-- the bytes that wait, as a text: they are frozen where they lie -/
theorem text_is (B b g cap : Nat) (x p : Value) (cur : T) (w : World) (hg : w.heap[b]? = some (.cells #[x, p, .slice (some ⟨g, 0, none⟩) cur.length cap] 45)) (hv : w.ownsRow B 5 1 (.slice (some ⟨g, 0, none⟩) cur.length cap) cur.length (Lib.byteCells cur)) (h0 : cur ≠ []) :
    Calls Try.prog 28 #[.pointer (some ⟨b, 1, none⟩)] w fun e W' => e = .returned (.string (bs cur)) ∧ Far g w W' := by
  have hl0 : cur.length ≠ 0 := by simpa using h0
  obtain ⟨cu, hbg, hgg, hnc, hcm, hcs⟩ : ∃ cu, B ≤ g ∧ w.heap[g]? = some (.cells cu 5 (0, 0)) ∧ cur.length ≤ cap ∧ cap ≤ maxLen ∧ cu.size = cap * 1 := by
    rcases hv.2 with ⟨h1, _⟩ | ⟨g', cap', cu, h1, h2, h3, h4, h5, h6, _⟩
    · cases h1
    · simp only [Value.slice.injEq, Option.some.injEq, Addr.mk.injEq, and_true, true_and] at h1
      obtain ⟨rfl, rfl⟩ := h1
      exact ⟨cu, h2, h3, h4, h5, h6⟩
  have c2 : w.drew.cell? ⟨b, 2, none⟩ = some (.slice (some ⟨g, 0, none⟩) cur.length cap) := by
    have : w.drew.heap[b]? = some (.cells #[x, p, .slice (some ⟨g, 0, none⟩) cur.length cap] 45) := hg
    exact (cells_at this).2.2
  have hSD : (Builtin.unsafeSliceData_ #[41] 69 #[.slice (some ⟨g, 0, none⟩) cur.length cap]).run Try.prog w.drew = .ok (.pointer (some ⟨g, 0, none⟩)) w.drew :=
    Lib.run_unsafeSliceData_row _ _ _ _ _ _ (by omega)
  have hUS : (Builtin.unsafeString_ #[69, 3] 9 #[.pointer (some ⟨g, 0, none⟩), .int .i64 cur.length]).run Try.prog w.drew = .ok (.string (bs cur)) (w.drew.freeze ⟨g, 0, none⟩ cur.length) := by
    refine Lib.run_unsafeString_row w.drew 69 3 9 5 Try.underlying69 (by kernel_rfl) g cu.size (by have hg' : w.drew.heap[g]? = some (.cells cu 5 (0, 0)) := hgg; simp [World.shape?, hg']) cur h0 (by omega) (by unfold maxLen at hcm; omega) ?_
    intro j y hy
    exact hv.cells (g := g) rfl j (.int .u8 y.toNat) (by simp [Lib.byteCells, hy])
  have HF : Hid (Far g w (w.drew.freeze ⟨g, 0, none⟩ cur.length)) := by
    have hb : Below g w (w.drew.freeze ⟨g, 0, none⟩ cur.length) := Lib.below_freeze (Below.drew (Below.refl g w)) (p := ⟨g, 0, none⟩) (Nat.le_refl _) _
    exact ⟨hb.os, hb.tape, hb.output, hb.size, fun k _ hk => freeze_other w.drew g cur.length k hk⟩
  clear hv hg hgg
  go_enter Try.func28, Try.ntmps28
  go_wp2
  go_region
  all_goals (go_wp2; go_ret; exact ⟨rfl, HF.out⟩)

set_option maxRecDepth 100000 in
set_option maxHeartbeats 400000 in
/-- none of them any more -/
theorem reset_is (b : Nat) (x p v : Value) (w : World) (hg : w.heap[b]? = some (.cells #[x, p, v] 45)) :
    Calls Try.prog 29 #[.pointer (some ⟨b, 1, none⟩)] w fun e W' => e = .returned (.tuple #[]) ∧ W'.heap[b]? = some (.cells #[x, .pointer none, .slice none 0 0] 45) ∧ Far b w W' := by
  obtain ⟨c0, c1, c2⟩ := cells_at hg
  have f1 : w.frozen? ⟨b, 1, none⟩ = false := Lib.frozen_of_heap hg 1
  have f2 : w.frozen? ⟨b, 2, none⟩ = false := Lib.frozen_of_heap hg 2
  have g1 := heap_setCell_same w b 1 _ _ (.pointer none) hg
  have HG := Lib.hid (heap_setCell_same _ b 2 _ _ (.slice none 0 0) g1)
  clear hg g1
  go_enter Try.func29, Try.ntmps29
  go_wp2
  go_end0
  exact ⟨rfl, HG.out, (Far.set _ _ _ _).trans (Far.set _ _ _ _)⟩

end Go.Proofs.Ytndnialpedocnaa.Ubld
