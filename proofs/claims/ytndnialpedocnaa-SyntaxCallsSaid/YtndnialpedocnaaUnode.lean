/- The program's row: all that was read, as one. -/
import Derived.Test.YtndnialpedocnaaUset
namespace Go.Proofs.Ytndnialpedocnaa.Unode
open Go.RowKit Go.Proofs.Ytndnialpedocnaa.Spl Go.Proofs.Ytndnialpedocnaa.Nodm Go.Proofs.Ytndnialpedocnaa.Unod Go.Proofs.Ytndnialpedocnaa.Uref Go.Proofs.Ytndnialpedocnaa.Urow Go.Proofs.Ytndnialpedocnaa.Ubld Go.Proofs.Ytndnialpedocnaa.Uall Go.Proofs.Ytndnialpedocnaa.Uput Go.Proofs.Ytndnialpedocnaa.Uset
open Go.Proofs.Ytndnialpedocnaa.Pure (bs)

set_option maxRecDepth 100000 in
set_option maxHeartbeats 1000000 in
theorem node_is (B b H : Nat) (u : Value) (acc : List Nod) (cur : T) (w : World) (h : RowAt (fun _ => True) B b H u acc cur w) (hl : acc.length ≤ 1000000) :
    Calls Try.prog 16 #[.pointer (some ⟨b, 0, none⟩)] w fun e W' => (∃ v, e = .returned v ∧ NodeIn (SF B W') W' v (wholeP (flushP acc cur))) ∧ Below B w W' := by
  have hBb := h.at_
  have hHz := h.hz
  have hbH := h.lt
  have hnn := h.not_new
  obtain ⟨w1, hw1⟩ : ∃ w1, w1 = w.alloc (.cells #[.int .i64 0, .string ⟨#[]⟩, .slice none 0 0] 25) := ⟨_, rfl⟩
  have hb1 : Below w.heap.size w w1 := by rw [hw1]; exact (Below.refl _ _).alloc (Nat.le_refl _) _
  have hx1 : w1.heap[w.heap.size]? = some (.cells #[.int .i64 0, .string .empty, .slice none 0 0] 25) := by rw [hw1]; exact heap_alloc_new w _
  have hz1 : w1.heap.size = w.heap.size + 1 := by rw [hw1, World.size_alloc]
  have HC := Lib.hid (settle_is _ B b H u acc cur w1 (hnn.on hb1) hl)
  unfold Settled at HC
  obtain ⟨l, hfl⟩ : ∃ l, flushP acc cur = l := ⟨_, rfl⟩
  rw [hfl] at HC ⊢
  clear hfl
  have HB1 := Lib.hid hb1
  have HX1 := Lib.hid hx1
  have HW1 := Lib.hid hw1
  clear hnn h hw1 hb1 hx1
  go_enter Try.func16, Try.ntmps16
  go_upto_region 2 with (go_at_call 20; rw [← HW1.out]; refine HC.out.mono ?_; rintro e w2 ⟨rfl, u2, hr2, hb2, hs2, ho2⟩; have HR2 := Lib.hid hr2; have HB2 := Lib.hid hb2; have HS2 := Lib.hid hs2; have HO2 := Lib.hid ho2; clear hr2 hb2 hs2 ho2)
  obtain ⟨p, v, vs, hg, hp, hu, hvl, hvn, hv, hvH⟩ := HR2.out.st
  have hx2 : w2.heap[w.heap.size]? = some (.cells #[.int .i64 0, .string .empty, .slice none 0 0] 25) := (HS2.out _ (by omega) (by omega)).trans HX1.out
  have hS : ∀ g, u2.ownBlock = some g → (fun g => SF B w2 g ∧ g ≠ w.heap.size) g := fun g e => by
    refine ⟨⟨(hu.lt g e).1, ?_⟩, fun e2 => ?_⟩
    · rcases hu.2 with ⟨h1, _⟩ | ⟨g', cap, cr, h1, _, h3, _⟩
      · rw [h1] at e; cases e
      · rw [h1] at e
        rw [← own_at e]
        exact ⟨_, _, h3⟩
    · rcases HO2.out g e with h | h <;> omega
  obtain ⟨A2, c2, hu2, hin⟩ := nodes_of_own (S := fun g => SF B w2 g ∧ g ≠ w.heap.size) hu hvl rfl hS fun j x m hx hm => (hvn j x m hx hm).mono fun g hg _ => ⟨hg.1.1, hg.1.2.2⟩
  subst hu2
  have HBw := Lib.hid ((HB1.out.mono (show B ≤ w.heap.size by omega)).trans HB2.out)
  obtain ⟨cb0, _, _⟩ := cells_at hg
  obtain ⟨x0, x1, x2⟩ := cells_at hx2
  have f0 := frozen_of_row w2 w.heap.size 0 _ _ hx2
  have f1 := frozen_of_row w2 w.heap.size 1 _ _ hx2
  have f2 := frozen_of_row w2 w.heap.size 2 _ _ hx2
  have HX2 := Lib.hid hx2
  have hmov : Hid (∀ W : World, (∀ k, k ≠ w.heap.size → W.heap[k]? = w2.heap[k]?) → ∀ k, (fun g => SF B w2 g ∧ g ≠ w.heap.size) k → k < w2.heap.size → SF B W k ∧ W.heap[k]? = w2.heap[k]?) := fun W hW k hk _ => ⟨hk.1.of (hW k hk.2), hW k hk.2⟩
  clear hS hp hu hvl hvn hv hvH hg hx2 HB1 HB2 HS2 HO2 HR2 HW1 HX1 HC
  by_cases h0 : l.length = 0
  · obtain rfl := List.eq_nil_of_length_eq_zero h0
    go_wp2_with fail
    obtain ⟨W, hW⟩ : ∃ W, ((w2.setCell ⟨w.heap.size, 0, none⟩ (.int .i64 1)).setCell ⟨w.heap.size, 1, none⟩ (.string ByteArray.empty)).setCell ⟨w.heap.size, 2, none⟩ (.slice none 0 0) = W := ⟨_, rfl⟩
    obtain ⟨z1, z2, z3, z4⟩ := three_far w2 W _ _ _ _ _ _ _ _ HX2.out hW
    obtain ⟨y0, y1, y2⟩ := cells_three z1
    first | rw [hW] | rw [show (Value.string { data := #[] }) = Value.string ByteArray.empty from rfl, hW]
    refine bodyPost_ret (v := .agg #[.int .i64 1, .string ByteArray.empty, .slice none 0 0]) (by simp [results, Try.results16, go_sem, y0, y1, y2]) rfl ?_
    exact ⟨⟨_, rfl, NodeIn.leaf _ W 1 [] none 0⟩, HBw.out.trans (z4.mono (by omega))⟩
  · by_cases h1 : l.length = 1
    · obtain ⟨⟨kk, s, m⟩, rfl⟩ : ∃ n, l = [n] := List.length_eq_one_iff.1 h1
      obtain ⟨gb, go, A', c', rfl, hgb, hgS, hin1, hcell⟩ := hin.at_ (j := 0) rfl
      obtain ⟨d0, d1, d2⟩ := hcell w2 rfl
      rw [Nat.zero_mul, Nat.add_zero] at d0 d1 d2
      have HI := Lib.hid hin1
      clear hin hcell h0 h1 hin1 hgS
      go_wp2_with fail
      obtain ⟨W, hW⟩ : ∃ W, ((w2.setCell ⟨w.heap.size, 0, none⟩ (.int .i64 (kk : Int))).setCell ⟨w.heap.size, 1, none⟩ (.string (bs s))).setCell ⟨w.heap.size, 2, none⟩ (.slice A' m.length c') = W := ⟨_, rfl⟩
      obtain ⟨z1, z2, z3, z4⟩ := three_far w2 W _ _ _ _ _ _ _ _ HX2.out hW
      obtain ⟨y0, y1, y2⟩ := cells_three z1
      rw [hW]
      refine bodyPost_ret (v := .agg #[.int .i64 (kk : Int), .string (bs s), .slice A' m.length c']) (by simp [results, Try.results16, go_sem, y0, y1, y2]) rfl ?_
      exact ⟨⟨_, rfl, ((HI.out.move (S' := SF B W) (hmov.out W z3) z2).node kk s)⟩, HBw.out.trans (z4.mono (by omega))⟩
    · have hb0 : (((l.length : Nat) : Int) == 0) = false := by rw [beq_eq_false_iff_ne]; omega
      have hb1 : (((l.length : Nat) : Int) == 1) = false := by rw [beq_eq_false_iff_ne]; omega
      have HW : Hid (wholeP l = .mk 5 [] l) := by
        show _ = _
        match l, h0, h1 with
        | [], h0, _ => exact absurd rfl h0
        | [n], _, h1 => exact absurd rfl h1
        | _ :: _ :: _, _, _ => rfl
      have HI := Lib.hid hin
      clear hin h0 h1
      go_wp2_with fail
      obtain ⟨W, hW⟩ : ∃ W, ((w2.setCell ⟨w.heap.size, 0, none⟩ (.int .i64 5)).setCell ⟨w.heap.size, 1, none⟩ (.string ByteArray.empty)).setCell ⟨w.heap.size, 2, none⟩ (.slice A2 l.length c2) = W := ⟨_, rfl⟩
      obtain ⟨z1, z2, z3, z4⟩ := three_far w2 W _ _ _ _ _ _ _ _ HX2.out hW
      obtain ⟨y0, y1, y2⟩ := cells_three z1
      first | rw [hW] | rw [show (Value.string { data := #[] }) = Value.string ByteArray.empty from rfl, hW]
      refine bodyPost_ret (v := .agg #[.int .i64 5, .string ByteArray.empty, .slice A2 l.length c2]) (by simp [results, Try.results16, go_sem, y0, y1, y2]) rfl ?_
      rw [HW.out]
      exact ⟨⟨_, rfl, ((HI.out.move (S' := SF B W) (hmov.out W z3) z2).node 5 [])⟩, HBw.out.trans (z4.mono (by omega))⟩

end Go.Proofs.Ytndnialpedocnaa.Unode
