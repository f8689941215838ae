/- The document's Whole: expansions one behind the other, as one, where put has nothing to join. -/
import Derived.Test.YtfenlhbkdfmneaaQput
namespace Go.Proofs.Ytfenlhbkdfmneaa.Qwhole
open Go.RowKit Go.Proofs.Ytfenlhbkdfmneaa.Spl Go.Proofs.Ytfenlhbkdfmneaa.Nodm Go.Proofs.Ytfenlhbkdfmneaa.Qput
open Go.Proofs.Ytfenlhbkdfmneaa.Pure (bs)

/-- what stands in a row that put has made: no Cat, no text without bytes, no two texts side by side -/
structure Flat (l : List Nod) : Prop where
  cat : ∀ (i : Nat) (k : Nat) (s : T) (m : List Nod), l[i]? = some (.mk k s m) → k ≠ 5 ∧ (k = 1 → m = [] ∧ s ≠ [])
  two : ∀ (i : Nat) (s t : T) (m r : List Nod), l[i]? = some (.mk 1 s m) → l[i + 1]? ≠ some (.mk 1 t r)
theorem take_succ {α : Type} (l : List α) (i : Nat) (n : α) (h : l[i]? = some n) : l.take (i + 1) = l.take i ++ [n] := by
  rw [List.take_add_one, h]; rfl
theorem Row.own {S : Nat → Prop} {B : Nat} {w : World} {u : Value} {l : List Nod} (h : Row S B w u l) (b : Nat) (e : u.ownBlock = some b) : B ≤ b := by
  obtain ⟨vs, h1, _⟩ := h.row
  exact (h1.lt b e).1
theorem Row.slice {S : Nat → Prop} {B : Nat} {w : World} {u : Value} {l : List Nod} (h : Row S B w u l) (hS : ∀ b, B ≤ b → S b) : ∃ A c, u = .slice A l.length c ∧ NodesIn S w A c l := by
  have ho := Row.own h
  obtain ⟨vs, h1, h2, h3⟩ := h.row
  exact nodes_of_own h1 h2 rfl (fun g e => hS g (ho g e)) fun j x m hx hm => (h3 j x m hx hm).mono fun _ hb _ => hb.1

/-- the next of such a row, behind those ahead of it -/
theorem put_next (S : Nat → Prop) (B : Nat) (u : Value) (l : List Nod) (i k : Nat) (s : T) (m : List Nod) (A : Option Addr) (c : Nat) (w : World) (hB : B ≤ w.heap.size) (hF : Flat l) (h : Row S B w u (l.take i)) (hi : l[i]? = some (.mk k s m)) (hl : l.length ≤ 1000000) (hn : NodeIn (fun b => S b ∧ b < B) w (.agg #[.int .i64 (k : Int), .string (bs s), .slice A m.length c]) (.mk k s m)) :
    Calls Try.prog 32 #[u, .agg #[.int .i64 (k : Int), .string (bs s), .slice A m.length c]] w fun e W' => ∃ u', e = .returned u' ∧ Row S B W' u' (l.take (i + 1)) ∧ Below B w W' := by
  have hl' : (l.take i).length ≤ 1000000 := Nat.le_trans (by rw [List.length_take]; omega) hl
  have hn' : NodeIn (fun b => S b ∧ u.ownBlock ≠ some b) w (.agg #[.int .i64 (k : Int), .string (bs s), .slice A m.length c]) (.mk k s m) := hn.mono fun b hb _ => ⟨hb.1, fun e => by
    have := Row.own h b e
    omega⟩
  rw [take_succ l i _ hi]
  obtain ⟨h5, h1⟩ := hF.cat i k s m hi
  by_cases hk : k = 1
  · subst hk
    obtain ⟨rfl, hs⟩ := h1 rfl
    refine put_fresh S B u (l.take i) s A c w hB h hl' hs ?_
    intro t r e
    have hil := (List.getElem?_eq_some_iff.1 hi).1
    rw [← last_get, List.length_take, Nat.min_eq_left (by omega)] at e
    cases i with
    | zero => simp at e
    | succ q =>
      rw [Nat.add_sub_cancel, List.getElem?_take, if_pos (by omega)] at e
      exact hF.two q t s r [] e hi
  · exact put_other S B u (l.take i) k s m A c w hB h hl' hn' hk h5

/-- three cells put into the block H: all else stays -/
theorem three_far (wr W : World) (H : Nat) (x0 y0 z0 x y z : Value) (ty : TypeId) (hg : wr.heap[H]? = some (.cells #[x0, y0, z0] ty)) (hW : ((wr.setCell ⟨H, 0, none⟩ x).setCell ⟨H, 1, none⟩ y).setCell ⟨H, 2, none⟩ z = W) :
    W.heap[H]? = some (.cells #[x, y, z] ty) ∧ wr.heap.size ≤ W.heap.size ∧ (∀ b, b ≠ H → W.heap[b]? = wr.heap[b]?) ∧ Below H wr W := by
  have g1 := heap_setCell_same wr H 0 _ _ x hg
  have g2 := heap_setCell_same _ H 1 _ _ y g1
  have g3 := heap_setCell_same _ H 2 _ _ z g2
  have hfar : ∀ b, b ≠ H → W.heap[b]? = wr.heap[b]? := by
    rw [← hW]
    exact fun b hb => (heap_setCell_other _ ⟨H, 2, none⟩ b z (fun e => hb e)).trans ((heap_setCell_other _ ⟨H, 1, none⟩ b y (fun e => hb e)).trans (heap_setCell_other _ ⟨H, 0, none⟩ b x (fun e => hb e)))
  have hsz : wr.heap.size ≤ W.heap.size := by rw [← hW]; simp
  refine ⟨by rw [← hW]; exact g3, hsz, hfar, ?_⟩
  refine ⟨by rw [← hW]; rfl, by rw [← hW]; rfl, by rw [← hW]; rfl, hsz, fun b hb => hfar b (by omega)⟩
theorem cells_three {W : World} {H : Nat} {x y z : Value} {ty : TypeId} (h : W.heap[H]? = some (.cells #[x, y, z] ty)) : W.cell? ⟨H, 0, none⟩ = some x ∧ W.cell? ⟨H, 1, none⟩ = some y ∧ W.cell? ⟨H, 2, none⟩ = some z :=
  ⟨by rw [Lib.cell_of_heap h]; rfl, by rw [Lib.cell_of_heap h]; rfl, by rw [Lib.cell_of_heap h]; rfl⟩

set_option maxRecDepth 100000 in
set_option maxHeartbeats 4000000 in
theorem whole_is (S : Nat → Prop) (l : List Nod) (A : Option Addr) (c : Nat) (w : World) (hF : Flat l) (hl : l.length ≤ 1000000) (hS : ∀ b, w.heap.size ≤ b → S b) (h : NodesIn S w A c l) :
    Calls Try.prog 35 #[.slice A l.length c] w fun e W' => ∃ v, e = .returned v ∧ NodeIn S W' v (wholeP l) ∧ Below w.heap.size w W' := by
  have hc := h.1
  have HP := Lib.hid (fun (wr : World) (u : Value) (i k : Nat) (s : T) (m : List Nod) (A : Option Addr) (c : Nat) => put_next (fun b => S b ∧ b ≠ w.heap.size) (w.heap.size + 1) u l i k s m A c wr)
  have HN := Lib.hid h
  go_enter Try.func35, Try.ntmps35
  go_wp2_with fail
  go_loopw [3, 4] (fun u i wr => ∃ k, k ≤ l.length ∧ i = .int .i64 k ∧ Hid (Row (fun b => S b ∧ b ≠ w.heap.size) (w.heap.size + 1) wr u (l.take k)) ∧ Hid (Below (w.heap.size + 1) (w.alloc (.cells #[.int .i64 0, .string .empty, .slice none 0 0] 30)) wr)) (fun _ i _ => l.length - (intOf i).toNat)
  case atStart => exact ⟨0, Nat.zero_le _, rfl, by rw [List.take_zero]; exact Row.nil _ _ _, Below.refl _ _⟩
  case round =>
    obtain ⟨k, hk, rfl, HR, HB⟩ := hrel
    have hsz : w.heap.size + 1 ≤ wr.heap.size := by have := HB.out.size; rw [World.size_alloc] at this; omega
    by_cases hlt : k < l.length
    · obtain ⟨⟨kk, s, m⟩, hkk⟩ : ∃ n, l[k]? = some n := ⟨l[k]'hlt, List.getElem?_eq_getElem hlt⟩
      obtain ⟨b, o, A', c', hA, hb, hSb0, hin, hcell⟩ := HN.out.at_ hkk
      have hbw : wr.heap[b]? = w.heap[b]? := (HB.out.block b (by omega)).trans (((Below.refl _ w).alloc (Nat.le_refl _) _).block b hb)
      obtain ⟨c0, c1, c2⟩ := hcell wr hbw
      have HC := Lib.hid (HP.out wr _ k kk s m A' c' hsz hF HR.out hkk hl (((hin.move (S' := fun b => (S b ∧ b ≠ w.heap.size) ∧ b < w.heap.size + 1) (fun b hSb hlt => ⟨⟨⟨hSb, by omega⟩, by omega⟩, (HB.out.block b (by omega)).trans (((Below.refl _ w).alloc (Nat.le_refl _) _).block b hlt)⟩) (by omega)).node kk s)))
      clear hcell hbw hin hkk HP HN
      subst hA
      go_wp2_with (go_at_call 32; refine HC.out.mono ?_; rintro e W' ⟨u', rfl, hr, hb2⟩; have HR2 := Lib.hid hr; have HB2 := Lib.hid (HB.out.trans hb2); clear hr hb2)
      go_roundw
      case rel => exact ⟨k + 1, by omega, by go_num, HR2.out, HB2.out⟩
      case measure => simp [intOf]; omega
    · obtain rfl : k = l.length := by omega
      obtain ⟨A2, c2, rfl, hin⟩ := Row.slice HR.out (fun b hb => ⟨hS b (by omega), by omega⟩)
      rw [List.take_of_length_le (Nat.le_refl _)] at hin HR ⊢
      have hg0 : wr.heap[w.heap.size]? = some (.cells #[.int .i64 0, .string .empty, .slice none 0 0] 30) := (HB.out.block _ (by omega)).trans (heap_alloc_new w _)
      have e0 : wr.cell? ⟨w.heap.size, 0, none⟩ = some (.int .i64 0) := by rw [Lib.cell_of_heap hg0]; rfl
      have e1 : wr.cell? ⟨w.heap.size, 1, none⟩ = some (.string .empty) := by rw [Lib.cell_of_heap hg0]; rfl
      have e2 : wr.cell? ⟨w.heap.size, 2, none⟩ = some (.slice none 0 0) := by rw [Lib.cell_of_heap hg0]; rfl
      have f0 := frozen_of_row wr w.heap.size 0 _ _ hg0
      have f1 := frozen_of_row wr w.heap.size 1 _ _ hg0
      have f2 := frozen_of_row wr w.heap.size 2 _ _ hg0
      have HBw := Lib.hid (((Below.refl _ w).alloc (Nat.le_refl _) (.cells #[.int .i64 0, .string .empty, .slice none 0 0] 30)).trans (HB.out.mono (by omega)))
      clear HP
      by_cases h0 : l.length = 0
      · obtain rfl := List.eq_nil_of_length_eq_zero h0
        go_wp2_with fail
        obtain ⟨W, hW⟩ : ∃ W, ((wr.setCell ⟨w.heap.size, 0, none⟩ (.int .i64 1)).setCell ⟨w.heap.size, 1, none⟩ (.string ByteArray.empty)).setCell ⟨w.heap.size, 2, none⟩ (.slice none 0 0) = W := ⟨_, rfl⟩
        obtain ⟨z1, z2, z3, z4⟩ := three_far wr W _ _ _ _ _ _ _ _ hg0 hW
        obtain ⟨y0, y1, y2⟩ := cells_three z1
        rw [show (Value.string { data := #[] }) = Value.string ByteArray.empty from rfl, hW]
        refine bodyPost_ret (v := .agg #[.int .i64 1, .string ByteArray.empty, .slice none 0 0]) (by simp [results, Try.results35, go_sem, y0, y1, y2]) rfl ?_
        exact ⟨_, rfl, NodeIn.leaf S W 1 [] none 0, HBw.out.trans z4⟩
      · by_cases h1 : l.length = 1
        · obtain ⟨⟨kk, s, m⟩, rfl⟩ : ∃ n, l = [n] := List.length_eq_one_iff.1 h1
          obtain ⟨b, o, A', c', rfl, hb, hbS, hin1, hcell⟩ := hin.at_ (j := 0) rfl
          obtain ⟨d0, d1, d2⟩ := hcell wr rfl
          rw [Nat.zero_mul, Nat.add_zero] at d0 d1 d2
          have HI := Lib.hid hin1
          clear hin hcell h0 h1 HN HR h hin1
          go_wp2_with fail
          obtain ⟨W, hW⟩ : ∃ W, ((wr.setCell ⟨w.heap.size, 0, none⟩ (.int .i64 (kk : Int))).setCell ⟨w.heap.size, 1, none⟩ (.string (bs s))).setCell ⟨w.heap.size, 2, none⟩ (.slice A' m.length c') = W := ⟨_, rfl⟩
          obtain ⟨z1, z2, z3, z4⟩ := three_far wr W _ _ _ _ _ _ _ _ hg0 hW
          obtain ⟨y0, y1, y2⟩ := cells_three z1
          rw [hW]
          refine bodyPost_ret (v := .agg #[.int .i64 (kk : Int), .string (bs s), .slice A' m.length c']) (by simp [results, Try.results35, go_sem, y0, y1, y2]) rfl ?_
          exact ⟨_, rfl, ((HI.out.move (S' := S) (fun b hb _ => ⟨hb.1, z3 b hb.2⟩) z2).node kk s), HBw.out.trans z4⟩
        · have hb0 : (((l.length : Nat) : Int) == 0) = false := by rw [beq_eq_false_iff_ne]; omega
          have hb1 : (((l.length : Nat) : Int) == 1) = false := by rw [beq_eq_false_iff_ne]; omega
          have HW : Hid (wholeP l = .mk 5 [] l) := by
            show _ = _
            match l, h0, h1 with
            | [], h0, _ => exact absurd rfl h0
            | [n], _, h1 => exact absurd rfl h1
            | _ :: _ :: _, _, _ => rfl
          have HI := Lib.hid hin
          clear hin h0 h1 HN HR h
          go_wp2_with fail
          obtain ⟨W, hW⟩ : ∃ W, ((wr.setCell ⟨w.heap.size, 0, none⟩ (.int .i64 5)).setCell ⟨w.heap.size, 1, none⟩ (.string ByteArray.empty)).setCell ⟨w.heap.size, 2, none⟩ (.slice A2 l.length c2) = W := ⟨_, rfl⟩
          obtain ⟨z1, z2, z3, z4⟩ := three_far wr W _ _ _ _ _ _ _ _ hg0 hW
          obtain ⟨y0, y1, y2⟩ := cells_three z1
          first | rw [hW] | rw [show (Value.string { data := #[] }) = Value.string ByteArray.empty from rfl, hW]
          refine bodyPost_ret (v := .agg #[.int .i64 5, .string ByteArray.empty, .slice A2 l.length c2]) (by simp [results, Try.results35, go_sem, y0, y1, y2]) rfl ?_
          rw [HW.out]
          exact ⟨_, rfl, ((HI.out.move (S' := S) (fun b hb _ => ⟨hb.1, z3 b hb.2⟩) z2).node 5 []), HBw.out.trans z4⟩

end Go.Proofs.Ytfenlhbkdfmneaa.Qwhole
