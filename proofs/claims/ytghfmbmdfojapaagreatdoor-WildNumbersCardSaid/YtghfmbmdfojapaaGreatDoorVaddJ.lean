/- The program's add: one thing laid into a directory. -/
import Derived.Test.YtghfmbmdfojapaaGreatDoorVmapJ
import Derived.Deep.QuietTactic
import Derived.BigQuiet
import Derived.BigRegion
namespace Go.Proofs.YtghfmbmdfojapaaGreatDoor.Vadd
open Go.RowKit Go.Maps Go.Proofs.YtghfmbmdfojapaaGreatDoor.Pth Go.Proofs.YtghfmbmdfojapaaGreatDoor.Pabs Go.Proofs.YtghfmbmdfojapaaGreatDoor.Strs Go.Proofs.YtghfmbmdfojapaaGreatDoor.Vfs Go.Proofs.YtghfmbmdfojapaaGreatDoor.Vmap Go.Proofs.YtghfmbmdfojapaaGreatDoor.Vnames

/-- how many directories, at the operation -/
theorem wpList_len_fs {w : World} {ops : Array Oper} {rest : List Oper} {o : Oper} {a : Act} {Q : Exit → Act → World → Prop} {fa : Addr} {B : Nat} {bl : List Nat} {ds : List Wy} {L : List Ent}
    (hg : o.guard = none) (m : Operand) (hop : o.op = Op.call { callee := Callee.builtin Builtin.len, args := #[m], argTypes := #[44] })
    (hm : a.eval m = .map (some B)) (h : FsIs w fa B bl ds L) (hK : wpList Tryz.prog ops Q rest (a.put o.dst (.int .i64 (bl.length : Int))) w) :
    wpList Tryz.prog ops Q (o :: rest) a w := by
  obtain ⟨D, n, ho, _, hs, _⟩ := h.outer
  refine wpList_len_own w hg m 44 hop 3 43 Tryz.underlying44 mapElem B n D hm ho ?_
  rw [hs]; exact hK

abbrev zNode : Obj := .cells #[.string ⟨#[]⟩, .bool false, .string ⟨#[]⟩, .int .i64 0] 65

theorem three_below (w : World) (o1 o2 o3 : Obj) : Below w.heap.size w (((w.alloc o1).alloc o2).alloc o3) :=
  (((Below.refl _ _).alloc (Nat.le_refl _) _).alloc (by simp) _).alloc (by simp; omega) _

set_option maxRecDepth 100000 in
set_option maxHeartbeats 4000000 in
theorem add_file (w : World) (fa : Addr) (B b j base : Nat) (x p t : ByteArray) (bl : List Nat) (ds : List Wy) (L : List Ent) (q : Wy) (e : Ent)
    (h : FsIs w fa B bl ds L) (hnd : ds.Nodup) (hq : ds[j]? = some q) (hb : bl[j]? = some b) (hm : bl.length ≤ 1000000000) (hx : x.size ≤ maxLen) (he : e.pt = q ++ [x.data.toList]) (hn : at_ L e.pt = none) (hL : L.length < maxLen) (hd : e.dir = false) (hp : pathB e.pt = p) (ht : e.text = t)
    (hbase : base ≤ w.heap.size) (hbb : base ≤ b) :
    Calls Tryz.prog 37 #[.pointer (some fa), .int .i64 ((j : Int) + 1), .string x, .agg #[.string p, .bool false, .string t]] w fun r W' => r = .returned (.agg #[.string p, .bool false, .string t, .int .i64 0]) ∧ FsIs W' fa B bl ds (L ++ [e]) ∧ Below base w W' ∧ ∀ k, k < w.heap.size → k ≠ b → W'.heap[k]? = w.heap[k]? := by
  obtain ⟨W0, hW0⟩ : ∃ W0, W0 = (((w.alloc (.cells #[.string p, .bool false, .string t] 33)).alloc zNode).alloc (.cells #[.string p, .bool false, .string t, .int .i64 0] 65)).drew := ⟨_, rfl⟩
  have hb0 : Below w.heap.size w W0 := by rw [hW0]; exact (three_below w _ _ _).drew
  have h0 : FsIs W0 fa B bl ds L := h.below hb0
  have hV : nodeV ds e = .agg #[.string p, .bool false, .string t, .int .i64 0] := by simp [nodeV, numE, hd, hp, ht]
  have c0 := h0.cell
  have l0 := h0.look_dir hb (by omega)
  obtain ⟨W1, hu, h1, hg⟩ := h0.put_name hnd hq hb hx he hn hL
  rw [hV] at hu
  have hbl := h.lt_inner (List.mem_of_getElem? hb)
  have e2 : W0.heap[w.heap.size + 2]? = some (.cells #[.string p, .bool false, .string t, .int .i64 0] 65 (0, 0)) := by
    rw [hW0]
    have := heap_alloc_new ((w.alloc (.cells #[.string p, .bool false, .string t] 33)).alloc zNode) (.cells #[.string p, .bool false, .string t, .int .i64 0] 65)
    rw [World.size_alloc, World.size_alloc] at this
    exact this
  have e1 : W0.heap[w.heap.size + 1]? = some (.cells #[.string ⟨#[]⟩, .bool false, .string ⟨#[]⟩, .int .i64 0] 65 (0, 0)) := by
    rw [hW0]
    have := heap_alloc_new (w.alloc (.cells #[.string p, .bool false, .string t] 33)) zNode
    rw [World.size_alloc] at this
    exact (Lib.alloc_old _ _ _ (by simp)).trans this
  have hs0 : W0.heap.size = w.heap.size + 3 := by rw [hW0]; simp [World.drew]
  have g2 := (hg.block (w.heap.size + 2) (by omega) (fun e3 => by have := Option.some.inj e3; omega)).trans e2
  have g1 := (hg.block (w.heap.size + 1) (by omega) (fun e3 => by have := Option.some.inj e3; omega)).trans e1
  have d0 : W1.cell? ⟨w.heap.size + 2, 0, none⟩ = some (.string p) := by rw [Lib.cell_of_heap g2]; rfl
  have d1 : W1.cell? ⟨w.heap.size + 2, 1, none⟩ = some (.bool false) := by rw [Lib.cell_of_heap g2]; rfl
  have d2 : W1.cell? ⟨w.heap.size + 2, 2, none⟩ = some (.string t) := by rw [Lib.cell_of_heap g2]; rfl
  have d3 : W1.cell? ⟨w.heap.size + 2, 3, none⟩ = some (.int .i64 0) := by rw [Lib.cell_of_heap g2]; rfl
  have k0 : W1.cell? ⟨w.heap.size + 1, 0, none⟩ = some (.string ⟨#[]⟩) := by rw [Lib.cell_of_heap g1]; rfl
  have k1 : W1.cell? ⟨w.heap.size + 1, 1, none⟩ = some (.bool false) := by rw [Lib.cell_of_heap g1]; rfl
  have k2 : W1.cell? ⟨w.heap.size + 1, 2, none⟩ = some (.string ⟨#[]⟩) := by rw [Lib.cell_of_heap g1]; rfl
  have k3 : W1.cell? ⟨w.heap.size + 1, 3, none⟩ = some (.int .i64 0) := by rw [Lib.cell_of_heap g1]; rfl
  have f0 : W1.frozen? ⟨w.heap.size + 1, 0, none⟩ = false := Lib.frozen_of_heap g1 0
  have f1 : W1.frozen? ⟨w.heap.size + 1, 1, none⟩ = false := Lib.frozen_of_heap g1 1
  have f2 : W1.frozen? ⟨w.heap.size + 1, 2, none⟩ = false := Lib.frozen_of_heap g1 2
  have f3 : W1.frozen? ⟨w.heap.size + 1, 3, none⟩ = false := Lib.frozen_of_heap g1 3
  have HB : Hid (Below base w W1) := (hb0.mono hbase).grown hg (by omega) (fun k e3 => by rw [← Option.some.inj e3]; exact hbb)
  have HF : Hid (FsIs W1 fa B bl ds (L ++ [e])) := h1
  have HK : Hid (∀ k, k < w.heap.size → k ≠ b → W1.heap[k]? = w.heap[k]?) := fun k hk hkb => (hg.block k (by omega) (fun e3 => hkb (Option.some.inj e3))).trans (hb0.block k hk)
  have HN : Hid (w.heap.size + 1 ≠ fa.block ∧ w.heap.size + 1 ≠ B ∧ ∀ b ∈ bl, w.heap.size + 1 ≠ b) := ⟨by have := h.lt; omega, by have := h.lt_outer; omega, fun b hb => by have := h.lt_inner hb; omega⟩
  clear h hq hb he hn hL hd hp ht h0 h1 hg e1 e2 g1 g2 hV hbb hb0 hnd hs0
  rw [hW0] at c0 l0 hu
  clear hW0
  go_enter Tryz.func37, Tryz.ntmps37
  go_wp2
  go_region
  go_wp2
  exact bodyPost_ret (v := .agg #[.string p, .bool false, .string t, .int .i64 0]) (by simp [results, Tryz.results37, go_sem, k0, k1, k2, k3]) rfl
    ⟨rfl, (((HF.out.setCell _ _ HN.out.1 HN.out.2.1 HN.out.2.2).setCell _ _ HN.out.1 HN.out.2.1 HN.out.2.2).setCell _ _ HN.out.1 HN.out.2.1 HN.out.2.2).setCell _ _ HN.out.1 HN.out.2.1 HN.out.2.2,
     (((HB.out.setCell (p := ⟨_, _, none⟩) (by show base ≤ w.heap.size + 1; omega) _).setCell (p := ⟨_, _, none⟩) (by show base ≤ w.heap.size + 1; omega) _).setCell (p := ⟨_, _, none⟩) (by show base ≤ w.heap.size + 1; omega) _).setCell (p := ⟨_, _, none⟩) (by show base ≤ w.heap.size + 1; omega) _,
     fun k hk hkb => by rw [setCell_heap _ _ _ _ (by show k ≠ w.heap.size + 1; omega), setCell_heap _ _ _ _ (by show k ≠ w.heap.size + 1; omega), setCell_heap _ _ _ _ (by show k ≠ w.heap.size + 1; omega), setCell_heap _ _ _ _ (by show k ≠ w.heap.size + 1; omega)]; exact HK.out k hk hkb⟩

set_option maxRecDepth 100000 in
set_option maxHeartbeats 8000000 in
theorem add_dir (w : World) (fa : Addr) (B b j n base : Nat) (x p t : ByteArray) (bl : List Nat) (ds : List Wy) (L : List Ent) (q : Wy) (e : Ent)
    (h : FsIs w fa B bl ds L) (hnd : (ds ++ [e.pt]).Nodup) (hq : ds[j]? = some q) (hb : bl[j]? = some b) (hm : bl.length ≤ 1000000000) (hx : x.size ≤ maxLen) (he : e.pt = q ++ [x.data.toList]) (hn : at_ L e.pt = none) (hL : L.length < maxLen) (hd : e.dir = true) (hp : pathB e.pt = p) (ht : e.text = t)
    (hno : ∀ y, at_ L (e.pt ++ [y]) = none) (hds : ∀ e ∈ L, e.dir = true → e.pt ∈ ds) (hlen : bl.length = n)
    (hbase : base ≤ w.heap.size) (hbb : base ≤ b) (hbB : base ≤ B) :
    Calls Tryz.prog 37 #[.pointer (some fa), .int .i64 ((j : Int) + 1), .string x, .agg #[.string p, .bool true, .string t]] w fun r W' => r = .returned (.agg #[.string p, .bool true, .string t, .int .i64 ((n : Int) + 1)]) ∧ FsIs W' fa B (bl ++ [w.heap.size + 3]) (ds ++ [e.pt]) (L ++ [e]) ∧ Below base w W' ∧ ∀ k, k < w.heap.size → k ≠ b → k ≠ B → W'.heap[k]? = w.heap[k]? := by
  obtain ⟨W0, hW0⟩ : ∃ W0, W0 = ((w.alloc (.cells #[.string p, .bool true, .string t] 33)).alloc zNode).alloc (.cells #[.string p, .bool true, .string t, .int .i64 0] 65) := ⟨_, rfl⟩
  obtain ⟨W1, hW1⟩ : ∃ W1, W1 = ((((w.alloc (.cells #[.string p, .bool true, .string t] 33)).alloc zNode).alloc (.cells #[.string p, .bool true, .string t, .int .i64 ((n : Int) + 1)] 65)).alloc (.map #[] 0)).drew := ⟨_, rfl⟩
  have hb0 : Below w.heap.size w W0 := by rw [hW0]; exact three_below w _ _ _
  have hb1 : Below w.heap.size w W1 := by rw [hW1]; exact ((three_below w _ _ _).alloc (by simp; omega) _).drew
  have h0 : FsIs W0 fa B bl ds L := h.below hb0
  have h1 : FsIs W1 fa B bl ds L := h.below hb1
  have hs1 : W1.heap.size = w.heap.size + 4 := by rw [hW1]; simp [World.drew]
  have hnew : ∃ m, W1.ownsMap Tryz.prog 9 nodeElem (w.heap.size + 3) m (.map []) ∧ m = 0 := by
    rw [hW1]
    have := World.ownsMap_made (((w.alloc (.cells #[.string p, .bool true, .string t] 33)).alloc zNode).alloc (.cells #[.string p, .bool true, .string t, .int .i64 ((n : Int) + 1)] 65)) Tryz.prog 9 nodeElem
    have hs : (((w.alloc (.cells #[.string p, .bool true, .string t] 33)).alloc zNode).alloc (.cells #[.string p, .bool true, .string t, .int .i64 ((n : Int) + 1)] 65)).heap.size = w.heap.size + 3 := by simp
    rw [hs] at this
    exact ⟨0, this.drew, rfl⟩
  have hfr : w.heap.size + 3 ∉ B :: bl := fun hmem => by
    rcases List.mem_cons.1 hmem with h2 | h2
    · have := h.lt_outer; omega
    · have := h.lt_inner h2; omega
  obtain ⟨W2, hu2, h2, hg2⟩ := h1.new_dir hnew hfr hno hds (by omega)
  rw [hlen] at hu2
  have hbl := h.lt_inner (List.mem_of_getElem? hb)
  have hjl := (List.getElem?_eq_some_iff.1 hb).1
  have hjd := (List.getElem?_eq_some_iff.1 hq).1
  obtain ⟨W3, hW3⟩ : ∃ W3, W3 = W2.drew := ⟨_, rfl⟩
  have h3 : FsIs W3 fa B (bl ++ [w.heap.size + 3]) (ds ++ [e.pt]) L := h2.of_heap (by rw [hW3]; rfl)
  have hb3 : (bl ++ [w.heap.size + 3])[j]? = some b := by rw [List.getElem?_append_left hjl]; exact hb
  obtain ⟨W4, hu4, h4, hg4⟩ := h3.put_name hnd (by rw [List.getElem?_append_left hjd]; exact hq) hb3 hx he hn hL
  have hV : nodeV (ds ++ [e.pt]) e = .agg #[.string p, .bool true, .string t, .int .i64 ((n : Int) + 1)] := by
    have hni : e.pt ∉ ds := fun hmem => by
      rw [List.nodup_append] at hnd
      exact hnd.2.2 _ hmem _ List.mem_cons_self rfl
    have : numE (ds ++ [e.pt]) e = n + 1 := by unfold numE; rw [hd, if_pos rfl, num_last hni, ← h.len, hlen]
    simp [nodeV, this, hd, hp, ht]
  rw [hV] at hu4
  have c0 := h0.cell
  have c1 := (h.below (W := (((w.alloc (.cells #[.string p, .bool true, .string t] 33)).alloc zNode).alloc (.cells #[.string p, .bool true, .string t, .int .i64 ((n : Int) + 1)] 65)).drew) ((three_below w _ _ _).drew)).cell
  have c1' := h1.cell
  have c3 := h3.cell
  have l3 := h3.look_dir hb3 (by simp; omega)
  have e2 : W1.heap[w.heap.size + 2]? = some (.cells #[.string p, .bool true, .string t, .int .i64 ((n : Int) + 1)] 65 (0, 0)) := by
    rw [hW1]
    have := heap_alloc_new ((w.alloc (.cells #[.string p, .bool true, .string t] 33)).alloc zNode) (.cells #[.string p, .bool true, .string t, .int .i64 ((n : Int) + 1)] 65)
    rw [World.size_alloc, World.size_alloc] at this
    exact (Lib.alloc_old _ _ _ (by simp)).trans this
  have e1 : W1.heap[w.heap.size + 1]? = some (.cells #[.string ⟨#[]⟩, .bool false, .string ⟨#[]⟩, .int .i64 0] 65 (0, 0)) := by
    rw [hW1]
    have := heap_alloc_new (w.alloc (.cells #[.string p, .bool true, .string t] 33)) zNode
    rw [World.size_alloc] at this
    exact (Lib.alloc_old _ _ _ (by simp)).trans ((Lib.alloc_old _ _ _ (by simp)).trans this)
  have hBw := h.lt_outer
  have s2 := hg2.size
  have k2 := (hg2.block (w.heap.size + 2) (by omega) (fun e3 => by have := Option.some.inj e3; omega)).trans e2
  have k1 := (hg2.block (w.heap.size + 1) (by omega) (fun e3 => by have := Option.some.inj e3; omega)).trans e1
  have m2 : W3.heap[w.heap.size + 2]? = some (.cells #[.string p, .bool true, .string t, .int .i64 ((n : Int) + 1)] 65 (0, 0)) := by rw [hW3]; exact k2
  have m1 : W3.heap[w.heap.size + 1]? = some (.cells #[.string ⟨#[]⟩, .bool false, .string ⟨#[]⟩, .int .i64 0] 65 (0, 0)) := by rw [hW3]; exact k1
  have s3 : W3.heap.size = W2.heap.size := by rw [hW3]; rfl
  have g2 := (hg4.block (w.heap.size + 2) (by omega) (fun e3 => by have := Option.some.inj e3; omega)).trans m2
  have g1 := (hg4.block (w.heap.size + 1) (by omega) (fun e3 => by have := Option.some.inj e3; omega)).trans m1
  have n0 : W3.cell? ⟨w.heap.size + 2, 0, none⟩ = some (.string p) := by rw [Lib.cell_of_heap m2]; rfl
  have n1 : W3.cell? ⟨w.heap.size + 2, 1, none⟩ = some (.bool true) := by rw [Lib.cell_of_heap m2]; rfl
  have n2 : W3.cell? ⟨w.heap.size + 2, 2, none⟩ = some (.string t) := by rw [Lib.cell_of_heap m2]; rfl
  have n3 : W3.cell? ⟨w.heap.size + 2, 3, none⟩ = some (.int .i64 ((n : Int) + 1)) := by rw [Lib.cell_of_heap m2]; rfl
  have d0 : W4.cell? ⟨w.heap.size + 2, 0, none⟩ = some (.string p) := by rw [Lib.cell_of_heap g2]; rfl
  have d1 : W4.cell? ⟨w.heap.size + 2, 1, none⟩ = some (.bool true) := by rw [Lib.cell_of_heap g2]; rfl
  have d2 : W4.cell? ⟨w.heap.size + 2, 2, none⟩ = some (.string t) := by rw [Lib.cell_of_heap g2]; rfl
  have d3 : W4.cell? ⟨w.heap.size + 2, 3, none⟩ = some (.int .i64 ((n : Int) + 1)) := by rw [Lib.cell_of_heap g2]; rfl
  have k0 : W4.cell? ⟨w.heap.size + 1, 0, none⟩ = some (.string ⟨#[]⟩) := by rw [Lib.cell_of_heap g1]; rfl
  have k1 : W4.cell? ⟨w.heap.size + 1, 1, none⟩ = some (.bool false) := by rw [Lib.cell_of_heap g1]; rfl
  have k2 : W4.cell? ⟨w.heap.size + 1, 2, none⟩ = some (.string ⟨#[]⟩) := by rw [Lib.cell_of_heap g1]; rfl
  have k3 : W4.cell? ⟨w.heap.size + 1, 3, none⟩ = some (.int .i64 0) := by rw [Lib.cell_of_heap g1]; rfl
  have f0 : W4.frozen? ⟨w.heap.size + 1, 0, none⟩ = false := Lib.frozen_of_heap g1 0
  have f1 : W4.frozen? ⟨w.heap.size + 1, 1, none⟩ = false := Lib.frozen_of_heap g1 1
  have f2 : W4.frozen? ⟨w.heap.size + 1, 2, none⟩ = false := Lib.frozen_of_heap g1 2
  have f3 : W4.frozen? ⟨w.heap.size + 1, 3, none⟩ = false := Lib.frozen_of_heap g1 3
  have HB : Hid (Below base w W4) := by
    have hB2 : Below base w W2 := (hb1.mono hbase).grown hg2 (by omega) (fun k e3 => by rw [← Option.some.inj e3]; exact hbB)
    have hB3 : Below base w W3 := by rw [hW3]; exact hB2.drew
    exact hB3.grown hg4 (by omega) (fun k e3 => by rw [← Option.some.inj e3]; exact hbb)
  have HF : Hid (FsIs W4 fa B (bl ++ [w.heap.size + 3]) (ds ++ [e.pt]) (L ++ [e])) := h4
  have HK : Hid (∀ k, k < w.heap.size → k ≠ b → k ≠ B → W4.heap[k]? = w.heap[k]?) := fun k hk hkb hkB => by
    have e5 : W3.heap[k]? = W2.heap[k]? := by rw [hW3]; rfl
    exact (hg4.block k (by omega) (fun e3 => hkb (Option.some.inj e3))).trans (e5.trans ((hg2.block k (by omega) (fun e3 => hkB (Option.some.inj e3))).trans (hb1.block k hk)))
  have HN : Hid (w.heap.size + 1 ≠ fa.block ∧ w.heap.size + 1 ≠ B ∧ ∀ b ∈ bl ++ [w.heap.size + 3], w.heap.size + 1 ≠ b) := ⟨by have := h.lt; omega, by omega, fun b' hb' => by
    rcases List.mem_append.1 hb' with h5 | h5
    · have := h.lt_inner h5; omega
    · rw [List.mem_singleton.1 h5]; omega⟩
  have HL := Lib.hid h0
  have hmm := @run_makeMap Tryz.prog
  have q1 : IntKind.i64.wrap (1 + (n : Int)) = (n : Int) + 1 := by rw [show (1 + (n : Int)) = (n : Int) + 1 by omega]; exact IntWalk.i64_in _ (by omega)
  clear h hq hb he hn hL hd hp ht h0 h1 h2 h3 h4 hg2 hg4 e1 e2 g1 g2 hV hbb hbB hb0 hb1 hb3 hnd hno hds hnew hfr m1 m2 s2 s3 hs1 hm
  rw [hW0] at c0 HL
  rw [hW1] at c1' hu2
  rw [show w.heap.size + 3 = w.heap.size + 1 + 1 + 1 from rfl] at hu2
  rw [hW3] at c3 l3 hu4 n0 n1 n2 n3
  clear hW0 hW1 hW3
  go_enter Tryz.func37, Tryz.ntmps37
  go_wp2_with (at_len; refine wpList_len_fs rfl _ rfl rfl HL.out ?_; rw [hlen])
  go_region
  go_wp2
  go_region
  go_wp2
  exact bodyPost_ret (v := .agg #[.string p, .bool true, .string t, .int .i64 ((n : Int) + 1)]) (by simp [results, Tryz.results37, go_sem, k0, k1, k2, k3]) rfl
    ⟨rfl, (((HF.out.setCell _ _ HN.out.1 HN.out.2.1 HN.out.2.2).setCell _ _ HN.out.1 HN.out.2.1 HN.out.2.2).setCell _ _ HN.out.1 HN.out.2.1 HN.out.2.2).setCell _ _ HN.out.1 HN.out.2.1 HN.out.2.2,
     (((HB.out.setCell (p := ⟨_, _, none⟩) (by show base ≤ w.heap.size + 1; omega) _).setCell (p := ⟨_, _, none⟩) (by show base ≤ w.heap.size + 1; omega) _).setCell (p := ⟨_, _, none⟩) (by show base ≤ w.heap.size + 1; omega) _).setCell (p := ⟨_, _, none⟩) (by show base ≤ w.heap.size + 1; omega) _,
     fun k hk hkb hkB => by rw [setCell_heap _ _ _ _ (by show k ≠ w.heap.size + 1; omega), setCell_heap _ _ _ _ (by show k ≠ w.heap.size + 1; omega), setCell_heap _ _ _ _ (by show k ≠ w.heap.size + 1; omega), setCell_heap _ _ _ _ (by show k ≠ w.heap.size + 1; omega)]; exact HK.out k hk hkb hkB⟩

theorem add_is (w : World) (fa : Addr) (B base : Nat) (x p t : ByteArray) (bl : List Nat) (L : List Ent) (q : Wy) (e : Ent) (d : Int)
    (h : FsIs w fa B bl (dl L) L) (hi : Inv L) (hd : IsDir L q) (hnum : d = (num (dl L) q : Nat)) (he : e.pt = q ++ [x.data.toList]) (hn : at_ L e.pt = none) (hx : x.size ≤ 3000000) (hL : L.length ≤ 900000000) (hp : pathB e.pt = p) (ht : e.text = t)
    (hbase : base ≤ w.heap.size) (hbB : base ≤ B) (hbb : ∀ b ∈ bl, base ≤ b) :
    Calls Tryz.prog 37 #[.pointer (some fa), .int .i64 d, .string x, .agg #[.string p, .bool e.dir, .string t]] w fun r W' => r = .returned (nodeV (dl (L ++ [e])) e) ∧ ∃ bl', FsIs W' fa B bl' (dl (L ++ [e])) (L ++ [e]) ∧ (∀ b ∈ bl', base ≤ b ∧ (b ∈ bl ∨ w.heap.size ≤ b)) ∧ Below base w W' ∧ ∀ k, k < w.heap.size → k ≠ B → k ∉ bl → W'.heap[k]? = w.heap[k]? := by
  obtain ⟨j, hj1, hj2, hj3⟩ := num_at (hi.isDir.2 hd)
  have hjb : j < bl.length := by rw [h.len]; exact hj2
  have hb : bl[j]? = some bl[j] := List.getElem?_eq_getElem hjb
  have hbm : bl[j] ∈ bl := List.getElem_mem hjb
  have hml : (maxLen : Nat) = 9223372036854775807 := by unfold maxLen; rfl
  have hlen : bl.length ≤ 1000000000 := by rw [h.len]; have := dl_len L; omega
  obtain rfl : d = (j : Int) + 1 := by rw [hnum, hj1]; omega
  cases hdir : e.dir with
  | false =>
    refine (add_file w fa B bl[j] j base x p t bl (dl L) L q e h hi.dl_nodup hj3 hb hlen (by omega) he hn (by omega) hdir hp ht hbase (hbb _ hbm)).mono ?_
    rintro r W' ⟨rfl, hF, hB, hK⟩
    rw [dl_file hdir]
    refine ⟨?_, bl, hF, fun b hb' => ⟨hbb b hb', .inl hb'⟩, hB, fun k hk _ hk2 => hK k hk (fun e1 => hk2 (e1 ▸ hbm))⟩
    simp [nodeV, numE, hdir, hp, ht]
  | true =>
    have hni : e.pt ∉ dl L := fun hm => by
      rcases mem_dl.1 hm with h0 | ⟨a, ha, _, hap⟩
      · rw [he] at h0; simp at h0
      · exact at_none.1 hn a ha hap
    have hnd : (dl L ++ [e.pt]).Nodup := by
      rw [List.nodup_append]
      exact ⟨hi.dl_nodup, by simp, fun a ha c hc e1 => hni (by rw [← List.mem_singleton.1 hc, ← e1]; exact ha)⟩
    have hno : ∀ y, at_ L (e.pt ++ [y]) = none := fun y => by
      cases hc : at_ L (e.pt ++ [y]) with
      | none => rfl
      | some a =>
        obtain ⟨a', ha', _⟩ := hi.pre hc (by rw [he]; simp) (by simp)
        rw [hn] at ha'; cases ha'
    refine (add_dir w fa B bl[j] j bl.length base x p t bl (dl L) L q e h hnd hj3 hb hlen (by omega) he hn (by omega) hdir hp ht hno (fun a ha had => mem_dl.2 (.inr ⟨a, ha, had, rfl⟩)) rfl hbase (hbb _ hbm) hbB).mono ?_
    rintro r W' ⟨rfl, hF, hB, hK⟩
    rw [dl_dir hdir]
    refine ⟨?_, bl ++ [w.heap.size + 3], hF, fun b hb' => ?_, hB, fun k hk hkB hk2 => hK k hk (fun e1 => hk2 (e1 ▸ hbm)) hkB⟩
    · have : numE (dl L ++ [e.pt]) e = bl.length + 1 := by unfold numE; rw [hdir, if_pos rfl, num_last hni, ← h.len]
      simp [nodeV, this, hdir, hp, ht]
    · rcases List.mem_append.1 hb' with h5 | h5
      · exact ⟨hbb b h5, .inl h5⟩
      · rw [List.mem_singleton.1 h5]; exact ⟨by omega, .inr (by omega)⟩

end Go.Proofs.YtghfmbmdfojapaaGreatDoor.Vadd

/- The program's put. -/
namespace Go.Proofs.YtghfmbmdfojapaaGreatDoor.Vput
open Go.RowKit Go.Maps Go.Proofs.YtghfmbmdfojapaaGreatDoor.Pth Go.Proofs.YtghfmbmdfojapaaGreatDoor.Pabs Go.Proofs.YtghfmbmdfojapaaGreatDoor.Strs Go.Proofs.YtghfmbmdfojapaaGreatDoor.Vfs Go.Proofs.YtghfmbmdfojapaaGreatDoor.Vmap Go.Proofs.YtghfmbmdfojapaaGreatDoor.Vnames Go.Proofs.YtghfmbmdfojapaaGreatDoor.Vadd

/-- while the parts are gone through: w0 at the call, w1 at the loop's start -/
structure Under (w0 w1 : World) (fa : Addr) (B base : Nat) (bl : List Nat) (wr : World) (blk : List Nat) (L : List Ent) : Prop where
  fs : FsIs wr fa B blk (dl L) L
  inv : Inv L
  below : Below base w0 wr
  keep : ∀ k, k < w1.heap.size → k ≠ B → k ∉ bl → wr.heap[k]? = w1.heap[k]?
  blk : ∀ b ∈ blk, base ≤ b ∧ (b ∈ bl ∨ w1.heap.size ≤ b)
  size : w1.heap.size ≤ wr.heap.size
theorem Under.later {w0 w1 wr W : World} {fa : Addr} {B base : Nat} {bl blk : List Nat} {L : List Ent} (h : Under w0 w1 fa B base bl wr blk L) (hbase : base ≤ wr.heap.size) (hb : Below wr.heap.size wr W) : Under w0 w1 fa B base bl W blk L :=
  ⟨h.fs.below hb, h.inv, h.below.trans (hb.mono hbase), fun k hk h1 h2 => (hb.block k (Nat.lt_of_lt_of_le hk h.size)).trans (h.keep k hk h1 h2), h.blk, Nat.le_trans h.size hb.size⟩

theorem zNode_cells {W : World} {g : Nat} (h : W.heap[g]? = some (.cells #[.string ⟨#[]⟩, .bool false, .string ⟨#[]⟩, .int .i64 0] 65 (0, 0))) :
    W.cell? ⟨g, 0, none⟩ = some (.string ⟨#[]⟩) ∧ W.cell? ⟨g, 1, none⟩ = some (.bool false) ∧ W.cell? ⟨g, 2, none⟩ = some (.string ⟨#[]⟩) ∧ W.cell? ⟨g, 3, none⟩ = some (.int .i64 0) ∧ W.frozen? ⟨g, 0, none⟩ = false ∧ W.frozen? ⟨g, 1, none⟩ = false ∧ W.frozen? ⟨g, 2, none⟩ = false ∧ W.frozen? ⟨g, 3, none⟩ = false :=
  ⟨by rw [Lib.cell_of_heap h]; rfl, by rw [Lib.cell_of_heap h]; rfl, by rw [Lib.cell_of_heap h]; rfl, by rw [Lib.cell_of_heap h]; rfl, Lib.frozen_of_heap h 0, Lib.frozen_of_heap h 1, Lib.frozen_of_heap h 2, Lib.frozen_of_heap h 3⟩

theorem Under.stored {w0 w1 wr : World} {fa : Addr} {B base : Nat} {bl blk : List Nat} {L : List Ent} (h : Under w0 w1 fa B base bl wr blk L) (a : Addr) (v : Value) (h0 : w1.heap.size ≤ a.block) (hb : base ≤ a.block) (h1 : a.block ≠ fa.block) (h2 : a.block ≠ B) (h3 : a.block ∉ blk) : Under w0 w1 fa B base bl (wr.setCell a v) blk L :=
  ⟨h.fs.setCell a v h1 h2 (fun b hb2 e => h3 (e ▸ hb2)), h.inv, h.below.setCell hb v, fun k hk k1 k2 => by rw [setCell_heap _ _ _ _ (by omega)]; exact h.keep k hk k1 k2, h.blk, by simpa using h.size⟩

/-- the next thing laid: what add leaves -/
theorem Under.added {w0 w1 wr : World} {fa : Addr} {B base : Nat} {bl blk : List Nat} {L : List Ent} (h : Under w0 w1 fa B base bl wr blk L) (x p t : ByteArray) (q : Wy) (e : Ent) (d : Int)
    (hd : IsDir L q) (hnum : d = (num (dl L) q : Nat)) (he : e.pt = q ++ [x.data.toList]) (hn : at_ L e.pt = none) (hx : x.size ≤ 3000000) (hL : L.length ≤ 900000000) (hp : pathB e.pt = p) (ht : e.text = t) (hg : ∀ y ∈ e.pt, Pth.Good y) (hb : e.dir = true → e.text = ⟨#[]⟩)
    (hbase : base ≤ w1.heap.size) (hbB : base ≤ B) (W : World) (hW : Below (wr.alloc zNode).heap.size (wr.alloc zNode) W) :
    Calls Tryz.prog 37 #[.pointer (some fa), .int .i64 d, .string x, .agg #[.string p, .bool e.dir, .string t]] W fun r W' => r = .returned (.agg #[.string p, .bool e.dir, .string t, .int .i64 (numE (dl (L ++ [e])) e)]) ∧ ∃ bl', Under w0 w1 fa B base bl W' bl' (L ++ [e]) ∧ (wr.heap.size ≠ fa.block ∧ wr.heap.size ≠ B ∧ wr.heap.size ∉ bl') ∧ W'.heap[wr.heap.size]? = some (.cells #[.string ⟨#[]⟩, .bool false, .string ⟨#[]⟩, .int .i64 0] 65 (0, 0)) ∧ w1.heap.size ≤ W'.heap.size := by
  have hWs := hW.size
  rw [World.size_alloc] at hWs
  have hws := h.size
  have hB0 : Below wr.heap.size wr W := (alloc_below wr zNode).trans (hW.mono (by simp))
  have hU : Under w0 w1 fa B base bl W blk L := h.later (by omega) hB0
  have hz : W.heap[wr.heap.size]? = some (.cells #[.string ⟨#[]⟩, .bool false, .string ⟨#[]⟩, .int .i64 0] 65 (0, 0)) := (hW.block _ (by simp)).trans (heap_alloc_new wr zNode)
  have hnb : wr.heap.size ∉ blk := fun hm => by have := h.fs.lt_inner hm; omega
  have hnB : wr.heap.size ≠ B := by have := h.fs.lt_outer; omega
  refine (add_is W fa B base x p t blk L q e d hU.fs hU.inv hd hnum he hn hx hL hp ht (by omega) hbB (fun b hb => (h.blk b hb).1)).mono ?_
  rintro r W' ⟨rfl, bl', hF, hbl, hB, hK⟩
  refine ⟨by rw [nodeV, hp, ht], bl', ⟨hF, hU.inv.snoc he hn hd hg hb, hU.below.trans hB, fun k hk k1 k2 => ?_, fun b hb2 => ?_, Nat.le_trans hU.size hB.size⟩, ⟨by have := h.fs.lt; omega, hnB, fun hm => ?_⟩, (hK _ (by omega) hnB hnb).trans hz, Nat.le_trans hU.size hB.size⟩
  · refine (hK k (by omega) k1 (fun hm => ?_)).trans (hU.keep k hk k1 k2)
    rcases (h.blk k hm).2 with h5 | h5
    · exact k2 h5
    · omega
  · refine ⟨(hbl b hb2).1, ?_⟩
    rcases (hbl b hb2).2 with h5 | h5
    · exact (h.blk b h5).2
    · exact .inr (by omega)
  · rcases (hbl _ hm).2 with h5 | h5
    · exact hnb h5
    · omega

set_option maxRecDepth 100000 in
set_option maxHeartbeats 8000000 in
theorem put_is (w : World) (fa : Addr) (B base : Nat) (bl : List Nat) (L : List Ent) (pt : Wy) (s t : ByteArray) (dir : Bool)
    (h : FsIs w fa B bl (dl L) L) (hi : Inv L) (hs : s = absT pt ∨ (s = ⟨#[]⟩ ∧ pt = [])) (hg : ∀ y ∈ pt, Pth.Good y) (hz : (flatL pt).length ≤ 3000000) (ht : t.size ≤ 1000000) (hbare : dir = true → t = ⟨#[]⟩)
    (m : Nat) (hsm : Small m L) (hm : m + pt.length ≤ 900000000) (hbase : base ≤ w.heap.size) (hbB : base ≤ B) (hbb : ∀ b ∈ bl, base ≤ b) :
    Calls Tryz.prog 15 #[.pointer (some fa), .agg #[.string s, .bool dir, .string t]] w fun r W' => r = .returned (.tuple #[]) ∧ ∃ bl', FsIs W' fa B bl' (dl (putR dir t L [] pt)) (putR dir t L [] pt) ∧ (∀ b ∈ bl', base ≤ b ∧ (b ∈ bl ∨ w.heap.size ≤ b)) ∧ Below base w W' ∧ ∀ k, k < w.heap.size → k ≠ B → k ∉ bl → W'.heap[k]? = w.heap[k]? := by
  have HNm := Lib.hid (fun W => names_is pt s W hs hg hz)
  have HH := Lib.hid h
  have HI := Lib.hid hi
  have HG := Lib.hid hg
  have HS := Lib.hid hs
  have HSm := Lib.hid hsm
  have HBB := Lib.hid hbb
  have HBare := Lib.hid hbare
  obtain ⟨n, hn⟩ : ∃ n, n = pt.length := ⟨_, rfl⟩
  have hn3 : n ≤ 900000000 := by omega
  have HN := Lib.hid hn
  rw [← hn] at HNm
  clear h hi hg hs hsm hbb hbare hn
  go_enter Tryz.func15, Tryz.ntmps15
  go_wp2_with fail
  refine (HNm.out _).mono ?_
  rintro e w1 ⟨A, rfl, hsl, hA, hb1⟩
  clear HNm
  have HSL := Lib.hid hsl
  have HA := Lib.hid hA
  have hs1 := hb1.size
  rw [World.size_alloc] at hs1
  have HB1 := Lib.hid ((alloc_below w (.cells #[.string s, .bool dir, .string t] 33)).trans (hb1.mono (by simp)))
  have hbox : w1.heap[w.heap.size]? = some (.cells #[.string s, .bool dir, .string t] 33 (0, 0)) := (hb1.block _ (by simp)).trans (heap_alloc_new w _)
  have HBox := Lib.hid hbox
  have hbase1 : base ≤ w1.heap.size := by omega
  have HU0 : Hid (Under w w1 fa B base bl w1 bl L) := ⟨HH.out.below HB1.out, HI.out, HB1.out.mono hbase, fun _ _ _ _ => rfl, fun b hb => ⟨HBB.out b hb, .inl hb⟩, Nat.le_refl _⟩
  have HFr : Hid (w.heap.size ≠ B ∧ w.heap.size ∉ bl ∧ w.heap.size + 1 ≠ B ∧ w.heap.size + 1 ∉ bl) := ⟨by have := HH.out.lt_outer; omega, fun hm2 => by have := HH.out.lt_inner hm2; omega, by have := HH.out.lt_outer; omega, fun hm2 => by have := HH.out.lt_inner hm2; omega⟩
  have HEnd : Hid (∀ wr blk L', L' = putR dir t L [] pt → Under w w1 fa B base bl wr blk L' → ∃ bl', FsIs wr fa B bl' (dl (putR dir t L [] pt)) (putR dir t L [] pt) ∧ (∀ b ∈ bl', base ≤ b ∧ (b ∈ bl ∨ w.heap.size ≤ b)) ∧ Below base w wr ∧ ∀ k, k < w.heap.size → k ≠ B → k ∉ bl → wr.heap[k]? = w.heap[k]?) := fun wr blk L' e hU => by
    subst e
    exact ⟨blk, hU.fs, fun b hb => ⟨(hU.blk b hb).1, (hU.blk b hb).2.imp id (fun h => by omega)⟩, hU.below, fun k hk k1 k2 => (hU.keep k (by omega) k1 k2).trans (HB1.out.block k hk)⟩
  clear hsl hA hb1 hbox HI HH HBB
  go_wp2_with fail
  go_loopw [4, 5, 14] (fun d en i wr => ∃ (k en' : Nat) (d' : Int) (Lk : List Ent) (blk : List Nat), k ≤ n ∧ en' ≤ 3000000 ∧ i = .int .i64 k ∧ en = .int .i64 en' ∧ d = .int .i64 d' ∧ w1.heap.size ≤ wr.heap.size ∧ Hid (Under w w1 fa B base bl wr blk Lk ∧ Small (m + k) Lk ∧ en' = (flatL (pt.take k)).length ∧ putR dir t Lk (pt.take k) (pt.drop k) = putR dir t L [] pt ∧ (k < n → IsDir Lk (pt.take k) ∧ d' = (num (dl Lk) (pt.take k) : Nat)))) (fun _ _ i _ => n - (intOf i).toNat)
  case atStart => exact ⟨0, 0, 1, L, bl, Nat.zero_le _, Nat.zero_le _, rfl, rfl, rfl, Nat.le_refl _, HU0.out, HSm.out, rfl, rfl, fun _ => ⟨.inl rfl, rfl⟩⟩
  case round =>
    obtain ⟨k, en', d', Lk, blk, hk, hen, rfl, rfl, rfl, hsz, H⟩ := hrel
    by_cases hlt : k < n
    · have hl : k < pt.length := by have := HN.out; omega
      have hx : pt[k]? = some pt[k] := List.getElem?_eq_getElem hl
      obtain ⟨hUn, hSm, hflat, hput, hdir⟩ := H.out
      obtain ⟨hD, hnum⟩ := hdir hlt
      have htk : pt.take (k + 1) = pt.take k ++ [pt[k]] := List.take_succ_eq_append_getElem hl
      have hdk : pt.drop k = pt[k] :: pt.drop (k + 1) := List.drop_eq_getElem_cons hl
      have hpt : pt = pt.take k ++ pt[k] :: pt.drop (k + 1) := by rw [← hdk, List.take_append_drop]
      rw [hdk] at hput
      have hgood : ∀ y ∈ pt.take k ++ [pt[k]], Pth.Good y := fun y hy => HG.out y (by rw [← htk] at hy; exact List.mem_of_mem_take hy)
      have hAe := HA.out (fun h0 => by rw [h0] at hl; exact Nat.not_lt_zero _ hl)
      rw [World.size_alloc] at hAe
      obtain ⟨bA, oA, hAA, hbA, hcA⟩ := HSL.out.at_ (k := k) (x := bs pt[k]) (by rw [List.getElem?_map, hx]; rfl)
      have hbo : bA = w.heap.size + 1 ∧ oA = 0 := by rw [hAe] at hAA; simp at hAA; exact ⟨hAA.1.symm, hAA.2.symm⟩
      obtain ⟨rfl, rfl⟩ := hbo
      have cn : wr.cell? ⟨w.heap.size + 1, 0 + k, none⟩ = some (.string (bs pt[k])) := (World.cell?_of_block (a := ⟨w.heap.size + 1, 0 + k, none⟩) (hUn.keep _ hbA HFr.out.2.2.1 HFr.out.2.2.2)).trans (hcA w1 (Below.refl _ _))
      rw [Nat.zero_add] at cn
      have hAs : A = some ⟨w.heap.size + 1, 0, none⟩ := hAe
      have hbx : wr.heap[w.heap.size]? = some (.cells #[.string s, .bool dir, .string t] 33 (0, 0)) := (hUn.keep _ (by omega) HFr.out.1 HFr.out.2.1).trans HBox.out
      have hfl : (flatL (pt.take k ++ [pt[k]])).length = en' + (1 + pt[k].length) := by rw [flatL_app, List.length_append, flatL_one, List.length_cons, hflat]; omega
      have hfle : (flatL (pt.take k ++ [pt[k]])).length ≤ 3000000 := by 
        have h5 := flat_pre_le (pt.take (k + 1)) (pt.drop (k + 1))
        rw [List.take_append_drop] at h5
        rw [← htk]; omega
      have hs2 : s = pathB pt := by
        rcases HS.out with h5 | ⟨_, h5⟩
        · rw [h5]; exact absT_ne (fun h6 => by rw [h6] at hl; exact Nat.not_lt_zero _ hl)
        · rw [h5] at hl; exact absurd hl (Nat.not_lt_zero _)
      obtain ⟨j, hj1, hj2, hj3⟩ := num_at (hUn.inv.isDir.2 hD)
      have hLk : Lk.length ≤ m + k := hSm.len
      have hjb : j < blk.length := by rw [hUn.fs.len]; exact hj2
      obtain ⟨bj, hbj⟩ : ∃ bj, blk[j]? = some bj := ⟨blk[j], List.getElem?_eq_getElem hjb⟩
      have hblen : blk.length ≤ 1099511627776 := by rw [hUn.fs.len]; have := dl_len Lk; omega
      have l1 := hUn.fs.look_dir hbj hblen
      have hdm := hUn.fs.inner j _ _ hj3 hbj
      have hd' : d' = (j : Int) + 1 := by rw [hnum, hj1]; omega
      rw [← hd'] at l1
      have c0 := hUn.fs.cell
      have hxz : (bs pt[k]).size ≤ 3000000 := by rw [size_bs]; omega
      have hml : (maxLen : Nat) = 9223372036854775807 := by unfold maxLen; rfl
      have w1' : IntKind.i64.wrap (1 + ((bs pt[k]).size : Int)) = 1 + ((bs pt[k]).size : Int) := IntWalk.i64_in _ (by omega)
      have hsz1 : en' + (1 + (bs pt[k]).size) ≤ 3000000 := by rw [size_bs]; omega
      cases hc : at_ Lk (pt.take k ++ [pt[k]]) with
      | some e0 =>
        have l2 := hdm.look_some (bs pt[k]) (by omega) (e := e0) hc
        unfold nodeV at l2
        have hUL : Hid (∀ o, Under w w1 fa B base bl (wr.alloc o) blk Lk) := fun o => hUn.later (by omega) (alloc_below wr o)
        cases hed : e0.dir with
        | true =>
          have HN2 : Hid (Small (m + (k + 1)) Lk ∧ en' + (1 + (bs pt[k]).size) = (flatL (pt.take (k + 1))).length ∧ putR dir t Lk (pt.take (k + 1)) (pt.drop (k + 1)) = putR dir t L [] pt ∧ (k + 1 < n → IsDir Lk (pt.take (k + 1)) ∧ ((numE (dl Lk) e0 : Nat) : Int) = (num (dl Lk) (pt.take (k + 1)) : Nat))) := by
            refine ⟨hSm.mono (by omega), by rw [htk, hfl, size_bs], by rw [htk, ← hput, putR_there hc hed], fun _ => ⟨by rw [htk]; exact .inr ⟨e0, hc, hed⟩, ?_⟩⟩
            unfold numE
            rw [hed, if_pos rfl, (at_mem hc).2, htk]
          rw [hed] at l2
          clear hUn hSm hflat hput hdir hD hnum htk hdk hpt hgood hAe hAA hbA hcA hbx hfl hfle hs2 hj1 hj2 hj3 hjb hbj hblen hdm hd' hc hed H hx hLk hml
          subst hAs
          generalize bs pt[k] = xb at *
          generalize pathB e0.pt = pe at *
          generalize e0.text = te at *
          generalize ((numE (dl Lk) e0 : Nat) : Int) = ne at *
          go_wp2
          go_roundw
          case rel => exact ⟨k + 1, en' + (1 + xb.size), ne, Lk, blk, by omega, hsz1, by go_num, by go_num, rfl, by simp; omega, hUL.out _, HN2.out.1, HN2.out.2.1, HN2.out.2.2.1, HN2.out.2.2.2⟩
          case measure => simp [intOf]; omega
        | false =>
          have HT : Hid (Lk = putR dir t L [] pt) := by
            show _ = _
            rw [← hput, putR_file hc hed]
          have HX := Lib.hid (fun o => HEnd.out (wr.alloc o) blk Lk HT.out (hUL.out o))
          rw [hed] at l2
          clear hUn hSm hflat hput hdir hD hnum htk hdk hpt hgood hAe hAA hbA hcA hbx hfl hfle hs2 hj1 hj2 hj3 hjb hbj hblen hdm hd' hc hed H hx hLk hml HT hUL
          subst hAs
          generalize bs pt[k] = xb at *
          generalize pathB e0.pt = pe at *
          generalize e0.text = te at *
          generalize ((numE (dl Lk) e0 : Nat) : Int) = ne at *
          go_wp2
          exact bodyPost_ret (v := .tuple #[]) (by simp [results, Tryz.results15, go_sem]) rfl ⟨rfl, HX.out _⟩
      | none =>
        have l2 : (Instr.lookup 43 (.map (some bj)) (.string (bs pt[k])) true).run Tryz.prog wr = .ok (.tuple #[.agg #[.string ⟨#[]⟩, .bool false, .string ⟨#[]⟩, .int .i64 0], .bool false]) wr := hdm.look_no (bs pt[k]) (by omega) hc
        have hUp := fun W => upTo_is pt (pt.take k) (pt.drop (k + 1)) pt[k] dir t W hpt hz
        have hen2 : (((flatL (pt.take k ++ [pt[k]])).length : Nat) : Int) = (en' : Int) + (1 + ((bs pt[k]).size : Int)) := by rw [hfl, size_bs]; omega
        rw [← hs2, hen2] at hUp
        obtain ⟨ne, hne⟩ : ∃ ne, ne = nextE dir t (pt.take k) pt[k] (pt.drop (k + 1)) := ⟨_, rfl⟩
        have hpe : ne.pt = pt.take k ++ [pt[k]] := by rw [hne]; exact nextE_pt ..
        have hte : ne.text.size ≤ 1000000 := by
          rw [hne]; unfold nextE; split
          · exact ht
          · exact Nat.zero_le _
        have hAdd := fun W hW => hUn.added (bs pt[k]) (pathB (pt.take k ++ [pt[k]])) ne.text (pt.take k) ne d' hD hnum hpe (by rw [hpe]; exact hc) hxz (by omega) (by rw [hpe]) rfl (by rw [hpe]; exact hgood) (fun hd2 => by rw [hne] at hd2 ⊢; exact nextE_bare HBare.out _ _ _ hd2) hbase1 hbB W hW
        have HN2 : Hid (Small (m + (k + 1)) (Lk ++ [ne]) ∧ en' + (1 + (bs pt[k]).size) = (flatL (pt.take (k + 1))).length ∧ putR dir t (Lk ++ [ne]) (pt.take (k + 1)) (pt.drop (k + 1)) = putR dir t L [] pt ∧ (k + 1 < n → IsDir (Lk ++ [ne]) (pt.take (k + 1)) ∧ ((numE (dl (Lk ++ [ne])) ne : Nat) : Int) = (num (dl (Lk ++ [ne])) (pt.take (k + 1)) : Nat))) := by
          refine ⟨(hSm.snoc (by rw [hpe]; exact hfle) hte).mono (by omega), by rw [htk, hfl, size_bs], by rw [htk, ← hput, putR_new hc, hne], fun hk1 => ?_⟩
          have hr : pt.drop (k + 1) ≠ [] := fun h5 => by
            have h6 := List.drop_eq_nil_iff.1 h5
            have := HN.out
            omega
          have hd2 : ne.dir = true := by rw [hne]; exact nextE_dir _ _ _ _ _ hr
          refine ⟨by rw [htk]; exact .inr ⟨ne, at_snoc_same hc hpe, hd2⟩, ?_⟩
          unfold numE
          rw [hd2, if_pos rfl, hpe, htk]
        rw [← hne] at hUp
        have b0 : (wr.alloc zNode).cell? ⟨w.heap.size, 0, none⟩ = some (.string s) := by
          rw [Lib.cell_of_heap ((Lib.alloc_old _ _ _ (by omega)).trans hbx)]; rfl
        have b1 : (wr.alloc zNode).cell? ⟨w.heap.size, 1, none⟩ = some (.bool dir) := by
          rw [Lib.cell_of_heap ((Lib.alloc_old _ _ _ (by omega)).trans hbx)]; rfl
        have b2 : (wr.alloc zNode).cell? ⟨w.heap.size, 2, none⟩ = some (.string t) := by
          rw [Lib.cell_of_heap ((Lib.alloc_old _ _ _ (by omega)).trans hbx)]; rfl
        have HUp := Lib.hid hUp
        have HAdd := Lib.hid hAdd
        clear hUn hSm hflat hput hdir hD hnum htk hdk hpt hgood hAe hAA hbA hcA hbx hfl hfle hs2 hj1 hj2 hj3 hjb hbj hblen hdm hd' hc H hx hLk hml hUp hAdd hne hpe hte
        clear hen2
        subst hAs
        generalize bs pt[k] = xb at *
        generalize pathB (pt.take k ++ [pt[k]]) = pe at *
        generalize ne.text = te at *
        go_wp2_with fail
        refine (HUp.out _).mono ?_
        rintro e W2 ⟨rfl, hb2⟩
        have hAd := HAdd.out W2 hb2
        clear HUp HAdd hb2
        generalize ne.dir = nd at *
        have HAd := Lib.hid hAd
        clear hAd
        go_wp2_with fail
        refine HAd.out.mono ?_
        rintro e W3 ⟨rfl, bl', hU3, hfr3, hz3, hs3⟩
        obtain ⟨z0, z1, z2, z3, f0, f1, f2, f3⟩ := zNode_cells hz3
        have HU3 : Hid (∀ v0 v1 v2 v3, Under w w1 fa B base bl ((((W3.setCell ⟨wr.heap.size, 0, none⟩ v0).setCell ⟨wr.heap.size, 1, none⟩ v1).setCell ⟨wr.heap.size, 2, none⟩ v2).setCell ⟨wr.heap.size, 3, none⟩ v3) bl' (Lk ++ [ne])) := fun v0 v1 v2 v3 =>
          (((hU3.stored ⟨wr.heap.size, 0, none⟩ v0 (by show w1.heap.size ≤ wr.heap.size; omega) (by show base ≤ wr.heap.size; omega) hfr3.1 hfr3.2.1 hfr3.2.2).stored ⟨wr.heap.size, 1, none⟩ v1 (by show w1.heap.size ≤ wr.heap.size; omega) (by show base ≤ wr.heap.size; omega) hfr3.1 hfr3.2.1 hfr3.2.2).stored ⟨wr.heap.size, 2, none⟩ v2 (by show w1.heap.size ≤ wr.heap.size; omega) (by show base ≤ wr.heap.size; omega) hfr3.1 hfr3.2.1 hfr3.2.2).stored ⟨wr.heap.size, 3, none⟩ v3 (by show w1.heap.size ≤ wr.heap.size; omega) (by show base ≤ wr.heap.size; omega) hfr3.1 hfr3.2.1 hfr3.2.2
        clear hU3 hfr3 hz3 HAd
        generalize ((numE (dl (Lk ++ [ne])) ne : Nat) : Int) = nv at *
        go_wp2
        go_roundw
        case rel => exact ⟨k + 1, en' + (1 + xb.size), nv, Lk ++ [ne], bl', by omega, hsz1, by go_num, by go_num, rfl, by simp; omega, HU3.out _ _ _ _, HN2.out.1, HN2.out.2.1, HN2.out.2.2.1, HN2.out.2.2.2⟩
        case measure => simp [intOf]; omega
    · have hk2 : pt.length ≤ k := by have := HN.out; omega
      have HT : Hid (Lk = putR dir t L [] pt) := by
        show _ = _
        rw [← H.out.2.2.2.1, List.drop_eq_nil_of_le hk2]; rfl
      have HX := Lib.hid (HEnd.out wr blk Lk HT.out H.out.1)
      clear H HT hk2
      go_wp2
      go_end0
      exact ⟨rfl, HX.out⟩

end Go.Proofs.YtghfmbmdfojapaaGreatDoor.Vput

/- The program's New. -/
namespace Go.Proofs.YtghfmbmdfojapaaGreatDoor.Vnew
open Go.RowKit Go.Maps Go.Proofs.YtghfmbmdfojapaaGreatDoor.Pth Go.Proofs.YtghfmbmdfojapaaGreatDoor.Pabs Go.Proofs.YtghfmbmdfojapaaGreatDoor.Strs Go.Proofs.YtghfmbmdfojapaaGreatDoor.Vfs Go.Proofs.YtghfmbmdfojapaaGreatDoor.Vmap Go.Proofs.YtghfmbmdfojapaaGreatDoor.Vnames Go.Proofs.YtghfmbmdfojapaaGreatDoor.Vadd Go.Proofs.YtghfmbmdfojapaaGreatDoor.Vput

/-- a slice of entries, three cells each -/
def EnIs (w : World) (A : Option Addr) (c : Nat) (l : List Raw) : Prop :=
  l.length ≤ c ∧ (l = [] ∨ ∃ b o, A = some ⟨b, o, none⟩ ∧ b < w.heap.size ∧ ∀ j x, l[j]? = some x → w.cell? ⟨b, o + j * 3, none⟩ = some (.string x.path) ∧ w.cell? ⟨b, o + j * 3 + 1, none⟩ = some (.bool x.dir) ∧ w.cell? ⟨b, o + j * 3 + 2, none⟩ = some (.string x.text))
theorem EnIs.below {w w' : World} {A : Option Addr} {c : Nat} {l : List Raw} (h : EnIs w A c l) (hb : Below w.heap.size w w') : EnIs w' A c l := by
  refine ⟨h.1, ?_⟩
  rcases h.2 with h0 | ⟨b, o, rfl, hlt, hc⟩
  · exact .inl h0
  · refine .inr ⟨b, o, rfl, Nat.lt_of_lt_of_le hlt hb.size, fun j x hx => ?_⟩
    obtain ⟨h1, h2, h3⟩ := hc j x hx
    exact ⟨(hb.cell (p := ⟨b, o + j * 3, none⟩) hlt).trans h1, (hb.cell (p := ⟨b, o + j * 3 + 1, none⟩) hlt).trans h2, (hb.cell (p := ⟨b, o + j * 3 + 2, none⟩) hlt).trans h3⟩
theorem EnIs.at_ {w : World} {A : Option Addr} {c k : Nat} {l : List Raw} (h : EnIs w A c l) {x : Raw} (hx : l[k]? = some x) :
    ∃ b o, A = some ⟨b, o, none⟩ ∧ b < w.heap.size ∧ ∀ W, Below w.heap.size w W → W.cell? ⟨b, o + k * 3, none⟩ = some (.string x.path) ∧ W.cell? ⟨b, o + k * 3 + 1, none⟩ = some (.bool x.dir) ∧ W.cell? ⟨b, o + k * 3 + 2, none⟩ = some (.string x.text) := by
  rcases h.2 with h0 | ⟨b, o, rfl, hb, hc⟩
  · rw [h0] at hx; cases hx
  · refine ⟨b, o, rfl, hb, fun W hW => ?_⟩
    obtain ⟨h1, h2, h3⟩ := hc k x hx
    exact ⟨(hW.cell (p := ⟨b, o + k * 3, none⟩) hb).trans h1, (hW.cell (p := ⟨b, o + k * 3 + 1, none⟩) hb).trans h2, (hW.cell (p := ⟨b, o + k * 3 + 2, none⟩) hb).trans h3⟩

/-- the root alone -/
theorem fs_start (w : World) : ∃ W1, (Instr.mapUpdate 44 (.map (some w.heap.size)) (.int .i64 1) (.map (some (w.heap.size + 1)))).run Tryz.prog ((w.alloc (.map #[] 0)).alloc (.map #[] 0)) = .ok () W1 ∧
    FsIs (W1.alloc (.cells #[.map (some w.heap.size)] 46)) ⟨W1.heap.size, 0, none⟩ w.heap.size [w.heap.size + 1] (dl []) [] ∧ Below w.heap.size w W1 := by
  have ho := (World.ownsMap_made w Tryz.prog 3 mapElem).alloc (.map #[] 0)
  have hn := World.ownsMap_made (w.alloc (.map #[] 0)) Tryz.prog 9 nodeElem
  rw [World.size_alloc] at hn
  obtain ⟨W1, hrun, ho2, hg⟩ := ho.update KI Tryz.underlying44 (by unfold maxLen; omega) (keyI (i := 1) (by omega) (by omega)) (val := .map (some (w.heap.size + 1))) (d := .lit (.int .i64 ((w.heap.size + 1 : Nat) : Int))) (ps := []) rfl
  have hs := hg.size
  simp only [World.size_alloc] at hs
  have hn1 := hn.kept hg (fun e => by have := Option.some.inj e; omega)
  have hnew := heap_alloc_new W1 (.cells #[.map (some w.heap.size)] 46)
  have hal := alloc_below W1 (.cells #[.map (some w.heap.size)] 46)
  refine ⟨W1, hrun, ⟨by rw [Lib.cell_of_heap hnew]; rfl, by show W1.heap.size < _; simp, rfl, by simp, ?_, fun j p b hp hb => ?_⟩, ?_⟩
  · refine ⟨_, 1, owns_block ho2 (hal.block _ (by omega)), Nat.le_refl _, ?_, fun i => ?_, fun j b hb => ?_⟩
    · rw [size_put (ho.tidy KI)]; rfl
    · by_cases hi : i = 1
      · subst hi
        rw [has_put_same ho.isMap (isKeyI _)]; rfl
      · rw [has_put_other (fun e => hi (by cases e; rfl))]
        show false = _
        symm
        rw [decide_eq_false_iff_not]
        simp; omega
    · have hj : j = 0 := by have := (List.getElem?_eq_some_iff.1 hb).1; simp at this; exact this
      subst hj
      have hbe : w.heap.size + 1 = b := by simpa using hb
      rw [← hbe]
      exact atKey_put_same ho.isMap (isKeyI _) _ _
  · have hj : j = 0 := by have := (List.getElem?_eq_some_iff.1 hb).1; simp at this; exact this
    subst hj
    have hbe : w.heap.size + 1 = b := by simpa using hb
    rw [← hbe]
    exact ⟨_, 0, owns_block hn1 (hal.block _ (by omega)), Nat.zero_le _, fun x => rfl, fun x e he => by cases he⟩
  · have h2 : Below w.heap.size w ((w.alloc (.map #[] 0)).alloc (.map #[] 0)) := (alloc_below w _).alloc (by simp) _
    exact h2.grown hg (by simp; omega) (fun k e => by rw [← Option.some.inj e]; exact Nat.le_refl _)

theorem abs_text (s : ByteArray) : (bs (absL s.data.toList) = absT (partsOf s)) ∨ (bs (absL s.data.toList) = ⟨#[]⟩ ∧ partsOf s = []) := by
  by_cases h : s.data.toList = []
  · right
    unfold partsOf
    rw [h]
    exact ⟨rfl, rfl⟩
  · left
    rw [absL_some _ h]; rfl
theorem putE_eq (L : List Ent) (x : Raw) : putE L x = putR x.dir (textOf x) L [] (partsOf x.path) := rfl

set_option maxRecDepth 100000 in
set_option maxHeartbeats 8000000 in
theorem new_is (A : Option Addr) (n c : Nat) (l : List Raw) (w : World) (hn : l.length = n) (h : EnIs w A c l) (hsm : ∀ x ∈ l, RawSmall x) (hm : n ≤ maxLen) :
    Calls Tryz.prog 5 #[.slice A n c] w fun e W' => ∃ fa B bl, e = .returned (.pointer (some fa)) ∧ FsIs W' fa B bl (dl (newL l)) (newL l) ∧ Below w.heap.size w W' := by
  unfold maxLen at hm
  obtain ⟨W1, hu, hF1, hB1⟩ := fs_start w
  have hcap := h.1
  obtain ⟨m, hmin⟩ : ∃ m : Nat, min (n : Int) 200 = (m : Int) := ⟨min n 200, by omega⟩
  have hm2 : m ≤ n := by omega
  have hm3 : m ≤ 200 := by omega
  have hmn : m = min n 200 := by omega
  have HN := Lib.hid hn
  have HE := Lib.hid h
  have HSM := Lib.hid hsm
  have HF1 := Lib.hid hF1
  have HB1 := Lib.hid hB1
  have HMN := Lib.hid hmn
  rw [hn] at hcap
  have hmm := @run_makeMap Tryz.prog
  clear hn h hsm hF1 hB1 hmn
  have HT : Hid (newL l = (l.take m).foldl putE []) := by
    show _ = _
    unfold newL
    congr 1
    have h1 := HN.out
    have h2 := HMN.out
    rcases Nat.le_total n 200 with h3 | h3
    · rw [List.take_of_length_le (by omega), List.take_of_length_le (by omega)]
    · rw [show m = 200 by omega]
  rw [HT.out]
  go_enter Tryz.func5, Tryz.ntmps5
  go_wp2
  go_loopw [17] (fun i wr => ∃ (k : Nat) (bl : List Nat), k ≤ m ∧ i = .int .i64 k ∧ Hid (FsIs wr ⟨W1.heap.size, 0, none⟩ w.heap.size bl (dl ((l.take k).foldl putE [])) ((l.take k).foldl putE []) ∧ Below w.heap.size w wr ∧ ∀ b ∈ bl, w.heap.size ≤ b)) (fun i _ => m - (intOf i).toNat)
  case atStart => exact ⟨0, [w.heap.size + 1], Nat.zero_le _, rfl, HF1.out, HB1.out.alloc HB1.out.size _, fun b hb => by rw [List.mem_singleton.1 hb]; omega⟩
  case round =>
    obtain ⟨k, bl, hk, rfl, H⟩ := hrel
    have hsz := H.out.2.1.size
    by_cases hlt : k < m
    · have hl : k < l.length := by have := HN.out; omega
      have hx : l[k]? = some l[k] := List.getElem?_eq_getElem hl
      obtain ⟨bA, oA, rfl, hbA, hcA⟩ := HE.out.at_ hx
      obtain ⟨c0, c1, c2⟩ := hcA wr H.out.2.1
      have hxs := HSM.out _ (List.getElem_mem hl)
      have HAbs := Lib.hid (fun W => abs_is l[k].path W hxs.path)
      have hpp := parts_small l[k].path hxs.path
      have HStep : Hid ((l.take (k + 1)).foldl putE [] = putR l[k].dir (textOf l[k]) ((l.take k).foldl putE []) [] (partsOf l[k].path)) := by
        show _ = _
        rw [List.take_succ_eq_append_getElem hl, List.foldl_append]; rfl
      have HPut : Hid (∀ W, Below wr.heap.size wr W → ∀ W2, FsIs W2 ⟨W1.heap.size, 0, none⟩ w.heap.size bl (dl ((l.take k).foldl putE [])) ((l.take k).foldl putE []) → Below w.heap.size w W2 →
          Calls Tryz.prog 15 #[.pointer (some ⟨W1.heap.size, 0, none⟩), .agg #[.string (bs (absL l[k].path.data.toList)), .bool l[k].dir, .string (textOf l[k])]] W2 fun r W' => r = .returned (.tuple #[]) ∧ ∃ bl', FsIs W' ⟨W1.heap.size, 0, none⟩ w.heap.size bl' (dl ((l.take (k + 1)).foldl putE [])) ((l.take (k + 1)).foldl putE []) ∧ Below w.heap.size w W' ∧ ∀ b ∈ bl', w.heap.size ≤ b) := fun W _ W2 hF hB2 => by
        have hsmk : Small (0 + (l.take k).length * 2000002) ((l.take k).foldl putE []) := foldl_small _ small_nil (fun y hy => HSM.out y (List.mem_of_mem_take hy))
        have hlk : (l.take k).length = k := by rw [List.length_take]; omega
        rw [hlk] at hsmk
        refine (put_is W2 ⟨W1.heap.size, 0, none⟩ w.heap.size w.heap.size bl _ (partsOf l[k].path) _ (textOf l[k]) l[k].dir hF (foldl_inv _ inv_nil) (abs_text _) (partsOf_good _) (by omega) (textOf_size _ hxs.text) (textOf_bare _) _ hsmk (by omega) hB2.size (Nat.le_refl _) H.out.2.2).mono ?_
        rintro r W' ⟨rfl, bl', hF', hb', hB', _⟩
        rw [HStep.out]
        exact ⟨rfl, bl', hF', hB2.trans hB', fun b hb => (hb' b hb).1⟩
      have hFk := H.out.1
      have HFn : Hid (∀ W, Below wr.heap.size wr W → FsIs W ⟨W1.heap.size, 0, none⟩ w.heap.size bl (dl ((l.take k).foldl putE [])) ((l.take k).foldl putE []) ∧ Below w.heap.size w W) := fun W hW => ⟨hFk.below hW, H.out.2.1.trans (hW.mono hsz)⟩
      have HNe : Hid (wr.heap.size ≠ W1.heap.size ∧ wr.heap.size ≠ w.heap.size ∧ ∀ b ∈ bl, wr.heap.size ≠ b) := ⟨by have := hFk.lt; show wr.heap.size ≠ W1.heap.size; have h9 : W1.heap.size < wr.heap.size := this; omega, by have := hFk.lt_outer; omega, fun b hb => by have := hFk.lt_inner hb; omega⟩
      have htd : textOf l[k] = if l[k].dir then ⟨#[]⟩ else l[k].text := rfl
      clear hcA hx hxs hpp HStep H hFk
      generalize bs (absL l[k].path.data.toList) = ab at *
      generalize textOf l[k] = tx at *
      generalize l[k].path = pa at *
      generalize l[k].text = te at *
      generalize l[k].dir = di at *
      go_wp2_with fail
      refine (HAbs.out _).mono ?_
      rintro e W2 ⟨rfl, hb2⟩
      have hg : W2.heap[wr.heap.size]? = some (.cells #[.string pa, .bool di, .string te] 33 (0, 0)) := (hb2.block _ (by simp)).trans (heap_alloc_new wr _)
      have hB2 : Below wr.heap.size wr W2 := (alloc_below wr _).trans (hb2.mono (by simp))
      have d0 : W2.cell? ⟨wr.heap.size, 0, none⟩ = some (.string pa) := by rw [Lib.cell_of_heap hg]; rfl
      have d1 : W2.cell? ⟨wr.heap.size, 1, none⟩ = some (.bool di) := by rw [Lib.cell_of_heap hg]; rfl
      have d2 : W2.cell? ⟨wr.heap.size, 2, none⟩ = some (.string te) := by rw [Lib.cell_of_heap hg]; rfl
      have f0 : W2.frozen? ⟨wr.heap.size, 0, none⟩ = false := Lib.frozen_of_heap hg 0
      have f2 : W2.frozen? ⟨wr.heap.size, 2, none⟩ = false := Lib.frozen_of_heap hg 2
      obtain ⟨hF2, hw2⟩ := HFn.out W2 hB2
      have HC : Hid (∀ v, Calls Tryz.prog 15 #[.pointer (some ⟨W1.heap.size, 0, none⟩), .agg #[.string ab, .bool di, .string tx]] (W2.setCell ⟨wr.heap.size, 0, none⟩ v) fun r W' => r = .returned (.tuple #[]) ∧ ∃ bl', FsIs W' ⟨W1.heap.size, 0, none⟩ w.heap.size bl' (dl ((l.take (k + 1)).foldl putE [])) ((l.take (k + 1)).foldl putE []) ∧ Below w.heap.size w W' ∧ ∀ b ∈ bl', w.heap.size ≤ b) := fun v =>
        HPut.out W2 hB2 _ (hF2.setCell _ v HNe.out.1 HNe.out.2.1 HNe.out.2.2) (hw2.setCell (p := ⟨wr.heap.size, 0, none⟩) hsz v)
      have HC2 : Hid (∀ v v', Calls Tryz.prog 15 #[.pointer (some ⟨W1.heap.size, 0, none⟩), .agg #[.string ab, .bool di, .string tx]] ((W2.setCell ⟨wr.heap.size, 0, none⟩ v).setCell ⟨wr.heap.size, 2, none⟩ v') fun r W' => r = .returned (.tuple #[]) ∧ ∃ bl', FsIs W' ⟨W1.heap.size, 0, none⟩ w.heap.size bl' (dl ((l.take (k + 1)).foldl putE [])) ((l.take (k + 1)).foldl putE []) ∧ Below w.heap.size w W' ∧ ∀ b ∈ bl', w.heap.size ≤ b) := fun v v' =>
        HPut.out W2 hB2 _ ((hF2.setCell _ v HNe.out.1 HNe.out.2.1 HNe.out.2.2).setCell _ v' HNe.out.1 HNe.out.2.1 HNe.out.2.2) ((hw2.setCell (p := ⟨wr.heap.size, 0, none⟩) hsz v).setCell (p := ⟨wr.heap.size, 2, none⟩) hsz v')
      clear hb2 hB2 hg hF2 hw2 HPut HFn HNe HAbs
      cases di with
      | true =>
        obtain rfl : tx = ⟨#[]⟩ := htd
        clear HC
        go_wp2_with fail
        refine (HC2.out _ _).mono ?_
        rintro e W3 ⟨rfl, bl', hF', hB', hb'⟩
        have HR := Lib.hid (And.intro hF' (And.intro hB' hb'))
        clear hF' hB' hb' HC2
        go_wp2
        go_roundw
        case rel => exact ⟨k + 1, bl', by omega, by go_num, HR.out⟩
        case measure => simp [intOf]; omega
      | false =>
        obtain rfl : tx = te := htd
        clear HC2
        go_wp2_with fail
        refine (HC.out _).mono ?_
        rintro e W3 ⟨rfl, bl', hF', hB', hb'⟩
        have HR := Lib.hid (And.intro hF' (And.intro hB' hb'))
        clear hF' hB' hb' HC
        go_wp2
        go_roundw
        case rel => exact ⟨k + 1, bl', by omega, by go_num, HR.out⟩
        case measure => simp [intOf]; omega
    · obtain rfl : m = k := by omega
      have HR := Lib.hid H.out
      clear H
      go_wp2
      go_ret
      exact ⟨_, _, bl, rfl, HR.out.1, HR.out.2.1⟩

end Go.Proofs.YtghfmbmdfojapaaGreatDoor.Vnew
