/- The program's add: one thing laid into a directory. -/
import Derived.Test.YtgfpdaaofhanoaaGreatDoorVnames
import Derived.Deep.QuietTactic
import Derived.BigQuiet
import Derived.BigRegion
namespace Go.Proofs.YtgfpdaaofhanoaaGreatDoor.Vadd
open Go.RowKit Go.Maps Go.Proofs.YtgfpdaaofhanoaaGreatDoor.Pth Go.Proofs.YtgfpdaaofhanoaaGreatDoor.Pabs Go.Proofs.YtgfpdaaofhanoaaGreatDoor.Strs Go.Proofs.YtgfpdaaofhanoaaGreatDoor.Vfs Go.Proofs.YtgfpdaaofhanoaaGreatDoor.Vmap Go.Proofs.YtgfpdaaofhanoaaGreatDoor.Vnames

/-- how many directories, at the operation -/
theorem wpList_len_fs {w : World} {ops : Array Oper} {rest : List Oper} {o : Oper} {a : Act} {Q : Exit → Act → World → Prop} {fa : Addr} {B : Nat} {bl : List Nat} {ds : List Wy} {L : List Ent}
    (hg : o.guard = none) (m : Operand) (hop : o.op = Op.call { callee := Callee.builtin Builtin.len, args := #[m], argTypes := #[50] })
    (hm : a.eval m = .map (some B)) (h : FsIs w fa B bl ds L) (hK : wpList Tryz.prog ops Q rest (a.put o.dst (.int .i64 (bl.length : Int))) w) :
    wpList Tryz.prog ops Q (o :: rest) a w := by
  obtain ⟨D, n, ho, _, hs, _⟩ := h.outer
  refine wpList_len_own w hg m 50 hop 3 49 Tryz.underlying50 mapElem B n D hm ho ?_
  rw [hs]; exact hK

abbrev zNode : Obj := .cells #[.string ⟨#[]⟩, .bool false, .string ⟨#[]⟩, .int .i64 0] 77

theorem three_below (w : World) (o1 o2 o3 : Obj) : Below w.heap.size w (((w.alloc o1).alloc o2).alloc o3) :=
  (((Below.refl _ _).alloc (Nat.le_refl _) _).alloc (by simp) _).alloc (by simp; omega) _

set_option maxRecDepth 100000 in
set_option maxHeartbeats 4000000 in
theorem add_file (w : World) (fa : Addr) (B b j base : Nat) (x p t : ByteArray) (bl : List Nat) (ds : List Wy) (L : List Ent) (q : Wy) (e : Ent)
    (h : FsIs w fa B bl ds L) (hnd : ds.Nodup) (hq : ds[j]? = some q) (hb : bl[j]? = some b) (hm : bl.length ≤ 1000000000) (hx : x.size ≤ maxLen) (he : e.pt = q ++ [x.data.toList]) (hn : at_ L e.pt = none) (hL : L.length < maxLen) (hd : e.dir = false) (hp : pathB e.pt = p) (ht : e.text = t)
    (hbase : base ≤ w.heap.size) (hbb : base ≤ b) :
    Calls Tryz.prog 43 #[.pointer (some fa), .int .i64 ((j : Int) + 1), .string x, .agg #[.string p, .bool false, .string t]] w fun r W' => r = .returned (.agg #[.string p, .bool false, .string t, .int .i64 0]) ∧ FsIs W' fa B bl ds (L ++ [e]) ∧ Below base w W' ∧ ∀ k, k < w.heap.size → k ≠ b → W'.heap[k]? = w.heap[k]? := by
  obtain ⟨W0, hW0⟩ : ∃ W0, W0 = (((w.alloc (.cells #[.string p, .bool false, .string t] 40)).alloc zNode).alloc (.cells #[.string p, .bool false, .string t, .int .i64 0] 77)).drew := ⟨_, rfl⟩
  have hb0 : Below w.heap.size w W0 := by rw [hW0]; exact (three_below w _ _ _).drew
  have h0 : FsIs W0 fa B bl ds L := h.below hb0
  have hV : nodeV ds e = .agg #[.string p, .bool false, .string t, .int .i64 0] := by simp [nodeV, numE, hd, hp, ht]
  have c0 := h0.cell
  have l0 := h0.look_dir hb (by omega)
  obtain ⟨W1, hu, h1, hg⟩ := h0.put_name hnd hq hb hx he hn hL
  rw [hV] at hu
  have hbl := h.lt_inner (List.mem_of_getElem? hb)
  have e2 : W0.heap[w.heap.size + 2]? = some (.cells #[.string p, .bool false, .string t, .int .i64 0] 77 (0, 0)) := by
    rw [hW0]
    have := heap_alloc_new ((w.alloc (.cells #[.string p, .bool false, .string t] 40)).alloc zNode) (.cells #[.string p, .bool false, .string t, .int .i64 0] 77)
    rw [World.size_alloc, World.size_alloc] at this
    exact this
  have e1 : W0.heap[w.heap.size + 1]? = some (.cells #[.string ⟨#[]⟩, .bool false, .string ⟨#[]⟩, .int .i64 0] 77 (0, 0)) := by
    rw [hW0]
    have := heap_alloc_new (w.alloc (.cells #[.string p, .bool false, .string t] 40)) zNode
    rw [World.size_alloc] at this
    exact (Lib.alloc_old _ _ _ (by simp)).trans this
  have hs0 : W0.heap.size = w.heap.size + 3 := by rw [hW0]; simp [World.drew]
  have g2 := (hg.block (w.heap.size + 2) (by omega) (fun e3 => by have := Option.some.inj e3; omega)).trans e2
  have g1 := (hg.block (w.heap.size + 1) (by omega) (fun e3 => by have := Option.some.inj e3; omega)).trans e1
  have d0 : W1.cell? ⟨w.heap.size + 2, 0, none⟩ = some (.string p) := by rw [Lib.cell_of_heap g2]; rfl
  have d1 : W1.cell? ⟨w.heap.size + 2, 1, none⟩ = some (.bool false) := by rw [Lib.cell_of_heap g2]; rfl
  have d2 : W1.cell? ⟨w.heap.size + 2, 2, none⟩ = some (.string t) := by rw [Lib.cell_of_heap g2]; rfl
  have d3 : W1.cell? ⟨w.heap.size + 2, 3, none⟩ = some (.int .i64 0) := by rw [Lib.cell_of_heap g2]; rfl
  have k0 : W1.cell? ⟨w.heap.size + 1, 0, none⟩ = some (.string ⟨#[]⟩) := by rw [Lib.cell_of_heap g1]; rfl
  have k1 : W1.cell? ⟨w.heap.size + 1, 1, none⟩ = some (.bool false) := by rw [Lib.cell_of_heap g1]; rfl
  have k2 : W1.cell? ⟨w.heap.size + 1, 2, none⟩ = some (.string ⟨#[]⟩) := by rw [Lib.cell_of_heap g1]; rfl
  have k3 : W1.cell? ⟨w.heap.size + 1, 3, none⟩ = some (.int .i64 0) := by rw [Lib.cell_of_heap g1]; rfl
  have f0 : W1.frozen? ⟨w.heap.size + 1, 0, none⟩ = false := Lib.frozen_of_heap g1 0
  have f1 : W1.frozen? ⟨w.heap.size + 1, 1, none⟩ = false := Lib.frozen_of_heap g1 1
  have f2 : W1.frozen? ⟨w.heap.size + 1, 2, none⟩ = false := Lib.frozen_of_heap g1 2
  have f3 : W1.frozen? ⟨w.heap.size + 1, 3, none⟩ = false := Lib.frozen_of_heap g1 3
  have HB : Hid (Below base w W1) := (hb0.mono hbase).grown hg (by omega) (fun k e3 => by rw [← Option.some.inj e3]; exact hbb)
  have HF : Hid (FsIs W1 fa B bl ds (L ++ [e])) := h1
  have HK : Hid (∀ k, k < w.heap.size → k ≠ b → W1.heap[k]? = w.heap[k]?) := fun k hk hkb => (hg.block k (by omega) (fun e3 => hkb (Option.some.inj e3))).trans (hb0.block k hk)
  have HN : Hid (w.heap.size + 1 ≠ fa.block ∧ w.heap.size + 1 ≠ B ∧ ∀ b ∈ bl, w.heap.size + 1 ≠ b) := ⟨by have := h.lt; omega, by have := h.lt_outer; omega, fun b hb => by have := h.lt_inner hb; omega⟩
  clear h hq hb he hn hL hd hp ht h0 h1 hg e1 e2 g1 g2 hV hbb hb0 hnd hs0
  rw [hW0] at c0 l0 hu
  clear hW0
  go_enter Tryz.func43, Tryz.ntmps43
  go_wp2
  go_region
  go_wp2
  exact bodyPost_ret (v := .agg #[.string p, .bool false, .string t, .int .i64 0]) (by simp [results, Tryz.results43, go_sem, k0, k1, k2, k3]) rfl
    ⟨rfl, (((HF.out.setCell _ _ HN.out.1 HN.out.2.1 HN.out.2.2).setCell _ _ HN.out.1 HN.out.2.1 HN.out.2.2).setCell _ _ HN.out.1 HN.out.2.1 HN.out.2.2).setCell _ _ HN.out.1 HN.out.2.1 HN.out.2.2,
     (((HB.out.setCell (p := ⟨_, _, none⟩) (by show base ≤ w.heap.size + 1; omega) _).setCell (p := ⟨_, _, none⟩) (by show base ≤ w.heap.size + 1; omega) _).setCell (p := ⟨_, _, none⟩) (by show base ≤ w.heap.size + 1; omega) _).setCell (p := ⟨_, _, none⟩) (by show base ≤ w.heap.size + 1; omega) _,
     fun k hk hkb => by rw [setCell_heap _ _ _ _ (by show k ≠ w.heap.size + 1; omega), setCell_heap _ _ _ _ (by show k ≠ w.heap.size + 1; omega), setCell_heap _ _ _ _ (by show k ≠ w.heap.size + 1; omega), setCell_heap _ _ _ _ (by show k ≠ w.heap.size + 1; omega)]; exact HK.out k hk hkb⟩

set_option maxRecDepth 100000 in
set_option maxHeartbeats 8000000 in
theorem add_dir (w : World) (fa : Addr) (B b j n base : Nat) (x p t : ByteArray) (bl : List Nat) (ds : List Wy) (L : List Ent) (q : Wy) (e : Ent)
    (h : FsIs w fa B bl ds L) (hnd : (ds ++ [e.pt]).Nodup) (hq : ds[j]? = some q) (hb : bl[j]? = some b) (hm : bl.length ≤ 1000000000) (hx : x.size ≤ maxLen) (he : e.pt = q ++ [x.data.toList]) (hn : at_ L e.pt = none) (hL : L.length < maxLen) (hd : e.dir = true) (hp : pathB e.pt = p) (ht : e.text = t)
    (hno : ∀ y, at_ L (e.pt ++ [y]) = none) (hds : ∀ e ∈ L, e.dir = true → e.pt ∈ ds) (hlen : bl.length = n)
    (hbase : base ≤ w.heap.size) (hbb : base ≤ b) (hbB : base ≤ B) :
    Calls Tryz.prog 43 #[.pointer (some fa), .int .i64 ((j : Int) + 1), .string x, .agg #[.string p, .bool true, .string t]] w fun r W' => r = .returned (.agg #[.string p, .bool true, .string t, .int .i64 ((n : Int) + 1)]) ∧ FsIs W' fa B (bl ++ [w.heap.size + 3]) (ds ++ [e.pt]) (L ++ [e]) ∧ Below base w W' ∧ ∀ k, k < w.heap.size → k ≠ b → k ≠ B → W'.heap[k]? = w.heap[k]? := by
  obtain ⟨W0, hW0⟩ : ∃ W0, W0 = ((w.alloc (.cells #[.string p, .bool true, .string t] 40)).alloc zNode).alloc (.cells #[.string p, .bool true, .string t, .int .i64 0] 77) := ⟨_, rfl⟩
  obtain ⟨W1, hW1⟩ : ∃ W1, W1 = ((((w.alloc (.cells #[.string p, .bool true, .string t] 40)).alloc zNode).alloc (.cells #[.string p, .bool true, .string t, .int .i64 ((n : Int) + 1)] 77)).alloc (.map #[] 0)).drew := ⟨_, rfl⟩
  have hb0 : Below w.heap.size w W0 := by rw [hW0]; exact three_below w _ _ _
  have hb1 : Below w.heap.size w W1 := by rw [hW1]; exact ((three_below w _ _ _).alloc (by simp; omega) _).drew
  have h0 : FsIs W0 fa B bl ds L := h.below hb0
  have h1 : FsIs W1 fa B bl ds L := h.below hb1
  have hs1 : W1.heap.size = w.heap.size + 4 := by rw [hW1]; simp [World.drew]
  have hnew : ∃ m, W1.ownsMap Tryz.prog 9 nodeElem (w.heap.size + 3) m (.map []) ∧ m = 0 := by
    rw [hW1]
    have := World.ownsMap_made (((w.alloc (.cells #[.string p, .bool true, .string t] 40)).alloc zNode).alloc (.cells #[.string p, .bool true, .string t, .int .i64 ((n : Int) + 1)] 77)) Tryz.prog 9 nodeElem
    have hs : (((w.alloc (.cells #[.string p, .bool true, .string t] 40)).alloc zNode).alloc (.cells #[.string p, .bool true, .string t, .int .i64 ((n : Int) + 1)] 77)).heap.size = w.heap.size + 3 := by simp
    rw [hs] at this
    exact ⟨0, this.drew, rfl⟩
  have hfr : w.heap.size + 3 ∉ B :: bl := fun hmem => by
    rcases List.mem_cons.1 hmem with h2 | h2
    · have := h.lt_outer; omega
    · have := h.lt_inner h2; omega
  obtain ⟨W2, hu2, h2, hg2⟩ := h1.new_dir hnew hfr hno hds (by omega)
  rw [hlen] at hu2
  have hbl := h.lt_inner (List.mem_of_getElem? hb)
  have hjl := (List.getElem?_eq_some_iff.1 hb).1
  have hjd := (List.getElem?_eq_some_iff.1 hq).1
  obtain ⟨W3, hW3⟩ : ∃ W3, W3 = W2.drew := ⟨_, rfl⟩
  have h3 : FsIs W3 fa B (bl ++ [w.heap.size + 3]) (ds ++ [e.pt]) L := h2.of_heap (by rw [hW3]; rfl)
  have hb3 : (bl ++ [w.heap.size + 3])[j]? = some b := by rw [List.getElem?_append_left hjl]; exact hb
  obtain ⟨W4, hu4, h4, hg4⟩ := h3.put_name hnd (by rw [List.getElem?_append_left hjd]; exact hq) hb3 hx he hn hL
  have hV : nodeV (ds ++ [e.pt]) e = .agg #[.string p, .bool true, .string t, .int .i64 ((n : Int) + 1)] := by
    have hni : e.pt ∉ ds := fun hmem => by
      rw [List.nodup_append] at hnd
      exact hnd.2.2 _ hmem _ List.mem_cons_self rfl
    have : numE (ds ++ [e.pt]) e = n + 1 := by unfold numE; rw [hd, if_pos rfl, num_last hni, ← h.len, hlen]
    simp [nodeV, this, hd, hp, ht]
  rw [hV] at hu4
  have c0 := h0.cell
  have c1 := (h.below (W := (((w.alloc (.cells #[.string p, .bool true, .string t] 40)).alloc zNode).alloc (.cells #[.string p, .bool true, .string t, .int .i64 ((n : Int) + 1)] 77)).drew) ((three_below w _ _ _).drew)).cell
  have c1' := h1.cell
  have c3 := h3.cell
  have l3 := h3.look_dir hb3 (by simp; omega)
  have e2 : W1.heap[w.heap.size + 2]? = some (.cells #[.string p, .bool true, .string t, .int .i64 ((n : Int) + 1)] 77 (0, 0)) := by
    rw [hW1]
    have := heap_alloc_new ((w.alloc (.cells #[.string p, .bool true, .string t] 40)).alloc zNode) (.cells #[.string p, .bool true, .string t, .int .i64 ((n : Int) + 1)] 77)
    rw [World.size_alloc, World.size_alloc] at this
    exact (Lib.alloc_old _ _ _ (by simp)).trans this
  have e1 : W1.heap[w.heap.size + 1]? = some (.cells #[.string ⟨#[]⟩, .bool false, .string ⟨#[]⟩, .int .i64 0] 77 (0, 0)) := by
    rw [hW1]
    have := heap_alloc_new (w.alloc (.cells #[.string p, .bool true, .string t] 40)) zNode
    rw [World.size_alloc] at this
    exact (Lib.alloc_old _ _ _ (by simp)).trans ((Lib.alloc_old _ _ _ (by simp)).trans this)
  have hBw := h.lt_outer
  have s2 := hg2.size
  have k2 := (hg2.block (w.heap.size + 2) (by omega) (fun e3 => by have := Option.some.inj e3; omega)).trans e2
  have k1 := (hg2.block (w.heap.size + 1) (by omega) (fun e3 => by have := Option.some.inj e3; omega)).trans e1
  have m2 : W3.heap[w.heap.size + 2]? = some (.cells #[.string p, .bool true, .string t, .int .i64 ((n : Int) + 1)] 77 (0, 0)) := by rw [hW3]; exact k2
  have m1 : W3.heap[w.heap.size + 1]? = some (.cells #[.string ⟨#[]⟩, .bool false, .string ⟨#[]⟩, .int .i64 0] 77 (0, 0)) := by rw [hW3]; exact k1
  have s3 : W3.heap.size = W2.heap.size := by rw [hW3]; rfl
  have g2 := (hg4.block (w.heap.size + 2) (by omega) (fun e3 => by have := Option.some.inj e3; omega)).trans m2
  have g1 := (hg4.block (w.heap.size + 1) (by omega) (fun e3 => by have := Option.some.inj e3; omega)).trans m1
  have n0 : W3.cell? ⟨w.heap.size + 2, 0, none⟩ = some (.string p) := by rw [Lib.cell_of_heap m2]; rfl
  have n1 : W3.cell? ⟨w.heap.size + 2, 1, none⟩ = some (.bool true) := by rw [Lib.cell_of_heap m2]; rfl
  have n2 : W3.cell? ⟨w.heap.size + 2, 2, none⟩ = some (.string t) := by rw [Lib.cell_of_heap m2]; rfl
  have n3 : W3.cell? ⟨w.heap.size + 2, 3, none⟩ = some (.int .i64 ((n : Int) + 1)) := by rw [Lib.cell_of_heap m2]; rfl
  have d0 : W4.cell? ⟨w.heap.size + 2, 0, none⟩ = some (.string p) := by rw [Lib.cell_of_heap g2]; rfl
  have d1 : W4.cell? ⟨w.heap.size + 2, 1, none⟩ = some (.bool true) := by rw [Lib.cell_of_heap g2]; rfl
  have d2 : W4.cell? ⟨w.heap.size + 2, 2, none⟩ = some (.string t) := by rw [Lib.cell_of_heap g2]; rfl
  have d3 : W4.cell? ⟨w.heap.size + 2, 3, none⟩ = some (.int .i64 ((n : Int) + 1)) := by rw [Lib.cell_of_heap g2]; rfl
  have k0 : W4.cell? ⟨w.heap.size + 1, 0, none⟩ = some (.string ⟨#[]⟩) := by rw [Lib.cell_of_heap g1]; rfl
  have k1 : W4.cell? ⟨w.heap.size + 1, 1, none⟩ = some (.bool false) := by rw [Lib.cell_of_heap g1]; rfl
  have k2 : W4.cell? ⟨w.heap.size + 1, 2, none⟩ = some (.string ⟨#[]⟩) := by rw [Lib.cell_of_heap g1]; rfl
  have k3 : W4.cell? ⟨w.heap.size + 1, 3, none⟩ = some (.int .i64 0) := by rw [Lib.cell_of_heap g1]; rfl
  have f0 : W4.frozen? ⟨w.heap.size + 1, 0, none⟩ = false := Lib.frozen_of_heap g1 0
  have f1 : W4.frozen? ⟨w.heap.size + 1, 1, none⟩ = false := Lib.frozen_of_heap g1 1
  have f2 : W4.frozen? ⟨w.heap.size + 1, 2, none⟩ = false := Lib.frozen_of_heap g1 2
  have f3 : W4.frozen? ⟨w.heap.size + 1, 3, none⟩ = false := Lib.frozen_of_heap g1 3
  have HB : Hid (Below base w W4) := by
    have hB2 : Below base w W2 := (hb1.mono hbase).grown hg2 (by omega) (fun k e3 => by rw [← Option.some.inj e3]; exact hbB)
    have hB3 : Below base w W3 := by rw [hW3]; exact hB2.drew
    exact hB3.grown hg4 (by omega) (fun k e3 => by rw [← Option.some.inj e3]; exact hbb)
  have HF : Hid (FsIs W4 fa B (bl ++ [w.heap.size + 3]) (ds ++ [e.pt]) (L ++ [e])) := h4
  have HK : Hid (∀ k, k < w.heap.size → k ≠ b → k ≠ B → W4.heap[k]? = w.heap[k]?) := fun k hk hkb hkB => by
    have e5 : W3.heap[k]? = W2.heap[k]? := by rw [hW3]; rfl
    exact (hg4.block k (by omega) (fun e3 => hkb (Option.some.inj e3))).trans (e5.trans ((hg2.block k (by omega) (fun e3 => hkB (Option.some.inj e3))).trans (hb1.block k hk)))
  have HN : Hid (w.heap.size + 1 ≠ fa.block ∧ w.heap.size + 1 ≠ B ∧ ∀ b ∈ bl ++ [w.heap.size + 3], w.heap.size + 1 ≠ b) := ⟨by have := h.lt; omega, by omega, fun b' hb' => by
    rcases List.mem_append.1 hb' with h5 | h5
    · have := h.lt_inner h5; omega
    · rw [List.mem_singleton.1 h5]; omega⟩
  have HL := Lib.hid h0
  have hmm := @run_makeMap Tryz.prog
  have q1 : IntKind.i64.wrap (1 + (n : Int)) = (n : Int) + 1 := by rw [show (1 + (n : Int)) = (n : Int) + 1 by omega]; exact IntWalk.i64_in _ (by omega)
  clear h hq hb he hn hL hd hp ht h0 h1 h2 h3 h4 hg2 hg4 e1 e2 g1 g2 hV hbb hbB hb0 hb1 hb3 hnd hno hds hnew hfr m1 m2 s2 s3 hs1 hm
  rw [hW0] at c0 HL
  rw [hW1] at c1' hu2
  rw [show w.heap.size + 3 = w.heap.size + 1 + 1 + 1 from rfl] at hu2
  rw [hW3] at c3 l3 hu4 n0 n1 n2 n3
  clear hW0 hW1 hW3
  go_enter Tryz.func43, Tryz.ntmps43
  go_wp2_with (at_len; refine wpList_len_fs rfl _ rfl rfl HL.out ?_; rw [hlen])
  go_region
  go_wp2
  go_region
  go_wp2
  exact bodyPost_ret (v := .agg #[.string p, .bool true, .string t, .int .i64 ((n : Int) + 1)]) (by simp [results, Tryz.results43, go_sem, k0, k1, k2, k3]) rfl
    ⟨rfl, (((HF.out.setCell _ _ HN.out.1 HN.out.2.1 HN.out.2.2).setCell _ _ HN.out.1 HN.out.2.1 HN.out.2.2).setCell _ _ HN.out.1 HN.out.2.1 HN.out.2.2).setCell _ _ HN.out.1 HN.out.2.1 HN.out.2.2,
     (((HB.out.setCell (p := ⟨_, _, none⟩) (by show base ≤ w.heap.size + 1; omega) _).setCell (p := ⟨_, _, none⟩) (by show base ≤ w.heap.size + 1; omega) _).setCell (p := ⟨_, _, none⟩) (by show base ≤ w.heap.size + 1; omega) _).setCell (p := ⟨_, _, none⟩) (by show base ≤ w.heap.size + 1; omega) _,
     fun k hk hkb hkB => by rw [setCell_heap _ _ _ _ (by show k ≠ w.heap.size + 1; omega), setCell_heap _ _ _ _ (by show k ≠ w.heap.size + 1; omega), setCell_heap _ _ _ _ (by show k ≠ w.heap.size + 1; omega), setCell_heap _ _ _ _ (by show k ≠ w.heap.size + 1; omega)]; exact HK.out k hk hkb hkB⟩

theorem add_is (w : World) (fa : Addr) (B base : Nat) (x p t : ByteArray) (bl : List Nat) (L : List Ent) (q : Wy) (e : Ent) (d : Int)
    (h : FsIs w fa B bl (dl L) L) (hi : Inv L) (hd : IsDir L q) (hnum : d = (num (dl L) q : Nat)) (he : e.pt = q ++ [x.data.toList]) (hn : at_ L e.pt = none) (hx : x.size ≤ 3000000) (hL : L.length ≤ 900000000) (hp : pathB e.pt = p) (ht : e.text = t)
    (hbase : base ≤ w.heap.size) (hbB : base ≤ B) (hbb : ∀ b ∈ bl, base ≤ b) :
    Calls Tryz.prog 43 #[.pointer (some fa), .int .i64 d, .string x, .agg #[.string p, .bool e.dir, .string t]] w fun r W' => r = .returned (nodeV (dl (L ++ [e])) e) ∧ ∃ bl', FsIs W' fa B bl' (dl (L ++ [e])) (L ++ [e]) ∧ (∀ b ∈ bl', base ≤ b ∧ (b ∈ bl ∨ w.heap.size ≤ b)) ∧ Below base w W' ∧ ∀ k, k < w.heap.size → k ≠ B → k ∉ bl → W'.heap[k]? = w.heap[k]? := by
  obtain ⟨j, hj1, hj2, hj3⟩ := num_at (hi.isDir.2 hd)
  have hjb : j < bl.length := by rw [h.len]; exact hj2
  have hb : bl[j]? = some bl[j] := List.getElem?_eq_getElem hjb
  have hbm : bl[j] ∈ bl := List.getElem_mem hjb
  have hml : (maxLen : Nat) = 9223372036854775807 := by unfold maxLen; rfl
  have hlen : bl.length ≤ 1000000000 := by rw [h.len]; have := dl_len L; omega
  obtain rfl : d = (j : Int) + 1 := by rw [hnum, hj1]; omega
  cases hdir : e.dir with
  | false =>
    refine (add_file w fa B bl[j] j base x p t bl (dl L) L q e h hi.dl_nodup hj3 hb hlen (by omega) he hn (by omega) hdir hp ht hbase (hbb _ hbm)).mono ?_
    rintro r W' ⟨rfl, hF, hB, hK⟩
    rw [dl_file hdir]
    refine ⟨?_, bl, hF, fun b hb' => ⟨hbb b hb', .inl hb'⟩, hB, fun k hk _ hk2 => hK k hk (fun e1 => hk2 (e1 ▸ hbm))⟩
    simp [nodeV, numE, hdir, hp, ht]
  | true =>
    have hni : e.pt ∉ dl L := fun hm => by
      rcases mem_dl.1 hm with h0 | ⟨a, ha, _, hap⟩
      · rw [he] at h0; simp at h0
      · exact at_none.1 hn a ha hap
    have hnd : (dl L ++ [e.pt]).Nodup := by
      rw [List.nodup_append]
      exact ⟨hi.dl_nodup, by simp, fun a ha c hc e1 => hni (by rw [← List.mem_singleton.1 hc, ← e1]; exact ha)⟩
    have hno : ∀ y, at_ L (e.pt ++ [y]) = none := fun y => by
      cases hc : at_ L (e.pt ++ [y]) with
      | none => rfl
      | some a =>
        obtain ⟨a', ha', _⟩ := hi.pre hc (by rw [he]; simp) (by simp)
        rw [hn] at ha'; cases ha'
    refine (add_dir w fa B bl[j] j bl.length base x p t bl (dl L) L q e h hnd hj3 hb hlen (by omega) he hn (by omega) hdir hp ht hno (fun a ha had => mem_dl.2 (.inr ⟨a, ha, had, rfl⟩)) rfl hbase (hbb _ hbm) hbB).mono ?_
    rintro r W' ⟨rfl, hF, hB, hK⟩
    rw [dl_dir hdir]
    refine ⟨?_, bl ++ [w.heap.size + 3], hF, fun b hb' => ?_, hB, fun k hk hkB hk2 => hK k hk (fun e1 => hk2 (e1 ▸ hbm)) hkB⟩
    · have : numE (dl L ++ [e.pt]) e = bl.length + 1 := by unfold numE; rw [hdir, if_pos rfl, num_last hni, ← h.len]
      simp [nodeV, this, hdir, hp, ht]
    · rcases List.mem_append.1 hb' with h5 | h5
      · exact ⟨hbb b h5, .inl h5⟩
      · rw [List.mem_singleton.1 h5]; exact ⟨by omega, .inr (by omega)⟩

end Go.Proofs.YtgfpdaaofhanoaaGreatDoor.Vadd
