/- The program's row: the bytes that wait become a text. -/
import Derived.Test.YtmcdefkpkpaceaaGreatDoorUputJ
namespace Go.Proofs.YtmcdefkpkpaceaaGreatDoor.Uset
open Go.RowKit Go.Proofs.YtmcdefkpkpaceaaGreatDoor.Spl Go.Proofs.YtmcdefkpkpaceaaGreatDoor.Nodm Go.Proofs.YtmcdefkpkpaceaaGreatDoor.Unod Go.Proofs.YtmcdefkpkpaceaaGreatDoor.Urow Go.Proofs.YtmcdefkpkpaceaaGreatDoor.Ubld Go.Proofs.YtmcdefkpkpaceaaGreatDoor.Uall Go.Proofs.YtmcdefkpkpaceaaGreatDoor.Uput
open Go.Proofs.YtmcdefkpkpaceaaGreatDoor.Pure (bs)

/-- what settle promises -/
def Settled (X : Nat → Prop) (B b H : Nat) (acc : List Nod) (cur : T) (w W : World) : Prop := ∃ u', RowAt X B b W.heap.size u' (flushP acc cur) [] W ∧ Below B w W ∧ Stay H w W ∧ (∀ k, u'.ownBlock = some k → k < H ∨ w.heap.size ≤ k)
/-- the world behind the append -/
structure Mid (B gv g : Nat) (u : Value) (w w5 : World) : Prop where
  same : ∀ k, k < w.heap.size → u.ownBlock ≠ some k → k ≠ gv → w5.heap[k]? = w.heap[k]?
  size : w.heap.size ≤ w5.heap.size
  below : Below B w w5
  at_ : u.ownBlock = some g ∨ w.heap.size ≤ g
theorem Mid.one {B gv g H0 : Nat} {u : Value} {w w' w5 : World} {o : Obj} (hBv : B ≤ gv) (hB : B ≤ w.heap.size) (hu : ∀ k, u.ownBlock = some k → B ≤ k ∧ k < w.heap.size) (hf : Far gv w.drew w') (hg : (w'.alloc o).grownBy w5 u.ownBlock) (hat : u.ownBlock = some g ∨ g = H0) (h0 : H0 = w'.heap.size + 1) : Mid B gv g u w w5 := by
  have h1 := hf.size
  have h2 := hg.size
  rw [World.size_alloc] at h2
  have hd : w.drew.heap.size = w.heap.size := rfl
  refine ⟨fun k hk hn hv => ?_, by omega, ?_, hat.imp id fun h => by omega⟩
  · exact (hg.block k (by rw [World.size_alloc]; omega) (fun e => hn e.symm)).trans ((Lib.alloc_old w' o k (by omega)).trans (hf.block k (by omega) hv))
  · exact (((Below.refl B w).drew.trans (hf.below hBv (by omega))).alloc (by omega) _).grown hg (by rw [World.size_alloc]; omega) (fun k e => (hu k e).1)
theorem Mid.two {B gv g H0 : Nat} {u : Value} {w w' w5 : World} {o : Obj} (hBv : B ≤ gv) (hB : B ≤ w.heap.size) (hu : ∀ k, u.ownBlock = some k → B ≤ k ∧ k < w.heap.size) (hf : Far gv (w.drew.alloc o) w') (hg : w'.grownBy w5 u.ownBlock) (hat : u.ownBlock = some g ∨ g = H0) (h0 : H0 = w'.heap.size) : Mid B gv g u w w5 := by
  have h1 := hf.size
  have h2 := hg.size
  rw [World.size_alloc] at h1
  have hd : w.drew.heap.size = w.heap.size := rfl
  refine ⟨fun k hk hn hv => ?_, by omega, ?_, hat.imp id fun h => by omega⟩
  · exact (hg.block k (by omega) (fun e => hn e.symm)).trans ((hf.block k (by rw [World.size_alloc]; omega) hv).trans (Lib.alloc_old w.drew o k hk))
  · exact (((Below.refl B w).drew.alloc (by omega) o).trans (hf.below hBv (by rw [World.size_alloc]; omega))).grown hg (by omega) (fun k e => (hu k e).1)

theorem zero_far {gv : Nat} {w wS : World} (hf : Far gv (w.drew.alloc (.cells #[.int .i64 0, .string ⟨#[]⟩, .slice none 0 0] 25)) wS) (hgv : gv < w.heap.size) : ∀ (j : Nat) u, ([.int .i64 0, .string ⟨#[]⟩, .slice none 0 0] : List Value)[j]? = some u → wS.cell? ((⟨w.heap.size, 0, none⟩ : Addr).add j) = some u := fun j u hu => by
  have h := zero_new w.drew j u hu
  rw [addr_add] at h ⊢
  exact (World.cell?_of_block (a := ⟨w.heap.size, 0 + j, none⟩) (hf.block w.heap.size (by rw [World.size_alloc]; exact Nat.lt_succ_self _) (by omega))).trans h

set_option maxRecDepth 100000 in
set_option maxHeartbeats 2000000 in
theorem settle_is (X : Nat → Prop) (B b H : Nat) (u : Value) (acc : List Nod) (cur : T) (w : World) (h : RowAt X B b H u acc cur w) (hl : acc.length ≤ 1000000) :
    Calls Tryz.prog 65 #[.pointer (some ⟨b, 0, none⟩)] w fun e W' => e = .returned (.tuple #[]) ∧ Settled X B b H acc cur w W' := by
  obtain ⟨i0, hi, hz0, hz1, hz2⟩ := info_parts infoNode
  have hBb := h.at_
  have hHz := h.hz
  have hbH := h.lt
  have hBw : B ≤ w.heap.size := by omega
  have HR := Lib.hid h
  have HUH := Lib.hid h.uH
  obtain ⟨p, v, vs, hg, hp, hu, hvl, hvn, hv, hvH⟩ := h.st
  clear h
  cases cur with
  | nil =>
    obtain ⟨A, c, rfl⟩ : ∃ A c, v = .slice A 0 c := by
      rcases hv.2 with ⟨hv, h0⟩ | ⟨g, cap, cur, hv, _⟩
      · exact ⟨none, 0, hv⟩
      · exact ⟨_, _, hv⟩
    have HL := Lib.hid (fun W (h : W.heap[b]? = _) => len_is b u p A 0 c W h)
    have HG := Lib.hid hg
    clear hp hu hvl hvn hv hvH hg
    go_enter Tryz.func65, Tryz.ntmps65
    go_wp2_with (go_at_call 76; refine (HL.out _ HG.out).mono ?_; rintro e W' ⟨rfl, rfl⟩)
    go_end0
    exact ⟨rfl, u, HR.out.up hHz (Nat.le_refl _), Below.refl _ _, fun _ _ _ => rfl, fun k e => .inl (HUH.out k e)⟩
  | cons c0 r0 =>
    obtain ⟨cur, hcur⟩ : ∃ cur, cur = c0 :: r0 := ⟨_, rfl⟩
    have hne : cur ≠ [] := by rw [hcur]; exact List.cons_ne_nil _ _
    rw [← hcur] at hv ⊢
    have hfl : flushP acc cur = acc ++ [.mk 1 cur []] := by rw [hcur]; rfl
    have hcl : (0 : Int) < (cur.length : Int) := by have := List.length_pos_iff.2 hne; omega
    clear hcur HR
    obtain ⟨gv, cv, rfl⟩ : ∃ gv cv, v = .slice (some ⟨gv, 0, none⟩) cur.length cv := by
      rcases hv.2 with ⟨_, h0⟩ | ⟨g, cap, cu, hv, _⟩
      · omega
      · exact ⟨_, _, hv⟩
    have hBv : B ≤ gv := (hv.lt gv rfl).1
    have hvg : gv < H := hvH gv rfl
    have hgb : b ≠ gv := fun e => own_ne hv hg (by decide) (by rw [e]; rfl)
    obtain ⟨Au, cu, rfl⟩ : ∃ Au cu, u = .slice Au acc.length cu := by
      rcases hu.2 with ⟨hv, h0⟩ | ⟨g, cap, cur, hv, _⟩
      · exact ⟨none, 0, by rw [hv, h0]⟩
      · exact ⟨_, _, hv⟩
    obtain ⟨q, hq⟩ : ∃ q, q = acc.length := ⟨_, rfl⟩
    rw [← hq] at hu hg hl hvn HUH hvl
    have hugv : (Value.slice Au q cu).ownBlock ≠ some gv := by
      rcases hv.2 with ⟨h1, _⟩ | ⟨g', cap', cu', h1, h2, h3, _⟩
      · cases h1
      · simp only [Value.slice.injEq, Option.some.injEq, Addr.mk.injEq, and_true, true_and] at h1
        obtain ⟨rfl, rfl⟩ := h1
        exact own_ne hu h3 (by decide)
    have HL := Lib.hid (fun W (h : W.heap[b]? = _) => len_is b (.slice Au q cu) p (some ⟨gv, 0, none⟩) cur.length cv W h)
    have HS : Hid (∀ W, Below w.heap.size w W → Calls Tryz.prog 16 #[.pointer (some ⟨b, 1, none⟩)] W fun e W' => e = .returned (.string (bs cur)) ∧ Far gv W W' ∧ W'.heap[b]? = some (.cells #[.slice Au q cu, p, .slice (some ⟨gv, 0, none⟩) cur.length cv] 114) ∧ W'.ownsRow B 25 3 (.slice Au q cu) q (cells3 vs)) := fun W hW => by
      have e1 := (hW.block b (heap_lt hg)).trans hg
      refine (text_is B b gv cv (.slice Au q cu) p cur W e1 (Uargs.own_on hv hW) hne).mono fun e W' ⟨h1, h2⟩ => ⟨h1, h2, ?_, ?_⟩
      · exact (h2.block b (by have := hW.size; omega) hgb).trans e1
      · exact own_same (Uargs.own_on hu hW) fun k cs fr hk => h2.block k (heap_lt hk) fun e => by
          subst e
          have hkk := (hv.2.resolve_left (fun h => by have := h.2; omega))
          obtain ⟨g', cap', cu', h3, _, h4, _⟩ := hkk
          simp only [Value.slice.injEq, Option.some.injEq, Addr.mk.injEq, and_true, true_and] at h3
          obtain ⟨rfl, rfl⟩ := h3
          rw [(hW.block _ (heap_lt h4)).trans h4] at hk
          simp only [Option.some.injEq, Obj.cells.injEq] at hk
          exact absurd hk.2.1 (by decide)
    have HPE : Hid (∀ g cap w5, w5.ownsRow B 25 3 (.slice (some ⟨g, 0, none⟩) (q + 1) cap) (q + 1) (cells3 vs ++ [.int .i64 0, .string ⟨#[]⟩, .slice none 0 0]) → Mid B gv g (.slice Au q cu) w w5 → ∀ W, (W = (((w5.setCell ⟨g, q * 3, none⟩ (.int .i64 1)).setCell ⟨g, q * 3 + 1, none⟩ (.string (bs cur))).setCell ⟨g, q * 3 + 2, none⟩ (.slice none 0 0)).setCell ⟨b, 0, none⟩ (.slice (some ⟨g, 0, none⟩) (q + 1) cap) ∨ W = (((w5.setCell ⟨b, 0, none⟩ (.slice (some ⟨g, 0, none⟩) (q + 1) cap)).setCell ⟨g, q * 3, none⟩ (.int .i64 1)).setCell ⟨g, q * 3 + 1, none⟩ (.string (bs cur))).setCell ⟨g, q * 3 + 2, none⟩ (.slice none 0 0)) → W.heap[b]? = some (.cells #[.slice (some ⟨g, 0, none⟩) (q + 1) cap, p, .slice (some ⟨gv, 0, none⟩) cur.length cv] 114) ∧ ∀ W', W'.heap[b]? = some (.cells #[.slice (some ⟨g, 0, none⟩) (q + 1) cap, .pointer none, .slice none 0 0] 114) → Far b W W' → Settled X B b H acc cur w W') := fun g cap w5 hown5 hm W hW => by
      have hBg : B ≤ g := by
        rcases hm.at_ with h | h
        · exact (hu.lt g h).1
        · omega
      have hvt : ∀ (k : Nat) (cs : Array Value) (t : TypeId) (fr : Nat × Nat), w.heap[k]? = some (.cells cs t fr) → t ≠ 5 → k ≠ gv := fun k cs t fr hk ht e => by
        obtain ⟨g', cap', cu', h3, _, h4, _⟩ := hv.2.resolve_left (fun h => by have := h.2; omega)
        simp only [Value.slice.injEq, Option.some.injEq, Addr.mk.injEq, and_true, true_and] at h3
        obtain ⟨rfl, rfl⟩ := h3
        rw [e, h4] at hk
        simp only [Option.some.injEq, Obj.cells.injEq] at hk
        exact ht hk.2.1.symm
      have hP := pushed (g := g) (cap := cap) (w := w) (w5 := w5) (W := W) hBb hBg hg hu hvl hq.symm hvn (fun k cs t fr hk ht hne => hm.same k (heap_lt hk) hne (hvt k cs t fr hk ht)) hm.at_ hm.size hown5 (NodeIn.leaf _ w 1 cur none 0) hW
      refine ⟨hP.cell, fun W' hb' hf' => ?_⟩
      obtain ⟨vs', ho', hl', hn'⟩ := hP.own
      have hsz := hP.size
      have hsz' := hf'.size
      have hsz5 := hm.size
      have hgl : g < W.heap.size := (ho'.lt g rfl).2
      have hNo : ∀ (k : Nat) (cs : Array Value) (fr : Nat × Nat), W.heap[k]? = some (.cells cs 25 fr) → W'.heap[k]? = W.heap[k]? := fun k cs fr hk => hf'.block k (heap_lt hk) fun e => by
        rw [e, hP.cell] at hk
        simp only [Option.some.injEq, Obj.cells.injEq] at hk
        exact absurd hk.2.1 (by decide)
      refine ⟨.slice (some ⟨g, 0, none⟩) (q + 1) cap, ⟨hBb, heap_lt hb', Nat.le_refl _, fun k e => by rw [← own_at e]; omega, .pointer none, .slice none 0 0, vs', hb', .inl rfl, ?_, by rw [hfl]; exact hl', ?_, World.ownsRow_nil _ _ _ _, fun k e => by cases e⟩, ?_, fun k h1 h2 => ?_, fun k e => ?_⟩
      · rw [hfl]; exact own_same ho' hNo
      · rw [hfl]; exact nodes_same hn' hNo hsz'
      · exact (hm.below.trans hP.below).trans (hf'.below hBb (by omega))
      · have hkg : k ≠ g := fun e => by
          rcases hm.at_ with h | h
          · have := HUH.out g h; omega
          · omega
        exact (hf'.block k (by omega) (by omega)).trans ((hP.far k (by omega) hkg).trans (hm.same k h2 (fun e => by have := HUH.out k e; omega) (by omega)))
      · rw [← own_at e]
        exact hm.at_.imp (fun h => HUH.out g h) id
    have HRs : Hid (∀ g cap W, W.heap[b]? = some (.cells #[.slice (some ⟨g, 0, none⟩) (q + 1) cap, p, .slice (some ⟨gv, 0, none⟩) cur.length cv] 114) → Calls Tryz.prog 77 #[.pointer (some ⟨b, 1, none⟩)] W fun e W' => e = .returned (.tuple #[]) ∧ W'.heap[b]? = some (.cells #[.slice (some ⟨g, 0, none⟩) (q + 1) cap, .pointer none, .slice none 0 0] 114) ∧ Far b W W') := fun g cap W h => reset_is b _ p _ W h
    obtain ⟨k0, k1, k2⟩ := cells_at hg
    have hblt := heap_lt hg
    have y0 : (w.drew.alloc (.cells #[.int .i64 0, .string ⟨#[]⟩, .slice none 0 0] 25)).cell? ⟨b, 0, none⟩ = some (.slice Au q cu) := (cells_at ((Lib.alloc_old w.drew _ b hblt).trans hg)).1
    have HG := Lib.hid hg
    have HU := Lib.hid hu
    have HULt : Hid (∀ k, (Value.slice Au q cu).ownBlock = some k → B ≤ k ∧ k < w.heap.size) := fun k e => hu.lt k e
    have HVl := Lib.hid hvl
    have HNe := Lib.hid hugv
    have hq1 : ((q : Nat) : Int) < ((q : Nat) : Int) + 1 := by omega
    have HZn := Lib.hid (zero_new w.drew)
    have hb1 : Below w.heap.size w w.drew := (Below.refl _ _).drew
    have hb2 : Below w.heap.size w (w.drew.alloc (.cells #[.int .i64 0, .string ⟨#[]⟩, .slice none 0 0] 25)) := hb1.alloc (Nat.le_refl _) _
    have HB1 := Lib.hid hb1
    have HB2 := Lib.hid hb2
    clear hp hu hvl hvn hv hvH hg hfl hq hugv hb1 hb2
    go_enter Tryz.func65, Tryz.ntmps65
    go_upto_region 1 with (go_at_call 76; refine (HL.out _ HG.out).mono ?_; rintro e W' ⟨rfl, hh⟩; have hh2 := hh.symm; clear hh; subst hh2)
    go_region_law (first | (refine step_append_lies _ rfl _ _ 23 rfl B 25 i0 (.agg #[.int .i64 0, .string .empty, .slice none 0 0]) 3 48 Tryz.underlying23 hi hz0 hz1 hz2 rfl (by decide) (.slice Au q cu) q (cells3 vs) (by first | rfl | simp [Act.eval, Act.put]) (HOs.out.alloc _) ⟨wS.heap.size, 0, none⟩ 1 1 [.int .i64 0, .string ⟨#[]⟩, .slice none 0 0] (by first | rfl | simp [Act.eval, Act.put]) rfl (zero_new wS) (by simp [Value.oneCell']) (by decide) (by unfold maxLen; omega) (by omega) (by simp; omega) (wS.heap.size + 1) (World.size_alloc ..) ?_; intro g cap w5 hown5 hgrow5 hat5 hlt5; have hm : Mid B gv g (.slice Au q cu) w w5 := Mid.one hBv hBw HULt.out HFs.out hgrow5 hat5 rfl; have hb5 : w5.heap[b]? = _ := (hm.same b hblt (own_ne HU.out HG.out (by decide)) hgb).trans HG.out; obtain ⟨z0, z1, z2⟩ := cells_at hb5; have t0 : w5.frozen? ⟨b, 0, none⟩ = false := Lib.frozen_of_heap hb5 0; have r1 := (hown5.cellAt (q * 3) (by omega)).trans (last3 HVl.out _ _ _).1; have r2 := (hown5.cellAt (q * 3 + 1) (by omega)).trans (last3 HVl.out _ _ _).2.1; have r3 := (hown5.cellAt (q * 3 + 2) (by omega)).trans (last3 HVl.out _ _ _).2.2; have t1 := hown5.frozenAt (q * 3); have t2 := hown5.frozenAt (q * 3 + 1); have t3 := hown5.frozenAt (q * 3 + 2); have hgb2 : b ≠ g := (fun e => own_ne hown5 hb5 (by decide) (by rw [e]; rfl)); have s0 := (cell_other5 w5 g b (q * 3) (q * 3 + 1) (q * 3 + 2) 0 (.int .i64 1) (.string (bs cur)) (.slice none 0 0) hgb2).trans z0; have s1 := (cell_other1 w5 b g 0 (q * 3) (.slice (some ⟨g, 0, none⟩) (q + 1) cap) hgb2.symm).trans r1; have s2 := (cell_other1 w5 b g 0 (q * 3 + 1) (.slice (some ⟨g, 0, none⟩) (q + 1) cap) hgb2.symm).trans r2; have s3 := (cell_other1 w5 b g 0 (q * 3 + 2) (.slice (some ⟨g, 0, none⟩) (q + 1) cap) hgb2.symm).trans r3; have HFin := Lib.hid (HPE.out g cap w5 hown5 hm); clear hown5 hgrow5 hat5 hb5 hm) | (refine step_append_lies _ rfl _ _ 23 rfl B 25 i0 (.agg #[.int .i64 0, .string .empty, .slice none 0 0]) 3 48 Tryz.underlying23 hi hz0 hz1 hz2 rfl (by decide) (.slice Au q cu) q (cells3 vs) (by first | rfl | simp [Act.eval, Act.put]) HOs.out ⟨w.heap.size, 0, none⟩ 1 1 [.int .i64 0, .string ⟨#[]⟩, .slice none 0 0] (by first | rfl | simp [Act.eval, Act.put]) rfl (zero_far HFs.out (by omega)) (by simp [Value.oneCell']) (by decide) (by unfold maxLen; omega) (by omega) (by omega) wS.heap.size rfl ?_; intro g cap w5 hown5 hgrow5 hat5 hlt5; have hm : Mid B gv g (.slice Au q cu) w w5 := Mid.two hBv hBw HULt.out HFs.out hgrow5 hat5 rfl; have hb5 : w5.heap[b]? = _ := (hm.same b hblt (own_ne HU.out HG.out (by decide)) hgb).trans HG.out; obtain ⟨z0, z1, z2⟩ := cells_at hb5; have t0 : w5.frozen? ⟨b, 0, none⟩ = false := Lib.frozen_of_heap hb5 0; have r1 := (hown5.cellAt (q * 3) (by omega)).trans (last3 HVl.out _ _ _).1; have r2 := (hown5.cellAt (q * 3 + 1) (by omega)).trans (last3 HVl.out _ _ _).2.1; have r3 := (hown5.cellAt (q * 3 + 2) (by omega)).trans (last3 HVl.out _ _ _).2.2; have t1 := hown5.frozenAt (q * 3); have t2 := hown5.frozenAt (q * 3 + 1); have t3 := hown5.frozenAt (q * 3 + 2); have hgb2 : b ≠ g := (fun e => own_ne hown5 hb5 (by decide) (by rw [e]; rfl)); have s0 := (cell_other5 w5 g b (q * 3) (q * 3 + 1) (q * 3 + 2) 0 (.int .i64 1) (.string (bs cur)) (.slice none 0 0) hgb2).trans z0; have s1 := (cell_other1 w5 b g 0 (q * 3) (.slice (some ⟨g, 0, none⟩) (q + 1) cap) hgb2.symm).trans r1; have s2 := (cell_other1 w5 b g 0 (q * 3 + 1) (.slice (some ⟨g, 0, none⟩) (q + 1) cap) hgb2.symm).trans r2; have s3 := (cell_other1 w5 b g 0 (q * 3 + 2) (.slice (some ⟨g, 0, none⟩) (q + 1) cap) hgb2.symm).trans r3; have HFin := Lib.hid (HPE.out g cap w5 hown5 hm); clear hown5 hgrow5 hat5 hb5 hm) | (go_simp; go_at_call 16; refine (HS.out _ (by first | exact HB1.out | exact HB2.out)).mono ?_; rintro e wS ⟨rfl, hf, hbS, hoS⟩; (first | (have hf2 : Far gv w.drew wS := hf; have hzs : w.heap.size ≤ wS.heap.size := hf2.size) | (have hf2 : Far gv (w.drew.alloc (.cells #[.int .i64 0, .string ⟨#[]⟩, .slice none 0 0] 25)) wS := hf; have hzs : w.heap.size ≤ wS.heap.size := (by have := hf2.size; rw [World.size_alloc] at this; exact Nat.le_of_succ_le this))); have hsl : b < wS.heap.size := heap_lt hbS; obtain ⟨m0, m1, m2⟩ := cells_at hbS; have m3 : (wS.alloc (.cells #[.int .i64 0, .string ⟨#[]⟩, .slice none 0 0] 25)).cell? ⟨b, 0, none⟩ = some (.slice Au q cu) := (cells_at ((Lib.alloc_old wS _ b hsl).trans hbS)).1; have HFs := Lib.hid hf2; have HOs := Lib.hid hoS; clear hf hf2 hbS hoS))
    all_goals go_wp2_with (go_at_call 77; refine (HRs.out g cap _ (HFin.out _ (by first | (left; with_reducible rfl) | (right; with_reducible rfl))).1).mono ?_; rintro e W' ⟨rfl, hb', hf'⟩; have HE := Lib.hid ((HFin.out _ (by first | (left; with_reducible rfl) | (right; with_reducible rfl))).2 W' hb' hf'); clear hb' hf')
    all_goals go_end0
    all_goals exact ⟨rfl, HE.out⟩

end Go.Proofs.YtmcdefkpkpaceaaGreatDoor.Uset
