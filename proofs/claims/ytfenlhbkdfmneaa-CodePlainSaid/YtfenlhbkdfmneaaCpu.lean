/- The program's instruction put behind a block's. -/
import Derived.Deep.RegionLaw
import Derived.Test.YtfenlhbkdfmneaaCnm
namespace Go.Proofs.Ytfenlhbkdfmneaa.Cpu
open Go Go.RowKit Go.Proofs.Ytfenlhbkdfmneaa.Spl Go.Proofs.Ytfenlhbkdfmneaa.Cpl Go.Proofs.Ytfenlhbkdfmneaa.Cin Go.Proofs.Ytfenlhbkdfmneaa.Cops Go.Proofs.Ytfenlhbkdfmneaa.Cmc Go.Proofs.Ytfenlhbkdfmneaa.Cmm Go.Proofs.Ytfenlhbkdfmneaa.Cnm
open Go.Proofs.Ytfenlhbkdfmneaa.Pure (bs)

theorem infoOp : (Try.prog.info? 44).map (fun i => (i.zero, i.size, i.bytes)) = some (some (.agg #[.int .i64 0, .int .i64 0, .string .empty, .slice none 0 0]), 4, 56) := by kernel_rfl
theorem cells_four {W : World} {H : Nat} {x y z u : Value} {ty : TypeId} (h : W.heap[H]? = some (.cells #[x, y, z, u] ty)) : W.cell? ⟨H, 0, none⟩ = some x ∧ W.cell? ⟨H, 1, none⟩ = some y ∧ W.cell? ⟨H, 2, none⟩ = some z ∧ W.cell? ⟨H, 3, none⟩ = some u :=
  ⟨by rw [Lib.cell_of_heap h]; rfl, by rw [Lib.cell_of_heap h]; rfl, by rw [Lib.cell_of_heap h]; rfl, by rw [Lib.cell_of_heap h]; rfl⟩
theorem four_new (w : World) (x y z u : Value) (t : TypeId) : ∀ (j : Nat) (c : Value), [x, y, z, u][j]? = some c → (w.alloc (.cells #[x, y, z, u] t)).cell? ((⟨w.heap.size, 0, none⟩ : Addr).add j) = some c := by
  intro j c hu
  obtain ⟨h0, h1, h2, h3⟩ := cells_four (heap_alloc_new w (.cells #[x, y, z, u] t))
  match j, hu with
  | 0, hu => cases hu; rw [Strs.addr_add]; exact h0
  | 1, hu => cases hu; rw [Strs.addr_add]; exact h1
  | 2, hu => cases hu; rw [Strs.addr_add]; exact h2
  | 3, hu => cases hu; rw [Strs.addr_add]; exact h3

set_option maxRecDepth 100000 in
set_option maxHeartbeats 4000000 in
theorem put_is (h cb i : Nat) (vB : Value) (G : List Rw) (r : Rw) (k n : Int) (s : T) (l : List Int) (nv : Value) (w : World) (hc : Codes h cb w vB G) (hz : h ≤ w.heap.size) (hi : G[i]? = some r) (hy : w.ownsRow h 3 1 nv l.length (l.map (Value.int .i64))) (hG : G.length ≤ 1000000) (hr : r.2.length ≤ 1000000) :
    Calls Try.prog 27 #[.int .i64 (i : Int), .agg #[.int .i64 k, .int .i64 n, .string (bs s), nv], .pointer (some ⟨cb, 0, none⟩)] w fun e W' => e = .returned (.tuple #[]) ∧ (∃ v', Codes h cb W' vB (G.set i (v', r.2 ++ [(⟨k, n, s, l⟩, nv)]))) ∧ Kp h XO w W' := by
  obtain ⟨i0, hi0, hz0, hz1, hz2⟩ := info_parts infoOp
  have hil := (List.getElem?_eq_some_iff.1 hi).1
  obtain ⟨An, cn, rfl⟩ := own_slice hy
  obtain ⟨w1, hw1⟩ : ∃ w1, w.alloc (.cells #[.int .i64 k, .int .i64 n, .string (bs s), .slice An l.length cn] 44) = w1 := ⟨_, rfl⟩
  have hb1 : Below w.heap.size w w1 := by rw [← hw1]; exact (Below.refl _ _).alloc (Nat.le_refl _) _
  have hx1 : w1.heap[w.heap.size]? = some (.cells #[.int .i64 k, .int .i64 n, .string (bs s), .slice An l.length cn] 44) := by rw [← hw1]; exact heap_alloc_new w _
  have hz1' : h ≤ w1.heap.size := Nat.le_trans hz hb1.size
  have hc1 := hc.on hb1 hz
  have hk1 : Kp h XO w w1 := Kp.of hb1 hz _
  have hy1 : w1.ownsRow h 3 1 (.slice An l.length cn) l.length (l.map (Value.int .i64)) := (Kp.of hb1 hz (fun _ _ => False)).own hy fun _ _ h => h
  obtain ⟨gB, capB, rfl, hgB, hgBl⟩ := hc1.row.form (by omega)
  obtain ⟨vr, lr⟩ := r
  have hro : w1.ownsRow h 44 4 vr lr.length (flat4 lr) := hc1.ops _ (List.mem_of_getElem? hi)
  obtain ⟨Ar, cr, rfl⟩ := own_slice hro
  have hr : lr.length ≤ 1000000 := hr
  obtain ⟨ob, hob⟩ : ∃ ob, ob = Obj.cells #[.int .i64 k, .int .i64 n, .string (bs s), .slice An l.length cn] 44 := ⟨_, rfl⟩
  have HPE : Hid (∀ g cap w5, w5.ownsRow h 44 4 (.slice (some ⟨g, 0, none⟩) (lr.length + 1) cap) (lr.length + 1) (flat4 lr ++ [.int .i64 k, .int .i64 n, .string (bs s), .slice An l.length cn]) → (w1.drew.alloc ob).grownBy w5 (Value.slice Ar lr.length cr).ownBlock → ((Value.slice Ar lr.length cr).ownBlock = some g ∨ g = w1.heap.size + 1) →
      (∃ v', Codes h cb (w5.setCell ⟨gB, i, none⟩ (.slice (some ⟨g, 0, none⟩) (lr.length + 1) cap)) (.slice (some ⟨gB, 0, none⟩) G.length capB) (G.set i (v', lr ++ [(⟨k, n, s, l⟩, .slice An l.length cn)]))) ∧ Kp h XO w (w5.setCell ⟨gB, i, none⟩ (.slice (some ⟨g, 0, none⟩) (lr.length + 1) cap))) := fun g cap w5 ho hg hat => by
    have hb2 : Below w1.heap.size w1 (w1.drew.alloc ob) := ((Below.refl _ w1).drew).alloc (Nat.le_refl _) _
    have hsz : (w1.drew.alloc ob).heap.size = w1.heap.size + 1 := by rw [World.size_alloc]; rfl
    obtain ⟨h1, h2⟩ := (hc1.on hb2 hz1').put (w2 := w5) (i := i) (g := g) (cap := cap) (gB := gB) (capB := capB) (r := (.slice Ar lr.length cr, lr)) (by rw [hsz]; omega) hi (⟨k, n, s, l⟩, .slice An l.length cn) ((Kp.of hb2 hz1' (fun _ _ => False)).own hy1 fun _ _ h => h) rfl ho hg (hat.imp id fun e => by rw [hsz]; omega)
    exact ⟨⟨_, h1⟩, (hk1.trans (Kp.of hb2 hz1' _)).trans h2⟩
  have hbx := hc1.box
  have hcl := heap_lt hbx
  have hrow := hc1.row
  have hvi : (G.map (·.1))[i]? = some (.slice Ar lr.length cr) := by rw [List.getElem?_map, hi]; rfl
  have hlr := flat4_len lr
  have HZn := Lib.hid (four_new w1.drew (.int .i64 k) (.int .i64 n) (.string (bs s)) (.slice An l.length cn) 44)
  obtain ⟨q, hq⟩ : ∃ q, q = G.length := ⟨_, rfl⟩
  obtain ⟨p, hp⟩ : ∃ p, p = lr.length := ⟨_, rfl⟩
  obtain ⟨m, hm⟩ : ∃ m, m = l.length := ⟨_, rfl⟩
  generalize flat4 lr = fr at *
  generalize G.map (·.1) = vs at *
  rw [← hp] at HPE hro hr hvi hlr
  rw [← hq] at HPE hrow hil hG
  rw [← hq] at hbx
  rw [← hm] at HPE HZn hx1 hw1 hob
  rw [← hm, ← hq]
  have hiq : (i : Int) < (q : Int) := by omega
  have HW := Lib.hid hw1
  have HX1 := Lib.hid hx1
  have HBx := Lib.hid hbx
  have HRow := Lib.hid hrow
  have HRo := Lib.hid hro
  have hbl : w.heap.size < w1.heap.size := heap_lt hx1
  have HOB := Lib.hid hob
  have hnB : (Value.slice Ar p cr).ownBlock ≠ some cb := own_not hro hbx (by decide)
  have hrB : (Value.slice Ar p cr).ownBlock ≠ some gB := (own_type hro hrow (by decide)).elim (fun e1 e2 => by rw [e1] at e2; cases e2) id
  have HnB := Lib.hid hnB
  have HrB := Lib.hid hrB
  have a0 := one_cell hbx
  obtain ⟨x0, x1, x2, x3⟩ := cells_four hx1
  have b0 := (hrow.cellAt i (by omega)).trans hvi
  have A0 : (w1.drew.alloc (.cells #[.int .i64 k, .int .i64 n, .string (bs s), .slice An m cn] 44)).cell? ⟨cb, 0, none⟩ = some (.slice (some ⟨gB, 0, none⟩) q capB) := one_cell ((Lib.alloc_old w1.drew _ cb hcl).trans hbx)
  have B0 : (w1.drew.alloc (.cells #[.int .i64 k, .int .i64 n, .string (bs s), .slice An m cn] 44)).cell? ⟨gB, i, none⟩ = some (.slice Ar p cr) := ((hrow.drew.alloc _).cellAt i (by omega)).trans hvi
  have HV := Lib.hid hvi
  clear hi hy hc hc1 hk1 hy1 hb1 hbx hrow hro hx1 hw1 hob hnB hrB hvi hq hp hm
  go_enter Try.func27, Try.ntmps27
  go_upto_region 1 with fail
  rw [HW.out]
  go_region_law (refine step_append_lies _ rfl _ _ 42 rfl h 44 i0 (.agg #[.int .i64 0, .int .i64 0, .string .empty, .slice none 0 0]) 4 56 Try.underlying42 hi0 hz0 hz1 hz2 rfl (by decide) (.slice Ar p cr) p _ (by first | rfl | simp [Act.eval, Act.put]) (HRo.out.drew.alloc _) ⟨w1.heap.size, 0, none⟩ 1 1 [.int .i64 k, .int .i64 n, .string (bs s), .slice An m cn] (by first | rfl | simp [Act.eval, Act.put]) rfl HZn.out (by simp [Value.oneCell']) (by decide) (by unfold maxLen; omega) (by omega) (by simp; omega) (w1.heap.size + 1) (World.size_alloc ..) ?_; intro g cap w5 hown5 hgrow5 hat5 hlt5; have hb5 : w5.heap[cb]? = _ := (hgrow5.block cb (by simp; omega) (fun e => HnB.out e.symm)).trans ((Lib.alloc_old w1.drew _ cb hcl).trans HBx.out); have z0 := one_cell hb5; have hr5 := (HRow.out.drew.alloc _).kept hgrow5 (.inr (fun e => HrB.out e.symm)); have z1 := (hr5.cellAt i (by omega)).trans HV.out; have t0 := hr5.frozenAt i; have HFin := Lib.hid (HPE.out g cap w5 hown5 (by rw [HOB.out]; exact hgrow5) hat5); clear hown5 hgrow5 hat5 hb5 hr5)
  all_goals exact bodyPost_end (v := .tuple #[]) (by simp [results, Try.results27, go_sem]) rfl ⟨rfl, HFin.out⟩

end Go.Proofs.Ytfenlhbkdfmneaa.Cpu
