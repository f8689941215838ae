/- The program's ruler at every node, by induction. -/
import Derived.Test.YtmcdefkpkpaceaaGreatDoorKr1J
import Derived.Test.YtmcdefkpkpaceaaGreatDoorKr2J
import Derived.Test.YtmcdefkpkpaceaaGreatDoorKr3J
import Derived.Test.YtmcdefkpkpaceaaGreatDoorKr4J
import Derived.Test.YtmcdefkpkpaceaaGreatDoorKr5J
import Derived.Test.YtmcdefkpkpaceaaGreatDoorKrlJ
import Derived.WalkKit
import Derived.WalkSpells
import Derived.OwnWalk
import Derived.IntWalk
import Derived.Below
import Derived.Lib.Hide
import Derived.Lib.Builder
import Derived.Lib.AppendStr
import Derived.Laws.Externs
import Derived.Maps.AppendAt
import Derived.Test.YtmcdefkpkpaceaaGreatDoorShelf
import Derived.Test.YtmcdefkpkpaceaaGreatDoorStrsJ
import Derived.Lib.IndexLaws
import Derived.Deep.QuietTactic
import Derived.BigQuiet
import Derived.Test.YtmcdefkpkpaceaaGreatDoorKplJ
namespace Go.Proofs.YtmcdefkpkpaceaaGreatDoor.Krt
open Go Go.RowKit Go.Proofs.YtmcdefkpkpaceaaGreatDoor.Spl Go.Proofs.YtmcdefkpkpaceaaGreatDoor.Nodm Go.Proofs.YtmcdefkpkpaceaaGreatDoor.Nz Go.Proofs.YtmcdefkpkpaceaaGreatDoor.Qtp Go.Proofs.YtmcdefkpkpaceaaGreatDoor.Qwhole Go.Proofs.YtmcdefkpkpaceaaGreatDoor.Kpl Go.Proofs.YtmcdefkpkpaceaaGreatDoor.Kkd Go.Proofs.YtmcdefkpkpaceaaGreatDoor.Kkn Go.Proofs.YtmcdefkpkpaceaaGreatDoor.Kfr Go.Proofs.YtmcdefkpkpaceaaGreatDoor.Kmp Go.Proofs.YtmcdefkpkpaceaaGreatDoor.Kru
open Go.Proofs.YtmcdefkpkpaceaaGreatDoor.Pure (bs)

set_option maxRecDepth 100000 in
set_option maxHeartbeats 4000000 in
theorem node_0 (S : Nat → Prop) (w0 : World) (mb : Nat) (k : Int) (s : T) (l : List Nz) (h1 : (k == 1) = false) (h2 : (k == 2) = false) (h3 : (k == 3) = false) (h4 : (k == 4) = false) (h5 : (k == 5) = false) : NodeIs S w0 mb (.mk k s l) := by
  intro v W R L hx hRs hR hLv
  obtain ⟨A, c, rfl, hl⟩ := hx.inv
  have hsh : shapeZ (.mk k s l) = false := by
    rw [beq_eq_false_iff_ne] at h1 h2 h3 h4 h5
    rw [shapeZ, if_neg h1, if_neg h2, if_neg h3, if_neg h4, if_neg h5]
  have hz0 : fit (.mk k s l) R L = false := by rw [fit_mk, hsh, Bool.false_and]
  obtain ⟨z, hz⟩ : ∃ z, z = fit (.mk k s l) R L := ⟨_, rfl⟩
  have HZ2 : z = false := hz.trans hz0
  rw [← hz]
  have hK := Lib.hid (fun (U : World) (_ : Below w0.heap.size w0 U) => kind_0 k (bs s) A l.length c h1 h2 h3 h4 h5 U)
  obtain ⟨n0', hn0'⟩ : ∃ n0', n0' = lenZ (.mk k s l) := ⟨_, rfl⟩
  obtain ⟨m0', hm0'⟩ : ∃ m0', m0' = levZ (.mk k s l) := ⟨_, rfl⟩
  rw [← hn0', ← hm0']
  generalize bs s = x at *
  generalize l.length = q at *
  clear hsh hz0 hz hn0' hm0' hx hl
  have hmg := hRs.lt
  have HR0 := Lib.hid hRs
  obtain ⟨w1, hw1, hb1, hz1, g0, g1, g2, g3⟩ := four W (.cells #[.map (some mb)] 45) (.cells #[.int .i64 k, .string x, .slice A q c] 25) (.cells #[.int .i64 (R : Int), .int .i64 (L : Int)] 41) (.cells #[.int .i64 0, .int .i64 0] 41)
  obtain ⟨g, hg⟩ : ∃ g, g = W.heap.size := ⟨_, rfl⟩
  rw [← hg] at g0 g1 g2 g3
  have HW1 := Lib.hid hw1
  have HB1 := Lib.hid hb1
  have HZ1 := Lib.hid hz1
  have HG := Lib.hid (And.intro g0 (And.intro g1 (And.intro g2 g3)))
  have hmgg : mb < g := by omega
  obtain ⟨n0, n1, n2⟩ := cells_three g1
  clear hw1 hb1 g0 g1 g2 g3 hz1 hRs
  go_enter Tryz.func12, Tryz.ntmps12
  go_upto_region 1 with fail
  rw [← HW1.out, ← hg]
  have HGE := Lib.hid hg
  clear hg
  have HK1 := Lib.hid (hK.out w1 (HR0.out.on HB1.out).bel)
  clear hK
  go_upto_region 2 with (go_at_call 25; refine HK1.out.mono ?_; rintro e w2 ⟨rfl, hb2⟩; have HB2 := Lib.hid hb2; clear hb2)
  have HF2 : Hid (∀ k, k < w1.heap.size → w2.heap[k]? = w1.heap[k]?) := HB2.out.block
  obtain ⟨g0, g1, g2, g3⟩ := HG.out
  have hz := HZ1.out
  have hz2 := HB2.out.size
  have hge := HGE.out
  have G0 := Lib.hid ((HF2.out g (by omega)).trans g0)
  have G2 := Lib.hid ((HF2.out (g + 1 + 1) (by omega)).trans g2)
  have G3 := Lib.hid ((HF2.out (g + 1 + 1 + 1) (by omega)).trans g3)
  have r0 := one_cell G0.out
  obtain ⟨m0, m1⟩ := two_cells G2.out
  obtain ⟨a0, a1⟩ := two_cells G3.out
  have fz0 := Lib.frozen_of_heap G3.out 0
  have fz1 := Lib.frozen_of_heap G3.out 1
  have HR2 := Lib.hid ((HR0.out.on HB1.out).on HB2.out)
  have HB := Lib.hid (HB1.out.trans (HB2.out.mono (by omega)))
  have hlt : g + 4 ≤ w2.heap.size := by omega
  have l2 : g + 1 + 1 < w2.heap.size := by omega
  have HK0 : Hid (Kp S w0 W w2 mb g w2) := ⟨HR2.out, Far.of HB.out, Nat.le_refl _, fun _ _ _ => rfl⟩
  have HO : Hid (∀ U, Kp S w0 W w2 mb g U → U.cell? ⟨g, 0, none⟩ = some (.map (some mb)) ∧ U.cell? ⟨g + 1 + 1, 0, none⟩ = some (.int .i64 (R : Int)) ∧ U.cell? ⟨g + 1 + 1, 1, none⟩ = some (.int .i64 (L : Int))) := fun U h =>
    ⟨one_cell ((h.own g (by omega) (by omega)).trans G0.out), two_cells ((h.own (g + 1 + 1) (by omega) (by omega)).trans G2.out)⟩
  clear n0 n1 n2 g0 g1 g2 g3 hz hz2 hge HG HW1 HK1
  go_quiet (fail)
  go_wp2
  obtain ⟨V, hV⟩ : ∃ V, ((w2.drewN nq).setCell ⟨g + 1 + 1 + 1, 0, none⟩ (.int .i64 0)).setCell ⟨g + 1 + 1 + 1, 1, none⟩ (.int .i64 0) = V := ⟨_, rfl⟩
  rw [hV]
  obtain ⟨z1, z2, z3, _⟩ := two_fin (U := w2.drewN nq) G3.out hV (HR2.out.on (below_drewN (Below.refl _ _) nq)) (Far.of (below_drewN HB.out nq)) (by have := HGE.out; omega) hmg
  obtain ⟨y0, y1⟩ := two_cells z1
  refine bodyPost_ret (v := .tuple #[.agg #[.int .i64 0, .int .i64 0], .bool false]) (by simp [results, Tryz.results12, go_sem, y0, y1]) rfl ?_
  exact ⟨⟨0, 0, by rw [HZ2]; rfl, fun h => by rw [HZ2] at h; cases h⟩, z2, z3⟩

/-- the ruler at every node whose texts and lists are of bounded length -/
theorem node_is (S : Nat → Prop) (hS0 : ¬ S 0) (w0 : World) (mb : Nat) : ∀ (N : Nat) (x : Nz), siz x ≤ N → wt x ≤ 68719476736 → NodeIs S w0 mb x
  | 0, x, h, _ => by have := siz_pos x; omega
  | N + 1, .mk k s l, h, hw => by
    rw [siz] at h
    rw [wt] at hw
    have hN : ∀ x ∈ l, NodeIs S w0 mb x := fun x hx => node_is S hS0 w0 mb N x (by have := sizs_le hx; omega) (by have := wts_le hx; omega)
    have hll : l.length ≤ 1099511627776 := by have := wts_len l; omega
    have hsl : s.length ≤ 68719476736 := by omega
    have hL : ListIs S w0 mb l := by
      cases l with
      | nil => exact Krl.list_none S w0 mb
      | cons x r => exact Krl.list_some S hS0 w0 mb (x :: r) (by simp) hll hN
    by_cases h1 : k = 1
    · subst h1; exact Kr1.node_1 S w0 mb s l hsl hll hL
    by_cases h2 : k = 2
    · subst h2; exact Kr2.node_2 S w0 mb s l hsl hll hL
    by_cases h3 : k = 3
    · subst h3; exact Kr3.node_3 S w0 mb s l hsl hll hL
    by_cases h4 : k = 4
    · subst h4; exact Kr4.node_4 S w0 mb s l hsl hll hL
    by_cases h5 : k = 5
    · subst h5; exact Kr5.node_5 S w0 mb s l hsl hll hL
    exact node_0 S w0 mb k s l (beq_eq_false_iff_ne.2 h1) (beq_eq_false_iff_ne.2 h2) (beq_eq_false_iff_ne.2 h3) (beq_eq_false_iff_ne.2 h4) (beq_eq_false_iff_ne.2 h5)

end Go.Proofs.YtmcdefkpkpaceaaGreatDoor.Krt

/- What the library's text builder does in this program: its check, its two ways to write, its text. -/
namespace Go.Proofs.YtmcdefkpkpaceaaGreatDoor.Kbld
open Go.RowKit
open Go.Proofs.YtmcdefkpkpaceaaGreatDoor.Pure (bs)

theorem infoByte : (Tryz.prog.info? 5).map (fun i => (i.zero, i.size, i.bytes)) = some (some (.int .u8 0), 1, 1) := by kernel_rfl
theorem sizeBuilder : (Tryz.prog.info? 50).map (·.size) = some 2 := by kernel_rfl
theorem liesBuilder : liesAt Tryz.prog Tryz.prog.depth 50 (2 / Tryz.prog.cellsOf 50) 0 50 1 = true := by kernel_rfl

/-- a builder of this call's own (from B on) in block b that holds the bytes l -/
def Holds (B b : Nat) (l : List UInt8) (w : World) : Prop := Lib.IsBuilder 50 5 B b (Lib.byteCells l) w

set_option maxRecDepth 100000 in
set_option maxHeartbeats 400000 in
/-- the check, of a builder that was written already -/
theorem check_used (b : Nat) (w : World) (h0 : w.cell? ⟨b, 0, none⟩ = some (.pointer (some ⟨b, 0, none⟩))) :
    Calls Tryz.prog 27 #[.pointer (some ⟨b, 0, none⟩)] w fun e w' => e = .returned (.tuple #[]) ∧ w' = w := by
  obtain ⟨j, hj, _⟩ := Option.map_eq_some_iff.1 sizeBuilder
  go_enter Tryz.func27, Tryz.ntmps27
  go_wp2
  rw [Lib.run_neq_ptr_same w _ Tryz.underlying47 hj]
  go_wp2
  go_end0
  exact ⟨rfl, rfl⟩

set_option maxRecDepth 100000 in
set_option maxHeartbeats 400000 in
/-- the check, of a new builder: it keeps its own address -/
theorem check_new (b : Nat) (w : World) (h0 : w.cell? ⟨b, 0, none⟩ = some (.pointer none)) (hsh : w.shape? b = some (50, 2)) (hfz : w.frozen? ⟨b, 0, none⟩ = false) :
    Calls Tryz.prog 27 #[.pointer (some ⟨b, 0, none⟩)] w fun e w' => e = .returned (.tuple #[]) ∧ w' = w.setCell ⟨b, 0, none⟩ (.pointer (some ⟨b, 0, none⟩)) := by
  obtain ⟨j, hj, hjs⟩ := Option.map_eq_some_iff.1 sizeBuilder
  go_enter Tryz.func27, Tryz.ntmps27
  go_wp2
  rw [Lib.run_to_unsafe w ⟨b, 0, none⟩ Tryz.underlying47 Tryz.underlying109 hj (by rw [hjs]; decide) hsh (Nat.zero_lt_succ 1)]
  simp only [Result.andThen]
  rw [Oper.upon_value]
  go_wp2
  rw [run_callFunc_extern Tryz.func50 (by kernel_rfl) (by kernel_rfl) (by kernel_rfl) (e := Extern.AbiNoEscape.same) (by kernel_rfl), Lib.run_noEscape]
  simp only [Result.andThen]
  rw [Oper.upon_value]
  go_wp2
  rw [Lib.run_from_unsafe w ⟨b, 0, none⟩ Tryz.underlying109 Tryz.underlying47 hj hsh liesBuilder]
  simp only [Result.andThen]
  rw [Oper.upon_value]
  go_wp2
  go_end0
  exact ⟨rfl, rfl⟩

/-- what is no bytes' block, nor the builder's, stays -/
def Kept (b : Nat) (w W : World) : Prop := ∀ (k : Nat) (cs : Array Value) (t : TypeId) (fr : Nat × Nat), w.heap[k]? = some (.cells cs t fr) → t ≠ 5 → k ≠ b → W.heap[k]? = w.heap[k]?
theorem Kept.trans {b : Nat} {w W X : World} (h : Kept b w W) (k : Kept b W X) : Kept b w X := fun g cs t fr h1 h2 h3 => by
  have e := h g cs t fr h1 h2 h3
  exact (k g cs t fr (e.trans h1) h2 h3).trans e
theorem Kept.of {b : Nat} {w W : World} (h : Below w.heap.size w W) : Kept b w W := fun g _ _ _ h1 _ _ => h.block g (Array.getElem?_eq_some_iff.1 h1).1
theorem Kept.refl (b : Nat) (w : World) : Kept b w w := fun _ _ _ _ _ _ _ => rfl
theorem Kept.set (b j : Nat) (w : World) (v : Value) : Kept b w (w.setCell ⟨b, j, none⟩ v) := fun k _ _ _ _ _ hk => heap_setCell_other w ⟨b, j, none⟩ k v hk

theorem check_any (B b : Nat) (l : List UInt8) (w : World) (h : Holds B b l w) :
    Calls Tryz.prog 27 #[.pointer (some ⟨b, 0, none⟩)] w fun e w' => e = .returned (.tuple #[]) ∧ Lib.BuilderAt 50 5 B b (.pointer (some ⟨b, 0, none⟩)) (Lib.byteCells l) w' ∧ Below B w w' ∧ Kept b w w' := by
  rcases h with h | h
  · refine (check_new b w h.cell0 h.shape h.frozen0).mono ?_
    rintro e w' ⟨rfl, rfl⟩
    exact ⟨rfl, h.used _, (Below.refl B w).setCell (p := ⟨b, 0, none⟩) h.1 _, Kept.set b 0 w _⟩
  · refine (check_used b w h.cell0).mono ?_
    rintro e w' ⟨rfl, rfl⟩
    exact ⟨rfl, h, Below.refl B _, Kept.refl b _⟩

theorem heap_lt {w : World} {b : Nat} {o : Obj} (h : w.heap[b]? = some o) : b < w.heap.size := (Array.getElem?_eq_some_iff.1 h).1

set_option maxRecDepth 100000 in
set_option maxHeartbeats 1000000 in
/-- a text is written -/
theorem write_text (B b : Nat) (l : List UInt8) (s : ByteArray) (w : World) (h : Holds B b l w) (hlen : l.length + s.size ≤ 140737488355328) (hBw : B ≤ w.heap.size) :
    Calls Tryz.prog 29 #[.pointer (some ⟨b, 0, none⟩), .string s] w fun e w' => e = .returned (.tuple #[.int .i64 s.size, .nilIface]) ∧ Holds B b (l ++ s.data.toList) w' ∧ Below B w w' ∧ Kept b w w' := by
  obtain ⟨i0, hi, hz0, hz1, hz2⟩ := info_parts infoByte
  have hcl : (Lib.byteCells l).length = l.length := List.length_map _
  have HC := Lib.hid hcl
  clear hcl
  go_enter Tryz.func29, Tryz.ntmps29
  go_wp2_with fail
  refine (check_any B b l _ h).mono ?_
  rintro e w1 ⟨rfl, ⟨hB, v, hbk, hown, hne⟩, hb1, hk1⟩
  have HK1 := Lib.hid hk1
  clear hk1
  have hbu : ∀ (k : Nat) (cs : Array Value) (t : TypeId) (fr : Nat × Nat), w1.heap[k]? = some (.cells cs t fr) → t ≠ 5 → v.ownBlock ≠ some k := fun k cs t fr h1 h2 h3 => by
    rcases hown.2 with ⟨rfl, _⟩ | ⟨g, cap, cur, rfl, _, hg, _⟩
    · cases h3
    · have : g = k := by simpa [Value.ownBlock] using h3
      subst this
      rw [hg] at h1
      simp only [Option.some.injEq, Obj.cells.injEq] at h1
      exact h2 h1.2.1.symm
  have HBu := Lib.hid hbu
  clear hbu
  have hs1 := hb1.size
  have c1 : w1.cell? ⟨b, 1, none⟩ = some v := by rw [Lib.cell_of_heap hbk]; rfl
  go_wp2_with (at_builtin; refine Lib.wpList_append_own_string _ rfl _ _ 48 9 rfl B 5 i0 Tryz.underlying48 Tryz.underlying9 hi hz0 hz1 hz2 _ _ _ rfl hown s rfl ?c3 ?c4 ?c5 ?_)
  case c3 => have := HC.out; unfold maxLen; omega
  case c4 => have := HC.out; omega
  case c5 => omega
  intro v' w2 hown' hgrow _
  have hb2 : w2.heap[b]? = some (.cells #[.pointer (some ⟨b, 0, none⟩), v] 50 (0, 0)) := (hgrow.block b (heap_lt hbk) (fun e => hne e.symm)).trans hbk
  have d0 : w2.cell? ⟨b, 0, none⟩ = some (.pointer (some ⟨b, 0, none⟩)) := by rw [Lib.cell_of_heap hb2]; rfl
  have d1 : w2.cell? ⟨b, 1, none⟩ = some v := by rw [Lib.cell_of_heap hb2]; rfl
  have f1 : w2.frozen? ⟨b, 1, none⟩ = false := Lib.frozen_of_heap hb2 1
  obtain ⟨ao, n', cap, rfl⟩ : ∃ ao n' cap, v' = .slice ao n' cap := by
    rcases hown'.2 with ⟨hv, _⟩ | ⟨g, cap, cur, hv, _⟩
    · exact ⟨_, _, _, hv⟩
    · exact ⟨_, _, _, hv⟩
  go_wp2
  go_ret2
  refine ⟨rfl, .inr ?_, ?_, ?_⟩
  · exact Lib.BuilderAt.put hB hb2 (bs' := Lib.byteCells (l ++ s.data.toList)) (by
      have e1 : Lib.byteCells (l ++ s.data.toList) = Lib.byteCells l ++ Lib.strCells s := List.map_append
      rw [e1, List.length_append, Lib.strCells_length]
      exact hown') (by decide)
  · exact (hb1.grown hgrow (by omega) (fun k hk => (hown.lt k hk).1)).setCell (p := ⟨b, 1, none⟩) hB _
  · refine (HK1.out.trans fun k cs t fr h1 h2 h3 => ?_).trans (Kept.set b 1 w2 _)
    exact hgrow.block k (heap_lt h1) (HBu.out k cs t fr h1 h2).symm

set_option maxRecDepth 100000 in
set_option maxHeartbeats 1000000 in
/-- a byte is written -/
theorem write_byte (B b : Nat) (l : List UInt8) (c : UInt8) (n : Int) (w : World) (hc : ((c.toNat : Nat) : Int) = n) (h : Holds B b l w) (hlen : l.length + 1 ≤ 140737488355328) (hBw : B ≤ w.heap.size) :
    Calls Tryz.prog 66 #[.pointer (some ⟨b, 0, none⟩), .int .u8 n] w fun e w' => e = .returned .nilIface ∧ Holds B b (l ++ [c]) w' ∧ Below B w w' := by
  obtain ⟨i0, hi, hz0, hz1, hz2⟩ := info_parts infoByte
  have hcl : (Lib.byteCells l).length = l.length := List.length_map _
  have HC := Lib.hid hcl
  have HN := Lib.hid hc
  clear hcl hc
  go_enter Tryz.func66, Tryz.ntmps66
  go_wp2_with fail
  refine (check_any B b l _ h).mono ?_
  rintro e w1 ⟨rfl, ⟨hB, v, hbk, hown, hne⟩, hb1, _⟩
  have hs1 := hb1.size
  have c1 : w1.cell? ⟨b, 1, none⟩ = some v := by rw [Lib.cell_of_heap hbk]; rfl
  go_wp2_with (at_builtin; refine wpList_append_own _ rfl _ _ 48 rfl B 5 i0 (.int .u8 0) 1 1 Tryz.underlying48 hi hz0 hz1 hz2 rfl (by decide) _ _ _ rfl (hown.alloc _) ⟨w1.heap.size, 0, none⟩ 1 1 [.int .u8 n] rfl rfl (cell_one_new _ _ _) (by simp [Value.oneCell']) ?c3 ?c4 ?c5 ?_)
  case c3 => have := HC.out; unfold maxLen; omega
  case c4 => have := HC.out; omega
  case c5 => simp; omega
  intro v' w2 hown' hgrow _
  have hlt := heap_lt hbk
  have hb2 : w2.heap[b]? = some (.cells #[.pointer (some ⟨b, 0, none⟩), v] 50 (0, 0)) := by
    rw [hgrow.block b (by simp; omega) (fun e => hne e.symm), Lib.alloc_old w1 _ b hlt]
    exact hbk
  have d0 : w2.cell? ⟨b, 0, none⟩ = some (.pointer (some ⟨b, 0, none⟩)) := by rw [Lib.cell_of_heap hb2]; rfl
  have d1 : w2.cell? ⟨b, 1, none⟩ = some v := by rw [Lib.cell_of_heap hb2]; rfl
  have f1 : w2.frozen? ⟨b, 1, none⟩ = false := Lib.frozen_of_heap hb2 1
  obtain ⟨ao, n', cap, rfl⟩ : ∃ ao n' cap, v' = .slice ao n' cap := by
    rcases hown'.2 with ⟨hv, _⟩ | ⟨g, cap, cur, hv, _⟩
    · exact ⟨_, _, _, hv⟩
    · exact ⟨_, _, _, hv⟩
  go_wp2
  go_ret
  refine ⟨rfl, .inr ?_, ?_⟩
  · exact Lib.BuilderAt.put hB hb2 (bs' := Lib.byteCells (l ++ [c])) (by
      have e1 : Lib.byteCells (l ++ [c]) = Lib.byteCells l ++ [.int .u8 n] := by rw [← HN.out]; exact List.map_append
      rw [e1, List.length_append]
      exact hown') (by decide)
  · exact ((hb1.alloc (by omega) _).grown hgrow (by simp; omega) (fun k hk => (hown.lt k hk).1)).setCell (p := ⟨b, 1, none⟩) hB _

/-- its text -/
theorem text_is (B b : Nat) (l : List UInt8) (w : World) (h : Holds B b l w) (hBw : B ≤ w.heap.size) :
    Calls Tryz.prog 16 #[.pointer (some ⟨b, 0, none⟩)] w fun e w' => e = .returned (.string (bs l)) ∧ Below B w w' :=
  Tryz.Builder_String_any B b l w h hBw

end Go.Proofs.YtmcdefkpkpaceaaGreatDoor.Kbld

/- The library's ReplaceAll of a dollar by two. -/
namespace Go.Proofs.YtmcdefkpkpaceaaGreatDoor.Krp
open Go Go.RowKit Go.Proofs.YtmcdefkpkpaceaaGreatDoor.Spl Go.Proofs.YtmcdefkpkpaceaaGreatDoor.Kbld
open Go.Proofs.YtmcdefkpkpaceaaGreatDoor.Pure (bs)

theorem twice_app : ∀ (a b : T), Spf.twice (a ++ b) = Spf.twice a ++ Spf.twice b
  | [], b => by rw [List.nil_append]; rfl
  | x :: r, b => by rw [List.cons_append, Spf.twice_cons, Spf.twice_cons, twice_app r b, List.append_assoc]
theorem twice_no : ∀ (a : T), 36 ∉ a → Spf.twice a = a
  | [], _ => rfl
  | x :: r, h => by
    rw [List.mem_cons, not_or] at h
    rw [Spf.twice_cons, if_neg (by simpa using fun e => h.1 (by first | exact e.symm | (simp at e; exact e.symm))), twice_no r h.2]; rfl
theorem first_at : ∀ (d : T), 0 < d.count 36 → ∃ a r, d = a ++ 36 :: r ∧ 36 ∉ a ∧ Lib.indexByte d 36 = (a.length : Int)
  | [], h => by simp at h
  | x :: d, h => by
    by_cases hx : x = 36
    · subst hx
      exact ⟨[], d, rfl, by simp, by simp [Lib.indexByte]⟩
    · rw [List.count_cons] at h
      have h0 : 0 < d.count 36 := by simpa [hx] using h
      obtain ⟨a, r, h1, h2, h3⟩ := first_at d h0
      refine ⟨x :: a, r, by rw [h1]; rfl, ?_, ?_⟩
      · rw [List.mem_cons, not_or]
        exact ⟨fun e => hx e.symm, h2⟩
      · rw [Lib.indexByte, h3, if_neg (by simpa using hx), if_neg (by simp only [beq_iff_eq]; omega), List.length_cons]; omega

theorem tail_is (s : T) (k : Nat) : (bs s).extract k (bs s).size = bs (s.drop k) := Pure.ext_data (by rw [Lib.extract_to_end]; rfl)
theorem part_is (s : T) (k e : Nat) : (bs s).extract k (k + e) = bs ((s.drop k).take e) := Pure.ext_data (by
  have h := Lib.extract_toList (bs s) k (k + e)
  rw [Lib.toList_data] at h
  rw [h]
  show (s.drop k).take (k + e - k) = _
  rw [Nat.add_sub_cancel_left]
  rfl)
theorem alloc_below (w : World) (o : Obj) : Below w.heap.size w (w.alloc o) := (Below.refl _ _).alloc (Nat.le_refl _) _

set_option maxRecDepth 100000 in
set_option maxHeartbeats 4000000 in
theorem replace_is (s : T) (w : World) (hs : s.length ≤ 1000000000) :
    Calls Tryz.prog 52 #[.string (bs s), .string ⟨#[36]⟩, .string ⟨#[36, 36]⟩, .int .i64 (-1)] w fun e W' => e = .returned (.string (bs (Spf.twice s))) ∧ Below w.heap.size w W' := by
  have HC := Lib.hid (fun W => (show Calls Tryz.prog 61 #[.string (bs s), .string ⟨#[36]⟩] W fun e w' => e = .returned (.int .i64 ((s.count 36 : Nat) : Int)) ∧ w' = W from Tryz.strings_Count_one (bs s) 36 W))
  have HI := Lib.hid (fun (t : T) W => (show Calls Tryz.prog 62 #[.string (bs t), .string ⟨#[36]⟩] W fun e w' => e = .returned (.int .i64 (Lib.indexByte t 36)) ∧ w' = W from Tryz.strings_Index_one (bs t) 36 W))
  have hxe : ((⟨#[36]⟩ : ByteArray).toList == (⟨#[36, 36]⟩ : ByteArray).toList) = false := by rw [Lib.toList_data, Lib.toList_data]; rfl
  have hod : (⟨#[36]⟩ : ByteArray).size = 1 := rfl
  have hnw : (⟨#[36, 36]⟩ : ByteArray).size = 2 := rfl
  have HNW : Hid ((⟨#[36, 36]⟩ : ByteArray).data.toList = [36, 36]) := by show _ = _; rfl
  generalize (⟨#[36]⟩ : ByteArray) = od at *
  generalize (⟨#[36, 36]⟩ : ByteArray) = nw at *
  obtain ⟨m, hm⟩ : ∃ m, m = s.count 36 := ⟨_, rfl⟩
  rw [← hm] at HC
  have hml : m ≤ s.length := by rw [hm]; exact List.count_le_length
  have HM := Lib.hid hm
  clear hm
  by_cases h0 : m = 0
  · have htw : Spf.twice s = s := twice_no s (fun h => by have := List.count_pos_iff.2 h; have := HM.out; omega)
    rw [htw]
    subst h0
    clear htw
    generalize bs s = x at *
    go_enter Tryz.func52, Tryz.ntmps52
    go_wp2_with (go_at_call 61; refine (HC.out _).mono ?_; rintro e w' ⟨rfl, rfl⟩)
    go_ret
    exact ⟨rfl, Below.refl _ _⟩
  · have hm0 : ((m : Int) == 0) = false := by rw [beq_eq_false_iff_ne]; omega
    have hm1 : (0 : Int) < (m : Int) := by omega
    obtain ⟨q, hq⟩ : ∃ q, q = s.length := ⟨_, rfl⟩
    have hxq : (bs s).size = q := hq.symm
    have HX := Lib.hid (tail_is s)
    have HP := Lib.hid (part_is s)
    have HQ := Lib.hid hq
    rw [hxq] at HX
    rw [← hq] at hml hs
    obtain ⟨x, hx⟩ : ∃ x, x = bs s := ⟨_, rfl⟩
    rw [← hx] at HC HX HP hxq ⊢
    have v1 : IntKind.i64.wrap (2 - 1) = 1 := rfl
    have v1' : IntKind.i64.wrap 1 = 1 := rfl
    have v2 : IntKind.i64.wrap (m : Int) = (m : Int) := IntWalk.i64_in _ (by omega)
    obtain ⟨z, hz⟩ : ∃ z, z = q + m := ⟨_, rfl⟩
    have v3 : IntKind.i64.wrap ((q : Int) + (m : Int)) = (z : Int) := by rw [hz, Int.natCast_add]; exact IntWalk.i64_in _ (by omega)
    have hzb : z ≤ 2000000000 := by omega
    clear hz hq hx h0
    go_enter Tryz.func52, Tryz.ntmps52
    go_upto_region 9 with (go_at_call 61; refine (HC.out _).mono ?_; rintro e w' ⟨rfl, hw⟩; rw [hw]; clear hw)
    have hg := heap_alloc_new w (.cells #[.pointer none, .slice none 0 0] 50)
    have HG := Lib.hid (fun hn => Tryz.Builder_Grow_fresh w.heap.size w.heap.size z (w.alloc (.cells #[.pointer none, .slice none 0 0] 50)) (Nat.le_refl _) hg (by rw [World.size_alloc]; omega) hn)
    clear hg
    go_upto_region 12 with (go_at_call 13; refine (HG.out (by omega)).mono ?_; rintro e w1 ⟨rfl, hbd, hb1⟩; have HH1 : Hid (Holds w.heap.size w.heap.size [] w1) := .inr hbd; have HB1 := Lib.hid ((alloc_below w _).trans hb1); clear hbd hb1)
    clear v1 v1' v2 v3 hm0 HC HG hxe
    go_wp2_with fail
    go_loopw [11, 53] (fun a i wr => ∃ (st k : Nat) (acc : T), a = .int .i64 (st : Int) ∧ i = .int .i64 (k : Int) ∧ st ≤ q ∧ k ≤ m ∧ Hid (Holds w.heap.size w.heap.size acc wr) ∧ Hid (Below w.heap.size w wr) ∧ Hid (acc = Spf.twice (s.take st)) ∧ Hid (k + (s.drop st).count 36 = m) ∧ Hid (acc.length ≤ 2 * st)) (fun _ i _ => m - (intOf i).toNat)
    case atStart => exact ⟨0, 0, [], rfl, rfl, Nat.zero_le _, Nat.zero_le _, HH1, HB1, by show _ = _; rw [List.take_zero]; rfl, by show _ = _; rw [List.drop_zero, Nat.zero_add]; exact HM.out.symm, by show _ ≤ _; simp⟩
    case round =>
      obtain ⟨st, k, acc, rfl, rfl, hst, hk, HHr, HBr, HAc, HCt, HLn⟩ := hrel
      have hsz := HBr.out.size
      by_cases hlt : k < m
      · have hd : decide ((k : Int) < (m : Int)) = true := decide_eq_true (by omega)
        obtain ⟨a, r, e1, e2, e3⟩ := first_at (s.drop st) (by have := HCt.out; omega)
        have hidx := Lib.hid (fun W => HI.out (s.drop st) W)
        rw [e3] at hidx
        obtain ⟨n, hn⟩ : ∃ n, n = a.length := ⟨_, rfl⟩
        rw [← hn] at hidx
        have hdl : (s.drop st).length = q - st := by rw [List.length_drop, HQ.out]
        have hsum : (s.drop st).length = n + (1 + r.length) := by rw [e1, List.length_append, List.length_cons, hn]; omega
        have ht1 := HX.out st
        have ht2 := HP.out st n
        rw [show (s.drop st).take n = a by rw [e1, hn, List.take_left']; rfl] at ht2
        obtain ⟨jj, hjj⟩ : ∃ jj, jj = st + n := ⟨_, rfl⟩
        rw [← hjj] at ht2
        have hjq : jj < q := by omega
        have hsj : st ≤ jj := by omega
        have v1 : IntKind.i64.wrap ((st : Int) + (n : Int)) = (jj : Int) := by rw [hjj, Int.natCast_add]; exact IntWalk.i64_in _ (by omega)
        obtain ⟨s1, hs1⟩ : ∃ s1, s1 = jj + 1 := ⟨_, rfl⟩
        have v2 : IntKind.i64.wrap ((jj : Int) + 1) = (s1 : Int) := by rw [hs1, Int.natCast_add]; exact IntWalk.i64_in _ (by omega)
        obtain ⟨k1, hk1⟩ : ∃ k1, k1 = k + 1 := ⟨_, rfl⟩
        have v3 : IntKind.i64.wrap ((k : Int) + 1) = (k1 : Int) := by rw [hk1, Int.natCast_add]; exact IntWalk.i64_in _ (by omega)
        have htk : s.take s1 = s.take st ++ (a ++ [36]) := by
          rw [hs1, hjj, show st + n + 1 = st + (n + 1) by omega, List.take_add, e1, hn]
          rw [List.take_append, List.take_of_length_le (by omega : a.length ≤ a.length + 1), Nat.add_sub_cancel_left]; rfl
        have HK : Hid (k1 = k + 1 ∧ s1 = jj + 1 ∧ jj = st + n ∧ n = a.length ∧ k < m ∧ jj < q) := ⟨hk1, hs1, hjj, hn, hlt, hjq⟩
        have HTw : Hid (Spf.twice (s.take s1) = acc ++ a ++ [36, 36]) := by
          show _ = _
          rw [htk, twice_app, twice_app, twice_no a e2, HAc.out, List.append_assoc]; rfl
        have HCn : Hid (k1 + (s.drop s1).count 36 = m) := by
          have h5 : s.drop s1 = r := by
            rw [hs1, hjj, show st + n + 1 = st + (n + 1) by omega, ← List.drop_drop, e1, hn]
            simp
          have h6 : (s.drop st).count 36 = 1 + r.count 36 := by
            rw [e1, List.count_append, List.count_cons, List.count_eq_zero.2 e2]; simp; omega
          have := HCt.out
          show _ = _
          rw [h5]; omega
        have HLa : Hid (a.length ≤ 1000000000 ∧ acc.length ≤ 2000000000) := ⟨by omega, by have := HLn.out; omega⟩
        clear e1 e2 e3 hn hdl hsum hjj hs1 hk1 htk HI HX HP HM HCt HAc
        go_upto_region 15 with (go_at_call 62; refine (hidx.out _).mono ?_; rintro e w' ⟨rfl, hw⟩; rw [hw]; clear hw)
        have HWa := Lib.hid (write_text w.heap.size w.heap.size acc (bs a) wr HHr.out (by have := HLa.out; show _ + a.length ≤ _; omega) hsz)
        clear hidx ht1
        go_upto_region 16 with (go_at_call 29; refine HWa.out.mono ?_; rintro e w2 ⟨rfl, h2, hb2, _⟩; have HH2 := Lib.hid h2; have HB2 := Lib.hid (HBr.out.trans hb2); clear h2 hb2)
        have HWb := Lib.hid (write_text w.heap.size w.heap.size _ nw w2 HH2.out (by have := HLa.out; rw [hnw, List.length_append]; show _ + a.length + 2 ≤ _; omega) HB2.out.size)
        go_upto_region 17 with (go_at_call 29; refine HWb.out.mono ?_; rintro e w3 ⟨rfl, h3, hb3, _⟩; have HH3 := Lib.hid h3; have HB3 := Lib.hid (HB2.out.trans hb3); clear h3 hb3)
        clear ht2 v1
        go_wp2_with fail
        go_roundw
        case rel =>
          have h3 := HH3.out
          rw [HNW.out] at h3
          obtain ⟨q1, q2, q3, q4, q5, q6⟩ := HK.out
          exact ⟨s1, k1, _, rfl, rfl, by omega, by omega, h3, HB3, HTw.out.symm, HCn, by
            have := HLn.out
            show _ ≤ _
            rw [List.length_append, List.length_append]
            show acc.length + a.length + 2 ≤ _
            omega⟩
        case measure => have := HK.out; simp only [intOf]; omega
      · obtain rfl : k = m := by omega
        have ht1 := HX.out st
        have h0 : 36 ∉ s.drop st := fun h => by have := List.count_pos_iff.2 h; have := HCt.out; omega
        have hfin : acc ++ s.drop st = Spf.twice s := by
          have e : s.take st ++ s.drop st = s := List.take_append_drop st s
          rw [HAc.out, ← twice_no _ h0, ← twice_app, e]
        have hdl : (s.drop st).length ≤ q := by rw [List.length_drop, HQ.out]; omega
        have HWa := Lib.hid (write_text w.heap.size w.heap.size acc (bs (s.drop st)) wr HHr.out (by have := HLn.out; show _ + (s.drop st).length ≤ _; omega) hsz)
        have HFin := Lib.hid hfin
        clear h0 hfin hdl HI HX HP
        go_upto_region 29 with (go_at_call 29; refine HWa.out.mono ?_; rintro e w2 ⟨rfl, h2, hb2, _⟩; have HH2 : Hid (Holds w.heap.size w.heap.size (acc ++ s.drop st) w2) := h2; have HB2 := Lib.hid (HBr.out.trans hb2); clear h2 hb2)
        go_wp2_with (go_at_call 16; refine (text_is w.heap.size w.heap.size _ w2 HH2.out HB2.out.size).mono ?_; rintro e w3 ⟨rfl, hb3⟩; have HB3 := Lib.hid (HB2.out.trans hb3); clear hb3)
        go_ret
        exact ⟨by rw [HFin.out]; rfl, HB3.out⟩

set_option maxRecDepth 100000 in
theorem all_is (s : T) (w : World) (hs : s.length ≤ 1000000000) :
    Calls Tryz.prog 30 #[.string (bs s), .string ⟨#[36]⟩, .string ⟨#[36, 36]⟩] w fun e W' => e = .returned (.string (bs (Spf.twice s))) ∧ Below w.heap.size w W' := by
  have HR := Lib.hid (replace_is s w hs)
  generalize bs s = x at *
  go_enter Tryz.func30, Tryz.ntmps30
  go_wp2_with (go_at_call 52; refine HR.out.mono ?_; rintro e w3 ⟨rfl, hb3⟩; have HB3 := Lib.hid hb3; clear hb3)
  go_ret
  exact ⟨rfl, HB3.out⟩

end Go.Proofs.YtmcdefkpkpaceaaGreatDoor.Krp

/- The program's writing: nodes side by side. -/
namespace Go.Proofs.YtmcdefkpkpaceaaGreatDoor.Kwa
open Go Go.RowKit Go.Proofs.YtmcdefkpkpaceaaGreatDoor.Spl Go.Proofs.YtmcdefkpkpaceaaGreatDoor.Nodm Go.Proofs.YtmcdefkpkpaceaaGreatDoor.Nz Go.Proofs.YtmcdefkpkpaceaaGreatDoor.Qtp Go.Proofs.YtmcdefkpkpaceaaGreatDoor.Qwhole Go.Proofs.YtmcdefkpkpaceaaGreatDoor.Kpl Go.Proofs.YtmcdefkpkpaceaaGreatDoor.Kbld
open Go.Proofs.YtmcdefkpkpaceaaGreatDoor.Pure (bs)

/-- a node is written behind what the builder holds (its rows lie ahead of all that was made since) -/
def WriteIs (B b : Nat) (x : Nz) : Prop := ∀ (v : Value) (cur : T) (w : World), NzIn (fun g => g < B) w v x → Holds B b cur w → B ≤ w.heap.size → cur.length + (textZ x).length ≤ 1000000000 →
  Calls Tryz.prog 14 #[.pointer (some ⟨b, 0, none⟩), v] w fun e W' => e = .returned (.tuple #[]) ∧ Holds B b (cur ++ textZ x) W' ∧ Below B w W' ∧ Kept b w W'

theorem texts_snoc {l : List Nz} {j : Nat} {x : Nz} (h : l[j]? = some x) : textsZ (l.take (j + 1)) = textsZ (l.take j) ++ [textZ x] := by
  rw [texts_map, texts_map, take_snoc h, List.map_append]; rfl
theorem join_zero (m : T) (l : List Nz) : joinL m (textsZ (l.take 0)) = [] := by rw [List.take_zero, textsZ]; rfl
theorem join_first {m : T} {l : List Nz} {x : Nz} (h : l[0]? = some x) : joinL m (textsZ (l.take 1)) = textZ x := by
  rw [texts_snoc h, List.take_zero, textsZ, joinL_snoc, if_pos rfl]
theorem join_next {m : T} {l : List Nz} {j : Nat} {x : Nz} (h : l[j]? = some x) (hj : 0 < j) : joinL m (textsZ (l.take (j + 1))) = joinL m (textsZ (l.take j)) ++ m ++ textZ x := by
  have hl := (List.getElem?_eq_some_iff.1 h).1
  rw [texts_snoc h, joinL_snoc, if_neg]
  rw [texts_map]
  intro e
  have := congrArg List.length e
  rw [List.length_map, List.length_take, List.length_nil] at this
  omega
theorem join_less (m : T) (l : List Nz) (j : Nat) : (joinL m (textsZ (l.take j))).length ≤ (joinL m (textsZ l)).length := by
  rw [texts_map, texts_map, List.map_take]
  generalize l.map textZ = ts
  have key : ∀ (r : List T) (j : Nat), ((r.take j).map (m ++ ·)).flatten.length ≤ (r.map (m ++ ·)).flatten.length := by
    intro r
    induction r with
    | nil => intro j; simp
    | cons t r ih =>
      intro j
      cases j with
      | zero => simp
      | succ j =>
        have := ih j
        rw [List.take_succ_cons, List.map_cons, List.map_cons, List.flatten_cons, List.flatten_cons]
        simp only [List.length_append]; omega
  match ts, j with
  | [], j => rw [List.take_nil]; exact Nat.le_refl _
  | t :: r, 0 => rw [List.take_zero]; exact Nat.zero_le _
  | t :: r, j + 1 =>
    have := key r j
    rw [List.take_succ_cons, joinL_cons, joinL_cons, List.length_append, List.length_append]; omega

theorem own_below {w W : World} {B e : Nat} {v : Value} {n : Nat} {xs : List Value} (h : w.ownsRow B e 1 v n xs) (hb : Below w.heap.size w W) : W.ownsRow B e 1 v n xs := by
  refine ⟨h.1, ?_⟩
  rcases h.2 with h0 | ⟨g, cap, cu, hv, hB, hg, hr⟩
  · exact .inl h0
  · exact .inr ⟨g, cap, cu, hv, hB, (hb.block g (Array.getElem?_eq_some_iff.1 hg).1).trans hg, hr⟩
theorem at_below {T e : TypeId} {B b : Nat} {p : Value} {xs : List Value} {w W : World} (h : Lib.BuilderAt T e B b p xs w) (hb : Below w.heap.size w W) : Lib.BuilderAt T e B b p xs W := by
  obtain ⟨h1, v, h2, h3, h4⟩ := h
  exact ⟨h1, v, (hb.block b (Array.getElem?_eq_some_iff.1 h2).1).trans h2, own_below h3 hb, h4⟩
theorem holds_on {B b : Nat} {l : T} {w W : World} (h : Holds B b l w) (hb : Below w.heap.size w W) : Holds B b l W := Or.imp (at_below · hb) (at_below · hb) h

set_option maxRecDepth 100000 in
set_option maxHeartbeats 4000000 in
theorem all_is (B b : Nat) (a m z : T) (A : Option Addr) (c : Nat) (l : List Nz) (cur : T) (w : World) (hl : NzsIn (fun g => g < B) w A c l) (hh : Holds B b cur w) (hB : B ≤ w.heap.size) (hW : ∀ x ∈ l, WriteIs B b x)
    (hn : cur.length + a.length + (joinL m (textsZ l)).length + z.length ≤ 1000000000) (hm : m.length ≤ 1) (hll : l.length ≤ 1099511627776) :
    Calls Tryz.prog 31 #[.pointer (some ⟨b, 0, none⟩), .string (bs a), .slice A l.length c, .string (bs m), .string (bs z)] w fun e W' => e = .returned (.tuple #[]) ∧ Holds B b (cur ++ a ++ joinL m (textsZ l) ++ z) W' ∧ Below B w W' ∧ Kept b w W' := by
  have HL := Lib.hid hl
  have HWr := Lib.hid hW
  have HN := Lib.hid hn
  have HMl := Lib.hid hm
  obtain ⟨q, hq⟩ : ∃ q, q = l.length := ⟨_, rfl⟩
  rw [← hq] at hll ⊢
  have HQ := Lib.hid hq
  have HWa := Lib.hid (write_text B b cur (bs a) w hh (by show _ + a.length ≤ _; omega) hB)
  have HWm := Lib.hid (fun (l' : T) (W : World) (h : Holds B b l' W) (h1 : l'.length + m.length ≤ 140737488355328) (h2 : B ≤ W.heap.size) => write_text B b l' (bs m) W h h1 h2)
  have HWz := Lib.hid (fun (l' : T) (W : World) (h : Holds B b l' W) (h1 : l'.length + z.length ≤ 140737488355328) (h2 : B ≤ W.heap.size) => write_text B b l' (bs z) W h h1 h2)
  have HMb : Hid ((bs m).data.toList = m) := rfl
  have HZb : Hid ((bs z).data.toList = z) := rfl
  have HAb : Hid ((bs a).data.toList = a) := rfl
  generalize bs a = xa at *
  generalize bs m = xm at *
  generalize bs z = xz at *
  clear hl hW hn hm hq hh
  go_enter Tryz.func31, Tryz.ntmps31
  go_upto_region 1 with (go_at_call 29; refine HWa.out.mono ?_; rintro e w1 ⟨rfl, h1, hb1, hk1⟩; have HH1 := Lib.hid h1; have HB1 := Lib.hid hb1; have HK1 := Lib.hid hk1; clear h1 hb1 hk1)
  go_wp2_with fail
  go_loopw [17] (fun i wr => ∃ j : Nat, j ≤ q ∧ i = .int .i64 (j : Int) ∧ Hid (Holds B b (cur ++ a ++ joinL m (textsZ (l.take j))) wr) ∧ Hid (Below B w wr) ∧ Hid (Kept b w wr)) (fun i _ => q - (intOf i).toNat)
  case atStart => exact ⟨0, Nat.zero_le _, rfl, by show Holds _ _ _ _; rw [join_zero, List.append_nil, ← HAb.out]; exact HH1.out, HB1, HK1⟩
  case round =>
    obtain ⟨j, hj, rfl, HHr, HBr, HKr⟩ := hrel
    have hsz := Nat.le_trans hB HBr.out.size
    by_cases hlt : j < q
    · have hl2 : j < l.length := by have := HQ.out; omega
      obtain ⟨⟨k, s, l'⟩, hx⟩ : ∃ x, l[j]? = some x := ⟨_, List.getElem?_eq_getElem hl2⟩
      obtain ⟨b', o', A', c', rfl, hb', hbB, hxi, hc⟩ := HL.out.at_ hx
      obtain ⟨n0, n1, n2⟩ := hc wr (HBr.out.block b' hbB)
      have HX : Hid (∀ W, Below B w W → NzIn (fun g => g < B) W (.agg #[.int .i64 k, .string (bs s), .slice A' l'.length c']) (.mk k s l')) := fun W h => hxi.move (fun g h1 h2 => ⟨h1, h.block g h1⟩) h.size
      have HWx := Lib.hid (HWr.out _ (List.mem_of_getElem? hx))
      have HLs := Lib.hid (join_less m l (j + 1))
      obtain ⟨j1, hj1⟩ : ∃ j1, j1 = j + 1 := ⟨_, rfl⟩
      have v4 : IntKind.i64.wrap ((j : Int) + 1) = ((j1 : Nat) : Int) := by rw [hj1]; exact IntWalk.i64_in _ (by omega)
      have HJ := Lib.hid hj1
      have HX0 := Lib.hid hx
      clear hx hc hxi hl2 hj1
      generalize bs s = x at *
      generalize l'.length = m' at *
      by_cases h0 : j = 0
      · subst h0
        have HX1 := Lib.hid (join_first (m := m) HX0.out)
        rw [Nat.zero_mul, Nat.add_zero] at n0 n1 n2
        go_upto_region 4 with fail
        obtain ⟨wn, hwn⟩ : ∃ wn, wn = wr.alloc (.cells #[.int .i64 k, .string x, .slice A' m' c'] 25) := ⟨_, rfl⟩
        rw [← hwn]
        have hbn : Below wr.heap.size wr wn := by rw [hwn]; exact (Below.refl _ _).alloc (Nat.le_refl _) _
        obtain ⟨d0, d1, d2⟩ := cells_three (show wn.heap[wr.heap.size]? = some (.cells #[.int .i64 k, .string x, .slice A' m' c'] 25) by rw [hwn]; exact heap_alloc_new wr _)
        have HBn := Lib.hid (HBr.out.trans (hbn.mono hsz))
        have HHn := Lib.hid (holds_on HHr.out hbn)
        have HKn := Lib.hid (HKr.out.trans (Kept.of hbn))
        clear n0 n1 n2 hwn hbn
        have hcw := HWx.out _ _ wn (HX.out wn HBn.out) HHn.out (Nat.le_trans hB HBn.out.size) (by
          have := HN.out
          have h5 := HLs.out
          rw [HX1.out] at h5
          rw [join_zero, List.append_nil, List.length_append]; omega)
        have HCw := Lib.hid hcw
        clear hcw
        go_upto_region 7 with (go_at_call 14; refine HCw.out.mono ?_; rintro e w3 ⟨rfl, h3, hb3, hk3⟩; have HH3 := Lib.hid h3; have HB3 := Lib.hid (HBn.out.trans hb3); have HK3 := Lib.hid (HKn.out.trans hk3); clear h3 hb3 hk3)
        clear d0 d1 d2
        go_wp2_with fail
        go_roundw
        case rel =>
          refine ⟨j1, by have := HJ.out; omega, by first | rfl | (rw [HJ.out]; rfl), ?_, HB3, HK3⟩
          show Holds _ _ _ _
          rw [HJ.out, HX1.out]
          have := HH3.out
          rw [join_zero, List.append_nil] at this
          exact this
        case measure => have := HJ.out; simp only [intOf]; omega
      · have hd : decide ((0 : Int) < (j : Int)) = true := decide_eq_true (by omega)
        have hd2 : decide (0 < j) = true := decide_eq_true (by omega)
        have HX1 := Lib.hid (join_next (m := m) HX0.out (by omega))
        go_upto_region 4 with fail
        obtain ⟨wn, hwn⟩ : ∃ wn, wn = wr.alloc (.cells #[.int .i64 k, .string x, .slice A' m' c'] 25) := ⟨_, rfl⟩
        obtain ⟨G, hG⟩ : ∃ G, G = wr.heap.size := ⟨_, rfl⟩
        rw [← hwn, ← hG]
        have hbn : Below wr.heap.size wr wn := by rw [hwn]; exact (Below.refl _ _).alloc (Nat.le_refl _) _
        have hgn : wn.heap[G]? = some (.cells #[.int .i64 k, .string x, .slice A' m' c'] 25) := by rw [hwn, hG]; exact heap_alloc_new wr _
        have HGn := Lib.hid hgn
        have HBn := Lib.hid (HBr.out.trans (hbn.mono hsz))
        have HHn := Lib.hid (holds_on HHr.out hbn)
        have HKn := Lib.hid (HKr.out.trans (Kept.of hbn))
        clear n0 n1 n2 hwn hbn hgn hG
        have HW1 := Lib.hid (HWm.out _ wn HHn.out (by
          have := HN.out
          have h5 := HLs.out
          have h6 := HMl.out
          rw [HX1.out] at h5
          simp only [List.length_append] at h5 ⊢; omega) (Nat.le_trans hB HBn.out.size))
        go_upto_region 6 with (go_at_call 29; refine HW1.out.mono ?_; rintro e w2 ⟨rfl, h2, hb2, hk2⟩; have HH2 := Lib.hid h2; have HB2 := Lib.hid (HBn.out.trans hb2); have HK2 := Lib.hid hk2; clear h2 hb2 hk2)
        have hGb : G ≠ b := fun e => by
          have h7 := HGn.out
          rw [e] at h7
          rcases HHn.out with ⟨_, v, h8, _⟩ | ⟨_, v, h8, _⟩ <;> (rw [h8] at h7; simp only [Option.some.injEq, Obj.cells.injEq] at h7; exact absurd h7.2.1 (by decide))
        obtain ⟨d0, d1, d2⟩ := cells_three ((HK2.out G _ _ _ HGn.out (by decide) hGb).trans HGn.out)
        have HKn2 := Lib.hid (HKn.out.trans HK2.out)
        have hcw := HWx.out _ _ w2 (HX.out w2 HB2.out) HH2.out (Nat.le_trans hB HB2.out.size) (by
          have := HN.out
          have h5 := HLs.out
          rw [HX1.out] at h5
          rw [HMb.out]
          simp only [List.length_append] at h5 ⊢; omega)
        have HCw := Lib.hid hcw
        clear hcw hGb
        go_upto_region 7 with (go_at_call 14; refine HCw.out.mono ?_; rintro e w3 ⟨rfl, h3, hb3, hk3⟩; have HH3 := Lib.hid h3; have HB3 := Lib.hid (HB2.out.trans hb3); have HK3 := Lib.hid (HKn2.out.trans hk3); clear h3 hb3 hk3)
        clear d0 d1 d2 hd hd2
        go_wp2_with fail
        go_roundw
        case rel =>
          refine ⟨j1, by have := HJ.out; omega, by first | rfl | (rw [HJ.out]; rfl), ?_, HB3, HK3⟩
          show Holds _ _ _ _
          have h9 := HH3.out
          rw [HMb.out] at h9
          rw [HJ.out, HX1.out]
          simpa only [List.append_assoc] using h9
        case measure => have := HJ.out; simp only [intOf]; omega
    · obtain rfl : j = q := by omega
      have htk : l.take j = l := by rw [HQ.out, List.take_length]
      have h9 := HHr.out
      rw [htk] at h9
      have HW1 := Lib.hid (HWz.out _ wr h9 (by
        have := HN.out
        simp only [List.length_append]; omega) hsz)
      clear h9 htk
      go_wp2_with (go_at_call 29; refine HW1.out.mono ?_; rintro e w2 ⟨rfl, h2, hb2, hk2⟩; have HH2 := Lib.hid h2; have HB2 := Lib.hid (HBr.out.trans hb2); have HK2 := Lib.hid (HKr.out.trans hk2); clear h2 hb2 hk2)
      have h9 := HH2.out
      rw [HZb.out] at h9
      exact bodyPost_end (v := .tuple #[]) (by simp [results, Tryz.results31, go_sem]) rfl ⟨rfl, h9, HB2.out, HK2.out⟩

/-- three side by side: the first two, the last one -/
theorem cut_three {S : Nat → Prop} {w : World} {A : Option Addr} {c : Nat} {x y z : Nz} (h : NzsIn S w A c [x, y, z]) :
    ∃ b o, A = some ⟨b, o, none⟩ ∧ b < w.heap.size ∧ S b ∧ 3 ≤ c ∧ NzsIn S w (some ⟨b, o, none⟩) c [x, y] ∧ NzsIn S w (some ⟨b, o + 2 * 3, none⟩) (c - 2) [z] := by
  obtain ⟨hc, vs, hr, hn⟩ := h
  have hc3 : 3 ≤ c := hc
  rcases hr with h0 | ⟨b, o, rfl, hb, hS, hU, h3⟩
  · simp at h0
  · refine ⟨b, o, rfl, hb, hS, hc3, ⟨by show 2 ≤ c; omega, vs, .inr ⟨b, o, rfl, hb, hS, hU, fun j hj => h3 j (Nat.lt_succ_of_lt hj)⟩, fun j n hj => ?_⟩, ⟨by show 1 ≤ c - 2; omega, fun _ => vs 2, .inr ⟨b, o + 2 * 3, rfl, hb, hS, hU, fun j hj => ?_⟩, fun j n hj => ?_⟩⟩
    · match j, hj with
      | 0, hj => exact hn 0 n hj
      | 1, hj => exact hn 1 n hj
    · have hj : j < 1 := hj
      obtain rfl : j = 0 := by omega
      have := h3 2 (by show 2 < 3; decide)
      obtain ⟨p, q, r, e0, e1, e2, e3⟩ := this
      exact ⟨p, q, r, e0, e1, e2, e3⟩
    · match j, hj with
      | 0, hj => exact hn 2 n hj

end Go.Proofs.YtmcdefkpkpaceaaGreatDoor.Kwa
