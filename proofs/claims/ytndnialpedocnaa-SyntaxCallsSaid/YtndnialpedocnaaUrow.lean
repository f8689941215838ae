/- The program's row: what was read of a text: things, and bytes that wait (a text builder within a struct). -/
import Derived.WalkKit
import Derived.WalkSpells
import Derived.OwnWalk
import Derived.IntWalk
import Derived.Below
import Derived.OneCell
import Derived.Lib.Hide
import Derived.Lib.Builder
import Derived.Lib.AppendStr
import Derived.Lib.UnsafeStr
import Derived.Laws.Externs
import Derived.Laws.OwnMore
import Derived.Maps.AppendAt
import Derived.RegionTactic
import Derived.Test.YtndnialpedocnaaProg
import Derived.Test.YtndnialpedocnaaUnod
namespace Go.Proofs.Ytndnialpedocnaa.Urow
open Go.RowKit Go.Proofs.Ytndnialpedocnaa.Spl Go.Proofs.Ytndnialpedocnaa.Nodm Go.Proofs.Ytndnialpedocnaa.Unod
open Go.Proofs.Ytndnialpedocnaa.Pure (bs)

theorem infoByte : (Try.prog.info? 5).map (fun i => (i.zero, i.size, i.bytes)) = some (some (.int .u8 0), 1, 1) := by kernel_rfl
theorem sizeBuilder : (Try.prog.info? 43).map (·.size) = some 2 := by kernel_rfl
theorem liesBuilder : liesAt Try.prog Try.prog.depth 45 (3 / Try.prog.cellsOf 45) 1 43 1 = true := by kernel_rfl

/-- nothing but the block b, and new blocks, differs -/
structure Far (b : Nat) (w W : World) : Prop where
  os : W.os = w.os
  tape : W.tape = w.tape
  output : W.output = w.output
  size : w.heap.size ≤ W.heap.size
  block : ∀ k, k < w.heap.size → k ≠ b → W.heap[k]? = w.heap[k]?
theorem Far.below {B b : Nat} {w W : World} (h : Far b w W) (hB : B ≤ b) (hz : B ≤ w.heap.size) : Below B w W := ⟨h.os, h.tape, h.output, h.size, fun k hk => h.block k (by omega) (by omega)⟩
theorem Far.refl (b : Nat) (w : World) : Far b w w := ⟨rfl, rfl, rfl, Nat.le_refl _, fun _ _ _ => rfl⟩
theorem Far.set (b j : Nat) (w : World) (v : Value) : Far b w (w.setCell ⟨b, j, none⟩ v) := ⟨rfl, rfl, rfl, by simp, fun k _ hk => heap_setCell_other w ⟨b, j, none⟩ k v hk⟩
theorem Far.trans {b : Nat} {w W X : World} (h : Far b w W) (k : Far b W X) : Far b w X := ⟨k.os.trans h.os, k.tape.trans h.tape, k.output.trans h.output, Nat.le_trans h.size k.size, fun j hj hb => (k.block j (Nat.lt_of_lt_of_le hj h.size) hb).trans (h.block j hj hb)⟩
theorem cells_at {W : World} {H : Nat} {x y z : Value} {ty : TypeId} (h : W.heap[H]? = some (.cells #[x, y, z] ty)) : W.cell? ⟨H, 0, none⟩ = some x ∧ W.cell? ⟨H, 1, none⟩ = some y ∧ W.cell? ⟨H, 2, none⟩ = some z :=
  ⟨by rw [Lib.cell_of_heap h]; rfl, by rw [Lib.cell_of_heap h]; rfl, by rw [Lib.cell_of_heap h]; rfl⟩
theorem heap_lt {w : World} {b : Nat} {o : Obj} (h : w.heap[b]? = some o) : b < w.heap.size := (Array.getElem?_eq_some_iff.1 h).1
theorem own_ne {w : World} {B sz n : Nat} {e t : TypeId} {v : Value} {xs : List Value} {b : Nat} {cs : Array Value} {fr : Nat × Nat} (hown : w.ownsRow B e sz v n xs) (hb : w.heap[b]? = some (.cells cs t fr)) (hTe : t ≠ e) : v.ownBlock ≠ some b := by
  rcases hown.2 with ⟨rfl, _⟩ | ⟨g, cap, cur, rfl, _, hg, _⟩
  · intro h; cases h
  · intro h
    have : g = b := by simpa [Value.ownBlock] using h
    subst this
    rw [hg] at hb
    simp only [Option.some.injEq, Obj.cells.injEq] at hb
    exact hTe hb.2.1.symm

set_option maxRecDepth 100000 in
set_option maxHeartbeats 400000 in
/-- the builder's check: it keeps its own address -/
theorem check_is (b : Nat) (u p v : Value) (w : World) (hg : w.heap[b]? = some (.cells #[u, p, v] 45)) (hp : p = .pointer none ∨ p = .pointer (some ⟨b, 1, none⟩)) :
    Calls Try.prog 19 #[.pointer (some ⟨b, 1, none⟩)] w fun e W' => e = .returned (.tuple #[]) ∧ W'.heap[b]? = some (.cells #[u, .pointer (some ⟨b, 1, none⟩), v] 45) ∧ Far b w W' := by
  obtain ⟨j, hj, hjs⟩ := Option.map_eq_some_iff.1 sizeBuilder
  obtain ⟨c0, c1, c2⟩ := cells_at hg
  have hsh : w.shape? b = some (45, 3) := by simp [World.shape?, hg]
  have hfz : w.frozen? ⟨b, 1, none⟩ = false := Lib.frozen_of_heap hg 1
  rcases hp with rfl | rfl
  · have HG := Lib.hid (heap_setCell_same w b 1 _ _ (.pointer (some ⟨b, 1, none⟩)) hg)
    go_enter Try.func19, Try.ntmps19
    go_wp2
    rw [Lib.run_to_unsafe w ⟨b, 1, none⟩ Try.underlying40 Try.underlying62 hj (by rw [hjs]; decide) hsh (show (1 : Nat) < 3 by decide)]
    simp only [Result.andThen]
    rw [Oper.upon_value]
    go_wp2
    rw [run_callFunc_extern Try.func26 (by kernel_rfl) (by kernel_rfl) (by kernel_rfl) (e := Extern.AbiNoEscape.same) (by kernel_rfl), Lib.run_noEscape]
    simp only [Result.andThen]
    rw [Oper.upon_value]
    go_wp2
    rw [Lib.run_from_unsafe w ⟨b, 1, none⟩ Try.underlying62 Try.underlying40 hj hsh liesBuilder]
    simp only [Result.andThen]
    rw [Oper.upon_value]
    go_wp2
    go_end0
    exact ⟨rfl, HG.out, Far.set _ _ _ _⟩
  · have HG := Lib.hid hg
    clear hg
    go_enter Try.func19, Try.ntmps19
    go_wp2
    rw [Lib.run_neq_ptr_same w _ Try.underlying40 hj]
    go_wp2
    go_end0
    exact ⟨rfl, HG.out, Far.refl _ _⟩

/-- what was read of a text lies in the block b: things (u), and bytes that wait; b and both rows lie below H -/
structure RowAt (X : Nat → Prop) (B b H : Nat) (u : Value) (acc : List Nod) (cur : T) (w : World) : Prop where
  at_ : B ≤ b
  lt : b < H
  hz : H ≤ w.heap.size
  uH : ∀ k, u.ownBlock = some k → k < H
  st : ∃ p v vs, w.heap[b]? = some (.cells #[u, p, v] 45) ∧ (p = .pointer none ∨ p = .pointer (some ⟨b, 1, none⟩)) ∧ w.ownsRow B 25 3 u acc.length (cells3 vs) ∧ vs.length = acc.length ∧ (∀ (j : Nat) (x : Value × Value × Value) (m : Nod), vs[j]? = some x → acc[j]? = some m → NodeIn (fun g => (SF B w g ∧ X g) ∧ u.ownBlock ≠ some g) w (.agg #[x.1, x.2.1, x.2.2]) m) ∧ w.ownsRow B 5 1 v cur.length (Lib.byteCells cur) ∧ ∀ k, v.ownBlock = some k → k < H

/-- what of a row stays if no row of expansions is touched -/
theorem own_same {w W : World} {B sz n : Nat} {e : TypeId} {u : Value} {xs : List Value} (h : w.ownsRow B e sz u n xs) (hs : ∀ (g : Nat) (cs : Array Value) (fr : Nat × Nat), w.heap[g]? = some (.cells cs e fr) → W.heap[g]? = w.heap[g]?) : W.ownsRow B e sz u n xs := by
  refine ⟨h.1, ?_⟩
  rcases h.2 with hn | ⟨g, cap, cur, rfl, hb, hg, rest⟩
  · exact .inl hn
  · exact .inr ⟨g, cap, cur, rfl, hb, (hs g _ _ hg).trans hg, rest⟩
theorem nodes_same {X : Nat → Prop} {w W : World} {B : Nat} {u : Value} {acc : List Nod} {vs : List (Value × Value × Value)} (h : ∀ (j : Nat) (x : Value × Value × Value) (m : Nod), vs[j]? = some x → acc[j]? = some m → NodeIn (fun g => (SF B w g ∧ X g) ∧ u.ownBlock ≠ some g) w (.agg #[x.1, x.2.1, x.2.2]) m) (hs : ∀ (g : Nat) (cs : Array Value) (fr : Nat × Nat), w.heap[g]? = some (.cells cs 25 fr) → W.heap[g]? = w.heap[g]?) (hz : w.heap.size ≤ W.heap.size) : ∀ (j : Nat) (x : Value × Value × Value) (m : Nod), vs[j]? = some x → acc[j]? = some m → NodeIn (fun g => (SF B W g ∧ X g) ∧ u.ownBlock ≠ some g) W (.agg #[x.1, x.2.1, x.2.2]) m := fun j x m hx hm =>
  (h j x m hx hm).move (fun g hg _ => by
    obtain ⟨⟨⟨h1, cs, fr, h2⟩, hX⟩, h3⟩ := hg
    exact ⟨⟨⟨⟨h1, cs, fr, (hs g cs fr h2).trans h2⟩, hX⟩, h3⟩, hs g cs fr h2⟩) hz
/-- also later -/
theorem RowAt.on {X : Nat → Prop} {B b H : Nat} {u : Value} {acc : List Nod} {cur : T} {w W : World} (h : RowAt X B b H u acc cur w) (hb : Below w.heap.size w W) : RowAt X B b H u acc cur W := by
  obtain ⟨p, v, vs, hg, hp, hu, hl, hn, hv, hvH⟩ := h.st
  have hs : ∀ (g : Nat) (cs : Array Value) (t : TypeId) (fr : Nat × Nat), w.heap[g]? = some (.cells cs t fr) → W.heap[g]? = w.heap[g]? := fun g cs t fr h => hb.block g (heap_lt h)
  exact ⟨h.at_, h.lt, Nat.le_trans h.hz hb.size, h.uH, p, v, vs, (hb.block b (heap_lt hg)).trans hg, hp, own_same hu fun g cs fr h => hs g cs _ fr h, hl, nodes_same hn (fun g cs fr h => hs g cs _ fr h) hb.size, own_same hv fun g cs fr h => hs g cs _ fr h, hvH⟩
theorem RowAt.up {X : Nat → Prop} {B b H H' : Nat} {u : Value} {acc : List Nod} {cur : T} {w : World} (h : RowAt X B b H u acc cur w) (hH : H ≤ H') (hz : H' ≤ w.heap.size) : RowAt X B b H' u acc cur w := by
  obtain ⟨p, v, vs, hg, hp, hu, hl, hn, hv, hvH⟩ := h.st
  exact ⟨h.at_, Nat.lt_of_lt_of_le h.lt hH, hz, fun k e => Nat.lt_of_lt_of_le (h.uH k e) hH, p, v, vs, hg, hp, hu, hl, hn, hv, fun k e => Nat.lt_of_lt_of_le (hvH k e) hH⟩

/-- a block that is new: no thing lies there -/
theorem RowAt.not_new {X : Nat → Prop} {B b H : Nat} {u : Value} {acc : List Nod} {cur : T} {w : World} (h : RowAt X B b H u acc cur w) : RowAt (fun g => X g ∧ g ≠ w.heap.size) B b H u acc cur w := by
  obtain ⟨p, v, vs, hg, hp, hu, hl, hn, hv, hvH⟩ := h.st
  exact ⟨h.at_, h.lt, h.hz, h.uH, p, v, vs, hg, hp, hu, hl, fun j x m hx hm => (hn j x m hx hm).mono fun g hg hlt => ⟨⟨hg.1.1, hg.1.2, by omega⟩, hg.2⟩, hv, hvH⟩

set_option maxRecDepth 100000 in
set_option maxHeartbeats 1000000 in
/-- a text is written -/
theorem write_text (X : Nat → Prop) (B b H : Nat) (u : Value) (acc : List Nod) (cur : T) (s : T) (w : World) (h : RowAt X B b H u acc cur w) (hlen : cur.length + s.length ≤ 100000000) :
    Calls Try.prog 15 #[.pointer (some ⟨b, 1, none⟩), .string (bs s)] w fun e W' => e = .returned (.tuple #[.int .i64 s.length, .nilIface]) ∧ RowAt X B b W'.heap.size u acc (cur ++ s) W' ∧ Below B w W' := by
  obtain ⟨i0, hi, hz0, hz1, hz2⟩ := info_parts infoByte
  have hBb := h.at_
  have hHz := h.hz
  have huH := Lib.hid h.uH
  obtain ⟨p, v, vs, hg, hp, hu, hl, hn, hv, _⟩ := h.st
  have hsz : (bs s).size = s.length := Pure.size_bs s
  have HC := Lib.hid (check_is b u p v w hg hp)
  have HU := Lib.hid hu
  have HL := Lib.hid hl
  have HNd := Lib.hid hn
  have hblt := heap_lt hg
  have hvb := own_ne hv hg (by decide)
  have hvt : ∀ (g : Nat) (cs : Array Value) (fr : Nat × Nat), w.heap[g]? = some (.cells cs 25 fr) → v.ownBlock ≠ some g ∧ g ≠ b ∧ g < w.heap.size := fun g cs fr hh => ⟨own_ne hv hh (by decide), fun e => by
    rw [e, hg] at hh
    simp only [Option.some.injEq, Obj.cells.injEq] at hh
    exact absurd hh.2.1 (by decide), heap_lt hh⟩
  have HV := Lib.hid hvt
  have hbl : (Lib.byteCells cur).length = cur.length := Lib.byteCells_length cur
  clear hl hn hu hg hp h hvt
  go_enter Try.func15, Try.ntmps15
  go_wp2_with fail
  refine HC.out.mono ?_
  rintro e w1 ⟨rfl, hg1, hf1⟩
  have hs1 := hf1.size
  have hv1 : w1.ownsRow B 5 1 v cur.length (Lib.byteCells cur) := by
    refine ⟨hv.1, ?_⟩
    rcases hv.2 with hn | ⟨g, cap, cu, rfl, hb, hg, rest⟩
    · exact .inl hn
    · exact .inr ⟨g, cap, cu, rfl, hb, (hf1.block g (heap_lt hg) (fun e => hvb (by rw [e]; rfl))).trans hg, rest⟩
  obtain ⟨c0, c1, c2⟩ := cells_at hg1
  go_wp2_with (at_builtin; refine Lib.wpList_append_own_string _ rfl _ _ 41 9 rfl B 5 i0 Try.underlying41 Try.underlying9 hi hz0 hz1 hz2 _ _ _ rfl hv1 (bs s) rfl (by unfold maxLen; omega) (by omega) (by omega) ?_)
  intro v' w2 hown' hgrow _
  have hb2 : w2.heap[b]? = some (.cells #[u, .pointer (some ⟨b, 1, none⟩), v] 45) := (hgrow.block b (heap_lt hg1) (fun e => hvb e.symm)).trans hg1
  obtain ⟨d0, d1, d2⟩ := cells_at hb2
  have f2 : w2.frozen? ⟨b, 2, none⟩ = false := Lib.frozen_of_heap hb2 2
  have hvb2 := own_ne hown' hb2 (by decide)
  have HO := Lib.hid hown'
  have HG2 := Lib.hid hgrow
  have HB2 := Lib.hid hb2
  have HF1 := Lib.hid hf1
  obtain ⟨ao, n', cap, rfl⟩ : ∃ ao n' cap, v' = .slice ao n' cap := by
    rcases hown'.2 with ⟨hv, _⟩ | ⟨g, cap, cur, hv, _⟩
    · exact ⟨_, _, _, hv⟩
    · exact ⟨_, _, _, hv⟩
  clear hown' hgrow hb2 hf1
  go_wp2
  go_ret2
  have hall : ∀ (g : Nat) (cs : Array Value) (fr : Nat × Nat), w.heap[g]? = some (.cells cs 25 fr) → (w2.setCell ⟨b, 2, none⟩ (.slice ao n' cap)).heap[g]? = w.heap[g]? := fun g cs fr h => by
    obtain ⟨h1, h2, h3⟩ := HV.out g cs fr h
    rw [heap_setCell_other w2 ⟨b, 2, none⟩ g _ h2, HG2.out.block g (by omega) (fun e => h1 e.symm)]
    exact HF1.out.block g h3 h2
  have hzz : w.heap.size ≤ (w2.setCell ⟨b, 2, none⟩ (.slice ao n' cap)).heap.size := by have := HG2.out.size; simp; omega
  refine ⟨rfl, ⟨hBb, by omega, Nat.le_refl _, fun k e => by have := huH.out k e; omega, _, .slice ao n' cap, vs, heap_setCell_same w2 b 2 _ _ _ HB2.out, .inr rfl, own_same HU.out hall, HL.out, nodes_same HNd.out hall hzz, ?_, fun k e => by have := (HO.out.lt k e).2; simp; omega⟩, ?_⟩
  · have e1 : Lib.byteCells (cur ++ s) = Lib.byteCells cur ++ Lib.strCells (bs s) := Lib.byteCells_append _ _
    rw [e1, List.length_append, ← hsz]
    exact ownsRow_setCell_other HO.out hvb2 _
  · exact ((HF1.out.below hBb (by omega)).grown HG2.out (by omega) (fun k hk => (hv1.lt k hk).1)).setCell (p := ⟨b, 2, none⟩) hBb _

end Go.Proofs.Ytndnialpedocnaa.Urow
