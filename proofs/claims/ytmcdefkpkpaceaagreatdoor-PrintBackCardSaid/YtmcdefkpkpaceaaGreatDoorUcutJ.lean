/- What the library's Cut answers at one byte. -/
import Derived.WalkKit
import Derived.WalkSpells
import Derived.IntWalk
import Derived.Below
import Derived.Lib.Hide
import Derived.Lib.IndexLaws
import Derived.Shelf.RegionOpenPlain
import Derived.Test.YtmcdefkpkpaceaaGreatDoorShelf
import Derived.Lib.SplitLaws
import Derived.Test.YtmcdefkpkpaceaaGreatDoorStrsJ
import Derived.Test.YtmcdefkpkpaceaaGreatDoorNodJ
import Derived.OwnWalk
import Derived.OneCell
import Derived.Lib.Builder
import Derived.Lib.AppendStr
import Derived.Lib.UnsafeStr
import Derived.Laws.Externs
import Derived.Laws.OwnMore
import Derived.Maps.AppendAt
import Derived.RegionTactic
import Derived.Test.YtmcdefkpkpaceaaGreatDoorProg
import Derived.Deep.RegionLaw
namespace Go.Proofs.YtmcdefkpkpaceaaGreatDoor.Ucut
open Go.RowKit Go.Proofs.YtmcdefkpkpaceaaGreatDoor.Pure

theorem none_idx {l : List UInt8} {c : UInt8} (h : ∀ d ∈ l, d ≠ c) : Lib.indexByte l c = -1 := by
  rcases (show Lib.indexByte l c < 0 ∨ 0 ≤ Lib.indexByte l c by omega) with h1 | h1
  · have := Lib.indexByte_ge l c; omega
  · obtain ⟨o, ho⟩ := Int.eq_ofNat_of_zero_le h1
    have := (Lib.indexByte_some ho).1
    exact absurd rfl (h c (List.mem_of_getElem? this))
theorem some_idx {l a r : List UInt8} {c : UInt8} (h : l = a ++ c :: r) (ha : ∀ d ∈ a, d ≠ c) : Lib.indexByte l c = a.length := by
  rcases (show Lib.indexByte l c < 0 ∨ 0 ≤ Lib.indexByte l c by omega) with h1 | h1
  · have h2 := Lib.indexByte_ge l c
    have h3 := Lib.indexByte_none (show Lib.indexByte l c = -1 by omega) a.length
    rw [h] at h3
    exact absurd (by simp) h3
  · obtain ⟨o, ho⟩ := Int.eq_ofNat_of_zero_le h1
    obtain ⟨h2, h3⟩ := Lib.indexByte_some ho
    rw [ho]
    rcases Nat.lt_trichotomy o a.length with h4 | h4 | h4
    · rw [h, List.getElem?_append_left h4] at h2
      exact absurd rfl (ha c (List.mem_of_getElem? h2))
    · rw [h4]
    · have := h3 a.length h4
      rw [h] at this
      exact absurd (by simp) this
theorem split_at (l : List UInt8) (c : UInt8) : (∀ d ∈ l, d ≠ c) ∨ ∃ a r, l = a ++ c :: r ∧ ∀ d ∈ a, d ≠ c := by
  induction l with
  | nil => exact .inl (fun _ h => absurd h (by simp))
  | cons x l ih =>
    by_cases hx : x = c
    · exact .inr ⟨[], l, by rw [hx]; rfl, fun _ h => absurd h (by simp)⟩
    · rcases ih with h | ⟨a, r, rfl, h⟩
      · exact .inl (fun d hd => (List.mem_cons.1 hd).elim (fun e => e ▸ hx) (h d))
      · exact .inr ⟨x :: a, r, rfl, fun d hd => (List.mem_cons.1 hd).elim (fun e => e ▸ hx) (h d)⟩

set_option maxHeartbeats 1000000 in
theorem lite_miss (s : ByteArray) (c : UInt8) (w : World) (h : Lib.indexByte s.data.toList c = -1) :
    Calls Tryz.prog 64 #[.string s, .string ⟨#[c]⟩] w fun e w' => e = .returned (.tuple #[.string s, .string .empty, .bool false]) ∧ w' = w := by
  have hI := Tryz.stringslite_Index_one s c
  rw [h] at hI
  clear h
  go_enter Tryz.func64, Tryz.ntmps64
  go_wp2_with (go_at_call 74; refine (hI _).mono ?_; rintro e w' ⟨rfl, rfl⟩)
  go_ret3
  exact ⟨rfl, rfl⟩
set_option maxHeartbeats 1000000 in
theorem lite_hit (s : ByteArray) (c : UInt8) (k : Nat) (w : World) (hk : k + 1 ≤ s.size) (hs : s.size ≤ maxLen) (h : Lib.indexByte s.data.toList c = k) :
    Calls Tryz.prog 64 #[.string s, .string ⟨#[c]⟩] w fun e w' => e = .returned (.tuple #[.string (s.extract 0 k), .string (s.extract (k + 1) s.size), .bool true]) ∧ w' = w.drew := by
  unfold maxLen at hs
  have hI := Tryz.stringslite_Index_one s c
  rw [h] at hI
  clear h
  have hz : (⟨#[c]⟩ : ByteArray).size = 1 := rfl
  go_enter Tryz.func64, Tryz.ntmps64
  go_wp2_with (go_at_call 74; refine (hI _).mono ?_; rintro e w' ⟨rfl, rfl⟩)
  go_region
  go_wp2
  go_ret3
  exact ⟨rfl, rfl⟩

set_option maxHeartbeats 1000000 in
/-- the byte is not there -/
theorem cut_miss (s : ByteArray) (c : UInt8) (w : World) (h : ∀ d ∈ s.data.toList, d ≠ c) :
    Calls Tryz.prog 53 #[.string s, .string ⟨#[c]⟩] w fun e w' => e = .returned (.tuple #[.string s, .string .empty, .bool false]) ∧ w' = w := by
  have hI := fun W => lite_miss s c W (none_idx h)
  clear h
  go_enter Tryz.func53, Tryz.ntmps53
  go_wp2_with (go_at_call 64; refine (hI _).mono ?_; rintro e w' ⟨rfl, rfl⟩)
  go_ret3
  exact ⟨rfl, rfl⟩
set_option maxHeartbeats 1000000 in
theorem cut_core (s u v : ByteArray) (c : UInt8) (w : World) (hI : ∀ W, Calls Tryz.prog 64 #[.string s, .string ⟨#[c]⟩] W fun e w' => e = .returned (.tuple #[.string u, .string v, .bool true]) ∧ w' = W.drew) :
    Calls Tryz.prog 53 #[.string s, .string ⟨#[c]⟩] w fun e w' => e = .returned (.tuple #[.string u, .string v, .bool true]) ∧ w' = w.drew := by
  go_enter Tryz.func53, Tryz.ntmps53
  go_wp2_with (go_at_call 64; refine (hI _).mono ?_; rintro e w' ⟨rfl, rfl⟩)
  go_ret3
  exact ⟨rfl, rfl⟩
/-- the byte is there -/
theorem cut_hit (s : ByteArray) (c : UInt8) (a r : List UInt8) (w : World) (hs : s.size ≤ maxLen) (h : s.data.toList = a ++ c :: r) (ha : ∀ d ∈ a, d ≠ c) :
    Calls Tryz.prog 53 #[.string s, .string ⟨#[c]⟩] w fun e w' => e = .returned (.tuple #[.string (bs a), .string (bs r), .bool true]) ∧ w' = w.drew := by
  have hz : a.length + 1 ≤ s.size := by rw [Lib.size_eq, h]; simp
  have e1 : s.extract 0 a.length = bs a := ext_data (by rw [Lib.extract_from_zero, bs_data, h]; simp)
  have e2 : s.extract (a.length + 1) s.size = bs r := ext_data (by rw [Lib.extract_to_end, bs_data, h]; simp [List.drop_append])
  have := fun W => lite_hit s c a.length W hz hs (some_idx h ha)
  rw [e1, e2] at this
  exact cut_core s (bs a) (bs r) c w this

end Go.Proofs.YtmcdefkpkpaceaaGreatDoor.Ucut

/- Expansions whose rows lie in rows of expansions, from a block on. -/
namespace Go.Proofs.YtmcdefkpkpaceaaGreatDoor.Unod
open Go.RowKit Go.Proofs.YtmcdefkpkpaceaaGreatDoor.Spl Go.Proofs.YtmcdefkpkpaceaaGreatDoor.Nodm

/-- a block that is a row of expansions -/
def NB (W : World) (g : Nat) : Prop := ∃ cs fr, W.heap[g]? = some (.cells cs 25 fr)
def SF (H : Nat) (W : World) (g : Nat) : Prop := H ≤ g ∧ NB W g
theorem NB.of {w W : World} {g : Nat} (h : NB w g) (e : W.heap[g]? = w.heap[g]?) : NB W g := by
  obtain ⟨cs, fr, h⟩ := h
  exact ⟨cs, fr, e.trans h⟩
theorem SF.of {H : Nat} {w W : World} {g : Nat} (h : SF H w g) (e : W.heap[g]? = w.heap[g]?) : SF H W g := ⟨h.1, h.2.of e⟩
theorem on {H : Nat} {w W : World} {v : Value} {n : Nod} (h : NodeIn (SF H w) w v n) (hb : Below w.heap.size w W) : NodeIn (SF H W) W v n :=
  h.move (fun b hS hl => ⟨hS.of (hb.block b hl), hb.block b hl⟩) hb.size
theorem lower {H H' : Nat} {w : World} {v : Value} {n : Nod} (h : NodeIn (SF H w) w v n) (hH : H' ≤ H) : NodeIn (SF H' w) w v n :=
  h.mono fun _ hS _ => ⟨Nat.le_trans hH hS.1, hS.2⟩

end Go.Proofs.YtmcdefkpkpaceaaGreatDoor.Unod

/- The program's row: what was read of a text: things, and bytes that wait (a text builder within a struct). -/
namespace Go.Proofs.YtmcdefkpkpaceaaGreatDoor.Urow
open Go.RowKit Go.Proofs.YtmcdefkpkpaceaaGreatDoor.Spl Go.Proofs.YtmcdefkpkpaceaaGreatDoor.Nodm Go.Proofs.YtmcdefkpkpaceaaGreatDoor.Unod
open Go.Proofs.YtmcdefkpkpaceaaGreatDoor.Pure (bs)

theorem infoByte : (Tryz.prog.info? 5).map (fun i => (i.zero, i.size, i.bytes)) = some (some (.int .u8 0), 1, 1) := by kernel_rfl
theorem sizeBuilder : (Tryz.prog.info? 50).map (·.size) = some 2 := by kernel_rfl
theorem liesBuilder : liesAt Tryz.prog Tryz.prog.depth 114 (3 / Tryz.prog.cellsOf 114) 1 50 1 = true := by kernel_rfl

/-- nothing but the block b, and new blocks, differs -/
structure Far (b : Nat) (w W : World) : Prop where
  os : W.os = w.os
  tape : W.tape = w.tape
  output : W.output = w.output
  size : w.heap.size ≤ W.heap.size
  block : ∀ k, k < w.heap.size → k ≠ b → W.heap[k]? = w.heap[k]?
theorem Far.below {B b : Nat} {w W : World} (h : Far b w W) (hB : B ≤ b) (hz : B ≤ w.heap.size) : Below B w W := ⟨h.os, h.tape, h.output, h.size, fun k hk => h.block k (by omega) (by omega)⟩
theorem Far.refl (b : Nat) (w : World) : Far b w w := ⟨rfl, rfl, rfl, Nat.le_refl _, fun _ _ _ => rfl⟩
theorem Far.set (b j : Nat) (w : World) (v : Value) : Far b w (w.setCell ⟨b, j, none⟩ v) := ⟨rfl, rfl, rfl, by simp, fun k _ hk => heap_setCell_other w ⟨b, j, none⟩ k v hk⟩
theorem Far.trans {b : Nat} {w W X : World} (h : Far b w W) (k : Far b W X) : Far b w X := ⟨k.os.trans h.os, k.tape.trans h.tape, k.output.trans h.output, Nat.le_trans h.size k.size, fun j hj hb => (k.block j (Nat.lt_of_lt_of_le hj h.size) hb).trans (h.block j hj hb)⟩
theorem cells_at {W : World} {H : Nat} {x y z : Value} {ty : TypeId} (h : W.heap[H]? = some (.cells #[x, y, z] ty)) : W.cell? ⟨H, 0, none⟩ = some x ∧ W.cell? ⟨H, 1, none⟩ = some y ∧ W.cell? ⟨H, 2, none⟩ = some z :=
  ⟨by rw [Lib.cell_of_heap h]; rfl, by rw [Lib.cell_of_heap h]; rfl, by rw [Lib.cell_of_heap h]; rfl⟩
theorem heap_lt {w : World} {b : Nat} {o : Obj} (h : w.heap[b]? = some o) : b < w.heap.size := (Array.getElem?_eq_some_iff.1 h).1
theorem own_ne {w : World} {B sz n : Nat} {e t : TypeId} {v : Value} {xs : List Value} {b : Nat} {cs : Array Value} {fr : Nat × Nat} (hown : w.ownsRow B e sz v n xs) (hb : w.heap[b]? = some (.cells cs t fr)) (hTe : t ≠ e) : v.ownBlock ≠ some b := by
  rcases hown.2 with ⟨rfl, _⟩ | ⟨g, cap, cur, rfl, _, hg, _⟩
  · intro h; cases h
  · intro h
    have : g = b := by simpa [Value.ownBlock] using h
    subst this
    rw [hg] at hb
    simp only [Option.some.injEq, Obj.cells.injEq] at hb
    exact hTe hb.2.1.symm

set_option maxRecDepth 100000 in
set_option maxHeartbeats 400000 in
/-- the builder's check: it keeps its own address -/
theorem check_is (b : Nat) (u p v : Value) (w : World) (hg : w.heap[b]? = some (.cells #[u, p, v] 114)) (hp : p = .pointer none ∨ p = .pointer (some ⟨b, 1, none⟩)) :
    Calls Tryz.prog 27 #[.pointer (some ⟨b, 1, none⟩)] w fun e W' => e = .returned (.tuple #[]) ∧ W'.heap[b]? = some (.cells #[u, .pointer (some ⟨b, 1, none⟩), v] 114) ∧ Far b w W' := by
  obtain ⟨j, hj, hjs⟩ := Option.map_eq_some_iff.1 sizeBuilder
  obtain ⟨c0, c1, c2⟩ := cells_at hg
  have hsh : w.shape? b = some (114, 3) := by simp [World.shape?, hg]
  have hfz : w.frozen? ⟨b, 1, none⟩ = false := Lib.frozen_of_heap hg 1
  rcases hp with rfl | rfl
  · have HG := Lib.hid (heap_setCell_same w b 1 _ _ (.pointer (some ⟨b, 1, none⟩)) hg)
    go_enter Tryz.func27, Tryz.ntmps27
    go_wp2
    rw [Lib.run_to_unsafe w ⟨b, 1, none⟩ Tryz.underlying47 Tryz.underlying109 hj (by rw [hjs]; decide) hsh (show (1 : Nat) < 3 by decide)]
    simp only [Result.andThen]
    rw [Oper.upon_value]
    go_wp2
    rw [run_callFunc_extern Tryz.func50 (by kernel_rfl) (by kernel_rfl) (by kernel_rfl) (e := Extern.AbiNoEscape.same) (by kernel_rfl), Lib.run_noEscape]
    simp only [Result.andThen]
    rw [Oper.upon_value]
    go_wp2
    rw [Lib.run_from_unsafe w ⟨b, 1, none⟩ Tryz.underlying109 Tryz.underlying47 hj hsh liesBuilder]
    simp only [Result.andThen]
    rw [Oper.upon_value]
    go_wp2
    go_end0
    exact ⟨rfl, HG.out, Far.set _ _ _ _⟩
  · have HG := Lib.hid hg
    clear hg
    go_enter Tryz.func27, Tryz.ntmps27
    go_wp2
    rw [Lib.run_neq_ptr_same w _ Tryz.underlying47 hj]
    go_wp2
    go_end0
    exact ⟨rfl, HG.out, Far.refl _ _⟩

/-- what was read of a text lies in the block b: things (u), and bytes that wait; b and both rows lie below H -/
structure RowAt (X : Nat → Prop) (B b H : Nat) (u : Value) (acc : List Nod) (cur : T) (w : World) : Prop where
  at_ : B ≤ b
  lt : b < H
  hz : H ≤ w.heap.size
  uH : ∀ k, u.ownBlock = some k → k < H
  st : ∃ p v vs, w.heap[b]? = some (.cells #[u, p, v] 114) ∧ (p = .pointer none ∨ p = .pointer (some ⟨b, 1, none⟩)) ∧ w.ownsRow B 25 3 u acc.length (cells3 vs) ∧ vs.length = acc.length ∧ (∀ (j : Nat) (x : Value × Value × Value) (m : Nod), vs[j]? = some x → acc[j]? = some m → NodeIn (fun g => (SF B w g ∧ X g) ∧ u.ownBlock ≠ some g) w (.agg #[x.1, x.2.1, x.2.2]) m) ∧ w.ownsRow B 5 1 v cur.length (Lib.byteCells cur) ∧ ∀ k, v.ownBlock = some k → k < H

/-- what of a row stays if no row of expansions is touched -/
theorem own_same {w W : World} {B sz n : Nat} {e : TypeId} {u : Value} {xs : List Value} (h : w.ownsRow B e sz u n xs) (hs : ∀ (g : Nat) (cs : Array Value) (fr : Nat × Nat), w.heap[g]? = some (.cells cs e fr) → W.heap[g]? = w.heap[g]?) : W.ownsRow B e sz u n xs := by
  refine ⟨h.1, ?_⟩
  rcases h.2 with hn | ⟨g, cap, cur, rfl, hb, hg, rest⟩
  · exact .inl hn
  · exact .inr ⟨g, cap, cur, rfl, hb, (hs g _ _ hg).trans hg, rest⟩
theorem nodes_same {X : Nat → Prop} {w W : World} {B : Nat} {u : Value} {acc : List Nod} {vs : List (Value × Value × Value)} (h : ∀ (j : Nat) (x : Value × Value × Value) (m : Nod), vs[j]? = some x → acc[j]? = some m → NodeIn (fun g => (SF B w g ∧ X g) ∧ u.ownBlock ≠ some g) w (.agg #[x.1, x.2.1, x.2.2]) m) (hs : ∀ (g : Nat) (cs : Array Value) (fr : Nat × Nat), w.heap[g]? = some (.cells cs 25 fr) → W.heap[g]? = w.heap[g]?) (hz : w.heap.size ≤ W.heap.size) : ∀ (j : Nat) (x : Value × Value × Value) (m : Nod), vs[j]? = some x → acc[j]? = some m → NodeIn (fun g => (SF B W g ∧ X g) ∧ u.ownBlock ≠ some g) W (.agg #[x.1, x.2.1, x.2.2]) m := fun j x m hx hm =>
  (h j x m hx hm).move (fun g hg _ => by
    obtain ⟨⟨⟨h1, cs, fr, h2⟩, hX⟩, h3⟩ := hg
    exact ⟨⟨⟨⟨h1, cs, fr, (hs g cs fr h2).trans h2⟩, hX⟩, h3⟩, hs g cs fr h2⟩) hz
/-- also later -/
theorem RowAt.on {X : Nat → Prop} {B b H : Nat} {u : Value} {acc : List Nod} {cur : T} {w W : World} (h : RowAt X B b H u acc cur w) (hb : Below w.heap.size w W) : RowAt X B b H u acc cur W := by
  obtain ⟨p, v, vs, hg, hp, hu, hl, hn, hv, hvH⟩ := h.st
  have hs : ∀ (g : Nat) (cs : Array Value) (t : TypeId) (fr : Nat × Nat), w.heap[g]? = some (.cells cs t fr) → W.heap[g]? = w.heap[g]? := fun g cs t fr h => hb.block g (heap_lt h)
  exact ⟨h.at_, h.lt, Nat.le_trans h.hz hb.size, h.uH, p, v, vs, (hb.block b (heap_lt hg)).trans hg, hp, own_same hu fun g cs fr h => hs g cs _ fr h, hl, nodes_same hn (fun g cs fr h => hs g cs _ fr h) hb.size, own_same hv fun g cs fr h => hs g cs _ fr h, hvH⟩
theorem RowAt.up {X : Nat → Prop} {B b H H' : Nat} {u : Value} {acc : List Nod} {cur : T} {w : World} (h : RowAt X B b H u acc cur w) (hH : H ≤ H') (hz : H' ≤ w.heap.size) : RowAt X B b H' u acc cur w := by
  obtain ⟨p, v, vs, hg, hp, hu, hl, hn, hv, hvH⟩ := h.st
  exact ⟨h.at_, Nat.lt_of_lt_of_le h.lt hH, hz, fun k e => Nat.lt_of_lt_of_le (h.uH k e) hH, p, v, vs, hg, hp, hu, hl, hn, hv, fun k e => Nat.lt_of_lt_of_le (hvH k e) hH⟩

/-- a block that is new: no thing lies there -/
theorem RowAt.not_new {X : Nat → Prop} {B b H : Nat} {u : Value} {acc : List Nod} {cur : T} {w : World} (h : RowAt X B b H u acc cur w) : RowAt (fun g => X g ∧ g ≠ w.heap.size) B b H u acc cur w := by
  obtain ⟨p, v, vs, hg, hp, hu, hl, hn, hv, hvH⟩ := h.st
  exact ⟨h.at_, h.lt, h.hz, h.uH, p, v, vs, hg, hp, hu, hl, fun j x m hx hm => (hn j x m hx hm).mono fun g hg hlt => ⟨⟨hg.1.1, hg.1.2, by omega⟩, hg.2⟩, hv, hvH⟩

set_option maxRecDepth 100000 in
set_option maxHeartbeats 1000000 in
/-- a text is written -/
theorem write_text (X : Nat → Prop) (B b H : Nat) (u : Value) (acc : List Nod) (cur : T) (s : T) (w : World) (h : RowAt X B b H u acc cur w) (hlen : cur.length + s.length ≤ 100000000) :
    Calls Tryz.prog 29 #[.pointer (some ⟨b, 1, none⟩), .string (bs s)] w fun e W' => e = .returned (.tuple #[.int .i64 s.length, .nilIface]) ∧ RowAt X B b W'.heap.size u acc (cur ++ s) W' ∧ Below B w W' := by
  obtain ⟨i0, hi, hz0, hz1, hz2⟩ := info_parts infoByte
  have hBb := h.at_
  have hHz := h.hz
  have huH := Lib.hid h.uH
  obtain ⟨p, v, vs, hg, hp, hu, hl, hn, hv, _⟩ := h.st
  have hsz : (bs s).size = s.length := Pure.size_bs s
  have HC := Lib.hid (check_is b u p v w hg hp)
  have HU := Lib.hid hu
  have HL := Lib.hid hl
  have HNd := Lib.hid hn
  have hblt := heap_lt hg
  have hvb := own_ne hv hg (by decide)
  have hvt : ∀ (g : Nat) (cs : Array Value) (fr : Nat × Nat), w.heap[g]? = some (.cells cs 25 fr) → v.ownBlock ≠ some g ∧ g ≠ b ∧ g < w.heap.size := fun g cs fr hh => ⟨own_ne hv hh (by decide), fun e => by
    rw [e, hg] at hh
    simp only [Option.some.injEq, Obj.cells.injEq] at hh
    exact absurd hh.2.1 (by decide), heap_lt hh⟩
  have HV := Lib.hid hvt
  have hbl : (Lib.byteCells cur).length = cur.length := Lib.byteCells_length cur
  clear hl hn hu hg hp h hvt
  go_enter Tryz.func29, Tryz.ntmps29
  go_wp2_with fail
  refine HC.out.mono ?_
  rintro e w1 ⟨rfl, hg1, hf1⟩
  have hs1 := hf1.size
  have hv1 : w1.ownsRow B 5 1 v cur.length (Lib.byteCells cur) := by
    refine ⟨hv.1, ?_⟩
    rcases hv.2 with hn | ⟨g, cap, cu, rfl, hb, hg, rest⟩
    · exact .inl hn
    · exact .inr ⟨g, cap, cu, rfl, hb, (hf1.block g (heap_lt hg) (fun e => hvb (by rw [e]; rfl))).trans hg, rest⟩
  obtain ⟨c0, c1, c2⟩ := cells_at hg1
  go_wp2_with (at_builtin; refine Lib.wpList_append_own_string _ rfl _ _ 48 9 rfl B 5 i0 Tryz.underlying48 Tryz.underlying9 hi hz0 hz1 hz2 _ _ _ rfl hv1 (bs s) rfl (by unfold maxLen; omega) (by omega) (by omega) ?_)
  intro v' w2 hown' hgrow _
  have hb2 : w2.heap[b]? = some (.cells #[u, .pointer (some ⟨b, 1, none⟩), v] 114) := (hgrow.block b (heap_lt hg1) (fun e => hvb e.symm)).trans hg1
  obtain ⟨d0, d1, d2⟩ := cells_at hb2
  have f2 : w2.frozen? ⟨b, 2, none⟩ = false := Lib.frozen_of_heap hb2 2
  have hvb2 := own_ne hown' hb2 (by decide)
  have HO := Lib.hid hown'
  have HG2 := Lib.hid hgrow
  have HB2 := Lib.hid hb2
  have HF1 := Lib.hid hf1
  obtain ⟨ao, n', cap, rfl⟩ : ∃ ao n' cap, v' = .slice ao n' cap := by
    rcases hown'.2 with ⟨hv, _⟩ | ⟨g, cap, cur, hv, _⟩
    · exact ⟨_, _, _, hv⟩
    · exact ⟨_, _, _, hv⟩
  clear hown' hgrow hb2 hf1
  go_wp2
  go_ret2
  have hall : ∀ (g : Nat) (cs : Array Value) (fr : Nat × Nat), w.heap[g]? = some (.cells cs 25 fr) → (w2.setCell ⟨b, 2, none⟩ (.slice ao n' cap)).heap[g]? = w.heap[g]? := fun g cs fr h => by
    obtain ⟨h1, h2, h3⟩ := HV.out g cs fr h
    rw [heap_setCell_other w2 ⟨b, 2, none⟩ g _ h2, HG2.out.block g (by omega) (fun e => h1 e.symm)]
    exact HF1.out.block g h3 h2
  have hzz : w.heap.size ≤ (w2.setCell ⟨b, 2, none⟩ (.slice ao n' cap)).heap.size := by have := HG2.out.size; simp; omega
  refine ⟨rfl, ⟨hBb, by omega, Nat.le_refl _, fun k e => by have := huH.out k e; omega, _, .slice ao n' cap, vs, heap_setCell_same w2 b 2 _ _ _ HB2.out, .inr rfl, own_same HU.out hall, HL.out, nodes_same HNd.out hall hzz, ?_, fun k e => by have := (HO.out.lt k e).2; simp; omega⟩, ?_⟩
  · have e1 : Lib.byteCells (cur ++ s) = Lib.byteCells cur ++ Lib.strCells (bs s) := Lib.byteCells_append _ _
    rw [e1, List.length_append, ← hsz]
    exact ownsRow_setCell_other HO.out hvb2 _
  · exact ((HF1.out.below hBb (by omega)).grown HG2.out (by omega) (fun k hk => (hv1.lt k hk).1)).setCell (p := ⟨b, 2, none⟩) hBb _

end Go.Proofs.YtmcdefkpkpaceaaGreatDoor.Urow

/- The program's row: a dollar written; how many bytes wait, as a text, none of them any more. -/
namespace Go.Proofs.YtmcdefkpkpaceaaGreatDoor.Ubld
open Go.RowKit Go.Proofs.YtmcdefkpkpaceaaGreatDoor.Spl Go.Proofs.YtmcdefkpkpaceaaGreatDoor.Nodm Go.Proofs.YtmcdefkpkpaceaaGreatDoor.Unod Go.Proofs.YtmcdefkpkpaceaaGreatDoor.Urow
open Go.Proofs.YtmcdefkpkpaceaaGreatDoor.Pure (bs)

set_option maxRecDepth 100000 in
set_option maxHeartbeats 1000000 in
/-- a dollar is written -/
theorem write_byte (X : Nat → Prop) (B b H : Nat) (u : Value) (acc : List Nod) (cur : T) (w : World) (h : RowAt X B b H u acc cur w) (hlen : cur.length ≤ 100000000) :
    Calls Tryz.prog 66 #[.pointer (some ⟨b, 1, none⟩), .int .u8 36] w fun e W' => e = .returned .nilIface ∧ RowAt X B b W'.heap.size u acc (cur ++ [36]) W' ∧ Below B w W' := by
  obtain ⟨i0, hi, hz0, hz1, hz2⟩ := info_parts infoByte
  have hBb := h.at_
  have hHz := h.hz
  have huH := Lib.hid h.uH
  obtain ⟨p, v, vs, hg, hp, hu, hl, hn, hv, _⟩ := h.st
  have HC := Lib.hid (check_is b u p v w hg hp)
  have HU := Lib.hid hu
  have HL := Lib.hid hl
  have HNd := Lib.hid hn
  have hblt := heap_lt hg
  have hvb := own_ne hv hg (by decide)
  have hvt : ∀ (g : Nat) (cs : Array Value) (fr : Nat × Nat), w.heap[g]? = some (.cells cs 25 fr) → v.ownBlock ≠ some g ∧ g ≠ b ∧ g < w.heap.size := fun g cs fr hh => ⟨own_ne hv hh (by decide), fun e => by
    rw [e, hg] at hh
    simp only [Option.some.injEq, Obj.cells.injEq] at hh
    exact absurd hh.2.1 (by decide), heap_lt hh⟩
  have HV := Lib.hid hvt
  have hbl : (Lib.byteCells cur).length = cur.length := Lib.byteCells_length cur
  clear hl hn hu hg hp h hvt
  go_enter Tryz.func66, Tryz.ntmps66
  go_wp2_with fail
  refine HC.out.mono ?_
  rintro e w1 ⟨rfl, hg1, hf1⟩
  have hs1 := hf1.size
  have hv1 : w1.ownsRow B 5 1 v cur.length (Lib.byteCells cur) := by
    refine ⟨hv.1, ?_⟩
    rcases hv.2 with hn | ⟨g, cap, cu, rfl, hb, hg, rest⟩
    · exact .inl hn
    · exact .inr ⟨g, cap, cu, rfl, hb, (hf1.block g (heap_lt hg) (fun e => hvb (by rw [e]; rfl))).trans hg, rest⟩
  obtain ⟨c0, c1, c2⟩ := cells_at hg1
  go_wp2_with (at_builtin; refine wpList_append_own _ rfl _ _ 48 rfl B 5 i0 (.int .u8 0) 1 1 Tryz.underlying48 hi hz0 hz1 hz2 rfl (by decide) _ _ _ rfl (hv1.alloc _) ⟨w1.heap.size, 0, none⟩ 1 1 [.int .u8 36] rfl rfl (cell_one_new _ _ _) (by simp [Value.oneCell']) (by unfold maxLen; omega) (by omega) (by simp; omega) ?_)
  intro v' w2 hown' hgrow _
  have hb2 : w2.heap[b]? = some (.cells #[u, .pointer (some ⟨b, 1, none⟩), v] 114) := (hgrow.block b (by have := heap_lt hg1; simp; omega) (fun e => hvb e.symm)).trans ((Lib.alloc_old w1 _ b (heap_lt hg1)).trans hg1)
  obtain ⟨d0, d1, d2⟩ := cells_at hb2
  have f2 : w2.frozen? ⟨b, 2, none⟩ = false := Lib.frozen_of_heap hb2 2
  have hvb2 := own_ne hown' hb2 (by decide)
  have HO := Lib.hid hown'
  have HG2 := Lib.hid hgrow
  have HB2 := Lib.hid hb2
  have HF1 := Lib.hid hf1
  obtain ⟨ao, n', cap, rfl⟩ : ∃ ao n' cap, v' = .slice ao n' cap := by
    rcases hown'.2 with ⟨hv, _⟩ | ⟨g, cap, cur, hv, _⟩
    · exact ⟨_, _, _, hv⟩
    · exact ⟨_, _, _, hv⟩
  clear hown' hgrow hb2 hf1
  go_wp2
  go_ret
  have hall : ∀ (g : Nat) (cs : Array Value) (fr : Nat × Nat), w.heap[g]? = some (.cells cs 25 fr) → (w2.setCell ⟨b, 2, none⟩ (.slice ao n' cap)).heap[g]? = w.heap[g]? := fun g cs fr h => by
    obtain ⟨h1, h2, h3⟩ := HV.out g cs fr h
    rw [heap_setCell_other w2 ⟨b, 2, none⟩ g _ h2, HG2.out.block g (by simp; omega) (fun e => h1 e.symm), Lib.alloc_old w1 _ g (by omega)]
    exact HF1.out.block g h3 h2
  have hzz : w.heap.size ≤ (w2.setCell ⟨b, 2, none⟩ (.slice ao n' cap)).heap.size := by have := HG2.out.size; simp at this ⊢; omega
  refine ⟨rfl, ⟨hBb, by omega, Nat.le_refl _, fun k e => by have := huH.out k e; omega, _, .slice ao n' cap, vs, heap_setCell_same w2 b 2 _ _ _ HB2.out, .inr rfl, own_same HU.out hall, HL.out, nodes_same HNd.out hall hzz, ?_, fun k e => by have := (HO.out.lt k e).2; simp; omega⟩, ?_⟩
  · have e1 : Lib.byteCells (cur ++ [36]) = Lib.byteCells cur ++ [.int .u8 36] := Lib.byteCells_append _ _
    rw [e1, List.length_append]
    exact ownsRow_setCell_other HO.out hvb2 _
  · exact (((HF1.out.below hBb (by omega)).alloc (by omega) _).grown HG2.out (by simp; omega) (fun k hk => (hv1.lt k hk).1)).setCell (p := ⟨b, 2, none⟩) hBb _

set_option maxRecDepth 100000 in
set_option maxHeartbeats 400000 in
/-- how many bytes wait -/
theorem len_is (b : Nat) (x p : Value) (A : Option Addr) (n c : Nat) (w : World) (hg : w.heap[b]? = some (.cells #[x, p, .slice A n c] 114)) :
    Calls Tryz.prog 76 #[.pointer (some ⟨b, 1, none⟩)] w fun e W' => e = .returned (.int .i64 n) ∧ W' = w := by
  obtain ⟨c0, c1, c2⟩ := cells_at hg
  go_enter Tryz.func76, Tryz.ntmps76
  go_wp2
  go_ret
  exact ⟨rfl, rfl⟩

theorem freeze_other (w : World) (g n k : Nat) (h : k ≠ g) : (w.freeze ⟨g, 0, none⟩ n).heap[k]? = w.heap[k]? := by
  unfold World.freeze
  split
  · rfl
  · simp only [Array.getElem?_modify]
    rw [if_neg (fun e => h e.symm)]

set_option maxRecDepth 100000 in
set_option maxHeartbeats 400000 in
/-- the bytes that wait, as a text: they are frozen where they lie -/
theorem text_is (B b g cap : Nat) (x p : Value) (cur : T) (w : World) (hg : w.heap[b]? = some (.cells #[x, p, .slice (some ⟨g, 0, none⟩) cur.length cap] 114)) (hv : w.ownsRow B 5 1 (.slice (some ⟨g, 0, none⟩) cur.length cap) cur.length (Lib.byteCells cur)) (h0 : cur ≠ []) :
    Calls Tryz.prog 16 #[.pointer (some ⟨b, 1, none⟩)] w fun e W' => e = .returned (.string (bs cur)) ∧ Far g w W' := by
  have hl0 : cur.length ≠ 0 := by simpa using h0
  obtain ⟨cu, hbg, hgg, hnc, hcm, hcs⟩ : ∃ cu, B ≤ g ∧ w.heap[g]? = some (.cells cu 5 (0, 0)) ∧ cur.length ≤ cap ∧ cap ≤ maxLen ∧ cu.size = cap * 1 := by
    rcases hv.2 with ⟨h1, _⟩ | ⟨g', cap', cu, h1, h2, h3, h4, h5, h6, _⟩
    · cases h1
    · simp only [Value.slice.injEq, Option.some.injEq, Addr.mk.injEq, and_true, true_and] at h1
      obtain ⟨rfl, rfl⟩ := h1
      exact ⟨cu, h2, h3, h4, h5, h6⟩
  have c2 : w.drew.cell? ⟨b, 2, none⟩ = some (.slice (some ⟨g, 0, none⟩) cur.length cap) := by
    have : w.drew.heap[b]? = some (.cells #[x, p, .slice (some ⟨g, 0, none⟩) cur.length cap] 114) := hg
    exact (cells_at this).2.2
  have hSD : (Builtin.unsafeSliceData_ #[48] 84 #[.slice (some ⟨g, 0, none⟩) cur.length cap]).run Tryz.prog w.drew = .ok (.pointer (some ⟨g, 0, none⟩)) w.drew :=
    Lib.run_unsafeSliceData_row _ _ _ _ _ _ (by omega)
  have hUS : (Builtin.unsafeString_ #[84, 3] 9 #[.pointer (some ⟨g, 0, none⟩), .int .i64 cur.length]).run Tryz.prog w.drew = .ok (.string (bs cur)) (w.drew.freeze ⟨g, 0, none⟩ cur.length) := by
    refine Lib.run_unsafeString_row w.drew 84 3 9 5 Tryz.underlying84 (by kernel_rfl) g cu.size (by have hg' : w.drew.heap[g]? = some (.cells cu 5 (0, 0)) := hgg; simp [World.shape?, hg']) cur h0 (by omega) (by unfold maxLen at hcm; omega) ?_
    intro j y hy
    exact hv.cells (g := g) rfl j (.int .u8 y.toNat) (by simp [Lib.byteCells, hy])
  have HF : Hid (Far g w (w.drew.freeze ⟨g, 0, none⟩ cur.length)) := by
    have hb : Below g w (w.drew.freeze ⟨g, 0, none⟩ cur.length) := Lib.below_freeze (Below.drew (Below.refl g w)) (p := ⟨g, 0, none⟩) (Nat.le_refl _) _
    exact ⟨hb.os, hb.tape, hb.output, hb.size, fun k _ hk => freeze_other w.drew g cur.length k hk⟩
  clear hv hg hgg
  go_enter Tryz.func16, Tryz.ntmps16
  go_wp2
  go_region
  all_goals (go_wp2; go_ret; exact ⟨rfl, HF.out⟩)

set_option maxRecDepth 100000 in
set_option maxHeartbeats 400000 in
/-- none of them any more -/
theorem reset_is (b : Nat) (x p v : Value) (w : World) (hg : w.heap[b]? = some (.cells #[x, p, v] 114)) :
    Calls Tryz.prog 77 #[.pointer (some ⟨b, 1, none⟩)] w fun e W' => e = .returned (.tuple #[]) ∧ W'.heap[b]? = some (.cells #[x, .pointer none, .slice none 0 0] 114) ∧ Far b w W' := by
  obtain ⟨c0, c1, c2⟩ := cells_at hg
  have f1 : w.frozen? ⟨b, 1, none⟩ = false := Lib.frozen_of_heap hg 1
  have f2 : w.frozen? ⟨b, 2, none⟩ = false := Lib.frozen_of_heap hg 2
  have g1 := heap_setCell_same w b 1 _ _ (.pointer none) hg
  have HG := Lib.hid (heap_setCell_same _ b 2 _ _ (.slice none 0 0) g1)
  clear hg g1
  go_enter Tryz.func77, Tryz.ntmps77
  go_wp2
  go_end0
  exact ⟨rfl, HG.out, (Far.set _ _ _ _).trans (Far.set _ _ _ _)⟩

end Go.Proofs.YtmcdefkpkpaceaaGreatDoor.Ubld
