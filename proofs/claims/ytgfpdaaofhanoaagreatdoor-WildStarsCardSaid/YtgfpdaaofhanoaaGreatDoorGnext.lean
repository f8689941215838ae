/- What the program's reader of patterns answers: the next piece. -/
import Derived.Test.YtgfpdaaofhanoaaGreatDoorGread
namespace Go.Proofs.YtgfpdaaofhanoaaGreatDoor.Gnext
open Go.RowKit Go.Proofs.YtgfpdaaofhanoaaGreatDoor.Gset Go.Proofs.YtgfpdaaofhanoaaGreatDoor.Gops Go.Proofs.YtgfpdaaofhanoaaGreatDoor.Glb Go.Proofs.YtgfpdaaofhanoaaGreatDoor.Gread

/-- of what was there only block g may have changed -/
structure Only (g : Nat) (w W : World) : Prop where
  os : W.os = w.os
  tape : W.tape = w.tape
  output : W.output = w.output
  size : w.heap.size ≤ W.heap.size
  block : ∀ k, k < w.heap.size → k ≠ g → W.heap[k]? = w.heap[k]?
theorem Only.of_below {g : Nat} {w W : World} (h : Below w.heap.size w W) : Only g w W := ⟨h.os, h.tape, h.output, h.size, fun k hk _ => h.block k hk⟩
theorem Only.trans {g : Nat} {a b c : World} (h : Only g a b) (k : Only g b c) : Only g a c :=
  ⟨k.os.trans h.os, k.tape.trans h.tape, k.output.trans h.output, Nat.le_trans h.size k.size, fun i hi hg => (k.block i (Nat.lt_of_lt_of_le hi h.size) hg).trans (h.block i hi hg)⟩
theorem Only.setCell {g : Nat} {a w : World} (h : Only g a w) {p : Addr} (hp : p.block = g ∨ a.heap.size ≤ p.block) (u : Value) : Only g a (w.setCell p u) :=
  ⟨h.os, h.tape, h.output, by rw [World.size_setCell]; exact h.size, fun i hi hg => (heap_setCell_other _ _ _ _ (by rcases hp with e | e <;> omega)).trans (h.block i hi hg)⟩
theorem Only.alloc {g : Nat} {a w : World} (h : Only g a w) (o : Obj) : Only g a (w.alloc o) :=
  ⟨h.os, h.tape, h.output, by rw [World.size_alloc]; have := h.size; omega, fun i hi hg => (Below.heap_alloc _ _ _ (Nat.lt_of_lt_of_le hi h.size)).trans (h.block i hi hg)⟩
theorem Only.below {g B : Nat} {a w W : World} (h : Only g w W) (hb : Below B a w) (hg : B ≤ g) (hB : B ≤ w.heap.size) : Below B a W :=
  ⟨h.os.trans hb.os, h.tape.trans hb.tape, h.output.trans hb.output, Nat.le_trans hb.size h.size, fun k hk => (h.block k (by omega) (by omega)).trans (hb.block k hk)⟩
theorem Only.put4 {g k : Nat} {a w : World} (h : Only g a w) (hk : k = g ∨ a.heap.size ≤ k) (p : Nat → Bool) : Only g a (put4 w k p) :=
  (((h.setCell (p := ⟨k, 0, none⟩) hk _).setCell (p := ⟨k, 1, none⟩) hk _).setCell (p := ⟨k, 2, none⟩) hk _).setCell (p := ⟨k, 3, none⟩) hk _

theorem len_size (v : ByteArray) : v.data.toList.length = v.size := (Lib.size_eq v).symm
theorem out_eq (v : ByteArray) : butOut (isBut v.data.toList) (inset v.size true none_ (behind (isBut v.data.toList) v).data.toList) = setOut (readSet v.data.toList) := by
  unfold readSet behind
  rw [len_size]
  cases isBut v.data.toList with
  | false =>
    simp only [Bool.false_eq_true, if_false]
    cases inset v.size true none_ v.data.toList with
    | none => rfl
    | some x => rfl
  | true =>
    simp only [if_true, Lib.extract_to_end]
    cases inset v.size true none_ (v.data.toList.drop 1) with
    | none => rfl
    | some x => rfl
/-- the program's readSet -/
theorem readSet_is (v : ByteArray) (w : World) (hs : v.size ≤ 1000000) :
    Calls Tryz.prog 110 #[.string v] w fun e W' => e = .returned (setOut (readSet v.data.toList)) ∧ Below w.heap.size w W' :=
  (readSet_walk v w hs).mono fun e W' ⟨he, hb⟩ => ⟨he.trans (by rw [out_eq]), hb⟩
theorem readSet_none (v : ByteArray) (w : World) (hs : v.size ≤ 1000000) (h : readSet v.data.toList = none) :
    Calls Tryz.prog 110 #[.string v] w fun e W' => e = .returned (.tuple #[.agg #[.int .u64 0, .int .u64 0, .int .u64 0, .int .u64 0], .string ⟨#[]⟩, .bool false]) ∧ Below w.heap.size w W' :=
  (readSet_is v w hs).mono fun e W' ⟨he, hb⟩ => ⟨he.trans (by rw [h]; rfl), hb⟩
theorem readSet_some (v : ByteArray) (w : World) (hs : v.size ≤ 1000000) (p : Nat → Bool) (r : ByteArray) (h : readSet v.data.toList = some (p, r.data.toList)) :
    Calls Tryz.prog 110 #[.string v] w fun e W' => e = .returned (.tuple #[.agg #[.int .u64 (word p 0 : Nat), .int .u64 (word p 1 : Nat), .int .u64 (word p 2 : Nat), .int .u64 (word p 3 : Nat)], .string r, .bool true]) ∧ Below w.heap.size w W' :=
  (readSet_is v w hs).mono fun e W' ⟨he, hb⟩ => ⟨he.trans (by rw [h, setOut, bs_self]; rfl), hb⟩

/-- a reader lies in block g -/
def RdAt (g : Nat) (u : ByteArray) (o : Bool) (w : World) : Prop := w.heap[g]? = some (.cells #[.string u, .bool o] 113 (0, 0))
theorem RdAt.rest {g : Nat} {u : ByteArray} {o : Bool} {w : World} (h : RdAt g u o w) : w.cell? ⟨g, 0, none⟩ = some (.string u) := by rw [cell_of_row _ _ _ _ _ _ h]; rfl
theorem RdAt.flag {g : Nat} {u : ByteArray} {o : Bool} {w : World} (h : RdAt g u o w) : w.cell? ⟨g, 1, none⟩ = some (.bool o) := by rw [cell_of_row _ _ _ _ _ _ h]; rfl
theorem RdAt.open_ {g : Nat} {u : ByteArray} {o : Bool} {w : World} (h : RdAt g u o w) (q : Nat) : w.frozen? ⟨g, q, none⟩ = false := frozen_of_row _ _ _ _ _ h
theorem RdAt.lt {g : Nat} {u : ByteArray} {o : Bool} {w : World} (h : RdAt g u o w) : g < w.heap.size := (Array.getElem?_eq_some_iff.1 h).1
theorem RdAt.on {g : Nat} {u : ByteArray} {o : Bool} {w w1 : World} (h : RdAt g u o w) (hb : Below w.heap.size w w1) : RdAt g u o w1 := (hb.block g h.lt).trans h
theorem RdAt.alloc {g : Nat} {u : ByteArray} {o : Bool} {w : World} (h : RdAt g u o w) (x : Obj) : RdAt g u o (w.alloc x) := (Below.heap_alloc _ _ _ h.lt).trans h
theorem RdAt.setRest {g : Nat} {u : ByteArray} {o : Bool} {w : World} (h : RdAt g u o w) (r : ByteArray) : RdAt g r o (w.setCell ⟨g, 0, none⟩ (.string r)) := by
  unfold RdAt; rw [heap_setCell_same _ _ _ _ _ _ h]; rfl
theorem RdAt.setFlag {g : Nat} {u : ByteArray} {o : Bool} {w : World} (h : RdAt g u o w) (b : Bool) : RdAt g u b (w.setCell ⟨g, 1, none⟩ (.bool b)) := by
  unfold RdAt; rw [heap_setCell_same _ _ _ _ _ _ h]; rfl
theorem RdAt.other {g : Nat} {u : ByteArray} {o : Bool} {w : World} (h : RdAt g u o w) {a : Addr} (ha : g ≠ a.block) (x : Value) : RdAt g u o (w.setCell a x) := (heap_setCell_other _ _ _ _ ha).trans h

set_option maxRecDepth 100000 in
set_option maxHeartbeats 1000000 in
/-- no set is looked for -/
theorem set_shut (g : Nat) (u : ByteArray) (w : World) (h : RdAt g u true w) :
    Calls Tryz.prog 84 #[.pointer (some ⟨g, 0, none⟩)] w fun e W' => e = .returned (.tuple #[.agg #[.int .u64 0, .int .u64 0, .int .u64 0, .int .u64 0], .bool false]) ∧ RdAt g u true W' ∧ Only g w W' := by
  have hl := h.lt
  have c1 := h.flag
  go_enter Tryz.func84, Tryz.ntmps84
  go_wp2
  exact bodyPost_ret (v := .tuple #[.agg #[.int .u64 0, .int .u64 0, .int .u64 0, .int .u64 0], .bool false]) (by simp [results, Tryz.results84, go_sem]) rfl ⟨rfl, h.alloc _, (Only.of_below (Below.refl _ _)).alloc _⟩

set_option maxRecDepth 100000 in
set_option maxHeartbeats 1000000 in
/-- a set is looked for, and none is there -/
theorem set_none (g : Nat) (u : ByteArray) (w : World) (h : RdAt g u false w) (hz : 0 < u.size) (hs : u.size ≤ 1000000) (hn : readSet (u.extract 1 u.size).data.toList = none) :
    Calls Tryz.prog 84 #[.pointer (some ⟨g, 0, none⟩)] w fun e W' => e = .returned (.tuple #[.agg #[.int .u64 0, .int .u64 0, .int .u64 0, .int .u64 0], .bool false]) ∧ RdAt g u true W' ∧ Only g w W' := by
  have hl := h.lt
  have c0 := h.rest
  have c1 := h.flag
  have hx : (u.extract 1 u.size).size ≤ 1000000 := by rw [ByteArray.size_extract]; omega
  have HC := Lib.hid (fun W => readSet_none (u.extract 1 u.size) W hx hn)
  clear hn hx
  go_enter Tryz.func84, Tryz.ntmps84
  go_wp2_with fail
  refine (HC.out _).mono ?_
  rintro e w1 ⟨rfl, hb1⟩
  have h1 : RdAt g u false w1 := (h.alloc _).on hb1
  have e0 := h1.rest
  have e1 := h1.flag
  have f0 := h1.open_ 0
  have f1 := h1.open_ 1
  have b1 : SetAt w.heap.size none_ w1 := (hb1.block _ (by simp)).trans (heap_alloc_new _ _)
  have d0 := SetAt.at_ b1 0 (by decide)
  have d1 := SetAt.at_ b1 1 (by decide)
  have d2 := SetAt.at_ b1 2 (by decide)
  have d3 := SetAt.at_ b1 3 (by decide)
  have k0 := SetAt.open_ b1 0
  have k1 := SetAt.open_ b1 1
  have k2 := SetAt.open_ b1 2
  have k3 := SetAt.open_ b1 3
  have hsz : w.heap.size < w1.heap.size := by have := hb1.size; rw [World.size_alloc] at this; omega
  have hgs : g < w1.heap.size := by omega
  have n1 : ¬ g = w.heap.size := by omega
  have n2 : ¬ w.heap.size = g := by omega
  have O1 : Hid (Only g w w1) := ((Only.of_below (Below.refl _ _)).alloc _).trans (Only.of_below hb1)
  clear hb1
  have H1 := Lib.hid h1
  clear h1 b1 c0 c1
  go_wp2
  exact bodyPost_ret (v := .tuple #[.agg #[.int .u64 0, .int .u64 0, .int .u64 0, .int .u64 0], .bool false]) (by simp [results, Tryz.results84, go_sem, *]) rfl
    ⟨rfl, (((((H1.out.setFlag true).other (a := ⟨w.heap.size, 0, none⟩) n1 _).other (a := ⟨w.heap.size, 1, none⟩) n1 _).other (a := ⟨w.heap.size, 2, none⟩) n1 _).other (a := ⟨w.heap.size, 3, none⟩) n1 _).alloc _,
      (((((O1.out.setCell (p := ⟨g, 1, none⟩) (.inl rfl) _).setCell (p := ⟨w.heap.size, 0, none⟩) (.inr (Nat.le_refl _)) _).setCell (p := ⟨w.heap.size, 1, none⟩) (.inr (Nat.le_refl _)) _).setCell (p := ⟨w.heap.size, 2, none⟩) (.inr (Nat.le_refl _)) _).setCell (p := ⟨w.heap.size, 3, none⟩) (.inr (Nat.le_refl _)) _).alloc _⟩

set_option maxRecDepth 100000 in
set_option maxHeartbeats 1000000 in
/-- a set is looked for, and is there -/
theorem set_some (g : Nat) (u r : ByteArray) (p : Nat → Bool) (w : World) (h : RdAt g u false w) (hz : 0 < u.size) (hs : u.size ≤ 1000000) (hn : readSet (u.extract 1 u.size).data.toList = some (p, r.data.toList)) :
    Calls Tryz.prog 84 #[.pointer (some ⟨g, 0, none⟩)] w fun e W' => e = .returned (.tuple #[.agg #[.int .u64 (word p 0 : Nat), .int .u64 (word p 1 : Nat), .int .u64 (word p 2 : Nat), .int .u64 (word p 3 : Nat)], .bool true]) ∧ RdAt g r false W' ∧ Only g w W' := by
  have hl := h.lt
  have c0 := h.rest
  have c1 := h.flag
  have hx : (u.extract 1 u.size).size ≤ 1000000 := by rw [ByteArray.size_extract]; omega
  have HC := Lib.hid (fun W => readSet_some (u.extract 1 u.size) W hx p r hn)
  clear hn hx
  go_enter Tryz.func84, Tryz.ntmps84
  go_wp2_with fail
  refine (HC.out _).mono ?_
  rintro e w1 ⟨rfl, hb1⟩
  have h1 : RdAt g u false w1 := (h.alloc _).on hb1
  have e0 := h1.rest
  have e1 := h1.flag
  have f0 := h1.open_ 0
  have f1 := h1.open_ 1
  have b1 : SetAt w.heap.size none_ w1 := (hb1.block _ (by simp)).trans (heap_alloc_new _ _)
  have d0 := SetAt.at_ b1 0 (by decide)
  have d1 := SetAt.at_ b1 1 (by decide)
  have d2 := SetAt.at_ b1 2 (by decide)
  have d3 := SetAt.at_ b1 3 (by decide)
  have k0 := SetAt.open_ b1 0
  have k1 := SetAt.open_ b1 1
  have k2 := SetAt.open_ b1 2
  have k3 := SetAt.open_ b1 3
  have hsz : w.heap.size < w1.heap.size := by have := hb1.size; rw [World.size_alloc] at this; omega
  have hgs : g < w1.heap.size := by omega
  have n1 : ¬ g = w.heap.size := by omega
  have n2 : ¬ w.heap.size = g := by omega
  have O1 : Hid (Only g w w1) := ((Only.of_below (Below.refl _ _)).alloc _).trans (Only.of_below hb1)
  clear hb1
  have H1 := Lib.hid h1
  clear h1 b1 c0 c1
  go_wp2
  exact bodyPost_ret (v := .tuple #[.agg #[.int .u64 (word p 0 : Nat), .int .u64 (word p 1 : Nat), .int .u64 (word p 2 : Nat), .int .u64 (word p 3 : Nat)], .bool true]) (by simp [results, Tryz.results84, go_sem, *]) rfl
    ⟨rfl, (((((H1.out.setRest r).other (a := ⟨w.heap.size, 0, none⟩) n1 _).other (a := ⟨w.heap.size, 1, none⟩) n1 _).other (a := ⟨w.heap.size, 2, none⟩) n1 _).other (a := ⟨w.heap.size, 3, none⟩) n1 _).alloc _,
      (((((O1.out.setCell (p := ⟨g, 0, none⟩) (.inl rfl) _).setCell (p := ⟨w.heap.size, 0, none⟩) (.inr (Nat.le_refl _)) _).setCell (p := ⟨w.heap.size, 1, none⟩) (.inr (Nat.le_refl _)) _).setCell (p := ⟨w.heap.size, 2, none⟩) (.inr (Nat.le_refl _)) _).setCell (p := ⟨w.heap.size, 3, none⟩) (.inr (Nat.le_refl _)) _).alloc _⟩
end Go.Proofs.YtgfpdaaofhanoaaGreatDoor.Gnext
