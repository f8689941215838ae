/- What the program's reader of patterns answers: the next piece. -/
import Derived.Test.YtghfmbmdfojapaaGreatDoorGreadJ
namespace Go.Proofs.YtghfmbmdfojapaaGreatDoor.Gnext
open Go.RowKit Go.Proofs.YtghfmbmdfojapaaGreatDoor.Gset Go.Proofs.YtghfmbmdfojapaaGreatDoor.Gops Go.Proofs.YtghfmbmdfojapaaGreatDoor.Glb Go.Proofs.YtghfmbmdfojapaaGreatDoor.Gread

/-- of what was there only block g may have changed -/
structure Only (g : Nat) (w W : World) : Prop where
  os : W.os = w.os
  tape : W.tape = w.tape
  output : W.output = w.output
  size : w.heap.size ≤ W.heap.size
  block : ∀ k, k < w.heap.size → k ≠ g → W.heap[k]? = w.heap[k]?
theorem Only.of_below {g : Nat} {w W : World} (h : Below w.heap.size w W) : Only g w W := ⟨h.os, h.tape, h.output, h.size, fun k hk _ => h.block k hk⟩
theorem Only.trans {g : Nat} {a b c : World} (h : Only g a b) (k : Only g b c) : Only g a c :=
  ⟨k.os.trans h.os, k.tape.trans h.tape, k.output.trans h.output, Nat.le_trans h.size k.size, fun i hi hg => (k.block i (Nat.lt_of_lt_of_le hi h.size) hg).trans (h.block i hi hg)⟩
theorem Only.setCell {g : Nat} {a w : World} (h : Only g a w) {p : Addr} (hp : p.block = g ∨ a.heap.size ≤ p.block) (u : Value) : Only g a (w.setCell p u) :=
  ⟨h.os, h.tape, h.output, by rw [World.size_setCell]; exact h.size, fun i hi hg => (heap_setCell_other _ _ _ _ (by rcases hp with e | e <;> omega)).trans (h.block i hi hg)⟩
theorem Only.alloc {g : Nat} {a w : World} (h : Only g a w) (o : Obj) : Only g a (w.alloc o) :=
  ⟨h.os, h.tape, h.output, by rw [World.size_alloc]; have := h.size; omega, fun i hi hg => (Below.heap_alloc _ _ _ (Nat.lt_of_lt_of_le hi h.size)).trans (h.block i hi hg)⟩
theorem Only.below {g B : Nat} {a w W : World} (h : Only g w W) (hb : Below B a w) (hg : B ≤ g) (hB : B ≤ w.heap.size) : Below B a W :=
  ⟨h.os.trans hb.os, h.tape.trans hb.tape, h.output.trans hb.output, Nat.le_trans hb.size h.size, fun k hk => (h.block k (by omega) (by omega)).trans (hb.block k hk)⟩
theorem Only.put4 {g k : Nat} {a w : World} (h : Only g a w) (hk : k = g ∨ a.heap.size ≤ k) (p : Nat → Bool) : Only g a (put4 w k p) :=
  (((h.setCell (p := ⟨k, 0, none⟩) hk _).setCell (p := ⟨k, 1, none⟩) hk _).setCell (p := ⟨k, 2, none⟩) hk _).setCell (p := ⟨k, 3, none⟩) hk _

theorem len_size (v : ByteArray) : v.data.toList.length = v.size := (Lib.size_eq v).symm
theorem out_eq (v : ByteArray) : butOut (isBut v.data.toList) (inset v.size true none_ (behind (isBut v.data.toList) v).data.toList) = setOut (readSet v.data.toList) := by
  unfold readSet behind
  rw [len_size]
  cases isBut v.data.toList with
  | false =>
    simp only [Bool.false_eq_true, if_false]
    cases inset v.size true none_ v.data.toList with
    | none => rfl
    | some x => rfl
  | true =>
    simp only [if_true, Lib.extract_to_end]
    cases inset v.size true none_ (v.data.toList.drop 1) with
    | none => rfl
    | some x => rfl
/-- the program's readSet -/
theorem readSet_is (v : ByteArray) (w : World) (hs : v.size ≤ 1000000) :
    Calls Tryz.prog 104 #[.string v] w fun e W' => e = .returned (setOut (readSet v.data.toList)) ∧ Below w.heap.size w W' :=
  (readSet_walk v w hs).mono fun e W' ⟨he, hb⟩ => ⟨he.trans (by rw [out_eq]), hb⟩
theorem readSet_none (v : ByteArray) (w : World) (hs : v.size ≤ 1000000) (h : readSet v.data.toList = none) :
    Calls Tryz.prog 104 #[.string v] w fun e W' => e = .returned (.tuple #[.agg #[.int .u64 0, .int .u64 0, .int .u64 0, .int .u64 0], .string ⟨#[]⟩, .bool false]) ∧ Below w.heap.size w W' :=
  (readSet_is v w hs).mono fun e W' ⟨he, hb⟩ => ⟨he.trans (by rw [h]; rfl), hb⟩
theorem readSet_some (v : ByteArray) (w : World) (hs : v.size ≤ 1000000) (p : Nat → Bool) (r : ByteArray) (h : readSet v.data.toList = some (p, r.data.toList)) :
    Calls Tryz.prog 104 #[.string v] w fun e W' => e = .returned (.tuple #[.agg #[.int .u64 (word p 0 : Nat), .int .u64 (word p 1 : Nat), .int .u64 (word p 2 : Nat), .int .u64 (word p 3 : Nat)], .string r, .bool true]) ∧ Below w.heap.size w W' :=
  (readSet_is v w hs).mono fun e W' ⟨he, hb⟩ => ⟨he.trans (by rw [h, setOut, bs_self]; rfl), hb⟩

/-- a reader lies in block g -/
def RdAt (g : Nat) (u : ByteArray) (o : Bool) (w : World) : Prop := w.heap[g]? = some (.cells #[.string u, .bool o] 106 (0, 0))
theorem RdAt.rest {g : Nat} {u : ByteArray} {o : Bool} {w : World} (h : RdAt g u o w) : w.cell? ⟨g, 0, none⟩ = some (.string u) := by rw [cell_of_row _ _ _ _ _ _ h]; rfl
theorem RdAt.flag {g : Nat} {u : ByteArray} {o : Bool} {w : World} (h : RdAt g u o w) : w.cell? ⟨g, 1, none⟩ = some (.bool o) := by rw [cell_of_row _ _ _ _ _ _ h]; rfl
theorem RdAt.open_ {g : Nat} {u : ByteArray} {o : Bool} {w : World} (h : RdAt g u o w) (q : Nat) : w.frozen? ⟨g, q, none⟩ = false := frozen_of_row _ _ _ _ _ h
theorem RdAt.lt {g : Nat} {u : ByteArray} {o : Bool} {w : World} (h : RdAt g u o w) : g < w.heap.size := (Array.getElem?_eq_some_iff.1 h).1
theorem RdAt.on {g : Nat} {u : ByteArray} {o : Bool} {w w1 : World} (h : RdAt g u o w) (hb : Below w.heap.size w w1) : RdAt g u o w1 := (hb.block g h.lt).trans h
theorem RdAt.alloc {g : Nat} {u : ByteArray} {o : Bool} {w : World} (h : RdAt g u o w) (x : Obj) : RdAt g u o (w.alloc x) := (Below.heap_alloc _ _ _ h.lt).trans h
theorem RdAt.setRest {g : Nat} {u : ByteArray} {o : Bool} {w : World} (h : RdAt g u o w) (r : ByteArray) : RdAt g r o (w.setCell ⟨g, 0, none⟩ (.string r)) := by
  unfold RdAt; rw [heap_setCell_same _ _ _ _ _ _ h]; rfl
theorem RdAt.setFlag {g : Nat} {u : ByteArray} {o : Bool} {w : World} (h : RdAt g u o w) (b : Bool) : RdAt g u b (w.setCell ⟨g, 1, none⟩ (.bool b)) := by
  unfold RdAt; rw [heap_setCell_same _ _ _ _ _ _ h]; rfl
theorem RdAt.other {g : Nat} {u : ByteArray} {o : Bool} {w : World} (h : RdAt g u o w) {a : Addr} (ha : g ≠ a.block) (x : Value) : RdAt g u o (w.setCell a x) := (heap_setCell_other _ _ _ _ ha).trans h

set_option maxRecDepth 100000 in
set_option maxHeartbeats 1000000 in
/-- no set is looked for -/
theorem set_shut (g : Nat) (u : ByteArray) (w : World) (h : RdAt g u true w) :
    Calls Tryz.prog 78 #[.pointer (some ⟨g, 0, none⟩)] w fun e W' => e = .returned (.tuple #[.agg #[.int .u64 0, .int .u64 0, .int .u64 0, .int .u64 0], .bool false]) ∧ RdAt g u true W' ∧ Only g w W' := by
  have hl := h.lt
  have c1 := h.flag
  go_enter Tryz.func78, Tryz.ntmps78
  go_wp2
  exact bodyPost_ret (v := .tuple #[.agg #[.int .u64 0, .int .u64 0, .int .u64 0, .int .u64 0], .bool false]) (by simp [results, Tryz.results78, go_sem]) rfl ⟨rfl, h.alloc _, (Only.of_below (Below.refl _ _)).alloc _⟩

set_option maxRecDepth 100000 in
set_option maxHeartbeats 1000000 in
/-- a set is looked for, and none is there -/
theorem set_none (g : Nat) (u : ByteArray) (w : World) (h : RdAt g u false w) (hz : 0 < u.size) (hs : u.size ≤ 1000000) (hn : readSet (u.extract 1 u.size).data.toList = none) :
    Calls Tryz.prog 78 #[.pointer (some ⟨g, 0, none⟩)] w fun e W' => e = .returned (.tuple #[.agg #[.int .u64 0, .int .u64 0, .int .u64 0, .int .u64 0], .bool false]) ∧ RdAt g u true W' ∧ Only g w W' := by
  have hl := h.lt
  have c0 := h.rest
  have c1 := h.flag
  have hx : (u.extract 1 u.size).size ≤ 1000000 := by rw [ByteArray.size_extract]; omega
  have HC := Lib.hid (fun W => readSet_none (u.extract 1 u.size) W hx hn)
  clear hn hx
  go_enter Tryz.func78, Tryz.ntmps78
  go_wp2_with fail
  refine (HC.out _).mono ?_
  rintro e w1 ⟨rfl, hb1⟩
  have h1 : RdAt g u false w1 := (h.alloc _).on hb1
  have e0 := h1.rest
  have e1 := h1.flag
  have f0 := h1.open_ 0
  have f1 := h1.open_ 1
  have b1 : SetAt w.heap.size none_ w1 := (hb1.block _ (by simp)).trans (heap_alloc_new _ _)
  have d0 := SetAt.at_ b1 0 (by decide)
  have d1 := SetAt.at_ b1 1 (by decide)
  have d2 := SetAt.at_ b1 2 (by decide)
  have d3 := SetAt.at_ b1 3 (by decide)
  have k0 := SetAt.open_ b1 0
  have k1 := SetAt.open_ b1 1
  have k2 := SetAt.open_ b1 2
  have k3 := SetAt.open_ b1 3
  have hsz : w.heap.size < w1.heap.size := by have := hb1.size; rw [World.size_alloc] at this; omega
  have hgs : g < w1.heap.size := by omega
  have n1 : ¬ g = w.heap.size := by omega
  have n2 : ¬ w.heap.size = g := by omega
  have O1 : Hid (Only g w w1) := ((Only.of_below (Below.refl _ _)).alloc _).trans (Only.of_below hb1)
  clear hb1
  have H1 := Lib.hid h1
  clear h1 b1 c0 c1
  go_wp2
  exact bodyPost_ret (v := .tuple #[.agg #[.int .u64 0, .int .u64 0, .int .u64 0, .int .u64 0], .bool false]) (by simp [results, Tryz.results78, go_sem, *]) rfl
    ⟨rfl, (((((H1.out.setFlag true).other (a := ⟨w.heap.size, 0, none⟩) n1 _).other (a := ⟨w.heap.size, 1, none⟩) n1 _).other (a := ⟨w.heap.size, 2, none⟩) n1 _).other (a := ⟨w.heap.size, 3, none⟩) n1 _).alloc _,
      (((((O1.out.setCell (p := ⟨g, 1, none⟩) (.inl rfl) _).setCell (p := ⟨w.heap.size, 0, none⟩) (.inr (Nat.le_refl _)) _).setCell (p := ⟨w.heap.size, 1, none⟩) (.inr (Nat.le_refl _)) _).setCell (p := ⟨w.heap.size, 2, none⟩) (.inr (Nat.le_refl _)) _).setCell (p := ⟨w.heap.size, 3, none⟩) (.inr (Nat.le_refl _)) _).alloc _⟩

set_option maxRecDepth 100000 in
set_option maxHeartbeats 1000000 in
/-- a set is looked for, and is there -/
theorem set_some (g : Nat) (u r : ByteArray) (p : Nat → Bool) (w : World) (h : RdAt g u false w) (hz : 0 < u.size) (hs : u.size ≤ 1000000) (hn : readSet (u.extract 1 u.size).data.toList = some (p, r.data.toList)) :
    Calls Tryz.prog 78 #[.pointer (some ⟨g, 0, none⟩)] w fun e W' => e = .returned (.tuple #[.agg #[.int .u64 (word p 0 : Nat), .int .u64 (word p 1 : Nat), .int .u64 (word p 2 : Nat), .int .u64 (word p 3 : Nat)], .bool true]) ∧ RdAt g r false W' ∧ Only g w W' := by
  have hl := h.lt
  have c0 := h.rest
  have c1 := h.flag
  have hx : (u.extract 1 u.size).size ≤ 1000000 := by rw [ByteArray.size_extract]; omega
  have HC := Lib.hid (fun W => readSet_some (u.extract 1 u.size) W hx p r hn)
  clear hn hx
  go_enter Tryz.func78, Tryz.ntmps78
  go_wp2_with fail
  refine (HC.out _).mono ?_
  rintro e w1 ⟨rfl, hb1⟩
  have h1 : RdAt g u false w1 := (h.alloc _).on hb1
  have e0 := h1.rest
  have e1 := h1.flag
  have f0 := h1.open_ 0
  have f1 := h1.open_ 1
  have b1 : SetAt w.heap.size none_ w1 := (hb1.block _ (by simp)).trans (heap_alloc_new _ _)
  have d0 := SetAt.at_ b1 0 (by decide)
  have d1 := SetAt.at_ b1 1 (by decide)
  have d2 := SetAt.at_ b1 2 (by decide)
  have d3 := SetAt.at_ b1 3 (by decide)
  have k0 := SetAt.open_ b1 0
  have k1 := SetAt.open_ b1 1
  have k2 := SetAt.open_ b1 2
  have k3 := SetAt.open_ b1 3
  have hsz : w.heap.size < w1.heap.size := by have := hb1.size; rw [World.size_alloc] at this; omega
  have hgs : g < w1.heap.size := by omega
  have n1 : ¬ g = w.heap.size := by omega
  have n2 : ¬ w.heap.size = g := by omega
  have O1 : Hid (Only g w w1) := ((Only.of_below (Below.refl _ _)).alloc _).trans (Only.of_below hb1)
  clear hb1
  have H1 := Lib.hid h1
  clear h1 b1 c0 c1
  go_wp2
  exact bodyPost_ret (v := .tuple #[.agg #[.int .u64 (word p 0 : Nat), .int .u64 (word p 1 : Nat), .int .u64 (word p 2 : Nat), .int .u64 (word p 3 : Nat)], .bool true]) (by simp [results, Tryz.results78, go_sem, *]) rfl
    ⟨rfl, (((((H1.out.setRest r).other (a := ⟨w.heap.size, 0, none⟩) n1 _).other (a := ⟨w.heap.size, 1, none⟩) n1 _).other (a := ⟨w.heap.size, 2, none⟩) n1 _).other (a := ⟨w.heap.size, 3, none⟩) n1 _).alloc _,
      (((((O1.out.setCell (p := ⟨g, 0, none⟩) (.inl rfl) _).setCell (p := ⟨w.heap.size, 0, none⟩) (.inr (Nat.le_refl _)) _).setCell (p := ⟨w.heap.size, 1, none⟩) (.inr (Nat.le_refl _)) _).setCell (p := ⟨w.heap.size, 2, none⟩) (.inr (Nat.le_refl _)) _).setCell (p := ⟨w.heap.size, 3, none⟩) (.inr (Nat.le_refl _)) _).alloc _⟩
end Go.Proofs.YtghfmbmdfojapaaGreatDoor.Gnext

/- What the program's reader of patterns answers: the next piece. -/
namespace Go.Proofs.YtghfmbmdfojapaaGreatDoor.Gpiece
open Go.RowKit Go.Proofs.YtghfmbmdfojapaaGreatDoor.Gset Go.Proofs.YtghfmbmdfojapaaGreatDoor.Gops Go.Proofs.YtghfmbmdfojapaaGreatDoor.Glb Go.Proofs.YtghfmbmdfojapaaGreatDoor.Gread Go.Proofs.YtghfmbmdfojapaaGreatDoor.Gnext

/-- a piece's value -/
def pcV (x : Pc) : Value := .agg #[.bool x.wild, .bool x.star, .int .u64 (word x.has 0 : Nat), .int .u64 (word x.has 1 : Nat), .int .u64 (word x.has 2 : Nat), .int .u64 (word x.has 3 : Nat)]
def pcCells (x : Pc) : Array Value := #[.bool x.wild, .bool x.star, .int .u64 (word x.has 0 : Nat), .int .u64 (word x.has 1 : Nat), .int .u64 (word x.has 2 : Nat), .int .u64 (word x.has 3 : Nat)]
def noPc : Pc := ⟨false, false, none_⟩
/-- a piece lies in block g -/
def PcAt (g : Nat) (x : Pc) (w : World) : Prop := w.heap[g]? = some (.cells (pcCells x) 111 (0, 0))
theorem PcAt.lt {g : Nat} {x : Pc} {w : World} (h : PcAt g x w) : g < w.heap.size := (Array.getElem?_eq_some_iff.1 h).1
theorem PcAt.cells {g : Nat} {x : Pc} {w : World} (h : PcAt g x w) : w.cell? ⟨g, 0, none⟩ = some (.bool x.wild) ∧ w.cell? ⟨g, 1, none⟩ = some (.bool x.star) ∧ w.cell? ⟨g, 2, none⟩ = some (.int .u64 (word x.has 0 : Nat)) ∧ w.cell? ⟨g, 3, none⟩ = some (.int .u64 (word x.has 1 : Nat)) ∧ w.cell? ⟨g, 4, none⟩ = some (.int .u64 (word x.has 2 : Nat)) ∧ w.cell? ⟨g, 5, none⟩ = some (.int .u64 (word x.has 3 : Nat)) := by
  refine ⟨?_, ?_, ?_, ?_, ?_, ?_⟩ <;> (rw [cell_of_row _ _ _ _ _ _ h]; rfl)
theorem PcAt.open_ {g : Nat} {x : Pc} {w : World} (h : PcAt g x w) (q : Nat) : w.frozen? ⟨g, q, none⟩ = false := frozen_of_row _ _ _ _ _ h
theorem PcAt.on {g : Nat} {x : Pc} {w w1 : World} (h : PcAt g x w) (hb : Below w.heap.size w w1) : PcAt g x w1 := (hb.block g h.lt).trans h
theorem PcAt.only {g k : Nat} {x : Pc} {w w1 : World} (h : PcAt g x w) (hb : Only k w w1) (hk : g ≠ k) : PcAt g x w1 := (hb.block g h.lt hk).trans h
theorem PcAt.other {g : Nat} {x : Pc} {w : World} (h : PcAt g x w) {a : Addr} (ha : g ≠ a.block) (v : Value) : PcAt g x (w.setCell a v) := (heap_setCell_other _ _ _ _ ha).trans h
theorem PcAt.new (w : World) : PcAt w.heap.size noPc (w.alloc (.cells #[.bool false, .bool false, .int .u64 0, .int .u64 0, .int .u64 0, .int .u64 0] 111)) := heap_alloc_new _ _
/-- six cells are laid -/
def put6 (w : World) (g : Nat) (x : Pc) : World := (((((w.setCell ⟨g, 0, none⟩ (.bool x.wild)).setCell ⟨g, 1, none⟩ (.bool x.star)).setCell ⟨g, 2, none⟩ (.int .u64 (word x.has 0 : Nat))).setCell ⟨g, 3, none⟩ (.int .u64 (word x.has 1 : Nat))).setCell ⟨g, 4, none⟩ (.int .u64 (word x.has 2 : Nat))).setCell ⟨g, 5, none⟩ (.int .u64 (word x.has 3 : Nat))
theorem Only.put6 {g k : Nat} {a w : World} (h : Only g a w) (hk : k = g ∨ a.heap.size ≤ k) (x : Pc) : Only g a (put6 w k x) :=
  (((((h.setCell (p := ⟨k, 0, none⟩) hk _).setCell (p := ⟨k, 1, none⟩) hk _).setCell (p := ⟨k, 2, none⟩) hk _).setCell (p := ⟨k, 3, none⟩) hk _).setCell (p := ⟨k, 4, none⟩) hk _).setCell (p := ⟨k, 5, none⟩) hk _
theorem RdAt.put6 {g k : Nat} {u : ByteArray} {o : Bool} {w : World} (h : RdAt g u o w) (hk : g ≠ k) (x : Pc) : RdAt g u o (put6 w k x) :=
  (((((h.other (a := ⟨k, 0, none⟩) hk _).other (a := ⟨k, 1, none⟩) hk _).other (a := ⟨k, 2, none⟩) hk _).other (a := ⟨k, 3, none⟩) hk _).other (a := ⟨k, 4, none⟩) hk _).other (a := ⟨k, 5, none⟩) hk _

set_option maxRecDepth 100000 in
set_option maxHeartbeats 1000000 in
/-- a star -/
theorem next_star (g : Nat) (u : ByteArray) (o : Bool) (w : World) (h : RdAt g u o w) (hz : 0 < u.size) (hs : u.size ≤ 1000000) (hc : ((u[0].toNat : Nat) : Int) = 42) :
    Calls Tryz.prog 58 #[.pointer (some ⟨g, 0, none⟩)] w fun e W' => e = .returned (pcV ⟨true, true, none_⟩) ∧ RdAt g (u.extract 1 u.size) o W' ∧ Only g w W' := by
  have hl := h.lt
  have c0 := h.rest
  have f0 := h.open_ 0
  have n1 : ¬ g = w.heap.size := by omega
  have n2 : ¬ w.heap.size = g := by omega
  go_enter Tryz.func58, Tryz.ntmps58
  go_wp2
  exact bodyPost_ret (v := pcV ⟨true, true, none_⟩) (by simp [results, Tryz.results58, go_sem, pcV]; exact ⟨rfl, rfl, rfl, rfl⟩) rfl ⟨rfl, (h.setRest _).alloc _, ((Only.of_below (Below.refl _ _)).setCell (p := ⟨g, 0, none⟩) (.inl rfl) _).alloc _⟩

set_option maxRecDepth 100000 in
set_option maxHeartbeats 1000000 in
/-- any one byte -/
theorem next_any (g : Nat) (u : ByteArray) (o : Bool) (w : World) (h : RdAt g u o w) (hz : 0 < u.size) (hs : u.size ≤ 1000000) (hc : ((u[0].toNat : Nat) : Int) = 63) :
    Calls Tryz.prog 58 #[.pointer (some ⟨g, 0, none⟩)] w fun e W' => e = .returned (pcV ⟨true, false, neg none_⟩) ∧ RdAt g (u.extract 1 u.size) o W' ∧ Only g w W' := by
  have hl := h.lt
  have c0 := h.rest
  have f0 := h.open_ 0
  have n1 : ¬ g = w.heap.size := by omega
  have n2 : ¬ w.heap.size = g := by omega
  have HC := Lib.hid (fun W => others_is none_ W)
  go_enter Tryz.func58, Tryz.ntmps58
  go_wp2_with fail
  refine (HC.out _).mono ?_
  rintro e w1 ⟨rfl, hb1⟩
  have h1 : RdAt g (u.extract 1 u.size) o w1 := ((h.setRest _).alloc _).on hb1
  have hp1 : PcAt w.heap.size noPc w1 := by
    refine PcAt.on (w := (w.setCell ⟨g, 0, none⟩ (.string (u.extract 1 u.size))).alloc (.cells #[.bool false, .bool false, .int .u64 0, .int .u64 0, .int .u64 0, .int .u64 0] 111)) ?_ hb1
    have := PcAt.new (w.setCell ⟨g, 0, none⟩ (.string (u.extract 1 u.size)))
    rw [World.size_setCell] at this
    exact this
  obtain ⟨d0, d1, d2, d3, d4, d5⟩ := hp1.cells
  have k0 := hp1.open_ 0
  have k1 := hp1.open_ 1
  have k2 := hp1.open_ 2
  have k3 := hp1.open_ 3
  have k4 := hp1.open_ 4
  have k5 := hp1.open_ 5
  simp only [noPc] at d0 d1 d2 d3 d4 d5
  have O1 : Hid (Only g w w1) := (((Only.of_below (Below.refl _ _)).setCell (p := ⟨g, 0, none⟩) (.inl rfl) _).alloc _).trans (Only.of_below hb1)
  have H1 := Lib.hid h1
  clear hb1 h1 hp1 HC c0 f0
  unfold setV
  go_wp2
  exact bodyPost_ret (v := pcV ⟨true, false, neg none_⟩) (by simp [results, Tryz.results58, go_sem, pcV, *]; exact ⟨rfl, rfl, rfl, rfl⟩) rfl ⟨rfl, RdAt.put6 H1.out n1 ⟨true, false, neg none_⟩, Only.put6 O1.out (.inr (Nat.le_refl _)) ⟨true, false, neg none_⟩⟩

set_option maxRecDepth 100000 in
set_option maxHeartbeats 2000000 in
/-- a byte that is none of three -/
theorem next_byte (g : Nat) (u : ByteArray) (o : Bool) (w : World) (h : RdAt g u o w) (hz : 0 < u.size) (hs : u.size ≤ 1000000) (q1 : (((u[0].toNat : Nat) : Int) == 42) = false) (q2 : (((u[0].toNat : Nat) : Int) == 63) = false) (q3 : (((u[0].toNat : Nat) : Int) == 91) = false) :
    Calls Tryz.prog 58 #[.pointer (some ⟨g, 0, none⟩)] w fun e W' => e = .returned (pcV (byteP u.data.toList)) ∧ RdAt g (bs (unqR u.data.toList)) o W' ∧ Only g w W' := by
  have hl := h.lt
  have c0 := h.rest
  have f0 := h.open_ 0
  have n1 : ¬ g = w.heap.size := by omega
  have n2 : ¬ w.heap.size = g := by omega
  have HQ := Lib.hid (fun W => unq_is u W hz (by unfold maxLen; omega))
  obtain ⟨r, HR⟩ : ∃ x, Hid (bs (unqR u.data.toList) = x) := ⟨_, rfl⟩
  obtain ⟨lo, HL⟩ : ∃ l : UInt8, Hid (unqC u.data.toList = l) := ⟨_, rfl⟩
  have hlo : lo.toNat < 256 := lo.toNat_lt
  have HC := Lib.hid (fun W => with_is none_ lo.toNat lo.toNat hlo hlo W)
  have HP : Hid (byteP u.data.toList = ⟨false, false, plus none_ lo.toNat lo.toNat⟩) := by show _ = _; rw [byteP, HL.out]
  go_enter Tryz.func58, Tryz.ntmps58
  go_wp2_with fail
  refine (HQ.out _).mono ?_
  rintro e w' ⟨rfl, rfl⟩
  rw [HR.out, HL.out]
  go_wp2_with fail
  refine (HC.out _).mono ?_
  rintro e w1 ⟨rfl, hb1⟩
  have h1 : RdAt g r o w1 := RdAt.on (w := ((w.setCell ⟨g, 0, none⟩ (.string r)).alloc (.cells #[.bool false, .bool false, .int .u64 0, .int .u64 0, .int .u64 0, .int .u64 0] 111)).drew) ((h.setRest r).alloc _) hb1
  have hp1 : PcAt w.heap.size noPc w1 := by
    refine PcAt.on (w := ((w.setCell ⟨g, 0, none⟩ (.string r)).alloc (.cells #[.bool false, .bool false, .int .u64 0, .int .u64 0, .int .u64 0, .int .u64 0] 111)).drew) ?_ hb1
    have := PcAt.new (w.setCell ⟨g, 0, none⟩ (.string r))
    rw [World.size_setCell] at this
    exact this
  have O1 : Hid (Only g w w1) := (((Only.of_below (Below.refl _ _)).setCell (p := ⟨g, 0, none⟩) (.inl rfl) _).alloc _).trans (Only.of_below (w := ((w.setCell ⟨g, 0, none⟩ (.string r)).alloc (.cells #[.bool false, .bool false, .int .u64 0, .int .u64 0, .int .u64 0, .int .u64 0] 111))) ⟨hb1.os, hb1.tape, hb1.output, hb1.size, hb1.block⟩)
  obtain ⟨d0, d1, d2, d3, d4, d5⟩ := hp1.cells
  have k0 := hp1.open_ 0
  have k1 := hp1.open_ 1
  have k2 := hp1.open_ 2
  have k3 := hp1.open_ 3
  have k4 := hp1.open_ 4
  have k5 := hp1.open_ 5
  simp only [noPc] at d0 d1 d2 d3 d4 d5
  have H1 := Lib.hid h1
  clear hb1 h1 hp1 HC HQ c0 f0
  unfold setV
  go_wp2
  exact bodyPost_ret (v := pcV ⟨false, false, plus none_ lo.toNat lo.toNat⟩) (by simp [results, Tryz.results58, go_sem, pcV, *]) rfl ⟨by rw [HP.out], by rw [HR.out]; exact RdAt.put6 H1.out n1 ⟨false, false, plus none_ lo.toNat lo.toNat⟩, Only.put6 O1.out (.inr (Nat.le_refl _)) ⟨false, false, plus none_ lo.toNat lo.toNat⟩⟩

set_option maxRecDepth 100000 in
set_option maxHeartbeats 2000000 in
/-- a [ where no set is looked for -/
theorem next_shut (g : Nat) (u : ByteArray) (w : World) (h : RdAt g u true w) (hz : 0 < u.size) (hs : u.size ≤ 1000000) (q1 : ((u[0].toNat : Nat) : Int) = 91) :
    Calls Tryz.prog 58 #[.pointer (some ⟨g, 0, none⟩)] w fun e W' => e = .returned (pcV (byteP u.data.toList)) ∧ RdAt g (bs (unqR u.data.toList)) true W' ∧ Only g w W' := by
  have hl := h.lt
  have c0 := h.rest
  have f0 := h.open_ 0
  have n1 : ¬ g = w.heap.size := by omega
  have n2 : ¬ w.heap.size = g := by omega
  have HQ := Lib.hid (fun W => unq_is u W hz (by unfold maxLen; omega))
  obtain ⟨r, HR⟩ : ∃ x, Hid (bs (unqR u.data.toList) = x) := ⟨_, rfl⟩
  obtain ⟨lo, HL⟩ : ∃ l : UInt8, Hid (unqC u.data.toList = l) := ⟨_, rfl⟩
  have hlo : lo.toNat < 256 := lo.toNat_lt
  have HC := Lib.hid (fun W => with_is none_ lo.toNat lo.toNat hlo hlo W)
  have HP : Hid (byteP u.data.toList = ⟨false, false, plus none_ lo.toNat lo.toNat⟩) := by show _ = _; rw [byteP, HL.out]
  go_enter Tryz.func58, Tryz.ntmps58
  go_wp2_with fail
  refine (set_shut g u _ (h.alloc _)).mono ?_
  rintro e wa ⟨rfl, ha, oa⟩
  have hpa : PcAt w.heap.size noPc wa := (PcAt.new w).only oa n2
  have hsa : w.heap.size < wa.heap.size := hpa.lt
  have hga : g < wa.heap.size := ha.lt
  have Oa : Hid (Only g w wa) := ((Only.of_below (Below.refl _ _)).alloc _).trans oa
  clear oa
  have a0 := ha.rest
  have f1 := ha.open_ 0
  have HA := Lib.hid ha
  have HPA := Lib.hid hpa
  clear ha hpa
  go_wp2_with fail
  refine (HQ.out _).mono ?_
  rintro e w' ⟨rfl, rfl⟩
  rw [HR.out, HL.out]
  go_wp2_with fail
  refine (HC.out _).mono ?_
  rintro e w1 ⟨rfl, hb1⟩
  have h1 : RdAt g r true w1 := RdAt.on (w := ((wa.setCell ⟨g, 0, none⟩ (.string r)).alloc (.cells #[.int .u64 0, .int .u64 0, .int .u64 0, .int .u64 0] 109)).drew) ((HA.out.setRest r).alloc _) hb1
  have hp1 : PcAt w.heap.size noPc w1 := by
    refine PcAt.on (w := ((wa.setCell ⟨g, 0, none⟩ (.string r)).alloc (.cells #[.int .u64 0, .int .u64 0, .int .u64 0, .int .u64 0] 109)).drew) ?_ hb1
    exact (Below.heap_alloc _ _ _ (by rw [World.size_setCell]; exact hsa)).trans (HPA.out.other (a := ⟨g, 0, none⟩) n2 _)
  have O1 : Hid (Only g w w1) := ((Oa.out.setCell (p := ⟨g, 0, none⟩) (.inl rfl) _).alloc _).trans (Only.of_below (w := ((wa.setCell ⟨g, 0, none⟩ (.string r)).alloc (.cells #[.int .u64 0, .int .u64 0, .int .u64 0, .int .u64 0] 109))) ⟨hb1.os, hb1.tape, hb1.output, hb1.size, hb1.block⟩)
  have hs1 : wa.heap.size < w1.heap.size := by have := hb1.size; simp at this; omega
  clear HA HPA Oa a0 f1
  obtain ⟨d0, d1, d2, d3, d4, d5⟩ := hp1.cells
  have k0 := hp1.open_ 0
  have k1 := hp1.open_ 1
  have k2 := hp1.open_ 2
  have k3 := hp1.open_ 3
  have k4 := hp1.open_ 4
  have k5 := hp1.open_ 5
  simp only [noPc] at d0 d1 d2 d3 d4 d5
  have H1 := Lib.hid h1
  clear hb1 h1 hp1 HC HQ c0 f0
  unfold setV
  go_wp2
  exact bodyPost_ret (v := pcV ⟨false, false, plus none_ lo.toNat lo.toNat⟩) (by simp [results, Tryz.results58, go_sem, pcV, *]) rfl ⟨by rw [HP.out], by rw [HR.out]; exact RdAt.put6 H1.out n1 ⟨false, false, plus none_ lo.toNat lo.toNat⟩, Only.put6 O1.out (.inr (Nat.le_refl _)) ⟨false, false, plus none_ lo.toNat lo.toNat⟩⟩

set_option maxRecDepth 100000 in
set_option maxHeartbeats 2000000 in
/-- a [ that no ] ends -/
theorem next_open (g : Nat) (u : ByteArray) (w : World) (h : RdAt g u false w) (hz : 0 < u.size) (hs : u.size ≤ 1000000) (q1 : ((u[0].toNat : Nat) : Int) = 91) (qn : readSet (u.extract 1 u.size).data.toList = none) :
    Calls Tryz.prog 58 #[.pointer (some ⟨g, 0, none⟩)] w fun e W' => e = .returned (pcV (byteP u.data.toList)) ∧ RdAt g (bs (unqR u.data.toList)) true W' ∧ Only g w W' := by
  have hl := h.lt
  have c0 := h.rest
  have f0 := h.open_ 0
  have n1 : ¬ g = w.heap.size := by omega
  have n2 : ¬ w.heap.size = g := by omega
  have HN := Lib.hid (fun W hW => set_none g u W hW hz hs qn)
  clear qn
  have HQ := Lib.hid (fun W => unq_is u W hz (by unfold maxLen; omega))
  obtain ⟨r, HR⟩ : ∃ x, Hid (bs (unqR u.data.toList) = x) := ⟨_, rfl⟩
  obtain ⟨lo, HL⟩ : ∃ l : UInt8, Hid (unqC u.data.toList = l) := ⟨_, rfl⟩
  have hlo : lo.toNat < 256 := lo.toNat_lt
  have HC := Lib.hid (fun W => with_is none_ lo.toNat lo.toNat hlo hlo W)
  have HP : Hid (byteP u.data.toList = ⟨false, false, plus none_ lo.toNat lo.toNat⟩) := by show _ = _; rw [byteP, HL.out]
  go_enter Tryz.func58, Tryz.ntmps58
  go_wp2_with fail
  refine (HN.out _ (h.alloc _)).mono ?_
  rintro e wa ⟨rfl, ha, oa⟩
  have hpa : PcAt w.heap.size noPc wa := (PcAt.new w).only oa n2
  have hsa : w.heap.size < wa.heap.size := hpa.lt
  have hga : g < wa.heap.size := ha.lt
  have Oa : Hid (Only g w wa) := ((Only.of_below (Below.refl _ _)).alloc _).trans oa
  clear oa
  have a0 := ha.rest
  have f1 := ha.open_ 0
  have HA := Lib.hid ha
  have HPA := Lib.hid hpa
  clear ha hpa
  go_wp2_with fail
  refine (HQ.out _).mono ?_
  rintro e w' ⟨rfl, rfl⟩
  rw [HR.out, HL.out]
  go_wp2_with fail
  refine (HC.out _).mono ?_
  rintro e w1 ⟨rfl, hb1⟩
  have h1 : RdAt g r true w1 := RdAt.on (w := ((wa.setCell ⟨g, 0, none⟩ (.string r)).alloc (.cells #[.int .u64 0, .int .u64 0, .int .u64 0, .int .u64 0] 109)).drew) ((HA.out.setRest r).alloc _) hb1
  have hp1 : PcAt w.heap.size noPc w1 := by
    refine PcAt.on (w := ((wa.setCell ⟨g, 0, none⟩ (.string r)).alloc (.cells #[.int .u64 0, .int .u64 0, .int .u64 0, .int .u64 0] 109)).drew) ?_ hb1
    exact (Below.heap_alloc _ _ _ (by rw [World.size_setCell]; exact hsa)).trans (HPA.out.other (a := ⟨g, 0, none⟩) n2 _)
  have O1 : Hid (Only g w w1) := ((Oa.out.setCell (p := ⟨g, 0, none⟩) (.inl rfl) _).alloc _).trans (Only.of_below (w := ((wa.setCell ⟨g, 0, none⟩ (.string r)).alloc (.cells #[.int .u64 0, .int .u64 0, .int .u64 0, .int .u64 0] 109))) ⟨hb1.os, hb1.tape, hb1.output, hb1.size, hb1.block⟩)
  have hs1 : wa.heap.size < w1.heap.size := by have := hb1.size; simp at this; omega
  clear HA HPA Oa a0 f1
  obtain ⟨d0, d1, d2, d3, d4, d5⟩ := hp1.cells
  have k0 := hp1.open_ 0
  have k1 := hp1.open_ 1
  have k2 := hp1.open_ 2
  have k3 := hp1.open_ 3
  have k4 := hp1.open_ 4
  have k5 := hp1.open_ 5
  simp only [noPc] at d0 d1 d2 d3 d4 d5
  have H1 := Lib.hid h1
  clear hb1 h1 hp1 HC HQ c0 f0
  unfold setV
  go_wp2
  exact bodyPost_ret (v := pcV ⟨false, false, plus none_ lo.toNat lo.toNat⟩) (by simp [results, Tryz.results58, go_sem, pcV, *]) rfl ⟨by rw [HP.out], by rw [HR.out]; exact RdAt.put6 H1.out n1 ⟨false, false, plus none_ lo.toNat lo.toNat⟩, Only.put6 O1.out (.inr (Nat.le_refl _)) ⟨false, false, plus none_ lo.toNat lo.toNat⟩⟩

set_option maxRecDepth 100000 in
set_option maxHeartbeats 2000000 in
/-- a set -/
theorem next_set (g : Nat) (u r : ByteArray) (p : Nat → Bool) (w : World) (h : RdAt g u false w) (hz : 0 < u.size) (hs : u.size ≤ 1000000) (q1 : ((u[0].toNat : Nat) : Int) = 91) (qn : readSet (u.extract 1 u.size).data.toList = some (p, r.data.toList)) :
    Calls Tryz.prog 58 #[.pointer (some ⟨g, 0, none⟩)] w fun e W' => e = .returned (pcV ⟨true, false, p⟩) ∧ RdAt g r false W' ∧ Only g w W' := by
  have hl := h.lt
  have c0 := h.rest
  have f0 := h.open_ 0
  have n1 : ¬ g = w.heap.size := by omega
  have n2 : ¬ w.heap.size = g := by omega
  have HN := Lib.hid (fun W hW => set_some g u r p W hW hz hs qn)
  clear qn
  go_enter Tryz.func58, Tryz.ntmps58
  go_wp2_with fail
  refine (HN.out _ (h.alloc _)).mono ?_
  rintro e wa ⟨rfl, ha, oa⟩
  have hpa : PcAt w.heap.size noPc wa := (PcAt.new w).only oa n2
  have hsa : w.heap.size < wa.heap.size := hpa.lt
  have Oa : Hid (Only g w wa) := ((Only.of_below (Below.refl _ _)).alloc _).trans oa
  have HA := Lib.hid ha
  have HPA := Lib.hid hpa
  clear oa ha c0 f0 HN hpa
  go_upto_if 43 with fail
  obtain ⟨w1, hw1⟩ : ∃ x, x = wa.alloc (.cells #[.int .u64 (word p 0 : Nat), .int .u64 (word p 1 : Nat), .int .u64 (word p 2 : Nat), .int .u64 (word p 3 : Nat)] 109) := ⟨_, rfl⟩
  rw [← hw1]
  have hp1 : PcAt w.heap.size noPc w1 := by rw [hw1]; exact (Below.heap_alloc _ _ _ hsa).trans HPA.out
  have s1 : SetAt wa.heap.size p w1 := by rw [hw1]; exact heap_alloc_new _ _
  have H1 : Hid (RdAt g r false w1) := by rw [hw1]; exact HA.out.alloc _
  have O1 : Hid (Only g w w1) := by rw [hw1]; exact Oa.out.alloc _
  have s0 := SetAt.at_ s1 0 (by decide)
  have s2 := SetAt.at_ s1 1 (by decide)
  have s3 := SetAt.at_ s1 2 (by decide)
  have s4 := SetAt.at_ s1 3 (by decide)
  clear s1 hw1 HA HPA Oa
  obtain ⟨d0, d1, d2, d3, d4, d5⟩ := hp1.cells
  have k0 := hp1.open_ 0
  have k1 := hp1.open_ 1
  have k2 := hp1.open_ 2
  have k3 := hp1.open_ 3
  have k4 := hp1.open_ 4
  have k5 := hp1.open_ 5
  simp only [noPc] at d0 d1 d2 d3 d4 d5
  clear hp1
  go_wp2
  exact bodyPost_ret (v := pcV ⟨true, false, p⟩) (by simp [results, Tryz.results58, go_sem, pcV, *]) rfl ⟨rfl, RdAt.put6 H1.out n1 ⟨true, false, p⟩, Only.put6 O1.out (.inr (Nat.le_refl _)) ⟨true, false, p⟩⟩
end Go.Proofs.YtghfmbmdfojapaaGreatDoor.Gpiece

/- What the program's reader of patterns answers: the next piece, whatever it is. -/
namespace Go.Proofs.YtghfmbmdfojapaaGreatDoor.Gnextis
open Go.RowKit Go.Proofs.YtghfmbmdfojapaaGreatDoor.Gset Go.Proofs.YtghfmbmdfojapaaGreatDoor.Gops Go.Proofs.YtghfmbmdfojapaaGreatDoor.Glb Go.Proofs.YtghfmbmdfojapaaGreatDoor.Gread Go.Proofs.YtghfmbmdfojapaaGreatDoor.Gnext Go.Proofs.YtghfmbmdfojapaaGreatDoor.Gpiece

theorem neq_lit {c : UInt8} {n : UInt8} (h : ¬ c = n) : (((c.toNat : Nat) : Int) == ((n.toNat : Nat) : Int)) = false := by rw [u8_eq]; simpa using h
theorem eq_lit {c : UInt8} {n : UInt8} (h : c = n) : ((c.toNat : Nat) : Int) = ((n.toNat : Nat) : Int) := by rw [h]
theorem fix {a a' : Pc} {r r' : ByteArray} {o o' : Bool} {g : Nat} {w : World} {f : FuncId} {args : Array Value} (h : Calls Tryz.prog f args w fun e W' => e = .returned (pcV a) ∧ RdAt g r o W' ∧ Only g w W') (h1 : a = a') (h2 : r = r') (h3 : o = o') :
    Calls Tryz.prog f args w fun e W' => e = .returned (pcV a') ∧ RdAt g r' o' W' ∧ Only g w W' := by
  subst h1 h2 h3; exact h
/-- the next piece -/
theorem next_is (g : Nat) (u : ByteArray) (o : Bool) (w : World) (h : RdAt g u o w) (hz : 0 < u.size) (hs : u.size ≤ 1000000) :
    Calls Tryz.prog 58 #[.pointer (some ⟨g, 0, none⟩)] w fun e W' => e = .returned (pcV (nextP u.data.toList o)) ∧ RdAt g (bs (nextR u.data.toList o)) (nextO u.data.toList o) W' ∧ Only g w W' := by
  have hh := head_of u hz
  have hx : u.extract 1 u.size = bs (u.data.toList.drop 1) := from_eq u 1
  have hd : (u.extract 1 u.size).data.toList = u.data.toList.drop 1 := Lib.extract_to_end u 1
  by_cases c1 : u[0] = 42
  · refine fix (next_star g u o w h hz hs (eq_lit c1)) ?_ ?_ ?_
    · rw [hh]; simp only [nextP, if_pos c1]
    · rw [hx]; conv => rhs; rw [hh]
      simp only [nextR, if_pos c1]
    · rw [hh]; simp only [nextO, c1]; rfl
  · by_cases c2 : u[0] = 63
    · refine fix (next_any g u o w h hz hs (eq_lit c2)) ?_ ?_ ?_
      · rw [hh]; simp only [nextP, if_neg c1, if_pos c2]
      · rw [hx]; conv => rhs; rw [hh]
        simp only [nextR, if_neg c1, if_pos c2]
      · rw [hh]; simp only [nextO, c2]; rfl
    · by_cases c3 : u[0] = 91
      · cases o with
        | true =>
          refine fix (next_shut g u w h hz hs (eq_lit c3)) ?_ ?_ ?_
          · rw [hh]; simp only [nextP, if_neg c1, if_neg c2, if_pos c3, if_true]
          · conv => rhs; rw [hh]
            simp only [nextR, if_neg c1, if_neg c2, if_pos c3, if_true]; rw [← hh]
          · rw [hh]; simp only [nextO, if_pos c3, if_true]
        | false =>
          cases hr : readSet (u.data.toList.drop 1) with
          | none =>
            refine fix (next_open g u w h hz hs (eq_lit c3) (by rw [hd]; exact hr)) ?_ ?_ ?_
            · rw [hh]; simp only [nextP, if_neg c1, if_neg c2, if_pos c3, hr]; rfl
            · conv => rhs; rw [hh]
              simp only [nextR, if_neg c1, if_neg c2, if_pos c3, hr]; rw [← hh]; rfl
            · rw [hh]; simp only [nextO, if_pos c3, hr]; rfl
          | some x =>
            obtain ⟨p, t⟩ := x
            refine fix (next_set g u (bs t) p w h hz hs (eq_lit c3) (by rw [hd, bs_data]; exact hr)) ?_ ?_ ?_
            · rw [hh]; simp only [nextP, if_neg c1, if_neg c2, if_pos c3, hr]; rfl
            · conv => rhs; rw [hh]
              simp only [nextR, if_neg c1, if_neg c2, if_pos c3, hr]; rfl
            · rw [hh]; simp only [nextO, if_pos c3, hr]; rfl
      · refine fix (next_byte g u o w h hz hs (neq_lit c1) (neq_lit c2) (neq_lit c3)) ?_ ?_ ?_
        · rw [hh]; simp only [nextP, if_neg c1, if_neg c2, if_neg c3]
        · conv => rhs; rw [hh]
          simp only [nextR, if_neg c1, if_neg c2, if_neg c3]; rw [← hh]
        · rw [hh]; simp only [nextO, if_neg c3]
end Go.Proofs.YtghfmbmdfojapaaGreatDoor.Gnextis
