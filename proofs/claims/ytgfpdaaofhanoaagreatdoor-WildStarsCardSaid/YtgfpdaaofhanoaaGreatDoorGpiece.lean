/- What the program's reader of patterns answers: the next piece. -/
import Derived.Test.YtgfpdaaofhanoaaGreatDoorGnext
namespace Go.Proofs.YtgfpdaaofhanoaaGreatDoor.Gpiece
open Go.RowKit Go.Proofs.YtgfpdaaofhanoaaGreatDoor.Gset Go.Proofs.YtgfpdaaofhanoaaGreatDoor.Gops Go.Proofs.YtgfpdaaofhanoaaGreatDoor.Glb Go.Proofs.YtgfpdaaofhanoaaGreatDoor.Gread Go.Proofs.YtgfpdaaofhanoaaGreatDoor.Gnext

/-- a piece's value -/
def pcV (x : Pc) : Value := .agg #[.bool x.wild, .bool x.star, .int .u64 (word x.has 0 : Nat), .int .u64 (word x.has 1 : Nat), .int .u64 (word x.has 2 : Nat), .int .u64 (word x.has 3 : Nat)]
def pcCells (x : Pc) : Array Value := #[.bool x.wild, .bool x.star, .int .u64 (word x.has 0 : Nat), .int .u64 (word x.has 1 : Nat), .int .u64 (word x.has 2 : Nat), .int .u64 (word x.has 3 : Nat)]
def noPc : Pc := ⟨false, false, none_⟩
/-- a piece lies in block g -/
def PcAt (g : Nat) (x : Pc) (w : World) : Prop := w.heap[g]? = some (.cells (pcCells x) 118 (0, 0))
theorem PcAt.lt {g : Nat} {x : Pc} {w : World} (h : PcAt g x w) : g < w.heap.size := (Array.getElem?_eq_some_iff.1 h).1
theorem PcAt.cells {g : Nat} {x : Pc} {w : World} (h : PcAt g x w) : w.cell? ⟨g, 0, none⟩ = some (.bool x.wild) ∧ w.cell? ⟨g, 1, none⟩ = some (.bool x.star) ∧ w.cell? ⟨g, 2, none⟩ = some (.int .u64 (word x.has 0 : Nat)) ∧ w.cell? ⟨g, 3, none⟩ = some (.int .u64 (word x.has 1 : Nat)) ∧ w.cell? ⟨g, 4, none⟩ = some (.int .u64 (word x.has 2 : Nat)) ∧ w.cell? ⟨g, 5, none⟩ = some (.int .u64 (word x.has 3 : Nat)) := by
  refine ⟨?_, ?_, ?_, ?_, ?_, ?_⟩ <;> (rw [cell_of_row _ _ _ _ _ _ h]; rfl)
theorem PcAt.open_ {g : Nat} {x : Pc} {w : World} (h : PcAt g x w) (q : Nat) : w.frozen? ⟨g, q, none⟩ = false := frozen_of_row _ _ _ _ _ h
theorem PcAt.on {g : Nat} {x : Pc} {w w1 : World} (h : PcAt g x w) (hb : Below w.heap.size w w1) : PcAt g x w1 := (hb.block g h.lt).trans h
theorem PcAt.only {g k : Nat} {x : Pc} {w w1 : World} (h : PcAt g x w) (hb : Only k w w1) (hk : g ≠ k) : PcAt g x w1 := (hb.block g h.lt hk).trans h
theorem PcAt.other {g : Nat} {x : Pc} {w : World} (h : PcAt g x w) {a : Addr} (ha : g ≠ a.block) (v : Value) : PcAt g x (w.setCell a v) := (heap_setCell_other _ _ _ _ ha).trans h
theorem PcAt.new (w : World) : PcAt w.heap.size noPc (w.alloc (.cells #[.bool false, .bool false, .int .u64 0, .int .u64 0, .int .u64 0, .int .u64 0] 118)) := heap_alloc_new _ _
/-- six cells are laid -/
def put6 (w : World) (g : Nat) (x : Pc) : World := (((((w.setCell ⟨g, 0, none⟩ (.bool x.wild)).setCell ⟨g, 1, none⟩ (.bool x.star)).setCell ⟨g, 2, none⟩ (.int .u64 (word x.has 0 : Nat))).setCell ⟨g, 3, none⟩ (.int .u64 (word x.has 1 : Nat))).setCell ⟨g, 4, none⟩ (.int .u64 (word x.has 2 : Nat))).setCell ⟨g, 5, none⟩ (.int .u64 (word x.has 3 : Nat))
theorem Only.put6 {g k : Nat} {a w : World} (h : Only g a w) (hk : k = g ∨ a.heap.size ≤ k) (x : Pc) : Only g a (put6 w k x) :=
  (((((h.setCell (p := ⟨k, 0, none⟩) hk _).setCell (p := ⟨k, 1, none⟩) hk _).setCell (p := ⟨k, 2, none⟩) hk _).setCell (p := ⟨k, 3, none⟩) hk _).setCell (p := ⟨k, 4, none⟩) hk _).setCell (p := ⟨k, 5, none⟩) hk _
theorem RdAt.put6 {g k : Nat} {u : ByteArray} {o : Bool} {w : World} (h : RdAt g u o w) (hk : g ≠ k) (x : Pc) : RdAt g u o (put6 w k x) :=
  (((((h.other (a := ⟨k, 0, none⟩) hk _).other (a := ⟨k, 1, none⟩) hk _).other (a := ⟨k, 2, none⟩) hk _).other (a := ⟨k, 3, none⟩) hk _).other (a := ⟨k, 4, none⟩) hk _).other (a := ⟨k, 5, none⟩) hk _

set_option maxRecDepth 100000 in
set_option maxHeartbeats 1000000 in
/-- a star -/
theorem next_star (g : Nat) (u : ByteArray) (o : Bool) (w : World) (h : RdAt g u o w) (hz : 0 < u.size) (hs : u.size ≤ 1000000) (hc : ((u[0].toNat : Nat) : Int) = 42) :
    Calls Tryz.prog 64 #[.pointer (some ⟨g, 0, none⟩)] w fun e W' => e = .returned (pcV ⟨true, true, none_⟩) ∧ RdAt g (u.extract 1 u.size) o W' ∧ Only g w W' := by
  have hl := h.lt
  have c0 := h.rest
  have f0 := h.open_ 0
  have n1 : ¬ g = w.heap.size := by omega
  have n2 : ¬ w.heap.size = g := by omega
  go_enter Tryz.func64, Tryz.ntmps64
  go_wp2
  exact bodyPost_ret (v := pcV ⟨true, true, none_⟩) (by simp [results, Tryz.results64, go_sem, pcV]; exact ⟨rfl, rfl, rfl, rfl⟩) rfl ⟨rfl, (h.setRest _).alloc _, ((Only.of_below (Below.refl _ _)).setCell (p := ⟨g, 0, none⟩) (.inl rfl) _).alloc _⟩

set_option maxRecDepth 100000 in
set_option maxHeartbeats 1000000 in
/-- any one byte -/
theorem next_any (g : Nat) (u : ByteArray) (o : Bool) (w : World) (h : RdAt g u o w) (hz : 0 < u.size) (hs : u.size ≤ 1000000) (hc : ((u[0].toNat : Nat) : Int) = 63) :
    Calls Tryz.prog 64 #[.pointer (some ⟨g, 0, none⟩)] w fun e W' => e = .returned (pcV ⟨true, false, neg none_⟩) ∧ RdAt g (u.extract 1 u.size) o W' ∧ Only g w W' := by
  have hl := h.lt
  have c0 := h.rest
  have f0 := h.open_ 0
  have n1 : ¬ g = w.heap.size := by omega
  have n2 : ¬ w.heap.size = g := by omega
  have HC := Lib.hid (fun W => others_is none_ W)
  go_enter Tryz.func64, Tryz.ntmps64
  go_wp2_with fail
  refine (HC.out _).mono ?_
  rintro e w1 ⟨rfl, hb1⟩
  have h1 : RdAt g (u.extract 1 u.size) o w1 := ((h.setRest _).alloc _).on hb1
  have hp1 : PcAt w.heap.size noPc w1 := by
    refine PcAt.on (w := (w.setCell ⟨g, 0, none⟩ (.string (u.extract 1 u.size))).alloc (.cells #[.bool false, .bool false, .int .u64 0, .int .u64 0, .int .u64 0, .int .u64 0] 118)) ?_ hb1
    have := PcAt.new (w.setCell ⟨g, 0, none⟩ (.string (u.extract 1 u.size)))
    rw [World.size_setCell] at this
    exact this
  obtain ⟨d0, d1, d2, d3, d4, d5⟩ := hp1.cells
  have k0 := hp1.open_ 0
  have k1 := hp1.open_ 1
  have k2 := hp1.open_ 2
  have k3 := hp1.open_ 3
  have k4 := hp1.open_ 4
  have k5 := hp1.open_ 5
  simp only [noPc] at d0 d1 d2 d3 d4 d5
  have O1 : Hid (Only g w w1) := (((Only.of_below (Below.refl _ _)).setCell (p := ⟨g, 0, none⟩) (.inl rfl) _).alloc _).trans (Only.of_below hb1)
  have H1 := Lib.hid h1
  clear hb1 h1 hp1 HC c0 f0
  unfold setV
  go_wp2
  exact bodyPost_ret (v := pcV ⟨true, false, neg none_⟩) (by simp [results, Tryz.results64, go_sem, pcV, *]; exact ⟨rfl, rfl, rfl, rfl⟩) rfl ⟨rfl, RdAt.put6 H1.out n1 ⟨true, false, neg none_⟩, Only.put6 O1.out (.inr (Nat.le_refl _)) ⟨true, false, neg none_⟩⟩

set_option maxRecDepth 100000 in
set_option maxHeartbeats 2000000 in
/-- a byte that is none of three -/
theorem next_byte (g : Nat) (u : ByteArray) (o : Bool) (w : World) (h : RdAt g u o w) (hz : 0 < u.size) (hs : u.size ≤ 1000000) (q1 : (((u[0].toNat : Nat) : Int) == 42) = false) (q2 : (((u[0].toNat : Nat) : Int) == 63) = false) (q3 : (((u[0].toNat : Nat) : Int) == 91) = false) :
    Calls Tryz.prog 64 #[.pointer (some ⟨g, 0, none⟩)] w fun e W' => e = .returned (pcV (byteP u.data.toList)) ∧ RdAt g (bs (unqR u.data.toList)) o W' ∧ Only g w W' := by
  have hl := h.lt
  have c0 := h.rest
  have f0 := h.open_ 0
  have n1 : ¬ g = w.heap.size := by omega
  have n2 : ¬ w.heap.size = g := by omega
  have HQ := Lib.hid (fun W => unq_is u W hz (by unfold maxLen; omega))
  obtain ⟨r, HR⟩ : ∃ x, Hid (bs (unqR u.data.toList) = x) := ⟨_, rfl⟩
  obtain ⟨lo, HL⟩ : ∃ l : UInt8, Hid (unqC u.data.toList = l) := ⟨_, rfl⟩
  have hlo : lo.toNat < 256 := lo.toNat_lt
  have HC := Lib.hid (fun W => with_is none_ lo.toNat lo.toNat hlo hlo W)
  have HP : Hid (byteP u.data.toList = ⟨false, false, plus none_ lo.toNat lo.toNat⟩) := by show _ = _; rw [byteP, HL.out]
  go_enter Tryz.func64, Tryz.ntmps64
  go_wp2_with fail
  refine (HQ.out _).mono ?_
  rintro e w' ⟨rfl, rfl⟩
  rw [HR.out, HL.out]
  go_wp2_with fail
  refine (HC.out _).mono ?_
  rintro e w1 ⟨rfl, hb1⟩
  have h1 : RdAt g r o w1 := RdAt.on (w := ((w.setCell ⟨g, 0, none⟩ (.string r)).alloc (.cells #[.bool false, .bool false, .int .u64 0, .int .u64 0, .int .u64 0, .int .u64 0] 118)).drew) ((h.setRest r).alloc _) hb1
  have hp1 : PcAt w.heap.size noPc w1 := by
    refine PcAt.on (w := ((w.setCell ⟨g, 0, none⟩ (.string r)).alloc (.cells #[.bool false, .bool false, .int .u64 0, .int .u64 0, .int .u64 0, .int .u64 0] 118)).drew) ?_ hb1
    have := PcAt.new (w.setCell ⟨g, 0, none⟩ (.string r))
    rw [World.size_setCell] at this
    exact this
  have O1 : Hid (Only g w w1) := (((Only.of_below (Below.refl _ _)).setCell (p := ⟨g, 0, none⟩) (.inl rfl) _).alloc _).trans (Only.of_below (w := ((w.setCell ⟨g, 0, none⟩ (.string r)).alloc (.cells #[.bool false, .bool false, .int .u64 0, .int .u64 0, .int .u64 0, .int .u64 0] 118))) ⟨hb1.os, hb1.tape, hb1.output, hb1.size, hb1.block⟩)
  obtain ⟨d0, d1, d2, d3, d4, d5⟩ := hp1.cells
  have k0 := hp1.open_ 0
  have k1 := hp1.open_ 1
  have k2 := hp1.open_ 2
  have k3 := hp1.open_ 3
  have k4 := hp1.open_ 4
  have k5 := hp1.open_ 5
  simp only [noPc] at d0 d1 d2 d3 d4 d5
  have H1 := Lib.hid h1
  clear hb1 h1 hp1 HC HQ c0 f0
  unfold setV
  go_wp2
  exact bodyPost_ret (v := pcV ⟨false, false, plus none_ lo.toNat lo.toNat⟩) (by simp [results, Tryz.results64, go_sem, pcV, *]) rfl ⟨by rw [HP.out], by rw [HR.out]; exact RdAt.put6 H1.out n1 ⟨false, false, plus none_ lo.toNat lo.toNat⟩, Only.put6 O1.out (.inr (Nat.le_refl _)) ⟨false, false, plus none_ lo.toNat lo.toNat⟩⟩

set_option maxRecDepth 100000 in
set_option maxHeartbeats 2000000 in
/-- a [ where no set is looked for -/
theorem next_shut (g : Nat) (u : ByteArray) (w : World) (h : RdAt g u true w) (hz : 0 < u.size) (hs : u.size ≤ 1000000) (q1 : ((u[0].toNat : Nat) : Int) = 91) :
    Calls Tryz.prog 64 #[.pointer (some ⟨g, 0, none⟩)] w fun e W' => e = .returned (pcV (byteP u.data.toList)) ∧ RdAt g (bs (unqR u.data.toList)) true W' ∧ Only g w W' := by
  have hl := h.lt
  have c0 := h.rest
  have f0 := h.open_ 0
  have n1 : ¬ g = w.heap.size := by omega
  have n2 : ¬ w.heap.size = g := by omega
  have HQ := Lib.hid (fun W => unq_is u W hz (by unfold maxLen; omega))
  obtain ⟨r, HR⟩ : ∃ x, Hid (bs (unqR u.data.toList) = x) := ⟨_, rfl⟩
  obtain ⟨lo, HL⟩ : ∃ l : UInt8, Hid (unqC u.data.toList = l) := ⟨_, rfl⟩
  have hlo : lo.toNat < 256 := lo.toNat_lt
  have HC := Lib.hid (fun W => with_is none_ lo.toNat lo.toNat hlo hlo W)
  have HP : Hid (byteP u.data.toList = ⟨false, false, plus none_ lo.toNat lo.toNat⟩) := by show _ = _; rw [byteP, HL.out]
  go_enter Tryz.func64, Tryz.ntmps64
  go_wp2_with fail
  refine (set_shut g u _ (h.alloc _)).mono ?_
  rintro e wa ⟨rfl, ha, oa⟩
  have hpa : PcAt w.heap.size noPc wa := (PcAt.new w).only oa n2
  have hsa : w.heap.size < wa.heap.size := hpa.lt
  have hga : g < wa.heap.size := ha.lt
  have Oa : Hid (Only g w wa) := ((Only.of_below (Below.refl _ _)).alloc _).trans oa
  clear oa
  have a0 := ha.rest
  have f1 := ha.open_ 0
  have HA := Lib.hid ha
  have HPA := Lib.hid hpa
  clear ha hpa
  go_wp2_with fail
  refine (HQ.out _).mono ?_
  rintro e w' ⟨rfl, rfl⟩
  rw [HR.out, HL.out]
  go_wp2_with fail
  refine (HC.out _).mono ?_
  rintro e w1 ⟨rfl, hb1⟩
  have h1 : RdAt g r true w1 := RdAt.on (w := ((wa.setCell ⟨g, 0, none⟩ (.string r)).alloc (.cells #[.int .u64 0, .int .u64 0, .int .u64 0, .int .u64 0] 116)).drew) ((HA.out.setRest r).alloc _) hb1
  have hp1 : PcAt w.heap.size noPc w1 := by
    refine PcAt.on (w := ((wa.setCell ⟨g, 0, none⟩ (.string r)).alloc (.cells #[.int .u64 0, .int .u64 0, .int .u64 0, .int .u64 0] 116)).drew) ?_ hb1
    exact (Below.heap_alloc _ _ _ (by rw [World.size_setCell]; exact hsa)).trans (HPA.out.other (a := ⟨g, 0, none⟩) n2 _)
  have O1 : Hid (Only g w w1) := ((Oa.out.setCell (p := ⟨g, 0, none⟩) (.inl rfl) _).alloc _).trans (Only.of_below (w := ((wa.setCell ⟨g, 0, none⟩ (.string r)).alloc (.cells #[.int .u64 0, .int .u64 0, .int .u64 0, .int .u64 0] 116))) ⟨hb1.os, hb1.tape, hb1.output, hb1.size, hb1.block⟩)
  have hs1 : wa.heap.size < w1.heap.size := by have := hb1.size; simp at this; omega
  clear HA HPA Oa a0 f1
  obtain ⟨d0, d1, d2, d3, d4, d5⟩ := hp1.cells
  have k0 := hp1.open_ 0
  have k1 := hp1.open_ 1
  have k2 := hp1.open_ 2
  have k3 := hp1.open_ 3
  have k4 := hp1.open_ 4
  have k5 := hp1.open_ 5
  simp only [noPc] at d0 d1 d2 d3 d4 d5
  have H1 := Lib.hid h1
  clear hb1 h1 hp1 HC HQ c0 f0
  unfold setV
  go_wp2
  exact bodyPost_ret (v := pcV ⟨false, false, plus none_ lo.toNat lo.toNat⟩) (by simp [results, Tryz.results64, go_sem, pcV, *]) rfl ⟨by rw [HP.out], by rw [HR.out]; exact RdAt.put6 H1.out n1 ⟨false, false, plus none_ lo.toNat lo.toNat⟩, Only.put6 O1.out (.inr (Nat.le_refl _)) ⟨false, false, plus none_ lo.toNat lo.toNat⟩⟩

set_option maxRecDepth 100000 in
set_option maxHeartbeats 2000000 in
/-- a [ that no ] ends -/
theorem next_open (g : Nat) (u : ByteArray) (w : World) (h : RdAt g u false w) (hz : 0 < u.size) (hs : u.size ≤ 1000000) (q1 : ((u[0].toNat : Nat) : Int) = 91) (qn : readSet (u.extract 1 u.size).data.toList = none) :
    Calls Tryz.prog 64 #[.pointer (some ⟨g, 0, none⟩)] w fun e W' => e = .returned (pcV (byteP u.data.toList)) ∧ RdAt g (bs (unqR u.data.toList)) true W' ∧ Only g w W' := by
  have hl := h.lt
  have c0 := h.rest
  have f0 := h.open_ 0
  have n1 : ¬ g = w.heap.size := by omega
  have n2 : ¬ w.heap.size = g := by omega
  have HN := Lib.hid (fun W hW => set_none g u W hW hz hs qn)
  clear qn
  have HQ := Lib.hid (fun W => unq_is u W hz (by unfold maxLen; omega))
  obtain ⟨r, HR⟩ : ∃ x, Hid (bs (unqR u.data.toList) = x) := ⟨_, rfl⟩
  obtain ⟨lo, HL⟩ : ∃ l : UInt8, Hid (unqC u.data.toList = l) := ⟨_, rfl⟩
  have hlo : lo.toNat < 256 := lo.toNat_lt
  have HC := Lib.hid (fun W => with_is none_ lo.toNat lo.toNat hlo hlo W)
  have HP : Hid (byteP u.data.toList = ⟨false, false, plus none_ lo.toNat lo.toNat⟩) := by show _ = _; rw [byteP, HL.out]
  go_enter Tryz.func64, Tryz.ntmps64
  go_wp2_with fail
  refine (HN.out _ (h.alloc _)).mono ?_
  rintro e wa ⟨rfl, ha, oa⟩
  have hpa : PcAt w.heap.size noPc wa := (PcAt.new w).only oa n2
  have hsa : w.heap.size < wa.heap.size := hpa.lt
  have hga : g < wa.heap.size := ha.lt
  have Oa : Hid (Only g w wa) := ((Only.of_below (Below.refl _ _)).alloc _).trans oa
  clear oa
  have a0 := ha.rest
  have f1 := ha.open_ 0
  have HA := Lib.hid ha
  have HPA := Lib.hid hpa
  clear ha hpa
  go_wp2_with fail
  refine (HQ.out _).mono ?_
  rintro e w' ⟨rfl, rfl⟩
  rw [HR.out, HL.out]
  go_wp2_with fail
  refine (HC.out _).mono ?_
  rintro e w1 ⟨rfl, hb1⟩
  have h1 : RdAt g r true w1 := RdAt.on (w := ((wa.setCell ⟨g, 0, none⟩ (.string r)).alloc (.cells #[.int .u64 0, .int .u64 0, .int .u64 0, .int .u64 0] 116)).drew) ((HA.out.setRest r).alloc _) hb1
  have hp1 : PcAt w.heap.size noPc w1 := by
    refine PcAt.on (w := ((wa.setCell ⟨g, 0, none⟩ (.string r)).alloc (.cells #[.int .u64 0, .int .u64 0, .int .u64 0, .int .u64 0] 116)).drew) ?_ hb1
    exact (Below.heap_alloc _ _ _ (by rw [World.size_setCell]; exact hsa)).trans (HPA.out.other (a := ⟨g, 0, none⟩) n2 _)
  have O1 : Hid (Only g w w1) := ((Oa.out.setCell (p := ⟨g, 0, none⟩) (.inl rfl) _).alloc _).trans (Only.of_below (w := ((wa.setCell ⟨g, 0, none⟩ (.string r)).alloc (.cells #[.int .u64 0, .int .u64 0, .int .u64 0, .int .u64 0] 116))) ⟨hb1.os, hb1.tape, hb1.output, hb1.size, hb1.block⟩)
  have hs1 : wa.heap.size < w1.heap.size := by have := hb1.size; simp at this; omega
  clear HA HPA Oa a0 f1
  obtain ⟨d0, d1, d2, d3, d4, d5⟩ := hp1.cells
  have k0 := hp1.open_ 0
  have k1 := hp1.open_ 1
  have k2 := hp1.open_ 2
  have k3 := hp1.open_ 3
  have k4 := hp1.open_ 4
  have k5 := hp1.open_ 5
  simp only [noPc] at d0 d1 d2 d3 d4 d5
  have H1 := Lib.hid h1
  clear hb1 h1 hp1 HC HQ c0 f0
  unfold setV
  go_wp2
  exact bodyPost_ret (v := pcV ⟨false, false, plus none_ lo.toNat lo.toNat⟩) (by simp [results, Tryz.results64, go_sem, pcV, *]) rfl ⟨by rw [HP.out], by rw [HR.out]; exact RdAt.put6 H1.out n1 ⟨false, false, plus none_ lo.toNat lo.toNat⟩, Only.put6 O1.out (.inr (Nat.le_refl _)) ⟨false, false, plus none_ lo.toNat lo.toNat⟩⟩

set_option maxRecDepth 100000 in
set_option maxHeartbeats 2000000 in
/-- a set -/
theorem next_set (g : Nat) (u r : ByteArray) (p : Nat → Bool) (w : World) (h : RdAt g u false w) (hz : 0 < u.size) (hs : u.size ≤ 1000000) (q1 : ((u[0].toNat : Nat) : Int) = 91) (qn : readSet (u.extract 1 u.size).data.toList = some (p, r.data.toList)) :
    Calls Tryz.prog 64 #[.pointer (some ⟨g, 0, none⟩)] w fun e W' => e = .returned (pcV ⟨true, false, p⟩) ∧ RdAt g r false W' ∧ Only g w W' := by
  have hl := h.lt
  have c0 := h.rest
  have f0 := h.open_ 0
  have n1 : ¬ g = w.heap.size := by omega
  have n2 : ¬ w.heap.size = g := by omega
  have HN := Lib.hid (fun W hW => set_some g u r p W hW hz hs qn)
  clear qn
  go_enter Tryz.func64, Tryz.ntmps64
  go_wp2_with fail
  refine (HN.out _ (h.alloc _)).mono ?_
  rintro e wa ⟨rfl, ha, oa⟩
  have hpa : PcAt w.heap.size noPc wa := (PcAt.new w).only oa n2
  have hsa : w.heap.size < wa.heap.size := hpa.lt
  have Oa : Hid (Only g w wa) := ((Only.of_below (Below.refl _ _)).alloc _).trans oa
  have HA := Lib.hid ha
  have HPA := Lib.hid hpa
  clear oa ha c0 f0 HN hpa
  go_upto_if 43 with fail
  obtain ⟨w1, hw1⟩ : ∃ x, x = wa.alloc (.cells #[.int .u64 (word p 0 : Nat), .int .u64 (word p 1 : Nat), .int .u64 (word p 2 : Nat), .int .u64 (word p 3 : Nat)] 116) := ⟨_, rfl⟩
  rw [← hw1]
  have hp1 : PcAt w.heap.size noPc w1 := by rw [hw1]; exact (Below.heap_alloc _ _ _ hsa).trans HPA.out
  have s1 : SetAt wa.heap.size p w1 := by rw [hw1]; exact heap_alloc_new _ _
  have H1 : Hid (RdAt g r false w1) := by rw [hw1]; exact HA.out.alloc _
  have O1 : Hid (Only g w w1) := by rw [hw1]; exact Oa.out.alloc _
  have s0 := SetAt.at_ s1 0 (by decide)
  have s2 := SetAt.at_ s1 1 (by decide)
  have s3 := SetAt.at_ s1 2 (by decide)
  have s4 := SetAt.at_ s1 3 (by decide)
  clear s1 hw1 HA HPA Oa
  obtain ⟨d0, d1, d2, d3, d4, d5⟩ := hp1.cells
  have k0 := hp1.open_ 0
  have k1 := hp1.open_ 1
  have k2 := hp1.open_ 2
  have k3 := hp1.open_ 3
  have k4 := hp1.open_ 4
  have k5 := hp1.open_ 5
  simp only [noPc] at d0 d1 d2 d3 d4 d5
  clear hp1
  go_wp2
  exact bodyPost_ret (v := pcV ⟨true, false, p⟩) (by simp [results, Tryz.results64, go_sem, pcV, *]) rfl ⟨rfl, RdAt.put6 H1.out n1 ⟨true, false, p⟩, Only.put6 O1.out (.inr (Nat.le_refl _)) ⟨true, false, p⟩⟩
end Go.Proofs.YtgfpdaaofhanoaaGreatDoor.Gpiece
