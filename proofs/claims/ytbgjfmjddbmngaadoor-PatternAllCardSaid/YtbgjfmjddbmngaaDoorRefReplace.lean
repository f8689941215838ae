/- What the document's Replace answers. -/
import Derived.Test.YtbgjfmjddbmngaaDoorRefOf
import Derived.Test.YtbgjfmjddbmngaaDoorReplace
namespace Go.Proofs.YtbgjfmjddbmngaaDoor.RefReplace
open Go.RowKit Go.Proofs.YtbgjfmjddbmngaaDoor.Pat Go.Proofs.YtbgjfmjddbmngaaDoor.Build Go.Proofs.YtbgjfmjddbmngaaDoor.Of Go.Proofs.YtbgjfmjddbmngaaDoor.Match Go.Proofs.YtbgjfmjddbmngaaDoor.Replace Go.Proofs.YtbgjfmjddbmngaaDoor.RefMatch Go.Proofs.YtbgjfmjddbmngaaDoor.RefOf

theorem laid_cellsP {w W : World} {h : Bool} {a b : ByteArray} (hb : Below (w.alloc (.cells #[.bool h, .string a, .string b] 26)).heap.size (w.alloc (.cells #[.bool h, .string a, .string b] 26)) W) :
    W.cell? ⟨w.heap.size, 0, none⟩ = some (.bool h) ∧ W.cell? ⟨w.heap.size, 1, none⟩ = some (.string a) ∧ W.cell? ⟨w.heap.size, 2, none⟩ = some (.string b) :=
  ⟨(hb.cell (p := ⟨w.heap.size, 0, none⟩) (by simp)).trans (cell_of_row _ _ 0 _ _ _ (heap_alloc_new w _)),
   (hb.cell (p := ⟨w.heap.size, 1, none⟩) (by simp)).trans (cell_of_row _ _ 1 _ _ _ (heap_alloc_new w _)),
   (hb.cell (p := ⟨w.heap.size, 2, none⟩) (by simp)).trans (cell_of_row _ _ 2 _ _ _ (heap_alloc_new w _))⟩

set_option maxHeartbeats 2000000 in
theorem refReplace_core (f t x : ByteArray) (h h' : Bool) (a b a' b' y z : ByteArray) (o : Bool) (w : World)
    (HO : Hid (∀ W, Calls Tryd.prog 10 #[.string f] W fun e W' => e = .returned (.agg #[.bool h, .string a, .string b]) ∧ Below W.heap.size W W'))
    (HT : Hid (∀ W, Calls Tryd.prog 10 #[.string t] W fun e W' => e = .returned (.agg #[.bool h', .string a', .string b']) ∧ Below W.heap.size W W'))
    (HM : Hid (∀ W, Calls Tryd.prog 12 #[.agg #[.bool h, .string a, .string b], .string x] W fun e W' => e = .returned (.tuple #[.string y, .bool o]) ∧ Below W.heap.size W W'))
    (HP : Hid (∀ W, Calls Tryd.prog 16 #[.agg #[.bool h', .string a', .string b'], .string y] W fun e W' => e = .returned (.string z) ∧ Below W.heap.size W W')) :
    Calls Tryd.prog 14 #[.string f, .string t, .string x] w fun e W' => e = .returned (.tuple #[.string (if o then (if h then z else t) else x), .bool o]) ∧ Below w.heap.size w W' := by
  cases o with
  | false =>
    go_enter Tryd.func14, Tryd.ntmps14
    go_wp2_with fail
    refine (HO.out _).mono ?_
    rintro e w1 ⟨rfl, hb1⟩
    have B1 := Lib.hid hb1
    have hs1 := hb1.size
    clear hb1
    go_wp2_with fail
    refine (HM.out _).mono ?_
    rintro e w2 ⟨rfl, hb2⟩
    have B2 := Lib.hid ((B1.out.alloc hs1 _).trans (hb2.mono (by simp; omega)))
    clear hb2
    go_wp2
    go_ret2
    exact ⟨rfl, B2.out⟩
  | true =>
    cases h with
    | false =>
      go_enter Tryd.func14, Tryd.ntmps14
      go_wp2_with fail
      refine (HO.out _).mono ?_
      rintro e w1 ⟨rfl, hb1⟩
      have B1 := Lib.hid hb1
      have hs1 := hb1.size
      clear hb1
      go_wp2_with fail
      refine (HM.out _).mono ?_
      rintro e w2 ⟨rfl, hb2⟩
      obtain ⟨c0, c1, c2⟩ := laid_cellsP hb2
      have B2 := Lib.hid ((B1.out.alloc hs1 _).trans (hb2.mono (by simp; omega)))
      clear hb2
      go_wp2
      go_ret2
      exact ⟨rfl, B2.out⟩
    | true =>
      go_enter Tryd.func14, Tryd.ntmps14
      go_wp2_with fail
      refine (HO.out _).mono ?_
      rintro e w1 ⟨rfl, hb1⟩
      have B1 := Lib.hid hb1
      have hs1 := hb1.size
      clear hb1
      go_wp2_with fail
      refine (HM.out _).mono ?_
      rintro e w2 ⟨rfl, hb2⟩
      obtain ⟨c0, c1, c2⟩ := laid_cellsP hb2
      have B2 := Lib.hid ((B1.out.alloc hs1 _).trans (hb2.mono (by simp; omega)))
      clear hb2
      go_wp2_with fail
      refine (HT.out _).mono ?_
      rintro e w3 ⟨rfl, hb3⟩
      have B3 := Lib.hid (B2.out.trans (hb3.mono B2.out.size))
      clear hb3 c0 c1 c2
      go_wp2_with fail
      refine (HP.out _).mono ?_
      rintro e w4 ⟨rfl, hb4⟩
      have B4 := Lib.hid (B3.out.trans (hb4.mono B3.out.size))
      clear hb4
      go_wp2
      go_ret2
      exact ⟨rfl, B4.out⟩

/-- the document's Replace -/
theorem refReplace_is (f t x : ByteArray) (w : World) (hf : f.size ≤ 1099511627776) (ht : t.size ≤ 1099511627776) (hx : x.size ≤ 1099511627776) :
    Calls Tryd.prog 14 #[.string f, .string t, .string x] w fun e W' => e = .returned (.tuple #[.string (outR f t x), .bool (okR f x)]) ∧ Below w.heap.size w W' :=
  refReplace_core f t x (hasB f) (hasB t) (preB f) (postB f) (preB t) (postB t) (stemB (hasB f) (preB f) (postB f) x) (putB (hasB t) (preB t) (postB t) (stemB (hasB f) (preB f) (postB f) x)) (okR f x) w
    (Lib.hid fun W => refOf_is f W hf) (Lib.hid fun W => refOf_is t W ht)
    (Lib.hid fun W => refMatch_is _ _ _ x W (Nat.le_trans (preB_le f) hf) (Nat.le_trans (postB_le f) hf) (Nat.le_trans hx (by unfold maxLen; omega)))
    (Lib.hid fun W => refPut_is _ _ _ _ W (Nat.le_trans (preB_le t) ht) (Nat.le_trans (postB_le t) ht) (Nat.le_trans (stem_le _ _ _ x) hx))

end Go.Proofs.YtbgjfmjddbmngaaDoor.RefReplace
