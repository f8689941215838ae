/- The walk of the law PatternAll: for all texts the law answers true. -/
import Derived.Deep.RegionHeld3
import Derived.Test.YtbgjfmjddbmngaaDoorPatAwake
import Derived.Test.YtbgjfmjddbmngaaDoorRefReplace
namespace Go.Proofs.YtbgjfmjddbmngaaDoor.PatternAll
open Go.RowKit Go.Proofs.YtbgjfmjddbmngaaDoor.Pat Go.Proofs.YtbgjfmjddbmngaaDoor.Build Go.Proofs.YtbgjfmjddbmngaaDoor.Of Go.Proofs.YtbgjfmjddbmngaaDoor.Match Go.Proofs.YtbgjfmjddbmngaaDoor.Replace Go.Proofs.YtbgjfmjddbmngaaDoor.RefMatch Go.Proofs.YtbgjfmjddbmngaaDoor.RefOf Go.Proofs.YtbgjfmjddbmngaaDoor.RefReplace Go.Proofs.YtbgjfmjddbmngaaDoor.PatAwake

set_option maxHeartbeats 1000000 in
theorem walk_long (f t x y : ByteArray) (w : World) (hf : f.size ≤ 140737488355328) (ht : t.size ≤ 140737488355328) (hx : x.size ≤ 140737488355328) (hy : y.size ≤ 140737488355328) (h : 1000 < f.size + t.size + x.size + y.size) :
    Calls Tryd.prog 3 #[.string f, .string t, .string x, .string y] w fun e W' => e = .returned (.bool true) ∧ Below w.heap.size w W' := by
  go_enter Tryd.func3, Tryd.ntmps3
  go_wp2_with (go_at_call 8; refine (awake_is _).mono ?_; rintro e w' ⟨rfl, hb⟩)
  go_ret
  exact ⟨rfl, hb⟩

/-- what holds while the last line is reckoned: both patterns lie where they lay, and nothing of before has changed -/
def Held (w : World) (g : Nat) (h : Bool) (a b : ByteArray) (w' : World) : Prop :=
  w'.cell? ⟨g, 0, none⟩ = some (.bool h) ∧ w'.cell? ⟨g, 1, none⟩ = some (.string a) ∧ w'.cell? ⟨g, 2, none⟩ = some (.string b) ∧
  w'.cell? ⟨g + 1, 0, none⟩ = some (.bool h) ∧ w'.cell? ⟨g + 1, 1, none⟩ = some (.string a) ∧ w'.cell? ⟨g + 1, 2, none⟩ = some (.string b) ∧ Below w.heap.size w w'
theorem cell_on {w w' : World} (hb : Below w.heap.size w w') {a : Addr} {v : Value} (h : w.cell? a = some v) : w'.cell? a = some v :=
  (hb.cell (p := a) (World.block_lt_of_cell? w a h)).trans h
theorem Held.on {w : World} {g : Nat} {h : Bool} {a b : ByteArray} {w1 w2 : World} (k : Held w g h a b w1) (hb : Below w1.heap.size w1 w2) : Held w g h a b w2 := by
  obtain ⟨k1, k2, k3, k4, k5, k6, k7⟩ := k
  exact ⟨cell_on hb k1, cell_on hb k2, cell_on hb k3, cell_on hb k4, cell_on hb k5, cell_on hb k6, k7.trans (hb.mono k7.size)⟩
theorem Held.drew {w : World} {g : Nat} {h : Bool} {a b : ByteArray} {w1 : World} (k : Held w g h a b w1) : Held w g h a b w1.drew := by
  obtain ⟨k1, k2, k3, k4, k5, k6, k7⟩ := k
  exact ⟨k1, k2, k3, k4, k5, k6, below_drewN k7 1⟩
theorem held_new {w w2 : World} {h : Bool} {a b : ByteArray} (hb : Below w.heap.size w w2) :
    Held w w2.heap.size h a b ((w2.alloc (.cells #[.bool h, .string a, .string b] 24)).alloc (.cells #[.bool h, .string a, .string b] 26)) := by
  have hs := hb.size
  have q := heap_alloc_new (w2.alloc (.cells #[.bool h, .string a, .string b] 24)) (.cells #[.bool h, .string a, .string b] 26)
  rw [World.size_alloc] at q
  have p : ((w2.alloc (.cells #[.bool h, .string a, .string b] 24)).alloc (.cells #[.bool h, .string a, .string b] 26)).heap[w2.heap.size]? = some (.cells #[.bool h, .string a, .string b] 24 (0, 0)) := by
    rw [Lib.alloc_old _ _ _ (by simp)]
    exact heap_alloc_new w2 _
  exact ⟨cell_of_row _ _ 0 _ _ _ p, cell_of_row _ _ 1 _ _ _ p, cell_of_row _ _ 2 _ _ _ p, cell_of_row _ _ 0 _ _ _ q, cell_of_row _ _ 1 _ _ _ q, cell_of_row _ _ 2 _ _ _ q, (hb.alloc hs _).alloc (by simp; omega) _⟩

theorem put_held {w W : World} {g : Nat} {h : Bool} {a b y : ByteArray} (k : Held w g h a b W) (ha : a.size ≤ 1099511627776) (hb : b.size ≤ 1099511627776) (hy : y.size ≤ 1099511627776) :
    Calls Tryd.prog 15 #[.agg #[.bool h, .string a, .string b], .string y] W fun e W' => e = .returned (.string (putB h a b y)) ∧ Held w g h a b W' :=
  (put_is h a b y W ha hb hy).mono fun _ _ ⟨he, hz⟩ => ⟨he, k.on hz⟩
theorem refPut_held {w W : World} {g : Nat} {h : Bool} {a b y : ByteArray} (k : Held w g h a b W) (ha : a.size ≤ 1099511627776) (hb : b.size ≤ 1099511627776) (hy : y.size ≤ 1099511627776) :
    Calls Tryd.prog 16 #[.agg #[.bool h, .string a, .string b], .string y] W fun e W' => e = .returned (.string (putB h a b y)) ∧ Held w g h a b W' :=
  (refPut_is h a b y W ha hb hy).mono fun _ _ ⟨he, hz⟩ => ⟨he, k.on hz⟩
theorem awake_held {w W : World} {g : Nat} {h : Bool} {a b : ByteArray} (k : Held w g h a b W) :
    Calls Tryd.prog 8 #[] W fun e W' => e = .returned (.bool true) ∧ Held w g h a b W' :=
  (awake_is W).mono fun _ _ ⟨he, hz⟩ => ⟨he, k.on hz⟩

set_option maxRecDepth 100000 in
set_option maxHeartbeats 4000000 in
theorem walk_short (f t x y : ByteArray) (w : World) (h : f.size + t.size + x.size + y.size ≤ 1000) :
    Calls Tryd.prog 3 #[.string f, .string t, .string x, .string y] w fun e W' => e = .returned (.bool true) ∧ Below w.heap.size w W' := by
  have HO := Lib.hid (fun W => of_is f W (by omega))
  have HQ := Lib.hid (fun W => refOf_is f W (by omega))
  have f1 : (preB f).size ≤ 1000 := by have := preB_le f; omega
  have f2 : (postB f).size ≤ 1000 := by have := postB_le f; omega
  have HR := Lib.hid (fun W => replace_is f t x W (by omega) (by omega) (by omega))
  have HU := Lib.hid (fun W => refReplace_is f t x W (by omega) (by omega) (by omega))
  generalize hasB f = ph at HO HQ
  generalize preB f = a at HO HQ f1
  generalize postB f = b at HO HQ f2
  generalize outR f t x = o1 at HR HU
  generalize okR f x = o2 at HR HU
  have HM := Lib.hid (fun W => match_is ph a b x W (by omega) (by omega) (by unfold maxLen; omega))
  have HN := Lib.hid (fun W => refMatch_is ph a b x W (by omega) (by omega) (by unfold maxLen; omega))
  generalize stemB ph a b x = m1 at HM HN
  generalize okB ph a b x = m2 at HM HN
  unfold patV at HO HQ HM HN
  go_enter Tryd.func3, Tryd.ntmps3
  go_wp2_with fail
  refine (HO.out _).mono ?_
  rintro e w1 ⟨rfl, hb1⟩
  have B1 := Lib.hid hb1
  clear hb1
  go_wp2_with fail
  refine (HQ.out _).mono ?_
  rintro e w2 ⟨rfl, hb2⟩
  have B2 := Lib.hid (B1.out.trans (hb2.mono B1.out.size))
  clear hb2 HO HQ B1
  go_wp2_with fail
  have K3 := Lib.hid (held_new (h := ph) (a := a) (b := b) B2.out)
  refine (HM.out _).mono ?_
  rintro e w3 ⟨rfl, hb3⟩
  have K4 := Lib.hid (K3.out.on hb3)
  clear hb3 HM B2 K3
  have k4 := K4.out
  obtain ⟨c0, c1, c2, c3, c4, c5, _⟩ := k4
  go_wp2_with fail
  refine (HN.out _).mono ?_
  rintro e w4 ⟨rfl, hb4⟩
  have K5 := Lib.hid (K4.out.on hb4)
  clear hb4 HN K4 c0 c1 c2 c3 c4 c5
  go_wp2_with fail
  refine (HR.out _).mono ?_
  rintro e w5 ⟨rfl, hb5⟩
  have K6 := Lib.hid (K5.out.on hb5)
  clear hb5 HR K5
  go_wp2_with fail
  refine (HU.out _).mono ?_
  rintro e w6 ⟨rfl, hb6⟩
  have K7 := Lib.hid (K6.out.on hb6)
  clear hb6 HU K6
  go_wp2
  generalize w2.heap.size = g at K7 ⊢
  have k8 := K7.out.drew
  go_region_held3 (fun w' => w'.cell? ⟨g, 0, none⟩ = some (.bool ph) ∧ w'.cell? ⟨g, 1, none⟩ = some (.string a) ∧ w'.cell? ⟨g, 2, none⟩ = some (.string b) ∧
    w'.cell? ⟨g + 1, 0, none⟩ = some (.bool ph) ∧ w'.cell? ⟨g + 1, 1, none⟩ = some (.string a) ∧ w'.cell? ⟨g + 1, 2, none⟩ = some (.string b) ∧ Below w.heap.size w w')
    (first | exact hz | exact k8 | exact K7.out)
    (first
      | (go_at_call 15; refine (put_held (w := w) (g := g) (by assumption) (by omega) (by omega) (by omega)).mono ?_; rintro e wz ⟨rfl, hz⟩)
      | (go_at_call 16; refine (refPut_held (w := w) (g := g) (by assumption) (by omega) (by omega) (by omega)).mono ?_; rintro e wz ⟨rfl, hz⟩)
      | (go_at_call 8; refine (awake_held (w := w) (g := g) (h := ph) (a := a) (b := b) (by assumption)).mono ?_; rintro e wz ⟨rfl, hz⟩))
  go_wp2
  go_ret
  exact ⟨rfl, hz.2.2.2.2.2.2⟩

theorem walk (f t x y : ByteArray) (w : World) (hf : f.size ≤ 140737488355328) (ht : t.size ≤ 140737488355328) (hx : x.size ≤ 140737488355328) (hy : y.size ≤ 140737488355328) :
    Calls Tryd.prog 3 #[.string f, .string t, .string x, .string y] w fun e W' => e = .returned (.bool true) ∧ Below w.heap.size w W' := by
  by_cases h : f.size + t.size + x.size + y.size ≤ 1000
  · exact walk_short f t x y w h
  · exact walk_long f t x y w hf ht hx hy (by omega)

end Go.Proofs.YtbgjfmjddbmngaaDoor.PatternAll
