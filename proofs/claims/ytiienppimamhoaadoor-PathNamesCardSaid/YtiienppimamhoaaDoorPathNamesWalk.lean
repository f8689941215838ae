/- The walk of the law PathNames: for all numbers the law answers true. -/
import Derived.Deep.RegionHeld3
import Derived.Test.YtiienppimamhoaaDoorPawake
import Derived.Test.YtiienppimamhoaaDoorPlace
namespace Go.Proofs.YtiienppimamhoaaDoor.PathNames
open Go.RowKit Go.Proofs.YtiienppimamhoaaDoor.Pth Go.Proofs.YtiienppimamhoaaDoor.Pfn Go.Proofs.YtiienppimamhoaaDoor.Pabs Go.Proofs.YtiienppimamhoaaDoor.Pawake
open Go.Proofs.YtiienppimamhoaaDoor.Place (place place_lt place_is)

def wayAt (p : Nat) : ByteArray := bs ([[], [46, 47], [120, 47], [47], [97, 46, 98, 47, 99, 46, 100, 47]].getD p [])
def nameAt (q : Nat) : ByteArray := bs ([[102], [103, 46, 104], [], [108, 105, 98, 45, 49]].getD q [])
def endAt (r : Nat) : ByteArray := bs ([[], [46, 99], [46], [46, 116, 97, 114]].getD r [])
def wantOf (b c : ByteArray) : ByteArray := if (c.toList == []) && (b.toList == [103, 46, 104]) then ⟨#[46, 104]⟩ else c
def dirOf (a : ByteArray) : ByteArray := if a.toList == [] then ⟨#[46, 47]⟩ else a

theorem index_way (p : Nat) (hp : p < 5) (W : World) : (Instr.index 30 (.agg #[.string ⟨#[]⟩, .string ⟨#[46, 47]⟩, .string ⟨#[120, 47]⟩, .string ⟨#[47]⟩, .string ⟨#[97, 46, 98, 47, 99, 46, 100, 47]⟩]) (.int .i64 (p : Int))).run Tryd.prog W = .ok (.string (wayAt p)) W := by
  have h : p = 0 ∨ p = 1 ∨ p = 2 ∨ p = 3 ∨ p = 4 := by omega
  rcases h with rfl | rfl | rfl | rfl | rfl <;> (show _ = _; kernel_rfl)
theorem index_name (p : Nat) (hp : p < 4) (W : World) : (Instr.index 31 (.agg #[.string ⟨#[102]⟩, .string ⟨#[103, 46, 104]⟩, .string ⟨#[]⟩, .string ⟨#[108, 105, 98, 45, 49]⟩]) (.int .i64 (p : Int))).run Tryd.prog W = .ok (.string (nameAt p)) W := by
  have h : p = 0 ∨ p = 1 ∨ p = 2 ∨ p = 3 := by omega
  rcases h with rfl | rfl | rfl | rfl <;> (show _ = _; kernel_rfl)
theorem index_end (p : Nat) (hp : p < 4) (W : World) : (Instr.index 31 (.agg #[.string ⟨#[]⟩, .string ⟨#[46, 99]⟩, .string ⟨#[46]⟩, .string ⟨#[46, 116, 97, 114]⟩]) (.int .i64 (p : Int))).run Tryd.prog W = .ok (.string (endAt p)) W := by
  have h : p = 0 ∨ p = 1 ∨ p = 2 ∨ p = 3 := by omega
  rcases h with rfl | rfl | rfl | rfl <;> (show _ = _; kernel_rfl)

/-- all that there are -/
theorem all_dir : ∀ p, p < 5 → ∀ q, q < 4 → ∀ r, r < 4 → dirB (wayAt p ++ nameAt q ++ endAt r) = dirOf (wayAt p) := by decide +kernel
theorem all_notdir : ∀ p, p < 5 → ∀ q, q < 4 → ∀ r, r < 4 → notdirB (wayAt p ++ nameAt q ++ endAt r) = nameAt q ++ endAt r := by decide +kernel
theorem all_suf : ∀ p, p < 5 → ∀ q, q < 4 → ∀ r, r < 4 → sufB (wayAt p ++ nameAt q ++ endAt r) = wantOf (nameAt q) (endAt r) := by decide +kernel
theorem way_size : ∀ p, p < 5 → (wayAt p).size ≤ 8 := by decide +kernel
theorem name_size : ∀ p, p < 4 → (nameAt p).size ≤ 5 := by decide +kernel
theorem end_size : ∀ p, p < 4 → (endAt p).size ≤ 4 := by decide +kernel

theorem wrap_nat (d : Nat) (h : d ≤ 1000000) : IntKind.i64.wrap (d : Int) = (d : Int) := by
  rw [IntKind.wrap_i64]
  have h1 : (0 : Int) ≤ (d : Int) := by omega
  have h2 : (d : Int) ≤ 1000000 := by omega
  generalize (d : Int) = z at *
  omega
theorem dir_held {f : FuncId} {t d : ByteArray} {w W : World} (h : ∀ W : World, Calls Tryd.prog f #[.string t] W fun e W' => e = .returned (.string d) ∧ W = W') (k : Below w.heap.size w W) :
    Calls Tryd.prog f #[.string t] W fun e W' => e = .returned (.string d) ∧ Below w.heap.size w W' := (h W).mono fun _ _ ⟨he, hw⟩ => ⟨he, hw ▸ k⟩
theorem awake_held {w W : World} (k : Below w.heap.size w W) :
    Calls Tryd.prog 7 #[] W fun e W' => e = .returned (.bool true) ∧ Below w.heap.size w W' := (awake_is W).mono fun _ _ ⟨he, hb⟩ => ⟨he, k.trans (hb.mono k.size)⟩

set_option maxHeartbeats 4000000 in
theorem walk_core (x y z : Int) (p q r : Nat) (a b c : ByteArray) (w : World)
    (h1 : ∀ W : World, Calls Tryd.prog 18 #[.int .i64 x, .int .i64 5] W fun e w' => e = .returned (.int .i64 (p : Int)) ∧ W = w')
    (h2 : ∀ W : World, Calls Tryd.prog 18 #[.int .i64 y, .int .i64 4] W fun e w' => e = .returned (.int .i64 (q : Int)) ∧ W = w')
    (h3 : ∀ W : World, Calls Tryd.prog 18 #[.int .i64 z, .int .i64 4] W fun e w' => e = .returned (.int .i64 (r : Int)) ∧ W = w') 
    (i1 : ∀ W, (Instr.index 30 (.agg #[.string ⟨#[]⟩, .string ⟨#[46, 47]⟩, .string ⟨#[120, 47]⟩, .string ⟨#[47]⟩, .string ⟨#[97, 46, 98, 47, 99, 46, 100, 47]⟩]) (.int .i64 (p : Int))).run Tryd.prog W = .ok (.string a) W)
    (i2 : ∀ W, (Instr.index 31 (.agg #[.string ⟨#[102]⟩, .string ⟨#[103, 46, 104]⟩, .string ⟨#[]⟩, .string ⟨#[108, 105, 98, 45, 49]⟩]) (.int .i64 (q : Int))).run Tryd.prog W = .ok (.string b) W)
    (i3 : ∀ W, (Instr.index 31 (.agg #[.string ⟨#[]⟩, .string ⟨#[46, 99]⟩, .string ⟨#[46]⟩, .string ⟨#[46, 116, 97, 114]⟩]) (.int .i64 (r : Int))).run Tryd.prog W = .ok (.string c) W)
    (za : a.size ≤ 8) (zb : b.size ≤ 5) (zc : c.size ≤ 4) (hd : dirB (a ++ b ++ c) = dirOf a) (hn : notdirB (a ++ b ++ c) = b ++ c) (hf : sufB (a ++ b ++ c) = wantOf b c) :
    Calls Tryd.prog 5 #[.int .i64 x, .int .i64 y, .int .i64 z] w fun e W' => e = .returned (.bool true) ∧ Below w.heap.size w W' := by
  have zt : (a ++ b ++ c).size ≤ 17 := by rw [ByteArray.size_append, ByteArray.size_append]; omega
  have zab : (a ++ b).size ≤ 13 := by rw [ByteArray.size_append]; omega
  have a1 : ∀ W, (Op.stringOp .add a b).run Tryd.prog W = .ok (.string (a ++ b)) W := fun W => run_string_add_sum W _ _ (by omega)
  have a2 : ∀ W, (Op.stringOp .add (a ++ b) c).run Tryd.prog W = .ok (.string (a ++ b ++ c)) W := fun W => run_string_add_sum W _ _ (by omega)
  have a3 : ∀ W, (Op.stringOp .add b c).run Tryd.prog W = .ok (.string (b ++ c)) W := fun W => run_string_add_sum W _ _ (by omega)
  have D1 := Lib.hid (fun W => dir_lit _ _ W (by omega) hd)
  have D2 := Lib.hid (fun W => notdir_lit _ _ W (by omega) hn)
  have D3 := Lib.hid (fun W => suffix_lit _ _ W (by omega) hf)
  have hle := sufB_size (a ++ b ++ c)
  rw [hf] at hle
  have hbs : baseB (a ++ b ++ c) = (a ++ b ++ c).extract 0 ((a ++ b ++ c).size - (wantOf b c).size) := by rw [baseB, hf]
  have D4 := Lib.hid (fun W => base_lit _ _ W (by omega) hbs)
  have HW : Hid (wantOf b c = if (c.toList == []) && (b.toList == [103, 46, 104]) then ⟨#[46, 104]⟩ else c) := rfl
  have HD : Hid (dirOf a = if a.toList == [] then ⟨#[46, 47]⟩ else a) := rfl
  clear hd hn hf hbs
  generalize wantOf b c = want at *
  generalize dirOf a = dir at *
  generalize a ++ b ++ c = t at *
  generalize b ++ c = u at *
  obtain ⟨d, hd⟩ : ∃ d, t.size - want.size = d := ⟨_, rfl⟩
  rw [hd] at D4
  have hdt : d ≤ t.size := by omega
  have hdi : (d : Int) ≤ (t.size : Int) := by omega
  have hsl : ∀ W, (Instr.slice 9 (.string t) none (some (.int .i64 (d : Int))) none).run Tryd.prog W = .ok (.string (t.extract 0 d)) W := fun W => by
    go_simp
  have hwr : IntKind.i64.wrap ((t.size : Int) - (want.size : Int)) = (d : Int) := by
    rw [show (t.size : Int) - (want.size : Int) = (d : Int) by omega]
    exact wrap_nat d (by omega)
  clear hd hle
  have k8 : Below w.heap.size w w.drew := (Below.refl _ _).drew
  have k0 : Below w.heap.size w w := Below.refl _ _
  generalize hkc : (c.toList == []) = kc at HW
  generalize hkb : (b.toList == [103, 46, 104]) = kb at HW
  generalize hka : (a.toList == []) = ka at HD
  cases kc <;> cases kb <;> cases ka
  all_goals
    first | obtain rfl : want = c := HW.out | have hw : want = ⟨#[46, 104]⟩ := HW.out
    first | obtain rfl : dir = a := HD.out | obtain rfl : dir = ⟨#[46, 47]⟩ := HD.out
    clear HW HD
    go_enter Tryd.func5, Tryd.ntmps5
    go_wp2_with fail
    refine (h1 _).mono ?_
    rintro e w' ⟨rfl, rfl⟩
    go_wp2_with fail
    refine (h2 _).mono ?_
    rintro e w' ⟨rfl, rfl⟩
    go_wp2_with fail
    refine (h3 _).mono ?_
    rintro e w' ⟨rfl, rfl⟩
    clear h1 h2 h3
    go_wp2
    clear i1 i2 i3 a1 a2 hkc hkb hka
    try rw [← hw]
    try clear hw
    go_region_held3 (fun w' => Below w.heap.size w w')
      (first | exact hz | exact k8 | exact k0 | assumption)
      (first
        | (go_at_call 8; refine (dir_held D1.out (by assumption)).mono ?_; rintro e wz ⟨rfl, hz⟩)
        | (go_at_call 10; refine (dir_held D2.out (by assumption)).mono ?_; rintro e wz ⟨rfl, hz⟩)
        | (go_at_call 12; refine (dir_held D3.out (by assumption)).mono ?_; rintro e wz ⟨rfl, hz⟩)
        | (go_at_call 14; refine (dir_held D4.out (by assumption)).mono ?_; rintro e wz ⟨rfl, hz⟩)
        | (go_at_call 7; refine (awake_held (w := w) (by assumption)).mono ?_; rintro e wz ⟨rfl, hz⟩))
    go_wp2
    go_ret
    exact ⟨rfl, hz⟩

theorem walk (x y z : Int) (w : World) (hx : (Lit.int .i64 x).wf = true) (hy : (Lit.int .i64 y).wf = true) (hz : (Lit.int .i64 z).wf = true) :
    Calls Tryd.prog 5 #[.int .i64 x, .int .i64 y, .int .i64 z] w fun e W' => e = .returned (.bool true) ∧ Below w.heap.size w W' := by
  have hp := place_lt x 5 (by omega)
  have hq := place_lt y 4 (by omega)
  have hr := place_lt z 4 (by omega)
  exact walk_core x y z (place x 5) (place y 4) (place z 4) (wayAt (place x 5)) (nameAt (place y 4)) (endAt (place z 4)) w
    (fun W => place_is x 5 W (by omega) (by omega) hx) (fun W => place_is y 4 W (by omega) (by omega) hy) (fun W => place_is z 4 W (by omega) (by omega) hz)
    (index_way _ hp) (index_name _ hq) (index_end _ hr) (way_size _ hp) (name_size _ hq) (end_size _ hr) (all_dir _ hp _ hq _ hr) (all_notdir _ hp _ hq _ hr) (all_suf _ hp _ hq _ hr)

end Go.Proofs.YtiienppimamhoaaDoor.PathNames
