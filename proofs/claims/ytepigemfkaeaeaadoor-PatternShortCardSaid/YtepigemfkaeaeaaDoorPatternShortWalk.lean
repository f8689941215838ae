/- The walk of the law PatternShort: for all numbers the law answers true. -/
import Derived.Deep.RegionHeld3
import Derived.Deep.RegionWith
import Derived.Deep.DeepCutAuto
import Derived.Test.YtepigemfkaeaeaaDoorPatAwake
import Derived.Test.YtepigemfkaeaeaaDoorPlace
import Derived.Test.YtepigemfkaeaeaaDoorMid
namespace Go.Proofs.YtepigemfkaeaeaaDoor.PatternShort
open Go.RowKit Go.Proofs.YtepigemfkaeaeaaDoor.Pat Go.Proofs.YtepigemfkaeaeaaDoor.Build Go.Proofs.YtepigemfkaeaeaaDoor.Of Go.Proofs.YtepigemfkaeaeaaDoor.Match Go.Proofs.YtepigemfkaeaeaaDoor.Replace Go.Proofs.YtepigemfkaeaeaaDoor.PatAwake Go.Proofs.YtepigemfkaeaeaaDoor.Mid
open Go.Proofs.YtepigemfkaeaeaaDoor.Place (place place_lt place_is)

/-! ### so many letters -/
def rep (k : Nat) : ByteArray := bs (List.replicate k 97)
theorem rep_size (k : Nat) : (rep k).size = k := by rw [rep, size_bs, List.length_replicate]
theorem rep_app (i j : Nat) : rep i ++ rep j = rep (i + j) := by rw [rep, rep, bs_app, rep, List.replicate_append_replicate]
theorem rep_data (k : Nat) : (rep k).data.toList = List.replicate k 97 := bs_data _
theorem rep_no (c : UInt8) (hc : c ≠ 97) (k : Nat) : c ∉ (rep k).data.toList := by
  rw [rep_data]
  exact fun h => hc (List.eq_of_mem_replicate h)
theorem cut_rep (s : ByteArray) (h : s = rep 30) (x : Nat) (hx : x ≤ 30) : s.extract 0 x = rep x := by
  rw [h, Lib.extract_upto, rep_data, List.take_replicate, Nat.min_eq_left hx]; rfl
theorem fits_rep (x y k : Nat) (h : x + y ≤ k) : fits (rep x) (rep y) (rep k) = true := by
  have := fits_mid (rep x) (rep (k - x - y)) (rep y)
  rw [rep_app, rep_app] at this
  rw [show x + (k - x - y) + y = k by omega] at this
  exact this
theorem stem_rep (x y k : Nat) (h : x + y ≤ k) : stemB true (rep x) (rep y) (rep k) = rep (k - x - y) := by
  have := stem_mid (rep x) (rep (k - x - y)) (rep y)
  rw [rep_app, rep_app, show x + (k - x - y) + y = k by omega] at this
  exact this
theorem put_rep (x y k : Nat) (h : x + y ≤ k) : putB true (rep x) (rep y) (rep (k - x - y)) = rep k := by
  unfold putB
  rw [if_pos rfl, rep_app, rep_app, show x + (k - x - y) + y = k by omega]
theorem fits_short (x y k : Nat) (h : ¬ x + y ≤ k) : fits (rep x) (rep y) (rep k) = false := by
  unfold fits
  rw [rep_size, rep_size, rep_size, decide_eq_false h]; rfl

theorem of_short (s : ByteArray) (x y : Nat) (w : World) (h : s = rep 30) (hx : x < 12) (hy : y < 12) :
    Calls Tryd.prog 9 #[.string (s.extract 0 x ++ (⟨#[37]⟩ : ByteArray) ++ s.extract 0 y)] w fun e W' => e = .returned (.agg #[.bool true, .string (rep x), .string (rep y)]) ∧ Below w.heap.size w W' := by
  rw [cut_rep s h x (by omega), cut_rep s h y (by omega)]
  exact of_mid (rep x) (rep y) w (rep_no 37 (by decide) x) (rep_no 92 (by decide) x) (by rw [rep_size, rep_size]; omega)
theorem match_no (s : ByteArray) (x y k : Nat) (w : World) (h : s = rep 30) (hx : x < 12) (hy : y < 12) (hk : k < 30) (hs : ¬ x + y ≤ k) :
    Calls Tryd.prog 11 #[.agg #[.bool true, .string (rep x), .string (rep y)], .string (s.extract 0 k)] w fun e W' => e = .returned (.tuple #[.string ⟨#[]⟩, .bool false]) ∧ Below w.heap.size w W' := by
  rw [cut_rep s h k (by omega)]
  refine (match_is true (rep x) (rep y) (rep k) w (by rw [rep_size]; omega) (by rw [rep_size]; omega) (by rw [rep_size]; unfold maxLen; omega)).mono fun e W' ⟨he, hb⟩ => ⟨he.trans (ret_two ?_ ?_), hb⟩
  · unfold stemB; rw [fits_short x y k hs]; rfl
  · unfold okB; rw [fits_short x y k hs]; rfl
theorem match_yes (s : ByteArray) (x y k : Nat) (w : World) (h : s = rep 30) (hx : x < 12) (hy : y < 12) (hk : k < 30) (hs : x + y ≤ k) :
    Calls Tryd.prog 11 #[.agg #[.bool true, .string (rep x), .string (rep y)], .string (s.extract 0 k)] w fun e W' => e = .returned (.tuple #[.string (rep (k - x - y)), .bool true]) ∧ Below w.heap.size w W' := by
  rw [cut_rep s h k (by omega)]
  refine (match_is true (rep x) (rep y) (rep k) w (by rw [rep_size]; omega) (by rw [rep_size]; omega) (by rw [rep_size]; unfold maxLen; omega)).mono fun e W' ⟨he, hb⟩ => ⟨he.trans (ret_two (stem_rep x y k hs) ?_), hb⟩
  unfold okB; rw [fits_rep x y k hs]; rfl
theorem put_yes (s : ByteArray) (x y k : Nat) (w : World) (h : s = rep 30) (hx : x < 12) (hy : y < 12) (hk : k < 30) (hs : x + y ≤ k) :
    Calls Tryd.prog 15 #[.agg #[.bool true, .string (rep x), .string (rep y)], .string (rep (k - x - y))] w fun e W' => e = .returned (.string (s.extract 0 k)) ∧ Below w.heap.size w W' := by
  refine (put_is true (rep x) (rep y) (rep (k - x - y)) w (by rw [rep_size]; omega) (by rw [rep_size]; omega) (by rw [rep_size]; omega)).mono fun e W' ⟨he, hb⟩ => ⟨he.trans (ret_str ?_), hb⟩
  rw [put_rep x y k hs, cut_rep s h k (by omega)]

/-- what holds behind the pattern's making: it lies where it lay, and nothing of before has changed -/
def Held (w : World) (g : Nat) (a b : ByteArray) (w' : World) : Prop :=
  w'.cell? ⟨g, 0, none⟩ = some (.bool true) ∧ w'.cell? ⟨g, 1, none⟩ = some (.string a) ∧ w'.cell? ⟨g, 2, none⟩ = some (.string b) ∧ Below w.heap.size w w'
theorem cell_on {w w' : World} (hb : Below w.heap.size w w') {a : Addr} {v : Value} (h : w.cell? a = some v) : w'.cell? a = some v :=
  (hb.cell (p := a) (World.block_lt_of_cell? w a h)).trans h
theorem Held.on {w : World} {g : Nat} {a b : ByteArray} {w1 w2 : World} (k : Held w g a b w1) (hb : Below w1.heap.size w1 w2) : Held w g a b w2 := by
  obtain ⟨k1, k2, k3, k4⟩ := k
  exact ⟨cell_on hb k1, cell_on hb k2, cell_on hb k3, k4.trans (hb.mono k4.size)⟩
theorem Held.drew {w : World} {g : Nat} {a b : ByteArray} {w1 : World} (k : Held w g a b w1) : Held w g a b w1.drew := by
  obtain ⟨k1, k2, k3, k4⟩ := k
  exact ⟨k1, k2, k3, below_drewN k4 1⟩
/-- what was there ahead of a call reads as before -/
theorem bcell {W w1 : World} (hb : Below W.heap.size W w1) : (∀ b o, b < W.heap.size → w1.cell? ⟨b, o, none⟩ = W.cell? ⟨b, o, none⟩) ∧ (∀ b o, b < W.heap.size → w1.frozen? ⟨b, o, none⟩ = W.frozen? ⟨b, o, none⟩) :=
  ⟨fun b o h => hb.cell (p := ⟨b, o, none⟩) h, fun b o h => hb.frozen (p := ⟨b, o, none⟩) h⟩

theorem held_new {w w1 : World} {a b : ByteArray} (hb : Below w.drew.heap.size w.drew w1) : Held w w1.heap.size a b (w1.alloc (.cells #[.bool true, .string a, .string b] 24)) := by
  obtain ⟨c0, c1, c2⟩ := laid_cells (w := w1) (h := true) (a := a) (b := b) (Below.refl _ _)
  have h0 : Below w.heap.size w w1 := ⟨hb.os, hb.tape, hb.output, hb.size, hb.block⟩
  exact ⟨c0, c1, c2, h0.alloc h0.size _⟩
theorem held_old {w w1 : World} {a b : ByteArray} (hb : Below (w.alloc (.cells #[.bool false, .string ⟨#[]⟩, .string ⟨#[]⟩] 24)).drew.heap.size (w.alloc (.cells #[.bool false, .string ⟨#[]⟩, .string ⟨#[]⟩] 24)).drew w1) :
    Held w w.heap.size a b (((w1.setCell ⟨w.heap.size, 0, none⟩ (.bool true)).setCell ⟨w.heap.size, 1, none⟩ (.string a)).setCell ⟨w.heap.size, 2, none⟩ (.string b)) := by
  have h0 : Below (w.alloc (.cells #[.bool false, .string ⟨#[]⟩, .string ⟨#[]⟩] 24)).heap.size (w.alloc (.cells #[.bool false, .string ⟨#[]⟩, .string ⟨#[]⟩] 24)) w1 := ⟨hb.os, hb.tape, hb.output, hb.size, hb.block⟩
  obtain ⟨c0, c1, c2⟩ := laid_cells h0
  refine ⟨by simp [go_sem, c0], by simp [go_sem, c1], by simp [go_sem, c2], ?_⟩
  exact end_below (h0.mono (by simp)) _ _ _
theorem on_drew {w w1 w2 : World} (h1 : Below w.heap.size w w1) (h2 : Below w1.drew.heap.size w1.drew w2) : Below w.heap.size w w2 :=
  (below_drewN h1 1).trans (h2.mono h1.size)
theorem keep3 {w w' : World} {g : Nat} {a b : ByteArray} (hb : Below w.heap.size w w') (h : w.cell? ⟨g, 0, none⟩ = some (.bool true) ∧ w.cell? ⟨g, 1, none⟩ = some (.string a) ∧ w.cell? ⟨g, 2, none⟩ = some (.string b)) :
    w'.cell? ⟨g, 0, none⟩ = some (.bool true) ∧ w'.cell? ⟨g, 1, none⟩ = some (.string a) ∧ w'.cell? ⟨g, 2, none⟩ = some (.string b) := by
  obtain ⟨k1, k2, k3⟩ := h
  exact ⟨cell_on hb k1, cell_on hb k2, cell_on hb k3⟩

set_option maxRecDepth 100000 in
set_option maxHeartbeats 4000000 in
theorem walk (n1 n2 n3 : Int) (w : World) (h1 : (Lit.int .i64 n1).wf = true) (h2 : (Lit.int .i64 n2).wf = true) (h3 : (Lit.int .i64 n3).wf = true) :
    Calls Tryd.prog 7 #[.int .i64 n1, .int .i64 n2, .int .i64 n3] w fun e W' => e = .returned (.bool true) ∧ Below w.heap.size w W' := by
  have hx := place_lt n1 12 (by omega)
  have hy := place_lt n2 12 (by omega)
  have hk := place_lt n3 30 (by omega)
  have HX := Lib.hid (fun W => place_is n1 12 W (by omega) (by omega) h1)
  have HY := Lib.hid (fun W => place_is n2 12 W (by omega) (by omega) h2)
  have HK := Lib.hid (fun W => place_is n3 30 W (by omega) (by omega) h3)
  clear h1 h2 h3
  generalize place n1 12 = x at hx HX
  generalize place n2 12 = y at hy HY
  generalize place n3 30 = k at hk HK
  go_enter Tryd.func7, Tryd.ntmps7
  go_wp2_with fail
  refine (HX.out _).mono ?_
  rintro e w' ⟨rfl, rfl⟩
  go_wp2_with fail
  refine (HY.out _).mono ?_
  rintro e w' ⟨rfl, rfl⟩
  go_wp2_with fail
  refine (HK.out _).mono ?_
  rintro e w' ⟨rfl, rfl⟩
  clear HX HY HK
  go_upto_region 3 with fail
  have HS : Hid ((⟨#[97, 97, 97, 97, 97, 97, 97, 97, 97, 97, 97, 97, 97, 97, 97, 97, 97, 97, 97, 97, 97, 97, 97, 97, 97, 97, 97, 97, 97, 97]⟩ : ByteArray) = rep 30) := by show _ = _; kernel_rfl
  have zs : (⟨#[97, 97, 97, 97, 97, 97, 97, 97, 97, 97, 97, 97, 97, 97, 97, 97, 97, 97, 97, 97, 97, 97, 97, 97, 97, 97, 97, 97, 97, 97]⟩ : ByteArray).size ≤ 30 ∧ 30 ≤ (⟨#[97, 97, 97, 97, 97, 97, 97, 97, 97, 97, 97, 97, 97, 97, 97, 97, 97, 97, 97, 97, 97, 97, 97, 97, 97, 97, 97, 97, 97, 97]⟩ : ByteArray).size := ⟨Nat.le_refl _, Nat.le_refl _⟩
  generalize (⟨#[97, 97, 97, 97, 97, 97, 97, 97, 97, 97, 97, 97, 97, 97, 97, 97, 97, 97, 97, 97, 97, 97, 97, 97, 97, 97, 97, 97, 97, 97]⟩ : ByteArray) = s at HS zs ⊢
  obtain ⟨zs1, zs2⟩ := zs
  have HO := Lib.hid (fun W => of_short s x y W HS.out hx hy)
  have i0 : (0 : Int) ≤ (x : Int) := Int.natCast_nonneg _
  have i1 : (x : Int) ≤ (s.size : Int) := by omega
  have i2 : (0 : Int) ≤ (y : Int) := Int.natCast_nonneg _
  have i3 : (y : Int) ≤ (s.size : Int) := by omega
  have za : (s.extract 0 x).size ≤ 30 := by rw [ByteArray.size_extract]; omega
  have zb : (s.extract 0 y).size ≤ 30 := by rw [ByteArray.size_extract]; omega
  have zc : (⟨#[37]⟩ : ByteArray).size ≤ 1 := Nat.le_refl _
  have zd : (s.extract 0 x ++ (⟨#[37]⟩ : ByteArray)).size ≤ 31 := by rw [size_app]; omega
  have a1 : ∀ W, (Op.stringOp .add (s.extract 0 x) ⟨#[37]⟩).run Tryd.prog W = .ok (.string (s.extract 0 x ++ (⟨#[37]⟩ : ByteArray))) W := fun W => run_string_add_sum W _ _ (by omega)
  have a2 : ∀ W, (Op.stringOp .add (s.extract 0 x ++ (⟨#[37]⟩ : ByteArray)) (s.extract 0 y)).run Tryd.prog W = .ok (.string (s.extract 0 x ++ (⟨#[37]⟩ : ByteArray) ++ s.extract 0 y)) W := fun W => run_string_add_sum W _ _ (by omega)
  go_cut [11] (fun s11 wx => ∃ g : Nat, s11 = .pointer (some ⟨g, 0, none⟩) ∧ Held w g (rep x) (rep y) wx)
  case first =>
    go_region_held3 (fun _ => True) (trivial) (first | (go_at_call 9; refine (HO.out _).mono ?_; rintro e w1 ⟨rfl, hb1⟩; obtain ⟨hc1, hf1⟩ := bcell hb1))
    all_goals clear a1 a2
    · go_wp2_with fail
      go_meet
      exact ⟨w1.heap.size, rfl, held_new hb1⟩
    · go_wp2_with fail
      go_meet
      exact ⟨w.heap.size, rfl, held_old hb1⟩
  case rest =>
    obtain ⟨g, rfl, HH⟩ := hcut
    clear a1 a2 i0 i1 i2 i3 za zb zc zd HO
    obtain ⟨k1, k2, k3, KB⟩ := HH
    have KB := Lib.hid KB
    have i0 : (0 : Int) ≤ (k : Int) := Int.natCast_nonneg _
    have i1 : (k : Int) ≤ (s.size : Int) := by omega
    by_cases hs : x + y ≤ k
    · have HM := Lib.hid (fun W => match_yes s x y k W HS.out hx hy hk hs)
      have HP := Lib.hid (fun W => put_yes s x y k W HS.out hx hy hk hs)
      have zr : (((rep (k - x - y)).size : Nat) : Int) = (k : Int) - (x : Int) - (y : Int) := by rw [rep_size]; omega
      generalize rep (k - x - y) = r at HM HP zr
      have ZR := Lib.hid zr
      clear zr
      go_wp2_with fail
      go_region_held3 (fun w' => w'.cell? ⟨g, 0, none⟩ = some (.bool true) ∧ w'.cell? ⟨g, 1, none⟩ = some (.string (rep x)) ∧ w'.cell? ⟨g, 2, none⟩ = some (.string (rep y))) (first | go_keep | exact keep3 hb1 (by go_keep)) (first | (go_at_call 11; refine (HM.out _).mono ?_; rintro e w1 ⟨rfl, hb1⟩))
      have B1 := Lib.hid (on_drew KB.out hb1)
      clear hb1 HM
      go_wp2_with fail
      have t1 : ((((r.size : Nat) : Int) == (k : Int) - (x : Int) - (y : Int)) = true) := by rw [ZR.out]; simp
      have t2 : decide (x + y ≤ k) = true := by simp [hs]
      have t3 : decide ((x : Int) + (y : Int) ≤ (k : Int)) = true := by simp; omega
      have q1 : IntKind.i64.wrap ((x : Int) + (y : Int)) = (x : Int) + (y : Int) := IntWalk.i64_in _ (by omega)
      have q2 : IntKind.i64.wrap ((k : Int) - (x : Int)) = (k : Int) - (x : Int) := IntWalk.i64_in _ (by omega)
      have q3 : IntKind.i64.wrap ((k : Int) - (x : Int) - (y : Int)) = (k : Int) - (x : Int) - (y : Int) := IntWalk.i64_in _ (by omega)
      go_region_held3 (fun w' => w'.cell? ⟨g, 0, none⟩ = some (.bool true) ∧ w'.cell? ⟨g, 1, none⟩ = some (.string (rep x)) ∧ w'.cell? ⟨g, 2, none⟩ = some (.string (rep y))) (first | go_keep | exact keep3 hb2 (by go_keep) | exact keep3 hb3 (by go_keep)) (first | (go_at_call 15; refine (HP.out _).mono ?_; rintro e w2 ⟨rfl, hb2⟩) | (go_at_call 8; refine (awake_is _).mono ?_; rintro e w3 ⟨rfl, hb3⟩))
      have B2 := Lib.hid (on_drew B1.out hb2)
      have B3 := Lib.hid (B2.out.trans (hb3.mono B2.out.size))
      clear hb2 hb3 t1 t2 t3 q1 q2 q3
      go_wp2
      go_ret
      exact ⟨rfl, B3.out⟩
    · have HM := Lib.hid (fun W => match_no s x y k W HS.out hx hy hk hs)
      go_wp2_with fail
      go_region_held3 (fun w' => w'.cell? ⟨g, 0, none⟩ = some (.bool true) ∧ w'.cell? ⟨g, 1, none⟩ = some (.string (rep x)) ∧ w'.cell? ⟨g, 2, none⟩ = some (.string (rep y))) (first | go_keep | exact keep3 hb1 (by go_keep)) (first | (go_at_call 11; refine (HM.out _).mono ?_; rintro e w1 ⟨rfl, hb1⟩))
      have B1 := Lib.hid (on_drew KB.out hb1)
      clear hb1 HM
      have t2 : (k : Int) < (x : Int) + (y : Int) := by omega
      go_wp2_with fail
      refine (awake_is _).mono ?_
      rintro e w3 ⟨rfl, hb3⟩
      have B3 := Lib.hid (B1.out.trans (hb3.mono B1.out.size))
      clear hb3
      go_wp2
      go_ret
      exact ⟨rfl, B3.out⟩

end Go.Proofs.YtepigemfkaeaeaaDoor.PatternShort
