/- The walk of the law PathUp: for all numbers the law answers true. -/
import Derived.Deep.DeepCutAuto
import Derived.Test.YtiienppimamhoaaDoorPdig
namespace Go.Proofs.YtiienppimamhoaaDoor.PathUp
open Go.RowKit Go.Proofs.YtiienppimamhoaaDoor.Pth Go.Proofs.YtiienppimamhoaaDoor.Pfn Go.Proofs.YtiienppimamhoaaDoor.Pabs Go.Proofs.YtiienppimamhoaaDoor.Pawake
open Go.Proofs.YtiienppimamhoaaDoor.Place (place place_lt place_is)

theorem down_sum (i : Nat) : bs (downL i) ++ (⟨#[100]⟩ : ByteArray) ++ bs (digL i) ++ (⟨#[47]⟩ : ByteArray) = bs (downL (i + 1)) := by
  have e1 : (⟨#[100]⟩ : ByteArray) = bs [100] := rfl
  have e2 : (⟨#[47]⟩ : ByteArray) = bs [47] := rfl
  rw [e1, e2, ← bs_app, ← bs_app, ← bs_app, downL]
  simp only [List.append_assoc, List.cons_append, List.nil_append]
theorem want_sum (k j i : Nat) (h : i + j < k) : bs (wantL k j i) ++ (⟨#[47, 100]⟩ : ByteArray) ++ bs (digL i) = bs (wantL k j (i + 1)) := by
  have e1 : (⟨#[47, 100]⟩ : ByteArray) = bs [47, 100] := rfl
  rw [e1, ← bs_app, ← bs_app, wantL, if_pos h]
  simp only [List.append_assoc, List.cons_append, List.nil_append]
theorem want_stay (k j i : Nat) (h : ¬ i + j < k) : bs (wantL k j i) = bs (wantL k j (i + 1)) := by rw [wantL, if_neg h]
theorem up_sum (s : List UInt8) (d i : Nat) : bs (upL s d i) ++ bs (upAt d) = bs (upL s d (i + 1)) := by rw [← bs_app, upL]
theorem x6 : bs (absL (⟨#[]⟩ : ByteArray).data.toList) = ⟨#[]⟩ := by kernel_rfl
theorem size_app (a b : ByteArray) : (a ++ b).size = a.size + b.size := ByteArray.size_append
theorem or_bs (l : List UInt8) (h : (bs l).size = 0) : bs (orSlash l) = ⟨#[47]⟩ := by
  rw [size_bs] at h
  rw [List.eq_nil_of_length_eq_zero h]; rfl
theorem or_bs2 (l : List UInt8) (h : 0 < (bs l).size) : bs (orSlash l) = bs l := by
  cases l with
  | nil => exact absurd h (Nat.lt_irrefl _)
  | cons a b => rfl

set_option maxRecDepth 100000 in
set_option maxHeartbeats 4000000 in
theorem walk_core (x y z : Int) (k j d : Nat) (w : World) (hk : k < 12) (hj : j < 15) (hd : d < 3)
    (h1 : ∀ W : World, Calls Tryd.prog 18 #[.int .i64 x, .int .i64 12] W fun e w' => e = .returned (.int .i64 (k : Int)) ∧ W = w')
    (h2 : ∀ W : World, Calls Tryd.prog 18 #[.int .i64 y, .int .i64 15] W fun e w' => e = .returned (.int .i64 (j : Int)) ∧ W = w')
    (h3 : ∀ W : World, Calls Tryd.prog 18 #[.int .i64 z, .int .i64 3] W fun e w' => e = .returned (.int .i64 (d : Int)) ∧ W = w') :
    Calls Tryd.prog 6 #[.int .i64 x, .int .i64 y, .int .i64 z] w fun e W' => e = .returned (.bool true) ∧ Below w.heap.size w W' := by
  have H3 := Lib.hid h3
  clear h3
  go_enter Tryd.func6, Tryd.ntmps6
  go_wp2_with fail
  refine (h1 _).mono ?_
  rintro e w' ⟨rfl, rfl⟩
  go_wp2_with fail
  refine (h2 _).mono ?_
  rintro e w' ⟨rfl, rfl⟩
  clear h1 h2
  go_wp2
  go_loopw [9, 10, 11] (fun s t i wr => ∃ x : Nat, x ≤ k ∧ s = .string (bs (downL x)) ∧ t = .string (bs (wantL k j x)) ∧ i = .int .i64 x ∧ Hid (Below w.heap.size w wr)) (fun _ _ i _ => k - (intOf i).toNat)
  case atStart => exact ⟨0, Nat.zero_le _, rfl, rfl, rfl, Below.refl _ _⟩
  case round =>
    obtain ⟨x, hx, rfl, rfl, rfl, HB⟩ := hrel
    have z1 : (bs (downL x)).size ≤ 48 := by rw [size_bs]; have := down_len x; omega
    have z2 : (bs (wantL k j x)).size ≤ 48 := by rw [size_bs]; have := want_len k j x; omega
    by_cases hlt : x < k
    · have z3 : (bs (digL x)).size ≤ 2 := by rw [size_bs]; exact dig_len x
      have HD := Lib.hid (fun W => dig_is x (by omega) W)
      have HS := Lib.hid (down_sum x)
      have z4 : (⟨#[100]⟩ : ByteArray).size = 1 := rfl
      have z5 : (⟨#[47]⟩ : ByteArray).size = 1 := rfl
      have z6 : (⟨#[47, 100]⟩ : ByteArray).size = 2 := rfl
      by_cases hw : x + j < k
      · have HW := Lib.hid (want_sum k j x hw)
        generalize bs (downL x) = s at *
        generalize bs (wantL k j x) = t at *
        generalize bs (digL x) = g at *
        have y1 := size_app s (⟨#[100]⟩ : ByteArray)
        have y2 := size_app (s ++ (⟨#[100]⟩ : ByteArray)) g
        have y3 := size_app t (⟨#[47, 100]⟩ : ByteArray)
        have a1 : ∀ W, (Op.stringOp .add s ⟨#[100]⟩).run Tryd.prog W = .ok (.string (s ++ (⟨#[100]⟩ : ByteArray))) W := fun W => run_string_add_sum W _ _ (by omega)
        have a2 : ∀ W, (Op.stringOp .add (s ++ (⟨#[100]⟩ : ByteArray)) g).run Tryd.prog W = .ok (.string (s ++ (⟨#[100]⟩ : ByteArray) ++ g)) W := fun W => run_string_add_sum W _ _ (by omega)
        have a3 : ∀ W, (Op.stringOp .add (s ++ (⟨#[100]⟩ : ByteArray) ++ g) ⟨#[47]⟩).run Tryd.prog W = .ok (.string (bs (downL (x + 1)))) W := fun W => by rw [run_string_add_sum W _ _ (by omega), HS.out]
        have a4 : ∀ W, (Op.stringOp .add t ⟨#[47, 100]⟩).run Tryd.prog W = .ok (.string (t ++ (⟨#[47, 100]⟩ : ByteArray))) W := fun W => run_string_add_sum W _ _ (by omega)
        have a5 : ∀ W, (Op.stringOp .add (t ++ (⟨#[47, 100]⟩ : ByteArray)) g).run Tryd.prog W = .ok (.string (bs (wantL k j (x + 1)))) W := fun W => by rw [run_string_add_sum W _ _ (by omega), HW.out]
        have hwi : (x : Int) < (k : Int) - (j : Int) := by omega
        generalize s ++ (⟨#[100]⟩ : ByteArray) = s1 at *
        generalize s1 ++ g = s2 at *
        generalize t ++ (⟨#[47, 100]⟩ : ByteArray) = t1 at *
        clear HS HW
        go_wp2_with fail
        refine (HD.out _).mono ?_
        rintro e w1 ⟨rfl, hb⟩
        have B1 := Lib.hid (HB.out.trans (hb.mono HB.out.size))
        clear hb
        go_wp2_with fail
        refine (HD.out _).mono ?_
        rintro e w2 ⟨rfl, hb⟩
        have B2 := Lib.hid (B1.out.trans (hb.mono B1.out.size))
        clear hb
        go_wp2
        go_roundw
        case rel => exact ⟨x + 1, by omega, by first | rfl | assumption, by first | rfl | assumption, by go_num, B2⟩
        case measure => simp [intOf]; omega
      · have HW := Lib.hid (want_stay k j x hw)
        have hwi : ¬ (x : Int) < (k : Int) - (j : Int) := by omega
        have y1 := size_app (bs (downL x)) (⟨#[100]⟩ : ByteArray)
        have y2 := size_app (bs (downL x) ++ (⟨#[100]⟩ : ByteArray)) (bs (digL x))
        rw [HW.out] at z2 ⊢
        generalize bs (downL x) = s at *
        generalize bs (digL x) = g at *
        have a1 : ∀ W, (Op.stringOp .add s ⟨#[100]⟩).run Tryd.prog W = .ok (.string (s ++ (⟨#[100]⟩ : ByteArray))) W := fun W => run_string_add_sum W _ _ (by omega)
        have a2 : ∀ W, (Op.stringOp .add (s ++ (⟨#[100]⟩ : ByteArray)) g).run Tryd.prog W = .ok (.string (s ++ (⟨#[100]⟩ : ByteArray) ++ g)) W := fun W => run_string_add_sum W _ _ (by omega)
        have a3 : ∀ W, (Op.stringOp .add (s ++ (⟨#[100]⟩ : ByteArray) ++ g) ⟨#[47]⟩).run Tryd.prog W = .ok (.string (bs (downL (x + 1)))) W := fun W => by rw [run_string_add_sum W _ _ (by omega), HS.out]
        generalize s ++ (⟨#[100]⟩ : ByteArray) = s1 at *
        generalize s1 ++ g = s2 at *
        clear HS HW
        go_wp2_with fail
        refine (HD.out _).mono ?_
        rintro e w1 ⟨rfl, hb⟩
        have B1 := Lib.hid (HB.out.trans (hb.mono HB.out.size))
        clear hb
        go_wp2
        go_roundw
        case rel => exact ⟨x + 1, by omega, rfl, rfl, by go_num, B1⟩
        case measure => simp [intOf]; omega
    · obtain rfl : x = k := by omega
      clear hlt
      have z7 := up_at_len d hd
      have z8 : (bs (upAt d)).size ≤ 5 := by rw [size_bs]; exact z7
      have hix := index_up d hd
      have HL := Lib.hid (down_len x)
      go_wp2
      go_loopw [9, 12] (fun s i wx => ∃ y : Nat, y ≤ j ∧ s = .string (bs (upL (downL x) d y)) ∧ i = .int .i64 y ∧ wr = wx) (fun _ i _ => j - (intOf i).toNat)
      case atStart => exact ⟨0, Nat.zero_le _, rfl, rfl, rfl⟩
      case round =>
        obtain ⟨y, hy, rfl, rfl, rfl⟩ := hrel
        have z9 : (bs (upL (downL x) d y)).size ≤ 123 := by rw [size_bs]; have := up_len (downL x) d hd y; have := HL.out; omega
        by_cases hlt : y < j
        · have HS := Lib.hid (up_sum (downL x) d y)
          have a1 : ∀ W, (Op.stringOp .add (bs (upL (downL x) d y)) (bs (upAt d))).run Tryd.prog W = .ok (.string (bs (upL (downL x) d (y + 1)))) W := fun W => by rw [run_string_add_sum W _ _ (by omega), HS.out]
          clear HS
          generalize bs (upL (downL x) d y) = s at *
          generalize bs (upAt d) = u at *
          go_wp2_with fail
          refine (H3.out _).mono ?_
          rintro e w' ⟨rfl, rfl⟩
          go_wp2
          go_roundw
          case rel => exact ⟨y + 1, by omega, by first | rfl | assumption, by go_num, by first | rfl | trivial⟩
          case measure => simp [intOf]; omega
        · obtain rfl : y = j := by omega
          obtain ⟨q1, q2, q3⟩ := all_abs x hk y hj d hd
          have HV1 := Lib.hid (or_bs (wantL x y x))
          have HV2 := Lib.hid (or_bs2 (wantL x y x))
          have zv : (bs (orSlash (wantL x y x))).size ≤ 49 := by
            have h1 := orSlash_length (wantL x y x)
            rw [size_bs] at z2 ⊢; omega
          have D0 := Lib.hid (fun W => abs_lit ⟨#[]⟩ ⟨#[]⟩ W (by decide) x6)
          have D1 : Hid (∀ W, Calls Tryd.prog 16 #[.string ((⟨#[47]⟩ : ByteArray) ++ bs (upL (downL x) d y))] W fun e W' => e = .returned (.string (bs (orSlash (wantL x y x)))) ∧ Below W.heap.size W W') := fun W => abs_lit _ _ W (by rw [size_app, show (⟨#[47]⟩ : ByteArray).size = 1 from rfl]; omega) (by rw [app_data]; exact congrArg bs q1)
          have D2 : Hid (∀ W, (bs (upL (downL x) d y)).size ≠ 0 → Calls Tryd.prog 16 #[.string (bs (upL (downL x) d y))] W fun e W' => e = .returned (.string (bs (orSlash (wantL x y x)))) ∧ Below W.heap.size W W') := fun W hne => abs_lit _ _ W (by omega) (congrArg bs (q2.resolve_left fun h0 => hne (by rw [size_bs, h0]; rfl)))
          have D3 : Hid (∀ W, Calls Tryd.prog 16 #[.string (bs (orSlash (wantL x y x)) ++ (⟨#[47, 46]⟩ : ByteArray))] W fun e W' => e = .returned (.string (bs (orSlash (wantL x y x)))) ∧ Below W.heap.size W W') := fun W => abs_lit _ _ W (by rw [size_app, show (⟨#[47, 46]⟩ : ByteArray).size = 2 from rfl]; omega) (by rw [app_data]; exact congrArg bs q3)
          clear q1 q2 q3 hix HL z1 z8 z7
          generalize bs (upL (downL x) d y) = s at *
          generalize bs (orSlash (wantL x y x)) = V at *
          generalize bs (wantL x y x) = t at *
          have z5 : (⟨#[47]⟩ : ByteArray).size = 1 := rfl
          have z6 : (⟨#[47, 46]⟩ : ByteArray).size = 2 := rfl
          have a1 : ∀ W, (Op.stringOp .add ⟨#[47]⟩ s).run Tryd.prog W = .ok (.string ((⟨#[47]⟩ : ByteArray) ++ s)) W := fun W => run_string_add_sum W _ _ (by omega)
          have a2 : ∀ W, (Op.stringOp .add V ⟨#[47, 46]⟩).run Tryd.prog W = .ok (.string (V ++ (⟨#[47, 46]⟩ : ByteArray))) W := fun W => run_string_add_sum W _ _ (by omega)
          generalize (⟨#[47]⟩ : ByteArray) ++ s = s1 at *
          generalize V ++ (⟨#[47, 46]⟩ : ByteArray) = v1 at *
          clear z5 z6
          go_upto_region 13 with fail
          go_cut [50] (fun v wx => ∃ b, v = .bool b ∧ Hid (b = true → V = ⟨#[47]⟩) ∧ Hid (b = false → V = t) ∧ wr = wx)
          case first =>
            rcases Nat.eq_zero_or_pos t.size with h0 | h0
            · have e1 := empty_of t h0
              have HE := Lib.hid (HV1.out h0)
              go_wp2_with fail
              go_meet
              exact ⟨true, rfl, fun _ => HE.out, fun h => (by cases h), rfl⟩
            · have e1 := full_of t h0
              have HE := Lib.hid (HV2.out h0)
              go_wp2_with fail
              go_meet
              exact ⟨false, rfl, fun h => (by cases h), fun _ => HE.out, rfl⟩
          case rest =>
            obtain ⟨b, rfl, E1, E2, rfl⟩ := hcut
            clear HV1 HV2
            go_upto_if 50 with fail
            go_cut [10] (fun v wx => v = .string V ∧ wr = wx)
            case first =>
              cases b with
              | true =>
                have HE := Lib.hid (E1.out rfl)
                go_wp2_with fail
                go_meet
                exact ⟨by rw [HE.out], rfl⟩
              | false =>
                have HE := Lib.hid (E2.out rfl)
                go_wp2_with fail
                go_meet
                exact ⟨by rw [HE.out], rfl⟩
            case rest =>
              obtain ⟨rfl, rfl⟩ := hcut
              clear E1 E2
              rcases Nat.eq_zero_or_pos s.size with h0 | h0
              · have e1 := empty_of s h0
                go_wp2_with fail
                refine (D1.out _).mono ?_
                rintro e w1 ⟨rfl, hb⟩
                have B1 := Lib.hid (HB.out.trans (hb.mono HB.out.size))
                clear hb
                go_wp2_with fail
                refine (D3.out _).mono ?_
                rintro e w2 ⟨rfl, hb⟩
                have B2 := Lib.hid (B1.out.trans (hb.mono B1.out.size))
                clear hb
                go_wp2_with fail
                refine (D0.out _).mono ?_
                rintro e w3 ⟨rfl, hb⟩
                have B3 := Lib.hid (B2.out.trans (hb.mono B2.out.size))
                clear hb
                go_wp2_with fail
                refine (awake_is _).mono ?_
                rintro e w4 ⟨rfl, hb⟩
                have B4 := Lib.hid (B3.out.trans (hb.mono B3.out.size))
                clear hb
                go_wp2
                go_ret
                exact ⟨rfl, B4.out⟩
              · have e1 := full_of s h0
                have D2' := Lib.hid (fun W => D2.out W (by omega))
                go_wp2_with fail
                refine (D1.out _).mono ?_
                rintro e w1 ⟨rfl, hb⟩
                have B1 := Lib.hid (HB.out.trans (hb.mono HB.out.size))
                clear hb
                go_wp2_with fail
                refine (D2'.out _).mono ?_
                rintro e w5 ⟨rfl, hb⟩
                have B5 := Lib.hid (B1.out.trans (hb.mono B1.out.size))
                clear hb
                go_wp2_with fail
                refine (D3.out _).mono ?_
                rintro e w2 ⟨rfl, hb⟩
                have B2 := Lib.hid (B5.out.trans (hb.mono B5.out.size))
                clear hb
                go_wp2_with fail
                refine (D0.out _).mono ?_
                rintro e w3 ⟨rfl, hb⟩
                have B3 := Lib.hid (B2.out.trans (hb.mono B2.out.size))
                clear hb
                go_wp2_with fail
                refine (awake_is _).mono ?_
                rintro e w4 ⟨rfl, hb⟩
                have B4 := Lib.hid (B3.out.trans (hb.mono B3.out.size))
                clear hb
                go_wp2
                go_ret
                exact ⟨rfl, B4.out⟩

theorem walk (x y z : Int) (w : World) (hx : (Lit.int .i64 x).wf = true) (hy : (Lit.int .i64 y).wf = true) (hz : (Lit.int .i64 z).wf = true) :
    Calls Tryd.prog 6 #[.int .i64 x, .int .i64 y, .int .i64 z] w fun e W' => e = .returned (.bool true) ∧ Below w.heap.size w W' :=
  walk_core x y z (place x 12) (place y 15) (place z 3) w (place_lt x 12 (by omega)) (place_lt y 15 (by omega)) (place_lt z 3 (by omega))
    (fun W => place_is x 12 W (by omega) (by omega) hx) (fun W => place_is y 15 W (by omega) (by omega) hy) (fun W => place_is z 3 W (by omega) (by omega) hz)

end Go.Proofs.YtiienppimamhoaaDoor.PathUp
