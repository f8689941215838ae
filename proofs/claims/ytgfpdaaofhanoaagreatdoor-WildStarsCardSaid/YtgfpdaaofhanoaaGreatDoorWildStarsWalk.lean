/- The law WildStars, walked. -/
import Derived.Test.YtgfpdaaofhanoaaGreatDoorWgrid
import Derived.Test.YtgfpdaaofhanoaaGreatDoorVdig
import Derived.Test.YtgfpdaaofhanoaaGreatDoorPlace
namespace Go.Proofs.YtgfpdaaofhanoaaGreatDoor.WildStars
open Go.RowKit Go.Proofs.YtgfpdaaofhanoaaGreatDoor.Pth Go.Proofs.YtgfpdaaofhanoaaGreatDoor.Strs Go.Proofs.YtgfpdaaofhanoaaGreatDoor.Vfs Go.Proofs.YtgfpdaaofhanoaaGreatDoor.Vmap Go.Proofs.YtgfpdaaofhanoaaGreatDoor.Vnames Go.Proofs.YtgfpdaaofhanoaaGreatDoor.Vnew Go.Proofs.YtgfpdaaofhanoaaGreatDoor.Vdig Go.Proofs.YtgfpdaaofhanoaaGreatDoor.Wdp Go.Proofs.YtgfpdaaofhanoaaGreatDoor.Wst Go.Proofs.YtgfpdaaofhanoaaGreatDoor.Wsp Go.Proofs.YtgfpdaaofhanoaaGreatDoor.Wnn Go.Proofs.YtgfpdaaofhanoaaGreatDoor.Wex Go.Proofs.YtgfpdaaofhanoaaGreatDoor.Wok Go.Proofs.YtgfpdaaofhanoaaGreatDoor.Wq Go.Proofs.YtgfpdaaofhanoaaGreatDoor.Wawk Go.Proofs.YtgfpdaaofhanoaaGreatDoor.Wgrid
open Go.Proofs.YtgfpdaaofhanoaaGreatDoor.Place (place place_lt place_is)

theorem add_is (x y : T) (h : x.length + y.length ≤ 1000) (W : World) : (Op.stringOp .add (bs x) (bs y)).run Tryz.prog W = .ok (.string (bs (x ++ y))) W := by
  rw [run_string_add_sum W _ _ (by rw [size_bs, size_bs]; omega), ← bs_app]
theorem dig1 (a : Nat) (h : a ≤ 6) (W : World) : Calls Tryz.prog 20 #[.int .i64 (a : Int)] W fun e W' => e = .returned (.string ⟨#[dg a]⟩) ∧ ∃ m, W' = W.drewN m := by
  have h1 := dig_is a (by omega) W
  rw [digN_one (by omega)] at h1
  exact h1

set_option maxRecDepth 100000 in
set_option maxHeartbeats 8000000 in
theorem walk_kj (a0 a1 : Int) (k j : Nat) (w : World) (hk0 : 0 < k) (hk : k ≤ 6) (hj0 : 0 < j) (hj : j ≤ 6)
    (hP : ∀ W : World, Calls Tryz.prog 19 #[.int .i64 a0, .int .i64 6] W fun e w' => e = .returned (.int .i64 ((k : Int) - 1)) ∧ W = w')
    (hQ : ∀ W : World, Calls Tryz.prog 19 #[.int .i64 a1, .int .i64 6] W fun e w' => e = .returned (.int .i64 ((j : Int) - 1)) ∧ W = w') :
    Calls Tryz.prog 5 #[.int .i64 a0, .int .i64 a1] w fun e W' => e = .returned (.bool true) ∧ Below w.heap.size w W' := by
  obtain ⟨i0, hi0, hz0, hz1, hz2⟩ := info_parts infoEnt
  have HP := Lib.hid hP
  have HQ := Lib.hid hQ
  have HG := Lib.hid (grid_all k j hk0 hk hj0 hj)
  clear hP hQ
  have qk : IntKind.i64.wrap (1 + ((k : Int) - 1)) = (k : Int) := by rw [show (1 + ((k : Int) - 1)) = (k : Int) by omega]; exact IntWalk.i64_in _ (by omega)
  have qj : IntKind.i64.wrap (1 + ((j : Int) - 1)) = (j : Int) := by rw [show (1 + ((j : Int) - 1)) = (j : Int) by omega]; exact IntWalk.i64_in _ (by omega)
  go_enter Tryz.func5, Tryz.ntmps5
  go_wp2_with fail
  refine (HP.out _).mono ?_
  rintro e w' ⟨rfl, rfl⟩
  clear HP
  go_wp2_with fail
  refine (HQ.out _).mono ?_
  rintro e w' ⟨rfl, rfl⟩
  clear HQ
  go_wp2_with fail
  clear qk qj
  go_loopw [7, 8] (fun v i wr => ∃ a : Nat, a ≤ k ∧ i = .int .i64 a ∧ wr.ownsRow w.heap.size 40 3 v (gridR j a 0).length (cells (gridR j a 0)) ∧ Hid (Below w.heap.size w wr)) (fun _ i _ => k - (intOf i).toNat)
  case atStart => exact ⟨0, Nat.zero_le _, rfl, World.ownsRow_nil _ _ _ _, Below.refl _ _⟩
  case round =>
    obtain ⟨a, ha, rfl, hown, HB⟩ := hrel
    by_cases hlt : a < k
    · have HOw := Lib.hid hown
      clear hown
      go_wp2_with fail
      go_loopw [7, 9] (fun v i wr2 => ∃ b : Nat, b ≤ j ∧ i = .int .i64 b ∧ wr2.ownsRow w.heap.size 40 3 v (gridR j a b).length (cells (gridR j a b)) ∧ Hid (Below w.heap.size w wr2)) (fun _ i _ => j - (intOf i).toNat)
      case atStart => exact ⟨0, Nat.zero_le _, rfl, HOw.out, HB.out⟩
      case round =>
        obtain ⟨b, hb, rfl, hown, HB⟩ := hrel
        by_cases hlb : b < j
        · have HD1 := Lib.hid (fun W => dig1 a (by omega) W)
          have HD2 := Lib.hid (fun W => dig1 b (by omega) W)
          have HR : Hid (encR (cellR a b) = [.string ⟨#[100, dg a, 47, 102, dg b, 46, 99]⟩, .bool false, .string ⟨#[]⟩]) := by show _ = _; rfl
          have hle := gridR_le j a b (by omega) hj (by omega)
          have HNS : Hid ((gridR j a (b + 1)).length = (gridR j a b).length + 1 ∧ cells (gridR j a b) ++ encR (cellR a b) = cells (gridR j a (b + 1))) := by
            refine ⟨?_, ?_⟩
            · rw [gridR_succ, List.length_append]; rfl
            · rw [gridR_succ, cells_app]; rfl
          have HNW := Lib.hid (fun W => news3 W (cellR a b) 40)
          have hz3 : (encR (cellR a b)).length = 1 * 3 := rfl
          have b1 : ∀ W, (Op.stringOp .add ⟨#[100]⟩ ⟨#[dg a]⟩).run Tryz.prog W = .ok (.string ⟨#[100, dg a]⟩) W := add_is [100] [dg a] (by simp)
          have b2 : ∀ W, (Op.stringOp .add ⟨#[100, dg a]⟩ ⟨#[47, 102]⟩).run Tryz.prog W = .ok (.string ⟨#[100, dg a, 47, 102]⟩) W := add_is [100, dg a] [47, 102] (by simp)
          have b3 : ∀ W, (Op.stringOp .add ⟨#[100, dg a, 47, 102]⟩ ⟨#[dg b]⟩).run Tryz.prog W = .ok (.string ⟨#[100, dg a, 47, 102, dg b]⟩) W := add_is [100, dg a, 47, 102] [dg b] (by simp)
          have b4 : ∀ W, (Op.stringOp .add ⟨#[100, dg a, 47, 102, dg b]⟩ ⟨#[46, 99]⟩).run Tryz.prog W = .ok (.string ⟨#[100, dg a, 47, 102, dg b, 46, 99]⟩) W := add_is [100, dg a, 47, 102, dg b] [46, 99] (by simp)
          have HBs := HB.out.size
          go_wp2_with fail
          refine (HD1.out _).mono ?_
          rintro e w1 ⟨rfl, m1, rfl⟩
          clear HD1
          go_wp2_with fail
          refine (HD2.out _).mono ?_
          rintro e w1 ⟨rfl, m2, rfl⟩
          clear HD2
          obtain ⟨w3, hw3⟩ : ∃ w3, w3 = (wr.drewN m1).drewN m2 := ⟨_, rfl⟩
          have hown3 := rows_below (W := w3) hown (fun g _ => by rw [hw3]; rfl)
          have HB3 : Hid (Below w.heap.size w w3) := by
            show Below _ _ _
            rw [hw3]; exact below_drewN (below_drewN HB.out m1) m2
          have hs3 : w.heap.size ≤ w3.heap.size := HB3.out.size
          rw [← hw3]
          clear hw3 hown HBs HB
          go_wp2_with (at_builtin; refine wpList_append_own _ rfl _ _ 22 rfl w.heap.size 40 i0 (.agg #[.string .empty, .bool false, .string .empty]) 3 40 Tryz.underlying22 hi0 hz0 hz1 hz2 rfl (by decide) _ _ _ rfl (hown3.alloc _) ⟨w3.heap.size, 0, none⟩ 1 1 (encR (cellR a b)) rfl hz3 (HNW.out w3) (encR_one _) (by unfold maxLen; omega) (by omega) (by simp; omega) ?_; intro v' w4 hown' hgrow _; have HO := Lib.hid hown'; have HG4 : Hid (Below w.heap.size w w4) := (HB3.out.alloc hs3 _).grown hgrow (by simp; omega) (fun k e => (hown3.lt k e).1); clear hown' hgrow)
          go_roundw
          case rel => exact ⟨b + 1, by omega, by go_num, by rw [← HNS.out.2, HNS.out.1]; exact HO.out, HG4.out⟩
          case measure => simp [intOf]; omega
        · obtain rfl : b = j := by omega
          have HO := Lib.hid hown
          clear hown
          go_wp2_with fail
          go_roundw
          case rel => exact ⟨a + 1, by omega, by go_num, by rw [← gridR_row]; exact HO.out, HB.out⟩
          case measure => simp [intOf]; omega
    · obtain rfl : a = k := by omega
      have hle := gridR_le j a 0 hk hj (by omega)
      have HNW := Lib.hid (fun W => news3 W lastR 40)
      have hz3 : (encR lastR).length = 1 * 3 := rfl
      have hs3 : w.heap.size ≤ wr.heap.size := HB.out.size
      go_wp2_with (at_builtin; refine wpList_append_own _ rfl _ _ 22 rfl w.heap.size 40 i0 (.agg #[.string .empty, .bool false, .string .empty]) 3 40 Tryz.underlying22 hi0 hz0 hz1 hz2 rfl (by decide) _ _ _ rfl (hown.alloc _) ⟨wr.heap.size, 0, none⟩ 1 1 (encR lastR) rfl hz3 (HNW.out wr) (encR_one _) (by unfold maxLen; omega) (by omega) (by simp; omega) ?_; intro v' w4 hown' hgrow _; have HO := Lib.hid hown'; have HG4 : Hid (Below w.heap.size w w4) := (HB.out.alloc hs3 _).grown hgrow (by simp; omega) (fun k e => (hown.lt k e).1); clear hown' hgrow)
      have ho4 := HO.out
      rw [show cells (gridR j a 0) ++ encR lastR = cells (gridR j a 0 ++ [lastR]) by rw [cells_app]; rfl] at ho4
      obtain ⟨N, hN⟩ : ∃ N, N = (gridR j a 0).length + 1 := ⟨_, rfl⟩
      rw [← hN] at ho4
      have hNl : (gridR j a 0 ++ [lastR]).length = N := by rw [hN, List.length_append]; rfl
      obtain ⟨A, c, rfl, hE, _⟩ := enIs_of_own hNl ho4
      have hN2 : N ≤ 43 := by omega
      have hnew := new_is A N c (gridR j a 0 ++ [lastR]) w4 hNl hE (grid_small a j) (by unfold maxLen; omega)
      have HNew : Hid (Calls Tryz.prog 9 #[.slice A N c] w4 fun e W' => ∃ fa B bl, e = .returned (.pointer (some fa)) ∧ FsIs W' fa B bl (dl (gridL a j)) (gridL a j) ∧ Below w4.heap.size w4 W') := hnew
      obtain ⟨L, hL⟩ : ∃ L, L = gridL a j := ⟨_, rfl⟩
      rw [← hL] at HNew HG
      clear hnew hE ho4 hNl hown HO hN hL hle hN2 HNW hz3 hs3 hlt ha
      go_wp2_with fail
      refine HNew.out.mono ?_
      rintro e w5 ⟨fa, B, bl, rfl, hF, hb5⟩
      have HB5 := Lib.hid (HG4.out.trans (hb5.mono HG4.out.size))
      have HF := Lib.hid hF
      obtain ⟨M, hM⟩ : ∃ M, M = a * j := ⟨_, rfl⟩
      obtain ⟨K1, hK1⟩ : ∃ K1, K1 = a + 1 := ⟨_, rfl⟩
      have hM2 : M ≤ 36 := by rw [hM]; exact Nat.mul_le_mul hk hj
      have hM3 : (a : Int) * (j : Int) = (M : Int) := by rw [hM]; exact (Int.natCast_mul a j).symm
      have qM : IntKind.i64.wrap ((a : Int) * (j : Int)) = (M : Int) := by rw [hM3]; exact IntWalk.i64_in _ (by omega)
      have qK : IntKind.i64.wrap ((a : Int) + 1) = (K1 : Int) := by rw [show (a : Int) + 1 = (K1 : Int) by omega]; exact IntWalk.i64_in _ (by omega)
      have HM := Lib.hid hM
      have HK1 := Lib.hid hK1
      have X0 := Lib.hid (fun W (hW : Below w5.heap.size w5 W) => exp_is fa B bl L [100, 48, 47, 42] ⟨#[100, 48, 47, 42]⟩ _ j W (HF.out.below hW) HG.out.fs (HG.out.ok _ (by unfold wds wOne; simp)) rfl HG.out.one (by rw [List.length_map, List.length_range]))
      have X1 := Lib.hid (fun W (hW : Below w5.heap.size w5 W) => exp_is fa B bl L [42, 47, 42, 46, 99] ⟨#[42, 47, 42, 46, 99]⟩ _ M W (HF.out.below hW) HG.out.fs (HG.out.ok _ (by unfold wds wOne; simp)) rfl rfl (HG.out.n1.trans HM.out.symm))
      have X2 := Lib.hid (fun W (hW : Below w5.heap.size w5 W) => exp_is fa B bl L [47, 100, 63, 47, 102, 42] ⟨#[47, 100, 63, 47, 102, 42]⟩ _ M W (HF.out.below hW) HG.out.fs (HG.out.ok _ (by unfold wds wOne; simp)) rfl rfl (HG.out.n2.trans HM.out.symm))
      have X3 := Lib.hid (fun W (hW : Below w5.heap.size w5 W) => exp_is fa B bl L [100, 42] ⟨#[100, 42]⟩ _ K1 W (HF.out.below hW) HG.out.fs (HG.out.ok _ (by unfold wds wOne; simp)) rfl rfl (HG.out.n3.trans HK1.out.symm))
      have X4 := Lib.hid (fun W (hW : Below w5.heap.size w5 W) => exp_is fa B bl L [100, 42, 47] ⟨#[100, 42, 47]⟩ _ a W (HF.out.below hW) HG.out.fs (HG.out.ok _ (by unfold wds wOne; simp)) rfl rfl HG.out.n4)
      have X5 := Lib.hid (fun W (hW : Below w5.heap.size w5 W) => exp_is fa B bl L [42, 47, 102, 48, 46, 99] ⟨#[42, 47, 102, 48, 46, 99]⟩ _ a W (HF.out.below hW) HG.out.fs (HG.out.ok _ (by unfold wds wOne; simp)) rfl rfl HG.out.n5)
      have X6 := Lib.hid (fun W (hW : Below w5.heap.size w5 W) => exp_is fa B bl L [100, 46, 116, 120, 116, 47, 42] ⟨#[100, 46, 116, 120, 116, 47, 42]⟩ _ 0 W (HF.out.below hW) HG.out.fs (HG.out.ok _ (by unfold wds wOne; simp)) rfl rfl HG.out.n6)
      have X7 := Lib.hid (fun W (hW : Below w5.heap.size w5 W) => exp_is fa B bl L [100, 48, 47, 102, 48, 46, 99] ⟨#[100, 48, 47, 102, 48, 46, 99]⟩ _ 1 W (HF.out.below hW) HG.out.fs (HG.out.ok _ (by unfold wds wOne; simp)) rfl HG.out.e7 rfl)
      have X8 := Lib.hid (fun W (hW : Below w5.heap.size w5 W) => exp_is fa B bl L [100, 48, 47, 110, 111, 110, 101] ⟨#[100, 48, 47, 110, 111, 110, 101]⟩ _ 0 W (HF.out.below hW) HG.out.fs (HG.out.ok _ (by unfold wds wOne; simp)) rfl HG.out.e8 rfl)
      clear hF hb5 HNew hM hK1 hM3 hM2
      go_wp2_with fail
      refine (X0.out _ (Below.refl _ _)).mono ?_
      rintro e y0 ⟨A0, c0, rfl, hs0, hb0⟩
      have Y0 := Lib.hid hb0
      have hl0 : (((List.range j).map fun b => cellP 0 b).map bs)[0]? = some ⟨#[100, 48, 47, 102, 48, 46, 99]⟩ := by
        rw [List.getElem?_map, List.getElem?_map, List.getElem?_range hj0]; rfl
      have hcap := hs0.1
      rw [List.length_map, List.length_map, List.length_range] at hcap
      obtain ⟨b9, o9, rfl, hb9, hc9⟩ := hs0.at_ hl0
      have HC9 := Lib.hid hc9
      clear hs0 hb0 hl0 hb9 hc9 X0
      go_wp2_with fail
      refine (X1.out _ Y0.out).mono ?_
      rintro e y1 ⟨A1, c1, rfl, _, hb1⟩
      have Y1 := Lib.hid (Y0.out.trans (hb1.mono Y0.out.size))
      have Z1 := Lib.hid hb1
      clear hb1 X1
      go_wp2_with fail
      refine (X2.out _ Y1.out).mono ?_
      rintro e y2 ⟨A2, c2, rfl, _, hb2⟩
      have Y2 := Lib.hid (Y1.out.trans (hb2.mono Y1.out.size))
      have d0 : y2.cell? ⟨b9, o9, none⟩ = some (.string ⟨#[100, 48, 47, 102, 48, 46, 99]⟩) := HC9.out y2 (Z1.out.trans (hb2.mono Z1.out.size))
      clear hb2 X2
      go_wp2_with fail
      refine (X3.out _ Y2.out).mono ?_
      rintro e y3 ⟨A3, c3, rfl, _, hb3⟩
      have Y3 := Lib.hid (Y2.out.trans (hb3.mono Y2.out.size))
      clear hb3 X3 d0
      go_wp2_with fail
      refine (X4.out _ Y3.out).mono ?_
      rintro e y4 ⟨A4, c4, rfl, _, hb4⟩
      have Y4 := Lib.hid (Y3.out.trans (hb4.mono Y3.out.size))
      clear hb4 X4
      go_wp2_with fail
      refine (X5.out _ Y4.out).mono ?_
      rintro e y5 ⟨A5, c5, rfl, _, hb5⟩
      have Y5 := Lib.hid (Y4.out.trans (hb5.mono Y4.out.size))
      clear hb5 X5
      go_wp2_with fail
      refine (X6.out _ Y5.out).mono ?_
      rintro e y6 ⟨A6, c6, rfl, _, hb6⟩
      have Y6 := Lib.hid (Y5.out.trans (hb6.mono Y5.out.size))
      clear hb6 X6
      go_wp2_with fail
      refine (X7.out _ Y6.out).mono ?_
      rintro e y7 ⟨A7, c7, rfl, hs7, hb7⟩
      have hba : Below w5.heap.size w5 (y7.alloc (.cells #[.string ⟨#[100, 48, 47, 102, 48, 46, 99]⟩] 9)) := (Y6.out.trans (hb7.mono Y6.out.size)).alloc (Nat.le_trans Y6.out.size hb7.size) _
      have HSb := Lib.hid (same_is A7 (some ⟨y7.heap.size, 0, none⟩) 1 c7 1 [⟨#[100, 48, 47, 102, 48, 46, 99]⟩] (y7.alloc (.cells #[.string ⟨#[100, 48, 47, 102, 48, 46, 99]⟩] 9)) rfl (hs7.below (alloc_below y7 _)) (lits_is y7 [⟨#[100, 48, 47, 102, 48, 46, 99]⟩]) (by decide))
      have HBb := Lib.hid hba
      clear hs7 hb7 hba X7
      go_wp2_with fail
      refine HSb.out.mono ?_
      rintro e y8 ⟨rfl, hb8⟩
      have Y8 := Lib.hid (HBb.out.trans (hb8.mono HBb.out.size))
      clear hb8 HSb
      go_wp2_with fail
      refine (X8.out _ Y8.out).mono ?_
      rintro e y9 ⟨A9, c9, rfl, _, hb9⟩
      have Y9 := Lib.hid (Y8.out.trans (hb9.mono Y8.out.size))
      clear hb9 X8
      go_wp2_with fail
      refine (awake_is _).mono ?_
      rintro e y10 ⟨rfl, hb10⟩
      have Y10 := Lib.hid (Y9.out.trans (hb10.mono Y9.out.size))
      clear hb10
      go_wp2
      go_ret
      exact ⟨rfl, HB5.out.trans (Y10.out.mono HB5.out.size)⟩

theorem walk (a0 a1 : Int) (w : World) (w0 : (Lit.int .i64 a0).wf = true) (w1 : (Lit.int .i64 a1).wf = true) :
    Calls Tryz.prog 5 #[.int .i64 a0, .int .i64 a1] w fun e W' => e = .returned (.bool true) ∧ Below w.heap.size w W' :=
  walk_kj a0 a1 (place a0 6 + 1) (place a1 6 + 1) w (by omega) (by have := place_lt a0 6 (by omega); omega) (by omega) (by have := place_lt a1 6 (by omega); omega)
    (fun W => by
      have h := place_is a0 6 W (by omega) (by omega) w0
      rwa [show (((place a0 6 + 1 : Nat) : Int) - 1) = ((place a0 6 : Nat) : Int) by omega])
    (fun W => by
      have h := place_is a1 6 W (by omega) (by omega) w1
      rwa [show (((place a1 6 + 1 : Nat) : Int) - 1) = ((place a1 6 : Nat) : Int) by omega])

end Go.Proofs.YtgfpdaaofhanoaaGreatDoor.WildStars
