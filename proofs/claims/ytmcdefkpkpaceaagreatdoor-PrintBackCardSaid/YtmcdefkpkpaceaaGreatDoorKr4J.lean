/- The program's ruler at a node of kind 4. -/
import Derived.Handy
import Derived.Deep.DeepCutAuto
import Derived.Test.YtmcdefkpkpaceaaGreatDoorKknJ
namespace Go.Proofs.YtmcdefkpkpaceaaGreatDoor.Kr4
open Go Go.RowKit Go.Proofs.YtmcdefkpkpaceaaGreatDoor.Spl Go.Proofs.YtmcdefkpkpaceaaGreatDoor.Nodm Go.Proofs.YtmcdefkpkpaceaaGreatDoor.Nz Go.Proofs.YtmcdefkpkpaceaaGreatDoor.Qwhole Go.Proofs.YtmcdefkpkpaceaaGreatDoor.Kpl Go.Proofs.YtmcdefkpkpaceaaGreatDoor.Kkd Go.Proofs.YtmcdefkpkpaceaaGreatDoor.Kkn Go.Proofs.YtmcdefkpkpaceaaGreatDoor.Kfr Go.Proofs.YtmcdefkpkpaceaaGreatDoor.Kmp Go.Proofs.YtmcdefkpkpaceaaGreatDoor.Kru
open Go.Proofs.YtmcdefkpkpaceaaGreatDoor.Pure (bs)

set_option maxRecDepth 100000 in
set_option maxHeartbeats 4000000 in
theorem node_4 (S : Nat → Prop) (w0 : World) (mb : Nat) (s : T) (l : List Nz) (hsl : s.length ≤ 68719476736) (hll : l.length ≤ 1099511627776) (hL : ListIs S w0 mb l) : NodeIs S w0 mb (.mk 4 s l) := by
  intro v W R L hx hRs hR hLv
  obtain ⟨A, c, rfl, hl⟩ := hx.inv
  have _hu := And.intro hsl hll
  clear _hu
  have hf := fit_mk 4 s l R L
  have hsh : shapeZ (.mk 4 s l) = (decide (0 < l.length)) := by rw [shapeZ, if_neg (by decide), if_neg (by decide), if_neg (by decide), if_pos rfl]
  have hfr : frameZ (.mk 4 s l) = 4 + s.length + l.length - 1 := by rw [frameZ, if_neg (by decide), if_neg (by decide), if_neg (by decide), if_pos rfl]
  have hK := Lib.hid (fun (U : World) (hW : Below w0.heap.size w0 U) => kind_4 (bs s) A l.length c (decide (0 < l.length)) (by rw [Bool.eq_iff_iff, decide_eq_true_eq, decide_eq_true_eq]; omega) U)
  obtain ⟨F, hFe⟩ : ∃ F : Nat, F = 4 + s.length + l.length - 1 := ⟨_, rfl⟩
  have hFb : F ≤ 1200000000000 := by rw [hFe]; omega
  have HF := Lib.hid (fun (U : World) => (show Calls Tryz.prog 117 #[.agg #[.slice A l.length c, .string (bs s)]] U fun e W' => e = .returned (.int .i64 (F : Int)) ∧ Below U.heap.size U W' from (frame_4 s A l.length c U hsl hll).mono fun _ _ ⟨h, hb⟩ => ⟨by rw [h, hFe]; congr 2; omega, hb⟩))
  have hfr2 : frameZ (.mk 4 s l) = F := by rw [hfr, hFe]
  rw [hsh, hfr2] at hf
  rw [hf]
  have hlen : lenZ (.mk 4 s l) = F + lensZ l := by rw [lenZ, hfr2]
  have hlev : levZ (.mk 4 s l) = levsZ l + 1 := by rw [levZ]
  rw [hlen, hlev]
  have HBl := Lib.hid (fun (U : World) => below_is (.slice A l.length c) U)
  have HL := Lib.hid (fun (_ : True) (U : World) (R' L' : Nat) (h : Rs S w0 mb U) (h1 : R' ≤ 2147483647) (h2 : L' ≤ 100) => hL A c U R' L' hl h h1 h2)
  have HE : Hid ((decide (0 < l.length)) = true → True) := fun _ => trivial
  generalize (decide (0 < l.length)) = sh at *
  obtain ⟨z, hz0⟩ : ∃ z, z = (sh && (!decide (L = 0) && (decide (F ≤ R) && fits l (R - F) (L - 1)))) := ⟨_, rfl⟩
  rw [← hz0]
  have HZ := Lib.hid hz0
  clear hz0
  generalize bs s = x at *
  generalize l.length = q at *
  clear hf hsh hfr hfr2 hlen hlev hL hx hl hFe hsl hll
  have hmg := hRs.lt
  have HR0 := Lib.hid hRs
  obtain ⟨w1, hw1, hb1, hz1, g0, g1, g2, g3⟩ := four W (.cells #[.map (some mb)] 45) (.cells #[.int .i64 4, .string x, .slice A q c] 25) (.cells #[.int .i64 (R : Int), .int .i64 (L : Int)] 41) (.cells #[.int .i64 0, .int .i64 0] 41)
  obtain ⟨g, hg⟩ : ∃ g, g = W.heap.size := ⟨_, rfl⟩
  rw [← hg] at g0 g1 g2 g3
  have HW1 := Lib.hid hw1
  have HB1 := Lib.hid hb1
  have HZ1 := Lib.hid hz1
  have HG := Lib.hid (And.intro g0 (And.intro g1 (And.intro g2 g3)))
  have hmgg : mb < g := by omega
  obtain ⟨n0, n1, n2⟩ := cells_three g1
  clear hw1 hb1 g0 g1 g2 g3 hz1 hRs
  go_enter Tryz.func12, Tryz.ntmps12
  go_upto_region 1 with fail
  rw [← HW1.out, ← hg]
  have HGE := Lib.hid hg
  clear hg
  have HK1 := Lib.hid (hK.out w1 (HR0.out.on HB1.out).bel)
  clear hK
  go_upto_region 2 with (go_at_call 25; refine HK1.out.mono ?_; rintro e w2 ⟨rfl, hb2⟩; have HB2 := Lib.hid hb2; clear hb2)
  have HF2 : Hid (∀ k, k < w1.heap.size → w2.heap[k]? = w1.heap[k]?) := HB2.out.block
  obtain ⟨g0, g1, g2, g3⟩ := HG.out
  have hz := HZ1.out
  have hz2 := HB2.out.size
  have hge := HGE.out
  have G0 := Lib.hid ((HF2.out g (by omega)).trans g0)
  have G2 := Lib.hid ((HF2.out (g + 1 + 1) (by omega)).trans g2)
  have G3 := Lib.hid ((HF2.out (g + 1 + 1 + 1) (by omega)).trans g3)
  have r0 := one_cell G0.out
  obtain ⟨m0, m1⟩ := two_cells G2.out
  obtain ⟨a0, a1⟩ := two_cells G3.out
  have fz0 := Lib.frozen_of_heap G3.out 0
  have fz1 := Lib.frozen_of_heap G3.out 1
  have HR2 := Lib.hid ((HR0.out.on HB1.out).on HB2.out)
  have HB := Lib.hid (HB1.out.trans (HB2.out.mono (by omega)))
  have hlt : g + 4 ≤ w2.heap.size := by omega
  have l2 : g + 1 + 1 < w2.heap.size := by omega
  have HK0 : Hid (Kp S w0 W w2 mb g w2) := ⟨HR2.out, Far.of HB.out, Nat.le_refl _, fun _ _ _ => rfl⟩
  have HO : Hid (∀ U, Kp S w0 W w2 mb g U → U.cell? ⟨g, 0, none⟩ = some (.map (some mb)) ∧ U.cell? ⟨g + 1 + 1, 0, none⟩ = some (.int .i64 (R : Int)) ∧ U.cell? ⟨g + 1 + 1, 1, none⟩ = some (.int .i64 (L : Int))) := fun U h =>
    ⟨one_cell ((h.own g (by omega) (by omega)).trans G0.out), two_cells ((h.own (g + 1 + 1) (by omega) (by omega)).trans G2.out)⟩
  clear n0 n1 n2 g0 g1 g2 g3 hz hz2 hge HG HW1 HK1
  cases sh with
  | false =>
    have HZ2 : z = false := HZ.out
    clear HL HE HZ
    go_quiet (fail)
    go_wp2
    obtain ⟨V, hV⟩ : ∃ V, ((w2.drewN nq).setCell ⟨g + 1 + 1 + 1, 0, none⟩ (.int .i64 0)).setCell ⟨g + 1 + 1 + 1, 1, none⟩ (.int .i64 0) = V := ⟨_, rfl⟩
    rw [hV]
    obtain ⟨z1, z2, z3, _⟩ := two_fin (U := w2.drewN nq) G3.out hV (HR2.out.on (below_drewN (Below.refl _ _) nq)) (Far.of (below_drewN HB.out nq)) (by have := HGE.out; omega) hmg
    obtain ⟨y0, y1⟩ := two_cells z1
    refine bodyPost_ret (v := .tuple #[.agg #[.int .i64 0, .int .i64 0], .bool false]) (by simp [results, Tryz.results12, go_sem, y0, y1]) rfl ?_
    exact ⟨⟨0, 0, by rw [HZ2]; rfl, fun h => by rw [HZ2] at h; cases h⟩, z2, z3⟩
  | true =>
    have hE := HE.out (by first | rfl | trivial)
    by_cases h0 : L = 0
    · have HZ2 : z = false := by rw [HZ.out, decide_eq_true h0]; rfl
      have e0 : ((L : Int) == 0) = true := by rw [beq_iff_eq]; omega
      clear HL HE HZ h0
      go_quiet (fail)
      go_wp2
      obtain ⟨V, hV⟩ : ∃ V, ((w2.drewN nq).setCell ⟨g + 1 + 1 + 1, 0, none⟩ (.int .i64 0)).setCell ⟨g + 1 + 1 + 1, 1, none⟩ (.int .i64 0) = V := ⟨_, rfl⟩
      rw [hV]
      obtain ⟨z1, z2, z3, _⟩ := two_fin (U := w2.drewN nq) G3.out hV (HR2.out.on (below_drewN (Below.refl _ _) nq)) (Far.of (below_drewN HB.out nq)) (by have := HGE.out; omega) hmg
      obtain ⟨y0, y1⟩ := two_cells z1
      refine bodyPost_ret (v := .tuple #[.agg #[.int .i64 0, .int .i64 0], .bool false]) (by simp [results, Tryz.results12, go_sem, y0, y1]) rfl ?_
      exact ⟨⟨0, 0, by rw [HZ2]; rfl, fun h => by rw [HZ2] at h; cases h⟩, z2, z3⟩
    · have e0 : ((L : Int) == 0) = false := by rw [beq_eq_false_iff_ne]; omega
      have HL2 := Lib.hid (HL.out hE)
      clear HL HE hE
      go_region_held3 (fun U => Below w2.heap.size w2 U ∧ U.cell? ⟨g + 1 + 1, 0, none⟩ = some (.int .i64 (R : Int)) ∧ U.cell? ⟨g + 1 + 1, 1, none⟩ = some (.int .i64 (L : Int))) (first | exact ⟨hb3, (hb3.cell (p := ⟨g + 1 + 1, 0, none⟩) l2).trans m0, (hb3.cell (p := ⟨g + 1 + 1, 1, none⟩) l2).trans m1⟩ | exact ⟨Below.drew (Below.refl _ _), m0, m1⟩ | go_keep) (first | (go_at_call 117; refine (HF.out _).mono ?_; rintro e w3 ⟨rfl, hb3'⟩; have hb3 : Below w2.heap.size w2 w3 := (Below.drew (Below.refl _ _)).trans hb3'))
      have HB3 := Lib.hid hb3
      have HK3 := Lib.hid (HK0.out.on hb3 hlt)
      clear hb3 hb3' m0 m1 r0 a0 a1 fz0 fz1
      obtain ⟨r0, m0, m1⟩ := HO.out w3 HK3.out
      have G33 := Lib.hid ((HK3.out.own (g + 1 + 1 + 1) (by omega) (by omega)).trans G3.out)
      obtain ⟨a0, a1⟩ := two_cells G33.out
      have fz0 := Lib.frozen_of_heap G33.out 0
      have fz1 := Lib.frozen_of_heap G33.out 1
      by_cases hRF : R < F
      · have hd : decide ((R : Int) < (F : Int)) = true := decide_eq_true (by omega)
        have HZ2 : z = false := by rw [HZ.out, decide_eq_false (show ¬ F ≤ R by omega)]; simp
        clear HZ
        go_wp2
        obtain ⟨V, hV⟩ : ∃ V, ((w3).setCell ⟨g + 1 + 1 + 1, 0, none⟩ (.int .i64 0)).setCell ⟨g + 1 + 1 + 1, 1, none⟩ (.int .i64 0) = V := ⟨_, rfl⟩
        rw [hV]
        obtain ⟨z1, z2, z3, _⟩ := two_fin G33.out hV HK3.out.rs HK3.out.far (by have := HGE.out; omega) hmg
        obtain ⟨y0, y1⟩ := two_cells z1
        refine bodyPost_ret (v := .tuple #[.agg #[.int .i64 0, .int .i64 0], .bool false]) (by simp [results, Tryz.results12, go_sem, y0, y1]) rfl ?_
        exact ⟨⟨0, 0, by rw [HZ2]; rfl, fun h => by rw [HZ2] at h; cases h⟩, z2, z3⟩
      · obtain ⟨R1, hR1⟩ : ∃ R1, R1 = R - F := ⟨_, rfl⟩
        obtain ⟨L1, hL1⟩ : ∃ L1, L1 = L - 1 := ⟨_, rfl⟩
        have v1 : IntKind.i64.wrap ((R : Int) - (F : Int)) = (R1 : Int) := by rw [show (R1 : Int) = (R : Int) - (F : Int) by omega]; exact IntWalk.i64_in _ (by omega)
        have v2 : IntKind.i64.wrap ((L : Int) - 1) = (L1 : Int) := by rw [show (L1 : Int) = (L : Int) - 1 by omega]; exact IntWalk.i64_in _ (by omega)
        have hd : decide ((R : Int) < (F : Int)) = false := decide_eq_false (by omega)
        have hd2 : decide (R < F) = false := decide_eq_false hRF
        have HZ2 : Hid (z = fits l R1 L1) := by
          show _ = _
          rw [HZ.out, decide_eq_false h0, decide_eq_true (show F ≤ R by omega), hR1, hL1]; rfl
        have hRb : R1 ≤ 2147483647 := by omega
        have hLb : L1 ≤ 100 := by omega
        have HRF := Lib.hid (show R1 + F = R by omega)
        have HC1 : Hid (fits l R1 L1 = true → lensZ l ≤ R1 ∧ levsZ l ≤ L1) := fun h => by
          unfold fits at h
          rw [Bool.and_eq_true, Bool.and_eq_true, decide_eq_true_eq, decide_eq_true_eq] at h
          exact ⟨h.2.2, h.2.1⟩
        have HWg : Hid (W.heap.size ≤ g) := by have := HGE.out; show _ ≤ _; omega
        have HO2 : Hid (∀ U, Kp S w0 W w2 mb g U → Hid (Kp S w0 W w2 mb g U) ∧ U.cell? ⟨g, 0, none⟩ = some (.map (some mb)) ∧ U.cell? ⟨g + 1 + 1, 0, none⟩ = some (.int .i64 (R : Int)) ∧ U.cell? ⟨g + 1 + 1, 1, none⟩ = some (.int .i64 (L : Int))) := fun U h => ⟨h, HO.out U h⟩
        have HK3d : Hid (Kp S w0 W w2 mb g w3.drew) := HK3.out.on (Below.drew (Below.refl _ _)) hlt
        clear HZ hR1 hL1 h0 hRF
        first | rw [hd2] | rw [hd]
        go_upto_region 4 with fail
        go_cut [9, 10] (fun s9 s10 wx => ∃ (gb n m : Nat) (y : Bool), s9 = .bool y ∧ s10 = .pointer (some ⟨gb, 0, none⟩) ∧ Hid (wx.heap[gb]? = some (.cells #[.int .i64 (n : Int), .int .i64 (m : Int)] 41)) ∧ Hid (Kp S w0 W w2 mb g wx) ∧ Hid (g + 4 ≤ gb) ∧ Hid (y = fits l R1 L1 ∧ (y = true → n = lensZ l ∧ m = levsZ l)))
        case first =>
          go_region_held3 (fun U => Hid (Kp S w0 W w2 mb g U) ∧ U.cell? ⟨g, 0, none⟩ = some (.map (some mb)) ∧ U.cell? ⟨g + 1 + 1, 0, none⟩ = some (.int .i64 (R : Int)) ∧ U.cell? ⟨g + 1 + 1, 1, none⟩ = some (.int .i64 (L : Int))) (first | (refine HO2.out _ ?_; first | exact kp5.out | exact kp4.out | exact HK3d.out | exact kp5.out.on (alloc_below _ _) hlt | exact kp4.out.on (alloc_below _ _) hlt | exact HK3d.out.on (alloc_below _ _) hlt | exact ((kp5.out.on (alloc_below _ _) hlt).set _ (by first | (have := kp5.out.size; omega) | (have := kp4.out.size; omega) | (have := HK3.out.size; omega)) HWg.out hmgg).set _ (by first | (have := kp5.out.size; omega) | (have := kp4.out.size; omega) | (have := HK3.out.size; omega)) HWg.out hmgg | exact (kp5.out.set _ (by first | (have := kp5.out.size; omega) | (have := kp4.out.size; omega) | (have := HK3.out.size; omega)) HWg.out hmgg).set _ (by first | (have := kp5.out.size; omega) | (have := kp4.out.size; omega) | (have := HK3.out.size; omega)) HWg.out hmgg) | go_keep) (first
            | (go_at_call 113; refine (HBl.out _).mono ?_; rintro e w4' ⟨rfl, rfl⟩)
            | (go_at_call 117; refine (HF.out _).mono ?_; rintro e w4 ⟨rfl, hb4⟩; have kp4 : Hid (Kp S w0 W w2 mb g w4) := (show Hid (Kp S w0 W w2 mb g _) ∧ _ from by assumption).1.out.on hb4 hlt; first | (have hn4 : w4.heap[w3.heap.size]? = some (.cells #[.int .i64 0, .int .i64 0] 41) := (hb4.block w3.heap.size (show w3.heap.size < (w3.alloc (.cells #[.int .i64 0, .int .i64 0] 41)).heap.size by rw [World.size_alloc]; omega)).trans (heap_alloc_new w3 _)) | skip)
            | (go_at_call 26; refine (HL2.out _ R1 L1 (show Hid (Kp S w0 W w2 mb g _) ∧ _ from by assumption).1.out.rs hRb hLb).mono ?_; rintro e w5 ⟨⟨n5, m5, rfl, hnm5⟩, hr5, hf5⟩; have kp5 : Hid (Kp S w0 W w2 mb g w5) := (show Hid (Kp S w0 W w2 mb g _) ∧ _ from by assumption).1.out.go hr5 hf5 hlt hmgg; first | (have hn5 : w5.heap[w3.heap.size]? = some (.cells #[.int .i64 0, .int .i64 0] 41) := (hf5.block w3.heap.size (Array.getElem?_eq_some_iff.1 hn4).1 (by have := HK3d.out.size; have : w3.drew.heap.size = w3.heap.size := rfl; omega)).trans hn4; obtain ⟨e50, e51⟩ := two_cells hn5; have f50 := Lib.frozen_of_heap hn5 0; have f51 := Lib.frozen_of_heap hn5 1) | (have hn5 : w5.heap[w4.heap.size]? = some (.cells #[.int .i64 0, .int .i64 0] 41) := (hf5.block w4.heap.size (by rw [World.size_alloc]; omega) (by have := kp4.out.size; omega)).trans (heap_alloc_new w4 _); obtain ⟨e50, e51⟩ := two_cells hn5; have f50 := Lib.frozen_of_heap hn5 0; have f51 := Lib.frozen_of_heap hn5 1) | skip))
          all_goals go_wp2_with fail
          all_goals go_meet
          all_goals first
            | exact ⟨_, n5, m5, _, rfl, rfl, heap_alloc_new w5 _, kp5.out.on (alloc_below _ _) hlt, (by first | (have := kp5.out.size; show _ ≤ _; omega) | (have := kp4.out.size; show _ ≤ _; omega) | (have := HK3.out.size; show _ ≤ _; omega)), rfl, hnm5⟩
            | exact ⟨_, n5, m5, _, rfl, rfl, heap_setCell_same _ _ 1 _ _ _ (heap_setCell_same _ _ 0 _ _ _ hn5), (kp5.out.set _ (by first | (have := kp5.out.size; omega) | (have := kp4.out.size; omega) | (have := HK3.out.size; omega)) HWg.out hmgg).set _ (by first | (have := kp5.out.size; omega) | (have := kp4.out.size; omega) | (have := HK3.out.size; omega)) HWg.out hmgg, (by first | (have := kp5.out.size; show _ ≤ _; omega) | (have := kp4.out.size; show _ ≤ _; omega) | (have := HK3.out.size; show _ ≤ _; omega)), rfl, hnm5⟩
        case rest =>
          obtain ⟨gb, n, m, y, rfl, rfl, HGb, HKc, Hgb, HY⟩ := hcut
          clear r0 m0 m1 a0 a1 fz0 fz1 v1 v2 hd hd2 HK3d HO2
          have G34 := Lib.hid ((HKc.out.own (g + 1 + 1 + 1) (by omega) (by omega)).trans G3.out)
          obtain ⟨a0, a1⟩ := two_cells G34.out
          have fz0 := Lib.frozen_of_heap G34.out 0
          have fz1 := Lib.frozen_of_heap G34.out 1
          obtain ⟨c0, c1⟩ := two_cells HGb.out
          cases y with
          | false =>
            have HZ3 : z = false := HZ2.out.trans HY.out.1.symm
            clear HZ2
            have HZ2 := HZ3
            go_wp2
            obtain ⟨V, hV⟩ : ∃ V, ((wc).setCell ⟨g + 1 + 1 + 1, 0, none⟩ (.int .i64 0)).setCell ⟨g + 1 + 1 + 1, 1, none⟩ (.int .i64 0) = V := ⟨_, rfl⟩
            rw [hV]
            obtain ⟨z1, z2, z3, _⟩ := two_fin G34.out hV HKc.out.rs HKc.out.far (by have := HGE.out; omega) hmg
            obtain ⟨y0, y1⟩ := two_cells z1
            refine bodyPost_ret (v := .tuple #[.agg #[.int .i64 0, .int .i64 0], .bool false]) (by simp [results, Tryz.results12, go_sem, y0, y1]) rfl ?_
            exact ⟨⟨0, 0, by rw [HZ2]; rfl, fun h => by rw [HZ2] at h; cases h⟩, z2, z3⟩
          | true =>
            obtain ⟨hn, hm⟩ := HY.out.2 rfl
            have hfit := HY.out.1.symm
            obtain ⟨hb1, hb2⟩ := HC1.out hfit
            have HZ3 : z = true := HZ2.out.trans hfit
            have hnb : n ≤ R1 := by omega
            have hmb : m ≤ L1 := by omega
            have HN := Lib.hid (And.intro hn hm)
            obtain ⟨n1, hn1⟩ : ∃ n1, n1 = n + F := ⟨_, rfl⟩
            obtain ⟨m1, hm1⟩ : ∃ m1, m1 = m + 1 := ⟨_, rfl⟩
            have v1 : IntKind.i64.wrap ((n : Int) + (F : Int)) = (n1 : Int) := by rw [hn1, Int.natCast_add]; exact IntWalk.i64_in _ (by omega)
            have v2 : IntKind.i64.wrap ((m : Int) + 1) = (m1 : Int) := by rw [hm1, Int.natCast_add]; exact IntWalk.i64_in _ (by omega)
            have HN1 := Lib.hid hn1
            have HM1 := Lib.hid hm1
            have HKcd : Hid (Kp S w0 W w2 mb g wc.drew) := HKc.out.on (Below.drew (Below.refl _ _)) hlt
            have HGlt := Lib.hid (Array.getElem?_eq_some_iff.1 HGb.out).1
            have HO3 : Hid (∀ U, Below wc.heap.size wc U → U.heap[gb]? = some (.cells #[.int .i64 (n : Int), .int .i64 (m : Int)] 41) ∧ U.heap[g + 1 + 1 + 1]? = some (.cells #[.int .i64 0, .int .i64 0] 41)) := fun U h =>
              ⟨(h.block gb HGlt.out).trans HGb.out, (h.block (g + 1 + 1 + 1) (by have := HKc.out.size; omega)).trans G34.out⟩
            have hne : gb ≠ g + 1 + 1 + 1 := by have := Hgb.out; omega
            clear hn hm hfit hb1 hb2 hn1 hm1 HZ2 HY hnb hmb HC1
            clear a0 a1 fz0 fz1
            go_upto_region 7 with fail
            go_region_held3 (fun U => U.cell? ⟨gb, 0, none⟩ = some (.int .i64 (n : Int)) ∧ U.cell? ⟨gb, 1, none⟩ = some (.int .i64 (m : Int))) (first
                | exact two_cells ((heap_setCell_other _ ⟨g + 1 + 1 + 1, 1, none⟩ gb _ hne).trans ((heap_setCell_other _ ⟨g + 1 + 1 + 1, 0, none⟩ gb _ hne).trans hgb7))
                | exact two_cells hgb7
                | exact two_cells (HO3.out _ (Below.drew (Below.refl _ _))).1
                | go_keep)
              (first | (go_at_call 117; refine (HF.out _).mono ?_; rintro e w7 ⟨rfl, hb7'⟩; have hb7 : Below wc.heap.size wc w7 := (Below.drew (Below.refl _ _)).trans hb7'; obtain ⟨hgb7, hg7⟩ := HO3.out w7 hb7; obtain ⟨a0, a1⟩ := two_cells hg7; have fz0 := Lib.frozen_of_heap hg7 0; have fz1 := Lib.frozen_of_heap hg7 1))
            go_wp2
            obtain ⟨V, hV⟩ : ∃ V, ((w7).setCell ⟨g + 1 + 1 + 1, 0, none⟩ (.int .i64 (n1 : Int))).setCell ⟨g + 1 + 1 + 1, 1, none⟩ (.int .i64 (m1 : Int)) = V := ⟨_, rfl⟩
            rw [hV]
            have HK7 := HKc.out.on hb7 hlt
            obtain ⟨z1, z2, z3, _⟩ := two_fin hg7 hV HK7.rs HK7.far (by have := HGE.out; omega) hmg
            obtain ⟨y0, y1⟩ := two_cells z1
            refine bodyPost_ret (v := .tuple #[.agg #[.int .i64 (n1 : Int), .int .i64 (m1 : Int)], .bool true]) (by simp [results, Tryz.results12, go_sem, y0, y1]) rfl ?_
            exact ⟨⟨n1, m1, by rw [HZ3], fun _ => ⟨by rw [HN1.out, HN.out.1]; omega, by rw [HM1.out, HN.out.2]⟩⟩, z2, z3⟩

end Go.Proofs.YtmcdefkpkpaceaaGreatDoor.Kr4
