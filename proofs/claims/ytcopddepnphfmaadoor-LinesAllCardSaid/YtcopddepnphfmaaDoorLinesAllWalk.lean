/- LinesAll walked: the program's lines are the document's. -/
import Derived.Deep.RegionHeld3
import Derived.Deep.DeepCutAuto
import Derived.Test.YtcopddepnphfmaaDoorLrefa
namespace Go.Proofs.YtcopddepnphfmaaDoor.LinesAll
open Go.RowKit Go.Proofs.YtcopddepnphfmaaDoor.Pure Go.Proofs.YtcopddepnphfmaaDoor.Ends Go.Proofs.YtcopddepnphfmaaDoor.Ln Go.Proofs.YtcopddepnphfmaaDoor.Lraw Go.Proofs.YtcopddepnphfmaaDoor.Leach Go.Proofs.YtcopddepnphfmaaDoor.Lnext Go.Proofs.YtcopddepnphfmaaDoor.Lall Go.Proofs.YtcopddepnphfmaaDoor.Lalls Go.Proofs.YtcopddepnphfmaaDoor.Lmem Go.Proofs.YtcopddepnphfmaaDoor.Lrefn Go.Proofs.YtcopddepnphfmaaDoor.Lrefa

/-- both answers to Next -/
theorem both (s : ByteArray) (z n : Int) (hs : s.size ≤ 10000) (hn1 : -4611686018427387904 ≤ n) (hn2 : n ≤ 4611686018427387904) : ∃ (t : ByteArray) (N : Int) (r : Bool) (a m : Int) (ok : Bool),
    (∀ W, Calls Tryd.prog 11 #[.string s, .int .i64 z, .int .i64 n] W fun e W' => e = .returned (.tuple #[.agg #[.string t, .int .i64 N, .bool r], .int .i64 a, .int .i64 m, .bool ok]) ∧ Below W.heap.size W W') ∧
    (∀ W, Calls Tryd.prog 12 #[.string s, .int .i64 z, .int .i64 n] W fun e W' => e = .returned (.tuple #[.agg #[.string t, .int .i64 N, .bool r], .int .i64 a, .int .i64 m, .bool ok]) ∧ Below W.heap.size W W') := by
  by_cases h : z < 0 ∨ (s.size : Int) ≤ z
  · exact ⟨_, _, _, _, _, _, fun W => next_no s z n W h, fun W => refNext_no s z n W h⟩
  · obtain ⟨k, rfl⟩ := Int.eq_ofNat_of_zero_le (show 0 ≤ z by omega)
    have hk : k < s.size := by omega
    exact ⟨_, _, _, _, _, _, fun W => next_is s k n W hk (by omega) hn1 hn2, fun W => refNext_is s k n W hk hs hn1 hn2⟩

set_option maxRecDepth 100000 in
set_option maxHeartbeats 4000000 in
theorem walk (s0 : ByteArray) (a1 a2 : Int) (w : World) (_hs : s0.size ≤ 140737488355328) (_w1 : (Lit.int .i64 a1).wf = true) (_w2 : (Lit.int .i64 a2).wf = true) :
    Calls Tryd.prog 3 #[.string s0, .int .i64 a1, .int .i64 a2] w fun e W' => e = .returned (.bool true) ∧ Below w.heap.size w W' := by
  have HAw := Lib.hid (fun W => awake_is W)
  by_cases hbig : 2000 < s0.size ∨ 1099511627776 < a2 ∨ a2 < -1099511627776
  · have HB : Hid ((decide ((2000 : Int) < (s0.size : Int)) || decide ((1099511627776 : Int) < a2) || decide (a2 < (-1099511627776 : Int))) = true) := by
      show _ = _
      rcases hbig with h | h | h
      · have : decide ((2000 : Int) < (s0.size : Int)) = true := decide_eq_true (by omega)
        rw [this]; rfl
      · have : decide ((1099511627776 : Int) < a2) = true := decide_eq_true (by omega)
        rw [this, Bool.or_true, Bool.true_or]
      · have : decide (a2 < (-1099511627776 : Int)) = true := decide_eq_true (by omega)
        rw [this, Bool.or_true]
    clear hbig
    generalize hd1 : decide ((2000 : Int) < (s0.size : Int)) = d1 at HB
    generalize hd2 : decide ((1099511627776 : Int) < a2) = d2 at HB
    generalize hd3 : decide (a2 < (-1099511627776 : Int)) = d3 at HB
    go_enter Tryd.func3, Tryd.ntmps3
    go_upto_region 1 with fail
    go_cut [29] (fun b wx => b = .bool true ∧ w = wx)
    case first =>
      cases d1 <;> cases d2 <;> cases d3
      all_goals first | exact absurd HB.out (by decide) | skip
      all_goals (go_wp2; go_meet; case rel => exact ⟨rfl, rfl⟩)
    case rest =>
      obtain ⟨rfl, rfl⟩ := hcut
      go_wp2_with fail
      refine (HAw.out _).mono ?_
      rintro e w10 ⟨rfl, hb10⟩
      have B10 := Lib.hid hb10
      clear hb10 HAw
      go_wp2
      go_ret
      exact ⟨rfl, B10.out⟩
  · have h1 : s0.size ≤ 2000 := by omega
    have h2 : a2 ≤ 1099511627776 := by omega
    have h3 : -1099511627776 ≤ a2 := by omega
    clear hbig
    have HR := Lib.hid (fun W => raw_is s0 a1 W (by omega))
    have HRR := Lib.hid (fun W => Lref.raw_is s0 a1 W (by omega))
    obtain ⟨t, N, r, a, m, ok, hN1, hN2⟩ := both s0 a1 a2 (by omega) (by omega) (by omega)
    have HN1 := Lib.hid hN1
    have HN2 := Lib.hid hN2
    have HA1 := Lib.hid (fun W => all_sl s0 W (by omega))
    have HA2 := Lib.hid (fun W => refAll_is s0 W (by omega))
    have HBB := Lib.hid (fun W => Lbare.bare_is s0 W (by omega))
    have HBR := Lib.hid (fun W => Lrefb.bare_is s0 W (by omega))
    have hcount := allL_count _ s0.data.toList 1 (Nat.le_refl _)
    rw [← Lib.size_eq] at hcount
    have HSM := Lib.hid (fun A A' n c c' (hn : (allL s0.data.toList 1).length = n) W h h' => same_is A A' n c c' (allL s0.data.toList 1) W hn h h' (by omega))
    have e0 : s0.data.toList.drop (clamp a1 s0.size) = dropT s0 (clamp a1 s0.size) := rfl
    rw [e0] at HR
    generalize bs (lineOf (dropT s0 (clamp a1 s0.size))) = ra at HR HRR
    generalize ((s0.size - (restOf (dropT s0 (clamp a1 s0.size))).length : Nat) : Int) = rb at HR HRR
    generalize bs (bare s0.data.toList) = bb at HBB HBR
    generalize allL s0.data.toList 1 = L at *
    clear hN1 hN2 e0
    go_enter Tryd.func3, Tryd.ntmps3
    go_wp2_with fail
    refine (HR.out _).mono ?_
    rintro e w1 ⟨rfl, hb1⟩
    have B1 := Lib.hid hb1
    clear hb1 HR
    go_wp2_with fail
    refine (HRR.out _).mono ?_
    rintro e w2 ⟨rfl, hb2⟩
    have B2 := Lib.hid (B1.out.trans (hb2.mono B1.out.size))
    clear hb2 HRR
    go_wp2_with fail
    refine (HN1.out _).mono ?_
    rintro e w3 ⟨rfl, hb3⟩
    have B3 := Lib.hid (B2.out.trans (hb3.mono B2.out.size))
    clear hb3 HN1
    go_wp2_with fail
    refine (HN2.out _).mono ?_
    rintro e w4 ⟨rfl, hb4⟩
    obtain ⟨c1, hc1⟩ : ∃ c1, c1 = w3.heap.size := ⟨_, rfl⟩
    obtain ⟨c2, hc2⟩ : ∃ c2, c2 = w4.heap.size := ⟨_, rfl⟩
    have hs4 := hb4.size
    rw [World.size_alloc] at hs4
    have k1 : w4.heap[c1]? = some (.cells #[.string t, .int .i64 N, .bool r] 26 (0, 0)) := by
      rw [hb4.block c1 (by rw [World.size_alloc, hc1]; omega), hc1]; exact World.alloc_heap_new w3 _
    obtain ⟨wE, hwE⟩ : ∃ wE, wE = w4.alloc (.cells #[.string t, .int .i64 N, .bool r] 26) := ⟨_, rfl⟩
    have k1E : wE.heap[c1]? = some (.cells #[.string t, .int .i64 N, .bool r] 26 (0, 0)) := by rw [hwE, Below.heap_alloc _ _ _ (by omega)]; exact k1
    have k2E : wE.heap[c2]? = some (.cells #[.string t, .int .i64 N, .bool r] 26 (0, 0)) := by rw [hwE, hc2]; exact World.alloc_heap_new w4 _
    have B4 : Hid (Below w.heap.size w wE) := by
      show Below _ _ _
      rw [hwE]
      have h5 := (B3.out.alloc B3.out.size (.cells #[.string t, .int .i64 N, .bool r] 26)).trans (hb4.mono (by rw [World.size_alloc]; have := B3.out.size; omega))
      exact h5.alloc h5.size _
    clear hb4 k1 HN2
    go_upto_region 7 with fail
    rw [← hwE, ← hc1, ← hc2]
    have l0 : wE.cell? ⟨c1, 0, none⟩ = some (.string t) := by rw [Lib.cell_of_heap k1E]; rfl
    have l1 : wE.cell? ⟨c1, 1, none⟩ = some (.int .i64 N) := by rw [Lib.cell_of_heap k1E]; rfl
    have l2 : wE.cell? ⟨c1, 2, none⟩ = some (.bool r) := by rw [Lib.cell_of_heap k1E]; rfl
    have m0 : wE.cell? ⟨c2, 0, none⟩ = some (.string t) := by rw [Lib.cell_of_heap k2E]; rfl
    have m1 : wE.cell? ⟨c2, 1, none⟩ = some (.int .i64 N) := by rw [Lib.cell_of_heap k2E]; rfl
    have m2 : wE.cell? ⟨c2, 2, none⟩ = some (.bool r) := by rw [Lib.cell_of_heap k2E]; rfl
    have hsE := B4.out.size
    clear hwE hc1 hc2 hs4 k1E k2E
    go_wp2_with fail
    refine (HA1.out _).mono ?_
    rintro e w5 ⟨A5, c5, rfl, hl5, hb5⟩
    have B5 := Lib.hid (B4.out.trans (hb5.mono hsE))
    have HL5 := Lib.hid hl5
    clear hb5 hl5 HA1 l0 l1 l2 m0 m1 m2
    go_wp2_with fail
    refine (HA2.out _).mono ?_
    rintro e w6 ⟨A6, c6, rfl, hl6, hb6⟩
    have B6 := Lib.hid (B5.out.trans (hb6.mono B5.out.size))
    have HS6 := Lib.hid (HSM.out A5 A6 L.length c5 c6 rfl w6 (HL5.out.below hb6) hl6)
    clear hb6 hl6 HA2 HSM HL5
    go_wp2_with fail
    refine HS6.out.mono ?_
    rintro e w7 ⟨rfl, hb7⟩
    have B7 := Lib.hid (B6.out.trans (hb7.mono B6.out.size))
    clear hb7 HS6
    go_wp2_with fail
    refine (HBB.out _).mono ?_
    rintro e w8 ⟨rfl, hb8⟩
    have B8 := Lib.hid (B7.out.trans (hb8.mono B7.out.size))
    clear hb8 HBB
    go_wp2_with fail
    refine (HBR.out _).mono ?_
    rintro e w9 ⟨rfl, hb9⟩
    have B9 := Lib.hid (B8.out.trans (hb9.mono B8.out.size))
    clear hb9 HBR
    go_wp2_with fail
    refine (HAw.out _).mono ?_
    rintro e w10 ⟨rfl, hb10⟩
    have B10 := Lib.hid (B9.out.trans (hb10.mono B9.out.size))
    clear hb10 HAw
    go_wp2
    go_ret
    exact ⟨rfl, B10.out⟩

end Go.Proofs.YtcopddepnphfmaaDoor.LinesAll
