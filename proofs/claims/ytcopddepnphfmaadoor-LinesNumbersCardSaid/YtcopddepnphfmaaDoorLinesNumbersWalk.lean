/- LinesNumbers walked: makefiles by numbers, spoilt. -/
import Derived.Deep.RegionHeld3
import Derived.Deep.DeepCutAuto
import Derived.Test.YtcopddepnphfmaaDoorLrefa
import Derived.Test.YtcopddepnphfmaaDoorTmake
namespace Go.Proofs.YtcopddepnphfmaaDoor.LinesNumbers
open Go.RowKit Go.Proofs.YtcopddepnphfmaaDoor.Pure Go.Proofs.YtcopddepnphfmaaDoor.Ends Go.Proofs.YtcopddepnphfmaaDoor.Ln Go.Proofs.YtcopddepnphfmaaDoor.Lraw Go.Proofs.YtcopddepnphfmaaDoor.Lall Go.Proofs.YtcopddepnphfmaaDoor.Lalls Go.Proofs.YtcopddepnphfmaaDoor.Lmem Go.Proofs.YtcopddepnphfmaaDoor.Lrefa Go.Proofs.YtcopddepnphfmaaDoor.Nums Go.Proofs.YtcopddepnphfmaaDoor.Tmake

/-- the lines' numbers rise -/
theorem allL_rise : ∀ (m : Nat) (l : List UInt8) (n : Nat), l.length ≤ m → ∀ (i : Nat) (x y : List UInt8 × Nat × Bool), (allL l n)[i]? = some x → (allL l n)[i + 1]? = some y → x.2.1 < y.2.1 := by
  intro m
  induction m with
  | zero =>
    intro l n hm i x y hx _
    obtain rfl : l = [] := List.eq_nil_of_length_eq_zero (by omega)
    rw [allL_nil] at hx
    cases hx
  | succ m ih =>
    intro l n hm i x y hx hy
    by_cases h : l = []
    · subst h
      rw [allL_nil] at hx
      cases hx
    · rw [allL_cons h] at hx hy
      have hp : 0 < (pieces l).length := List.length_pos_iff.2 (pieces_ne h)
      have hlt := (leftL_suffix h).2
      cases i with
      | zero =>
        rw [List.getElem?_cons_zero] at hx
        rw [List.getElem?_cons_succ] at hy
        cases hx
        by_cases h2 : leftL l = []
        · rw [h2, allL_nil] at hy
          cases hy
        · rw [allL_cons h2, List.getElem?_cons_zero] at hy
          cases hy
          show n < n + (pieces l).length
          omega
      | succ i =>
        rw [List.getElem?_cons_succ] at hx hy
        exact ih (leftL l) _ (by omega) i x y hx hy

set_option maxRecDepth 100000 in
set_option maxHeartbeats 4000000 in
theorem walk (A0 : Option Addr) (n0 c0 : Nat) (zs0 : List Int) (a1 : Int) (w : World) (hl0 : IntIs w A0 n0 c0 zs0) (hb0 : n0 ≤ 17592186044416) (w1 : (Lit.int .i64 a1).wf = true) :
    Calls Tryd.prog 4 #[.slice A0 n0 c0, .int .i64 a1] w fun e W' => e = .returned (.bool true) ∧ Below w.heap.size w W' := by
  have HAw := Lib.hid (fun W => awake_is W)
  have HM := Lib.hid (makefile_is A0 n0 c0 zs0 w hb0 hl0)
  have HSp := Lib.hid (fun s (hs : s.size ≤ 1000000000000000000) W => spoilt_is s hs a1 w1 W)
  clear hl0 hb0 w1
  go_enter Tryd.func4, Tryd.ntmps4
  go_wp2_with fail
  refine HM.out.mono ?_
  rintro e v1 ⟨s, hs, rfl, hb1⟩
  have B1 := Lib.hid hb1
  have HS := HSp.out s hs v1
  have HS2 := Lib.hid HS
  clear hb1 hs HS HSp HM
  go_wp2_with fail
  refine HS2.out.mono ?_
  rintro e v2 ⟨r, _, rfl, hb2⟩
  have B2 := Lib.hid (B1.out.trans (hb2.mono B1.out.size))
  clear hb2 HS2
  by_cases hbig : 5000 < r.size
  · have hd : decide ((5000 : Int) < (r.size : Int)) = true := decide_eq_true (by omega)
    have hd2 : decide (5000 < r.size) = true := decide_eq_true hbig
    clear hbig
    go_wp2_with fail
    refine (HAw.out _).mono ?_
    rintro e w10 ⟨rfl, hb10⟩
    have B10 := Lib.hid (B2.out.trans (hb10.mono B2.out.size))
    clear hb10 HAw
    go_wp2
    go_ret
    exact ⟨rfl, B10.out⟩
  · have hd : decide ((5000 : Int) < (r.size : Int)) = false := decide_eq_false (by omega)
    have hd2 : decide (5000 < r.size) = false := decide_eq_false hbig
    have HA1 := Lib.hid (fun W => all_sl r W (by omega))
    have HA2 := Lib.hid (fun W => refAll_is r W (by omega))
    have hcount := allL_count _ r.data.toList 1 (Nat.le_refl _)
    rw [← Lib.size_eq] at hcount
    have HC : Hid ((allL r.data.toList 1).length ≤ 1000000) := by show _ ≤ _; omega
    have HSM := Lib.hid (fun A A' n c c' (hn : (allL r.data.toList 1).length = n) W h h' => same_is A A' n c c' (allL r.data.toList 1) W hn h h' (by omega))
    have HR := Lib.hid (allL_rise _ r.data.toList 1 (Nat.le_refl _))
    clear hcount hbig
    generalize allL r.data.toList 1 = L at *
    obtain ⟨n, hn⟩ : ∃ n, L.length = n := ⟨_, rfl⟩
    have HN := Lib.hid hn
    rw [hn] at HA1 HA2 HC
    clear hn
    go_wp2_with fail
    refine (HA1.out _).mono ?_
    rintro e v3 ⟨A3, c3, rfl, hl3, hb3⟩
    have B3 := Lib.hid (B2.out.trans (hb3.mono B2.out.size))
    have HL3 := Lib.hid hl3
    clear hb3 hl3 HA1 hd hd2
    go_wp2_with fail
    go_loopw [7] (fun i wr => ∃ K m : Nat, Hid (1 ≤ K) ∧ i = .int .i64 (K : Int) ∧ wr = v3.drewN m) (fun i _ => n + 1 - (intOf i).toNat)
    case atStart => exact ⟨1, 0, (by show 1 ≤ 1; omega), rfl, rfl⟩
    case round =>
      obtain ⟨K, m, hk, rfl, rfl⟩ := hrel
      by_cases hlt : K < n
      · have hd : decide ((K : Int) < (n : Int)) = true := decide_eq_true (by omega)
        have hd2 : decide (K < n) = true := decide_eq_true hlt
        obtain ⟨k, hkk⟩ : ∃ k, K = k + 1 := ⟨K - 1, by have := hk.out; omega⟩
        obtain ⟨x, hx⟩ : ∃ x, L[k]? = some x := ⟨_, List.getElem?_eq_getElem (by have := HN.out; omega)⟩
        obtain ⟨y, hy⟩ : ∃ y, L[K]? = some y := ⟨_, List.getElem?_eq_getElem (by have := HN.out; omega)⟩
        have hxy := HR.out k x y hx (by rw [← hkk]; exact hy)
        obtain ⟨b, rfl, hb, hc⟩ := HL3.out.at_ hx
        obtain ⟨b', hA', _, hc'⟩ := HL3.out.at_ hy
        cases hA'
        obtain ⟨_, k1, _⟩ := hc v3 (Below.refl _ _)
        obtain ⟨_, k2, _⟩ := hc' v3 (Below.refl _ _)
        have wr1 : IntKind.i64.wrap ((K : Int) - 1) = (k : Int) := by
          rw [show (K : Int) - 1 = (k : Int) by omega]
          exact IntWalk.i64_in _ (by have := HC.out; omega)
        have wr2 : IntKind.i64.wrap ((K : Int) + 1) = ((K + 1 : Nat) : Int) := by
          rw [IntWalk.i64_in _ (by have := HC.out; omega)]; omega
        have l1 : decide ((k : Int) < (n : Int)) = true := decide_eq_true (by omega)
        have l2 : k < n := by omega
        have hdn : decide ((y.2.1 : Int) ≤ (x.2.1 : Int)) = false := decide_eq_false (by omega)
        have HK := Lib.hid hlt
        have HKK := Lib.hid hkk
        clear hc hc' hb hx hy hxy hk hkk
        generalize ((x.2.1 : Nat) : Int) = X at *
        generalize ((y.2.1 : Nat) : Int) = Y at *
        go_wp2_with fail
        go_quiet (fail)
        go_wp2
        go_roundw
        case rel => exact ⟨K + 1, _, (by show 1 ≤ K + 1; omega), rfl, rfl⟩
        case measure =>
          have := HK.out
          simp only [intOf]
          omega
      · have hd : decide ((K : Int) < (n : Int)) = false := decide_eq_false (by omega)
        have hd2 : decide (K < n) = false := decide_eq_false hlt
        have B3m : Hid (Below w.heap.size w (v3.drewN m)) := by show Below _ _ _; exact ⟨B3.out.os, B3.out.tape, B3.out.output, B3.out.size, B3.out.block⟩
        have HL3m : Hid (LlIs (v3.drewN m) A3 c3 L) := by show LlIs _ _ _ _; exact HL3.out.below (⟨rfl, rfl, rfl, Nat.le_refl _, fun _ _ => rfl⟩ : Below v3.heap.size v3 (v3.drewN m))
        generalize v3.drewN m = v4 at *
        clear hlt
        go_wp2_with fail
        refine (HA2.out _).mono ?_
        rintro e v5 ⟨A5, c5, rfl, hl5, hb5⟩
        have B5 := Lib.hid (B3m.out.trans (hb5.mono B3m.out.size))
        have HS6 := Lib.hid (HSM.out A3 A5 n c3 c5 HN.out v5 (HL3m.out.below hb5) hl5)
        clear hb5 hl5 HA2 HSM
        go_wp2_with fail
        refine HS6.out.mono ?_
        rintro e v6 ⟨rfl, hb6⟩
        have B6 := Lib.hid (B5.out.trans (hb6.mono B5.out.size))
        clear hb6 HS6
        go_wp2_with fail
        refine (HAw.out _).mono ?_
        rintro e v7 ⟨rfl, hb7⟩
        have B7 := Lib.hid (B6.out.trans (hb7.mono B6.out.size))
        clear hb7 HAw
        go_wp2
        go_ret
        exact ⟨rfl, B7.out⟩

end Go.Proofs.YtcopddepnphfmaaDoor.LinesNumbers
