/- The walk of the law GlobPlain: for all numbers the law answers true. -/
import Derived.Test.YtegagjclkmomcaaGplain
import Derived.Test.YtegagjclkmomcaaGwords
import Derived.Test.YtegagjclkmomcaaPlace
import Derived.Test.YtegagjclkmomcaaNums
namespace Go.Proofs.Ytegagjclkmomcaa.GlobPlain
open Go.RowKit Go.Proofs.Ytegagjclkmomcaa.Glb Go.Proofs.Ytegagjclkmomcaa.Gops Go.Proofs.Ytegagjclkmomcaa.Gread Go.Proofs.Ytegagjclkmomcaa.Gfit Go.Proofs.Ytegagjclkmomcaa.Gmatch Go.Proofs.Ytegagjclkmomcaa.Gmagic Go.Proofs.Ytegagjclkmomcaa.Gplain Go.Proofs.Ytegagjclkmomcaa.Gstars Go.Proofs.Ytegagjclkmomcaa.Gwords Go.Proofs.Ytegagjclkmomcaa.Nums
open Go.Proofs.Ytegagjclkmomcaa.Place (place place_lt place_is)

/-- the words' numbers -/
def nums (zs : List Int) : List Nat := (zs.take 20).map fun z => place z 6
theorem nums_len (zs : List Int) : (nums zs).length ≤ 20 := by unfold nums; rw [List.length_map, List.length_take]; omega
theorem nums_step {zs : List Int} {k : Nat} {z : Int} (h : zs[k]? = some z) (hk : k < 20) : (nums zs).take k ++ [place z 6] = (nums zs).take (k + 1) := by
  have h1 : (nums zs)[k]? = some (place z 6) := by
    unfold nums
    rw [List.getElem?_map, List.getElem?_take, if_pos hk, h]; rfl
  obtain ⟨hl, e⟩ := List.getElem?_eq_some_iff.1 h1
  rw [List.take_succ_eq_append_getElem hl, e]
theorem nums_all {zs : List Int} {k : Nat} (h : ¬ (k < zs.length ∧ k < 20)) : (nums zs).take k = nums zs := by
  apply List.take_of_length_le
  unfold nums
  rw [List.length_map, List.length_take]
  omega
theorem get_int {w : World} {A : Option Addr} {n c k : Nat} {zs : List Int} (h : IntIs w A n c zs) (hk : k < n) : ∃ b o z, A = some ⟨b, o, none⟩ ∧ (Lit.int .i64 z).wf = true ∧ zs[k]? = some z ∧ w.cell? ⟨b, o + k, none⟩ = some (.int .i64 z) := by
  have hl : k < zs.length := by have := h.1; omega
  rcases h.2.2.2 with h0 | ⟨b, o, rfl, hb, hc⟩
  · rw [h0] at hl; exact absurd hl (Nat.not_lt_zero _)
  · exact ⟨b, o, zs[k], rfl, h.2.2.1 _ (List.getElem_mem hl), List.getElem?_eq_getElem hl, hc k _ (List.getElem?_eq_getElem hl)⟩
theorem size_app (a b : ByteArray) : (a ++ b).size = a.size + b.size := ByteArray.size_append

theorem index_word (star : ByteArray) (q : Nat) (hq : q < 6) (W : World) : (Instr.index 30 (.agg #[.string ⟨#[97]⟩, .string ⟨#[98]⟩, .string ⟨#[97, 98]⟩, .string star, .string ⟨#[99]⟩, .string ⟨#[98]⟩]) (.int .i64 (q : Int))).run Try.prog W = .ok (.string (bs (pick star.data.toList q))) W := by
  have h : q = 0 ∨ q = 1 ∨ q = 2 ∨ q = 3 ∨ q = 4 ∨ q = 5 := by omega
  rcases h with rfl | rfl | rfl | rfl | rfl | rfl
  · show _ = _; kernel_rfl
  · show _ = _; kernel_rfl
  · show _ = _; kernel_rfl
  · rw [pick, bs_self]; show _ = _; kernel_rfl
  · show _ = _; kernel_rfl
  · show _ = _; kernel_rfl

set_option maxRecDepth 100000 in
set_option maxHeartbeats 4000000 in
theorem make_is (A : Option Addr) (n c : Nat) (zs : List Int) (star : ByteArray) (w : World) (hl : IntIs w A n c zs) (_hm : n ≤ maxLen) (hst : star.size ≤ 2) :
    Calls Try.prog 15 #[.slice A n c, .string star] w fun e W' => e = .returned (.string (bs (make star.data.toList (nums zs)))) ∧ w = W' := by
  unfold maxLen at _hm
  go_enter Try.func15, Try.ntmps15
  go_wp2_with fail
  go_loopg [5, 6] 21 (fun g s5 s6 wx => ∃ (i : Nat) (p : ByteArray), s5 = .string p ∧ s6 = .int .i64 i ∧ i ≤ n ∧ i ≤ 20 ∧ 20 - i < g ∧ p.size ≤ 2 * i ∧ w = wx ∧ Hid (p = bs (make star.data.toList ((nums zs).take i))))
  case atStart => exact ⟨0, ⟨#[]⟩, rfl, rfl, Nat.zero_le _, Nat.zero_le _, by omega, Nat.le_refl _, rfl, rfl⟩
  case round =>
    obtain ⟨i, p, rfl, rfl, hin, hi20, hg, hps, rfl, H⟩ := hrel
    obtain ⟨g, rfl⟩ : ∃ g, gk = g + 1 := ⟨gk - 1, by omega⟩
    by_cases hlt : i < n
    · by_cases hlt2 : i < 20
      · obtain ⟨b, o, z, rfl, hz, hzs, hc⟩ := get_int hl hlt
        have hq := place_lt z 6 (by omega)
        have HP := Lib.hid (fun W => place_is z 6 W (by omega) (by omega) hz)
        have HS := Lib.hid (nums_step hzs hlt2)
        clear hzs hz
        generalize place z 6 = q at HP HS hq
        have hix := index_word star q hq
        have zp : (bs (pick star.data.toList q)).size ≤ 2 := by rw [size_bs]; exact pick_len _ (by rw [← Lib.size_eq]; exact hst) q
        have HA : Hid (p ++ bs (pick star.data.toList q) = bs (make star.data.toList ((nums zs).take (i + 1)))) := by
          show _ = _
          rw [H.out, bs_app, ← make_snoc, HS.out]
        generalize bs (pick star.data.toList q) = t at hix zp HA
        have hz2 := size_app p t
        go_wp2_with fail
        refine (HP.out _).mono ?_
        rintro e w' ⟨rfl, rfl⟩
        go_wp2_with fail
        go_roundg g
        case measure => omega
        case rel => exact ⟨i + 1, p ++ t, rfl, by go_num, by omega, by omega, by omega, by omega, rfl, HA.out⟩
      · have HE : Hid (p = bs (make star.data.toList (nums zs))) := by show _ = _; rw [H.out, nums_all (by omega)]
        go_wp2_with fail
        go_ret
        exact ⟨by rw [← HE.out]; rfl, rfl⟩
    · have HE : Hid (p = bs (make star.data.toList (nums zs))) := by show _ = _; rw [H.out, nums_all (by have := hl.1; omega)]
      go_wp2_with fail
      go_ret
      exact ⟨by rw [← HE.out]; rfl, rfl⟩

theorem no_bar (p s : List UInt8) (h : s.head? ≠ some 46) : barred p s = false := by
  have : begins [46] s = false := by
    cases s with
    | nil => rfl
    | cons c r =>
      have hc : ¬ c = 46 := fun e => h (by rw [e]; rfl)
      have hc2 : ¬ 46 = c := fun e => hc e.symm
      show (46 == c && [].isPrefixOf r) = false
      rw [beq_eq_false_iff_ne.2 hc2]; rfl
  rw [barred, this]; rfl
theorem no_bar_app (p : List UInt8) (ks js : List Nat) : barred p (make [42] ks ++ make [42] js) = false := by
  apply no_bar
  intro h
  exact (no_dot js []).1 ((no_dot ks (make [42] js)).2 h).2
theorem q1 (ks : List Nat) : magicL (make [92, 42] ks) = false := magic_make ks
theorem q3 (ks js : List Nat) : matchL (make [92, 42] ks) (make [42] js) = (make [42] js == make [42] ks) := by
  rw [matchL, no_bar _ _ (no_dot js []).1]; exact fit_make ks _
theorem q5 (js : List Nat) : matchL [42] (make [42] js) = true := by
  rw [matchL, no_bar _ _ (no_dot js []).1]; exact fit_star_all _
theorem q6 (ks js : List Nat) : matchL (make [42] ks ++ [42]) (make [42] ks ++ make [42] js) = true := by
  rw [matchL, no_bar_app]; exact fit_behind ks js

theorem size_make (star : List UInt8) (h : star.length ≤ 2) (zs : List Int) : (bs (make star (nums zs))).size ≤ 40 := by
  rw [size_bs]
  have h1 := make_len star h (nums zs)
  have h2 := nums_len zs
  omega
set_option maxRecDepth 100000 in
set_option maxHeartbeats 4000000 in
theorem walk (A0 : Option Addr) (n0 c0 : Nat) (zs0 : List Int) (A1 : Option Addr) (n1 c1 : Nat) (zs1 : List Int) (w : World) (hl0 : IntIs w A0 n0 c0 zs0) (hm0 : n0 ≤ maxLen) (hl1 : IntIs w A1 n1 c1 zs1) (hm1 : n1 ≤ maxLen) :
    Calls Try.prog 4 #[.slice A0 n0 c0, .slice A1 n1 c1] w fun e W' => e = .returned (.bool true) ∧ Below w.heap.size w W' := by
  have m1 := Lib.hid (make_is A0 n0 c0 zs0 ⟨#[92, 42]⟩ w hl0 hm0 (by decide))
  have m2 := Lib.hid (make_is A1 n1 c1 zs1 ⟨#[42]⟩ w hl1 hm1 (by decide))
  have m3 := Lib.hid (make_is A0 n0 c0 zs0 ⟨#[42]⟩ w hl0 hm0 (by decide))
  have z1 := size_make [92, 42] (by decide) zs0
  have z2 := size_make [42] (by decide) zs1
  have z3 := size_make [42] (by decide) zs0
  have x1 := Lib.hid (fun W => g_lit (bs (make [92, 42] (nums zs0))) false W (by omega) (q1 _))
  have x2 := Lib.hid (fun W => p_lit (bs (make [92, 42] (nums zs0))) (bs (make [42] (nums zs0))) W (by omega) (congrArg bs (plain_make _)))
  have x3 := Lib.hid (fun W => m_lit (bs (make [92, 42] (nums zs0))) (bs (make [42] (nums zs0))) true W (by omega) (by omega) ((q3 _ _).trans (by simp)))
  obtain ⟨b, HB⟩ : ∃ b, Hid ((make [42] (nums zs1) == make [42] (nums zs0)) = b) := ⟨_, rfl⟩
  have x4 := Lib.hid (fun W => m_lit (bs (make [92, 42] (nums zs0))) (bs (make [42] (nums zs1))) b W (by omega) (by omega) ((q3 _ _).trans HB.out))
  have hso : ((bs (make [42] (nums zs1))).toList == (bs (make [42] (nums zs0))).toList) = b := by rw [Lib.toList_data, Lib.toList_data]; exact HB.out
  have x5 := Lib.hid (fun W => m_lit ⟨#[42]⟩ (bs (make [42] (nums zs1))) true W (by decide) (by omega) (q5 _))
  have x6 := Lib.hid (fun W => m_lit (bs (make [42] (nums zs0)) ++ (⟨#[42]⟩ : ByteArray)) (bs (make [42] (nums zs0)) ++ bs (make [42] (nums zs1))) true W (by rw [size_app]; have : (⟨#[42]⟩ : ByteArray).size = 1 := rfl; omega) (by rw [size_app]; omega) (by rw [app_data, app_data]; exact q6 _ _))
  clear HB hl0 hl1 hm0 hm1
  have y1 : Hid (bs (make [92, 42] (nums zs0)) = bs (make (⟨#[92, 42]⟩ : ByteArray).data.toList (nums zs0))) := rfl
  have m1 : Hid (Calls Try.prog 15 #[.slice A0 n0 c0, .string ⟨#[92, 42]⟩] w fun e W' => e = .returned (.string (bs (make [92, 42] (nums zs0)))) ∧ w = W') := m1.out
  have m2 : Hid (Calls Try.prog 15 #[.slice A1 n1 c1, .string ⟨#[42]⟩] w fun e W' => e = .returned (.string (bs (make [42] (nums zs1)))) ∧ w = W') := m2.out
  have m3 : Hid (Calls Try.prog 15 #[.slice A0 n0 c0, .string ⟨#[42]⟩] w fun e W' => e = .returned (.string (bs (make [42] (nums zs0)))) ∧ w = W') := m3.out
  clear y1
  generalize bs (make [92, 42] (nums zs0)) = p at m1 z1 x1 x2 x3 x4
  generalize bs (make [42] (nums zs1)) = s at m2 z2 x4 x5 x6 hso
  generalize bs (make [42] (nums zs0)) = o at m3 z3 x2 x3 x6 hso
  have z4 : (⟨#[42]⟩ : ByteArray).size ≤ 1 := Nat.le_refl _
  go_enter Try.func4, Try.ntmps4
  go_wp2_with fail
  refine m1.out.mono ?_
  rintro e w' ⟨rfl, rfl⟩
  go_wp2_with fail
  refine m2.out.mono ?_
  rintro e w' ⟨rfl, rfl⟩
  go_wp2_with fail
  refine m3.out.mono ?_
  rintro e w' ⟨rfl, rfl⟩
  clear m1 m2 m3
  go_wp2_with fail
  refine (x1.out _).mono ?_
  rintro e w1 ⟨rfl, hb⟩
  have B1 := Lib.hid hb
  clear hb x1
  go_wp2_with fail
  refine (x2.out _).mono ?_
  rintro e w2 ⟨rfl, hb⟩
  have B2 := Lib.hid (B1.out.trans (hb.mono B1.out.size))
  clear hb x2
  go_wp2_with fail
  refine (x3.out _).mono ?_
  rintro e w3 ⟨rfl, hb⟩
  have B3 := Lib.hid (B2.out.trans (hb.mono B2.out.size))
  clear hb x3
  go_wp2_with fail
  refine (x4.out _).mono ?_
  rintro e w4 ⟨rfl, hb⟩
  have B4 := Lib.hid (B3.out.trans (hb.mono B3.out.size))
  clear hb x4
  go_wp2_with fail
  refine (x5.out _).mono ?_
  rintro e w5 ⟨rfl, hb⟩
  have B5 := Lib.hid (B4.out.trans (hb.mono B4.out.size))
  clear hb x5
  go_wp2_with fail
  refine (x6.out _).mono ?_
  rintro e w6 ⟨rfl, hb⟩
  have B6 := Lib.hid (B5.out.trans (hb.mono B5.out.size))
  clear hb x6
  go_wp2_with fail
  refine (awake_is _).mono ?_
  rintro e w7 ⟨rfl, hb⟩
  have B7 := Lib.hid (B6.out.trans (hb.mono B6.out.size))
  clear hb
  go_wp2
  go_ret
  exact ⟨rfl, B7.out⟩
end Go.Proofs.Ytegagjclkmomcaa.GlobPlain
