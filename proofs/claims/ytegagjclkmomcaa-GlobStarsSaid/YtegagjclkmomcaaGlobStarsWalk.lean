/- The walk of the law GlobStars: for all numbers the law answers true. -/
import Derived.Test.YtegagjclkmomcaaGplain
import Derived.Test.YtegagjclkmomcaaGstars
import Derived.Test.YtegagjclkmomcaaPlace
import Derived.Test.YtegagjclkmomcaaNums
namespace Go.Proofs.Ytegagjclkmomcaa.GlobStars
open Go.RowKit Go.Proofs.Ytegagjclkmomcaa.Glb Go.Proofs.Ytegagjclkmomcaa.Gops Go.Proofs.Ytegagjclkmomcaa.Gread Go.Proofs.Ytegagjclkmomcaa.Gfit Go.Proofs.Ytegagjclkmomcaa.Gmatch Go.Proofs.Ytegagjclkmomcaa.Gmagic Go.Proofs.Ytegagjclkmomcaa.Gplain Go.Proofs.Ytegagjclkmomcaa.Gstars Go.Proofs.Ytegagjclkmomcaa.Nums
open Go.Proofs.Ytegagjclkmomcaa.Place (place place_lt place_is)

/-- is a star asked for at place i? -/
def starAt (zs : List Int) (i : Nat) : Bool := match zs[i]? with
  | some z => place z 2 == 0
  | none => false
def letter (i : Nat) : ByteArray := if i % 2 = 0 then ⟨#[97]⟩ else ⟨#[63]⟩
/-- what has been built of the pattern -/
structure Built (l : List UInt8) (i : Nat) (any : Bool) : Prop where
  ok : ∀ c ∈ l, okByte c
  need : need l = i
  any : l.contains 42 = any
  mark : l.contains 63 = decide (1 < i)
theorem Built.nil : Built [] 0 false := ⟨fun _ hc => absurd hc List.not_mem_nil, rfl, rfl, rfl⟩
theorem Built.star {l : List UInt8} {i : Nat} {any : Bool} (h : Built l i any) : Built (l ++ [42]) i true := by
  refine ⟨?_, ?_, ?_, ?_⟩
  · intro c hc
    rcases List.mem_append.1 hc with hc | hc
    · exact h.ok c hc
    · rw [List.mem_singleton.1 hc]; exact .inl rfl
  · rw [← h.need]; simp [Gstars.need]
  · simp
  · rw [← h.mark, Bool.eq_iff_iff]; simp
theorem Built.letter {l : List UInt8} {i : Nat} {any : Bool} (h : Built l i any) : Built (l ++ (letter i).data.toList) (i + 1) any := by
  by_cases hi : i % 2 = 0
  · have e : (GlobStars.letter i).data.toList = [97] := by rw [GlobStars.letter, if_pos hi]
    rw [e]
    refine ⟨?_, ?_, ?_, ?_⟩
    · intro c hc
      rcases List.mem_append.1 hc with hc | hc
      · exact h.ok c hc
      · rw [List.mem_singleton.1 hc]; exact .inr (.inr rfl)
    · rw [← h.need]; simp [Gstars.need]
    · rw [← h.any, Bool.eq_iff_iff]; simp
    · have e2 : (l ++ [97]).contains 63 = l.contains 63 := by rw [Bool.eq_iff_iff]; simp
      rw [e2, h.mark, Bool.eq_iff_iff]
      simp; omega
  · have e : (GlobStars.letter i).data.toList = [63] := by rw [GlobStars.letter, if_neg hi]
    rw [e]
    refine ⟨?_, ?_, ?_, ?_⟩
    · intro c hc
      rcases List.mem_append.1 hc with hc | hc
      · exact h.ok c hc
      · rw [List.mem_singleton.1 hc]; exact .inr (.inl rfl)
    · rw [← h.need]; simp [Gstars.need]
    · rw [← h.any, Bool.eq_iff_iff]; simp
    · have e2 : (l ++ [63]).contains 63 = true := by simp
      rw [e2]; simp; omega
def rep (k : Nat) : ByteArray := bs (List.replicate k 97)
theorem rep_size (k : Nat) : (rep k).size = k := by rw [rep, size_bs, List.length_replicate]
theorem rep_succ (k : Nat) : rep k ++ (⟨#[97]⟩ : ByteArray) = rep (k + 1) := by
  show bs _ ++ bs [97] = _
  rw [bs_app, rep]
  exact congrArg bs (List.replicate_succ' (n := k) (a := (97 : UInt8))).symm
theorem match_built {p : ByteArray} {k n : Nat} {any : Bool} (h : Built p.data.toList k any) : matchL p.data.toList (rep n).data.toList = (n == k || (decide (k < n) && any)) := by
  have hb : barred p.data.toList (rep n).data.toList = false := by
    have : begins [46] (rep n).data.toList = false := by
      rw [rep, bs_data]
      cases n <;> rfl
    rw [barred, this]; rfl
  rw [matchL, hb, pieces_plain _ (ok_simple h.ok)]
  show fitL _ (List.replicate n 97) = _
  rw [fit_count _ h.ok n, h.need, h.any]
theorem magic_built {p : ByteArray} {k : Nat} {any : Bool} (h : Built p.data.toList k any) : magicL p.data.toList = (any || decide (1 < k)) := by
  rw [magicL, pieces_plain _ (ok_simple h.ok), magic_count _ h.ok, h.any, h.mark]
theorem app_star {p : ByteArray} {i : Nat} {any : Bool} (h : Built p.data.toList i any) : Built (p ++ (⟨#[42]⟩ : ByteArray)).data.toList i true := by
  rw [app_data]; exact h.star
theorem app_letter {p : ByteArray} {i : Nat} {any : Bool} (h : Built p.data.toList i any) : Built (p ++ letter i).data.toList (i + 1) any := by
  rw [app_data]; exact h.letter
theorem size_app (a b : ByteArray) : (a ++ b).size = a.size + b.size := ByteArray.size_append
theorem letter_size (i : Nat) : (letter i).size = 1 := by unfold letter; split <;> rfl

theorem get_int {w : World} {A : Option Addr} {n c k : Nat} {zs : List Int} (h : IntIs w A n c zs) (hk : k < n) : ∃ b o z, A = some ⟨b, o, none⟩ ∧ (Lit.int .i64 z).wf = true ∧ zs[k]? = some z ∧ w.cell? ⟨b, o + k, none⟩ = some (.int .i64 z) := by
  have hl : k < zs.length := by have := h.1; omega
  rcases h.2.2.2 with h0 | ⟨b, o, rfl, hb, hc⟩
  · rw [h0] at hl; exact absurd hl (Nat.not_lt_zero _)
  · exact ⟨b, o, zs[k], rfl, h.2.2.1 _ (List.getElem_mem hl), List.getElem?_eq_getElem hl, hc k _ (List.getElem?_eq_getElem hl)⟩
theorem star_some {zs : List Int} {k : Nat} {z : Int} (h : zs[k]? = some z) : (((place z 2 : Nat) : Int) == 0) = starAt zs k := by
  rw [starAt, h]
  show _ = (place z 2 == 0)
  rw [Bool.eq_iff_iff, beq_iff_eq, beq_iff_eq]
  omega
theorem star_none {w : World} {A : Option Addr} {n c k : Nat} {zs : List Int} (h : IntIs w A n c zs) (hk : ¬ k < n) : starAt zs k = false := by
  have : zs[k]? = none := List.getElem?_eq_none (by have := h.1; omega)
  rw [starAt, this]
theorem index_letter (i : Nat) (W : World) : (Instr.index 33 (.agg #[.string ⟨#[97]⟩, .string ⟨#[63]⟩]) (.int .i64 ((i : Int) % 2))).run Try.prog W = .ok (.string (letter i)) W := by
  unfold letter
  split
  · rename_i h
    rw [show ((i : Int) % 2) = 0 by omega]
    kernel_rfl
  · rename_i h
    rw [show ((i : Int) % 2) = 1 by omega]
    kernel_rfl

set_option maxRecDepth 100000 in
set_option maxHeartbeats 4000000 in
theorem walk (a0 a1 : Int) (A : Option Addr) (n c : Nat) (zs : List Int) (w : World) (h0 : (Lit.int .i64 a0).wf = true) (h1 : (Lit.int .i64 a1).wf = true) (hl : IntIs w A n c zs) (_hm : n ≤ maxLen) :
    Calls Try.prog 5 #[.int .i64 a0, .int .i64 a1, .slice A n c] w fun e W' => e = .returned (.bool true) ∧ Below w.heap.size w W' := by
  unfold maxLen at _hm
  have hk := place_lt a0 15 (by omega)
  have hn := place_lt a1 20 (by omega)
  have HK := Lib.hid (fun W => place_is a0 15 W (by omega) (by omega) h0)
  have HN := Lib.hid (fun W => place_is a1 20 W (by omega) (by omega) h1)
  clear h0 h1
  generalize place a0 15 = k at hk HK
  generalize place a1 20 = m at hn HN
  have hix := index_letter
  go_enter Try.func5, Try.ntmps5
  go_wp2_with fail
  refine (HK.out _).mono ?_
  rintro e w' ⟨rfl, rfl⟩
  go_wp2_with fail
  refine (HN.out _).mono ?_
  rintro e w' ⟨rfl, rfl⟩
  clear HK HN
  go_wp2_with fail
  go_loopg [9, 11, 12] (k + 1) (fun g s9 s11 s12 wx => ∃ (i : Nat) (p : ByteArray) (any : Bool), s9 = .string p ∧ s11 = .bool any ∧ s12 = .int .i64 i ∧ i ≤ k ∧ k - i < g ∧ p.size ≤ 2 * i ∧ w = wx ∧ Hid (Built p.data.toList i any))
  case atStart => exact ⟨0, ⟨#[]⟩, false, rfl, rfl, rfl, Nat.zero_le _, by omega, Nat.le_refl _, rfl, Built.nil⟩
  case round =>
    obtain ⟨i, p, any, rfl, rfl, rfl, hik, hg, hps, rfl, H⟩ := hrel
    obtain ⟨g, rfl⟩ : ∃ g, gk = g + 1 := ⟨gk - 1, by omega⟩
    by_cases hlt : i < k
    · go_upto_region 6 with fail
      go_cut [34] (fun b wx => b = .bool (starAt zs i) ∧ w = wx)
      case first =>
        by_cases hin : i < n
        · obtain ⟨b, o, z, rfl, hz, hzs, hc⟩ := get_int hl hin
          have HP := Lib.hid (fun W => place_is z 2 W (by omega) (by omega) hz)
          have HE := Lib.hid (star_some hzs)
          clear hzs hz
          generalize place z 2 = q at HP HE
          go_wp2_with fail
          refine (HP.out _).mono ?_
          rintro e w' ⟨rfl, rfl⟩
          go_wp2_with fail
          go_meet
          exact ⟨by rw [← HE.out], rfl⟩
        · have HE := Lib.hid (star_none hl hin)
          go_wp2_with fail
          go_meet
          exact ⟨by rw [HE.out], rfl⟩
      case rest =>
        obtain ⟨rfl, rfl⟩ := hcut
        have z1 := letter_size i
        have z2 : (⟨#[42]⟩ : ByteArray).size ≤ 1 := Nat.le_refl _
        have zl : (letter i).size ≤ 1 := by omega
        cases starAt zs i with
        | false =>
          have HA := Lib.hid (app_letter H.out)
          have hz := size_app p (letter i)
          go_wp2_with fail
          go_roundg g
          case measure => omega
          case rel => exact ⟨i + 1, p ++ letter i, any, rfl, rfl, by go_num, by omega, by omega, by omega, rfl, HA.out⟩
        | true =>
          have HA := Lib.hid (app_letter (app_star H.out))
          have hz := size_app (p ++ (⟨#[42]⟩ : ByteArray)) (letter i)
          have hz2 := size_app p (⟨#[42]⟩ : ByteArray)
          have hz3 : (p ++ (⟨#[42]⟩ : ByteArray)).size ≤ 31 := by omega
          go_wp2_with fail
          go_roundg g
          case measure => omega
          case rel => exact ⟨i + 1, p ++ (⟨#[42]⟩ : ByteArray) ++ letter i, true, rfl, rfl, by go_num, by omega, by omega, by omega, rfl, HA.out⟩
    · have hik2 : i = k := by omega
      have H := Lib.hid (hik2 ▸ H.out)
      clear hik2
      go_upto_region 9 with fail
      go_cut [54] (fun b wx => b = .bool (starAt zs k) ∧ w = wx)
      case first =>
        by_cases hin : k < n
        · obtain ⟨b, o, z, rfl, hz, hzs, hc⟩ := get_int hl hin
          have HP := Lib.hid (fun W => place_is z 2 W (by omega) (by omega) hz)
          have HE := Lib.hid (star_some hzs)
          clear hzs hz
          generalize place z 2 = q at HP HE
          go_wp2_with fail
          refine (HP.out _).mono ?_
          rintro e w' ⟨rfl, rfl⟩
          go_wp2_with fail
          go_meet
          exact ⟨by rw [← HE.out], rfl⟩
        · have HE := Lib.hid (star_none hl hin)
          go_wp2_with fail
          go_meet
          exact ⟨by rw [HE.out], rfl⟩
      case rest =>
        obtain ⟨rfl, rfl⟩ := hcut
        go_upto_if 54 with fail
        go_cut [9, 11] (fun s9 s11 wx => ∃ (p : ByteArray) (any : Bool), s9 = .string p ∧ s11 = .bool any ∧ p.size ≤ 31 ∧ w = wx ∧ Hid (Built p.data.toList k any))
        case first =>
          cases starAt zs k with
          | false =>
            go_wp2_with fail
            go_meet
            exact ⟨p, any, rfl, rfl, by omega, rfl, H.out⟩
          | true =>
            have z2 : (⟨#[42]⟩ : ByteArray).size ≤ 1 := Nat.le_refl _
            have hz2 := size_app p (⟨#[42]⟩ : ByteArray)
            have HA := Lib.hid (app_star H.out)
            go_wp2_with fail
            go_meet
            exact ⟨p ++ (⟨#[42]⟩ : ByteArray), true, rfl, rfl, by omega, rfl, HA.out⟩
        case rest =>
          clear H hps
          obtain ⟨p, any, rfl, rfl, hps, rfl, H⟩ := hcut
          have z2 : (⟨#[97]⟩ : ByteArray).size ≤ 1 := Nat.le_refl _
          go_wp2_with fail
          go_loopg [10, 13] (m + 1) (fun g s10 s13 wx => ∃ j : Nat, s10 = .string (rep j) ∧ s13 = .int .i64 j ∧ j ≤ m ∧ m - j < g ∧ w = wx)
          case atStart => exact ⟨0, rfl, rfl, Nat.zero_le _, by omega, rfl⟩
          case round =>
            obtain ⟨j, rfl, rfl, hjm, hg3, rfl⟩ := hrel
            obtain ⟨g3, rfl⟩ : ∃ g, gk = g + 1 := ⟨gk - 1, by omega⟩
            by_cases hlt2 : j < m
            · have zr : (rep j).size ≤ 20 := by rw [rep_size]; omega
              go_wp2_with fail
              go_roundg g3
              case measure => omega
              case rel => exact ⟨j + 1, by rw [rep_succ], by go_num, by omega, by omega, rfl⟩
            · obtain rfl : j = m := by omega
              rcases Nat.lt_trichotomy j k with hcmp | hcmp | hcmp
              · have hv : ¬ j = k := by omega
                have hv2 : ¬ k < j := by omega
                cases any with
                | true =>
                  by_cases h1k : 1 < k
                  · go_wp2_with fail
                    refine (m_lit p (rep j) false _ (by omega) (by rw [rep_size]; omega) ((match_built H.out).trans (by simp [hv, hv2]))).mono ?_
                    rintro e w1 ⟨rfl, hb⟩
                    have B1 := Lib.hid hb
                    clear hb
                    go_wp2_with fail
                    refine (g_lit p true _ (by omega) ((magic_built H.out).trans (by simp))).mono ?_
                    rintro e w2 ⟨rfl, hb⟩
                    have B2 := Lib.hid (B1.out.trans (hb.mono B1.out.size))
                    clear hb
                    go_wp2_with fail
                    refine (awake_is _).mono ?_
                    rintro e w3 ⟨rfl, hb⟩
                    have B3 := Lib.hid (B2.out.trans (hb.mono B2.out.size))
                    clear hb
                    go_wp2
                    go_ret
                    exact ⟨by first | rfl | exact ret_bool (by simp; omega), B3.out⟩
                  · go_wp2_with fail
                    refine (m_lit p (rep j) false _ (by omega) (by rw [rep_size]; omega) ((match_built H.out).trans (by simp [hv, hv2]))).mono ?_
                    rintro e w1 ⟨rfl, hb⟩
                    have B1 := Lib.hid hb
                    clear hb
                    go_wp2_with fail
                    refine (g_lit p true _ (by omega) ((magic_built H.out).trans (by simp))).mono ?_
                    rintro e w2 ⟨rfl, hb⟩
                    have B2 := Lib.hid (B1.out.trans (hb.mono B1.out.size))
                    clear hb
                    go_wp2_with fail
                    refine (awake_is _).mono ?_
                    rintro e w3 ⟨rfl, hb⟩
                    have B3 := Lib.hid (B2.out.trans (hb.mono B2.out.size))
                    clear hb
                    go_wp2
                    go_ret
                    exact ⟨by first | rfl | exact ret_bool (by simp; omega), B3.out⟩
                | false =>
                  by_cases h1k : 1 < k
                  · go_wp2_with fail
                    refine (m_lit p (rep j) false _ (by omega) (by rw [rep_size]; omega) ((match_built H.out).trans (by simp [hv, hv2]))).mono ?_
                    rintro e w1 ⟨rfl, hb⟩
                    have B1 := Lib.hid hb
                    clear hb
                    go_wp2_with fail
                    refine (g_lit p true _ (by omega) ((magic_built H.out).trans (by simp [h1k]))).mono ?_
                    rintro e w2 ⟨rfl, hb⟩
                    have B2 := Lib.hid (B1.out.trans (hb.mono B1.out.size))
                    clear hb
                    go_wp2_with fail
                    refine (awake_is _).mono ?_
                    rintro e w3 ⟨rfl, hb⟩
                    have B3 := Lib.hid (B2.out.trans (hb.mono B2.out.size))
                    clear hb
                    go_wp2
                    go_ret
                    exact ⟨by first | rfl | exact ret_bool (by simp; omega), B3.out⟩
                  · go_wp2_with fail
                    refine (m_lit p (rep j) false _ (by omega) (by rw [rep_size]; omega) ((match_built H.out).trans (by simp [hv, hv2]))).mono ?_
                    rintro e w1 ⟨rfl, hb⟩
                    have B1 := Lib.hid hb
                    clear hb
                    go_wp2_with fail
                    refine (g_lit p false _ (by omega) ((magic_built H.out).trans (by simp [h1k]))).mono ?_
                    rintro e w2 ⟨rfl, hb⟩
                    have B2 := Lib.hid (B1.out.trans (hb.mono B1.out.size))
                    clear hb
                    go_wp2_with fail
                    refine (awake_is _).mono ?_
                    rintro e w3 ⟨rfl, hb⟩
                    have B3 := Lib.hid (B2.out.trans (hb.mono B2.out.size))
                    clear hb
                    go_wp2
                    go_ret
                    exact ⟨by first | rfl | exact ret_bool (by simp; omega), B3.out⟩
              · obtain rfl := hcmp
                cases any with
                | true =>
                  by_cases h1k : 1 < j
                  · go_wp2_with fail
                    refine (m_lit p (rep j) true _ (by omega) (by rw [rep_size]; omega) ((match_built H.out).trans (by simp))).mono ?_
                    rintro e w1 ⟨rfl, hb⟩
                    have B1 := Lib.hid hb
                    clear hb
                    go_wp2_with fail
                    refine (g_lit p true _ (by omega) ((magic_built H.out).trans (by simp))).mono ?_
                    rintro e w2 ⟨rfl, hb⟩
                    have B2 := Lib.hid (B1.out.trans (hb.mono B1.out.size))
                    clear hb
                    go_wp2_with fail
                    refine (awake_is _).mono ?_
                    rintro e w3 ⟨rfl, hb⟩
                    have B3 := Lib.hid (B2.out.trans (hb.mono B2.out.size))
                    clear hb
                    go_wp2
                    go_ret
                    exact ⟨by first | rfl | exact ret_bool (by simp; omega), B3.out⟩
                  · go_wp2_with fail
                    refine (m_lit p (rep j) true _ (by omega) (by rw [rep_size]; omega) ((match_built H.out).trans (by simp))).mono ?_
                    rintro e w1 ⟨rfl, hb⟩
                    have B1 := Lib.hid hb
                    clear hb
                    go_wp2_with fail
                    refine (g_lit p true _ (by omega) ((magic_built H.out).trans (by simp))).mono ?_
                    rintro e w2 ⟨rfl, hb⟩
                    have B2 := Lib.hid (B1.out.trans (hb.mono B1.out.size))
                    clear hb
                    go_wp2_with fail
                    refine (awake_is _).mono ?_
                    rintro e w3 ⟨rfl, hb⟩
                    have B3 := Lib.hid (B2.out.trans (hb.mono B2.out.size))
                    clear hb
                    go_wp2
                    go_ret
                    exact ⟨by first | rfl | exact ret_bool (by simp; omega), B3.out⟩
                | false =>
                  by_cases h1k : 1 < j
                  · go_wp2_with fail
                    refine (m_lit p (rep j) true _ (by omega) (by rw [rep_size]; omega) ((match_built H.out).trans (by simp))).mono ?_
                    rintro e w1 ⟨rfl, hb⟩
                    have B1 := Lib.hid hb
                    clear hb
                    go_wp2_with fail
                    refine (g_lit p true _ (by omega) ((magic_built H.out).trans (by simp [h1k]))).mono ?_
                    rintro e w2 ⟨rfl, hb⟩
                    have B2 := Lib.hid (B1.out.trans (hb.mono B1.out.size))
                    clear hb
                    go_wp2_with fail
                    refine (awake_is _).mono ?_
                    rintro e w3 ⟨rfl, hb⟩
                    have B3 := Lib.hid (B2.out.trans (hb.mono B2.out.size))
                    clear hb
                    go_wp2
                    go_ret
                    exact ⟨by first | rfl | exact ret_bool (by simp; omega), B3.out⟩
                  · go_wp2_with fail
                    refine (m_lit p (rep j) true _ (by omega) (by rw [rep_size]; omega) ((match_built H.out).trans (by simp))).mono ?_
                    rintro e w1 ⟨rfl, hb⟩
                    have B1 := Lib.hid hb
                    clear hb
                    go_wp2_with fail
                    refine (g_lit p false _ (by omega) ((magic_built H.out).trans (by simp [h1k]))).mono ?_
                    rintro e w2 ⟨rfl, hb⟩
                    have B2 := Lib.hid (B1.out.trans (hb.mono B1.out.size))
                    clear hb
                    go_wp2_with fail
                    refine (awake_is _).mono ?_
                    rintro e w3 ⟨rfl, hb⟩
                    have B3 := Lib.hid (B2.out.trans (hb.mono B2.out.size))
                    clear hb
                    go_wp2
                    go_ret
                    exact ⟨by first | rfl | exact ret_bool (by simp; omega), B3.out⟩
              · have hv : ¬ j = k := by omega
                have hv2 : k < j := by omega
                cases any with
                | true =>
                  by_cases h1k : 1 < k
                  · go_wp2_with fail
                    refine (m_lit p (rep j) true _ (by omega) (by rw [rep_size]; omega) ((match_built H.out).trans (by simp [hv2]))).mono ?_
                    rintro e w1 ⟨rfl, hb⟩
                    have B1 := Lib.hid hb
                    clear hb
                    go_wp2_with fail
                    refine (g_lit p true _ (by omega) ((magic_built H.out).trans (by simp))).mono ?_
                    rintro e w2 ⟨rfl, hb⟩
                    have B2 := Lib.hid (B1.out.trans (hb.mono B1.out.size))
                    clear hb
                    go_wp2_with fail
                    refine (awake_is _).mono ?_
                    rintro e w3 ⟨rfl, hb⟩
                    have B3 := Lib.hid (B2.out.trans (hb.mono B2.out.size))
                    clear hb
                    go_wp2
                    go_ret
                    exact ⟨by first | rfl | exact ret_bool (by simp; omega), B3.out⟩
                  · go_wp2_with fail
                    refine (m_lit p (rep j) true _ (by omega) (by rw [rep_size]; omega) ((match_built H.out).trans (by simp [hv2]))).mono ?_
                    rintro e w1 ⟨rfl, hb⟩
                    have B1 := Lib.hid hb
                    clear hb
                    go_wp2_with fail
                    refine (g_lit p true _ (by omega) ((magic_built H.out).trans (by simp))).mono ?_
                    rintro e w2 ⟨rfl, hb⟩
                    have B2 := Lib.hid (B1.out.trans (hb.mono B1.out.size))
                    clear hb
                    go_wp2_with fail
                    refine (awake_is _).mono ?_
                    rintro e w3 ⟨rfl, hb⟩
                    have B3 := Lib.hid (B2.out.trans (hb.mono B2.out.size))
                    clear hb
                    go_wp2
                    go_ret
                    exact ⟨by first | rfl | exact ret_bool (by simp; omega), B3.out⟩
                | false =>
                  by_cases h1k : 1 < k
                  · go_wp2_with fail
                    refine (m_lit p (rep j) false _ (by omega) (by rw [rep_size]; omega) ((match_built H.out).trans (by simp [hv, hv2]))).mono ?_
                    rintro e w1 ⟨rfl, hb⟩
                    have B1 := Lib.hid hb
                    clear hb
                    go_wp2_with fail
                    refine (g_lit p true _ (by omega) ((magic_built H.out).trans (by simp [h1k]))).mono ?_
                    rintro e w2 ⟨rfl, hb⟩
                    have B2 := Lib.hid (B1.out.trans (hb.mono B1.out.size))
                    clear hb
                    go_wp2_with fail
                    refine (awake_is _).mono ?_
                    rintro e w3 ⟨rfl, hb⟩
                    have B3 := Lib.hid (B2.out.trans (hb.mono B2.out.size))
                    clear hb
                    go_wp2
                    go_ret
                    exact ⟨by first | rfl | exact ret_bool (by simp; omega), B3.out⟩
                  · go_wp2_with fail
                    refine (m_lit p (rep j) false _ (by omega) (by rw [rep_size]; omega) ((match_built H.out).trans (by simp [hv, hv2]))).mono ?_
                    rintro e w1 ⟨rfl, hb⟩
                    have B1 := Lib.hid hb
                    clear hb
                    go_wp2_with fail
                    refine (g_lit p false _ (by omega) ((magic_built H.out).trans (by simp [h1k]))).mono ?_
                    rintro e w2 ⟨rfl, hb⟩
                    have B2 := Lib.hid (B1.out.trans (hb.mono B1.out.size))
                    clear hb
                    go_wp2_with fail
                    refine (awake_is _).mono ?_
                    rintro e w3 ⟨rfl, hb⟩
                    have B3 := Lib.hid (B2.out.trans (hb.mono B2.out.size))
                    clear hb
                    go_wp2
                    go_ret
                    exact ⟨by first | rfl | exact ret_bool (by simp; omega), B3.out⟩
end Go.Proofs.Ytegagjclkmomcaa.GlobStars
