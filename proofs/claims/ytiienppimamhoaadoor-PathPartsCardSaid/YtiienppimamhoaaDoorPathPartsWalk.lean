/- The walk of the law PathParts: for all lists of numbers the law answers true. -/
import Derived.Test.YtiienppimamhoaaDoorPpart
namespace Go.Proofs.YtiienppimamhoaaDoor.PathParts
open Go.RowKit Go.Proofs.YtiienppimamhoaaDoor.Pth Go.Proofs.YtiienppimamhoaaDoor.Pfn Go.Proofs.YtiienppimamhoaaDoor.Pabs Go.Proofs.YtiienppimamhoaaDoor.Prabs Go.Proofs.YtiienppimamhoaaDoor.Pawake Go.Proofs.YtiienppimamhoaaDoor.Nums
open Go.Proofs.YtiienppimamhoaaDoor.Place (place place_lt place_is)

set_option maxRecDepth 100000 in
set_option maxHeartbeats 8000000 in
theorem walk (A : Option Addr) (n c : Nat) (zs : List Int) (lead last : Bool) (w : World) (hl : IntIs w A n c zs) (_hm : n ≤ maxLen) :
    Calls Tryd.prog 4 #[.slice A n c, .bool lead, .bool last] w fun e W' => e = .returned (.bool true) ∧ Below w.heap.size w W' := by
  unfold maxLen at _hm
  obtain ⟨i0, hi, hz0, hz1, hz2⟩ := info_parts infoString
  have HL := Lib.hid hl
  clear hl
  go_enter Tryd.func4, Tryd.ntmps4
  go_wp2
  go_loopw [7, 8, 9] (fun s v i wr => ∃ (k : Nat) (ps xs : List (List UInt8)), k ≤ n ∧ k ≤ 20 ∧ ps.length = k ∧ xs.length ≤ k ∧ (textL lead ps).length ≤ 6 * k ∧ s = .string (bs (textL lead ps)) ∧ i = .int .i64 k ∧ wr.ownsRow w.heap.size 9 1 v xs.length (cs xs) ∧ Hid (Below w.heap.size w wr) ∧ Hid ((∀ p ∈ ps, 47 ∉ p) ∧ pileL [] ps = xs))
    (fun _ _ i _ => n - (intOf i).toNat)
  case atStart => exact ⟨0, [], [], Nat.zero_le _, Nat.zero_le _, rfl, Nat.le_refl _, by cases lead <;> exact Nat.le_refl _, by cases lead <;> rfl, rfl, World.ownsRow_nil _ _ _ _, Below.refl _ _, fun _ h => absurd h List.not_mem_nil, rfl⟩
  case round =>
    obtain ⟨k, ps, xs, hkn, hk20, hpl, hxl, htl, rfl, rfl, hown, HB, HP⟩ := hrel
    have hBs := HB.out.size
    go_upto_region 3 with fail
    go_cut [21] (fun v wx => v = .bool (decide (k < n ∧ k < 20)) ∧ wr = wx)
    case first =>
      clear hown
      by_cases h1 : k < n
      · by_cases h2 : k < 20
        · have HE : Hid (decide (k < n ∧ k < 20) = true) := decide_eq_true ⟨h1, h2⟩
          go_wp2_with fail
          go_meet
          exact ⟨by rw [HE.out]; exact congrArg Value.bool (decide_eq_true (by omega)), rfl⟩
        · have HE : Hid (decide (k < n ∧ k < 20) = false) := decide_eq_false fun h => h2 h.2
          go_wp2_with fail
          go_meet
          exact ⟨by rw [HE.out]; exact congrArg Value.bool (decide_eq_false (by omega)), rfl⟩
      · have HE : Hid (decide (k < n ∧ k < 20) = false) := decide_eq_false fun h => h1 h.1
        go_wp2_with fail
        go_meet
        exact ⟨by rw [HE.out], rfl⟩
    case rest =>
      obtain ⟨rfl, rfl⟩ := hcut
      by_cases hgo : k < n ∧ k < 20
      · rw [decide_eq_true hgo]
        obtain ⟨hlt, hlt2⟩ := hgo
        obtain ⟨b, o, z, rfl, hz, hcell⟩ := HL.out.at_ hlt
        have hc := hcell wr HB.out
        have hq := place_lt z 7 (by omega)
        have HPl := Lib.hid (fun W => place_is z 7 W (by omega) (by omega) hz)
        have hix := index_part (place z 7) hq
        have hgood := Lib.hid (part_good (place z 7) hq)
        have hle := part_len (place z 7) hq
        clear hcell hz hq
        generalize place z 7 = q at HPl hix hgood hle
        generalize partAt q = p at hix hgood hle
        have HO := Lib.hid hown
        clear hown
        go_wp2_with fail
        refine (HPl.out _).mono ?_
        rintro e w' ⟨rfl, rfl⟩
        clear HPl
        go_upto_region 6 with fail
        clear hix hc
        go_cut [35] (fun v wx => v = .bool (lead || decide (0 < ps.length)) ∧ wr = wx)
        case first =>
          by_cases h0 : 0 < k
          · have HE : Hid ((lead || decide (0 < ps.length)) = true) := by show _ = _; rw [decide_eq_true (by omega), Bool.or_true]
            go_wp2_with fail
            go_meet
            exact ⟨by rw [HE.out], rfl⟩
          · have HE : Hid ((lead || decide (0 < ps.length)) = lead) := by show _ = _; rw [decide_eq_false (by omega), Bool.or_false]
            go_wp2_with fail
            go_meet
            exact ⟨by rw [HE.out], rfl⟩
        case rest =>
          obtain ⟨rfl, rfl⟩ := hcut
          have zt : (bs (textL lead ps)).size ≤ 120 := by rw [size_bs]; omega
          have z1 : (⟨#[47]⟩ : ByteArray).size = 1 := rfl
          go_upto_if 35 with fail
          go_cut [7] (fun v wx => v = .string (bs (preL lead ps)) ∧ wr = wx)
          case first =>
            cases hbb : (lead || decide (0 < ps.length)) with
            | true =>
              have a1 : ∀ W, (Op.stringOp .add (bs (textL lead ps)) ⟨#[47]⟩).run Tryd.prog W = .ok (.string (bs (preL lead ps))) W := fun W => by rw [run_string_add_sum W _ _ (by omega), pre_true lead ps hbb]
              clear hbb
              generalize bs (textL lead ps) = s at *
              go_wp2_with fail
              go_meet
              exact ⟨rfl, rfl⟩
            | false =>
              have HE := Lib.hid (pre_false lead ps hbb)
              clear hbb
              go_wp2_with fail
              go_meet
              exact ⟨by rw [HE.out], rfl⟩
          case rest =>
            obtain ⟨rfl, rfl⟩ := hcut
            have zq : (bs (preL lead ps)).size ≤ 121 := by rw [size_bs]; have := pre_len lead ps; omega
            have zp : (bs p).size ≤ 5 := by rw [size_bs]; exact hle
            have a1 : ∀ W, (Op.stringOp .add (bs (preL lead ps)) (bs p)).run Tryd.prog W = .ok (.string (bs (textL lead (ps ++ [p])))) W := fun W => by rw [run_string_add_sum W _ _ (by omega), pre_text]
            have hle2 := text_len lead ps p
            have HP2 : Hid ((∀ q ∈ ps ++ [p], 47 ∉ q) ∧ pileL [] (ps ++ [p]) = stepL xs p) := ⟨fun q hq => (List.mem_append.1 hq).elim (HP.out.1 q) (fun h => by rw [List.mem_singleton.1 h]; exact hgood.out), by rw [pileL_snoc, HP.out.2]⟩
            have hpl2 : (ps ++ [p]).length = k + 1 := by rw [List.length_append, hpl]; rfl
            clear HP hgood zt z1
            have b0 := bool_of p []
            have b1 := bool_of p [46]
            have b2 := bool_of p [46, 46]
            have hown := HO.out
            clear HO
            generalize bs (preL lead ps) = u at *
            by_cases h2 : p = [46, 46]
            · have HS : Hid ((∀ q ∈ ps ++ [p], 47 ∉ q) ∧ pileL [] (ps ++ [p]) = xs.take (xs.length - 1)) := ⟨HP2.out.1, by rw [HP2.out.2, h2, stepL_up]⟩
              rw [decide_eq_true h2] at b2
              clear b0 b1 HP2 h2
              generalize bs p = t at *
              rcases own_cases hown with ⟨rfl, rfl⟩ | ⟨g3, c3, rfl, hgc, hg0, hg1⟩
              · clear hown
                go_wp2_with (at_builtin; refine wpList_append_own_none rfl _ _ 26 rfl w.heap.size 9 i0 1 Tryd.underlying26 hi _ _ _ rfl (World.ownsRow_nil _ _ _ _) rfl ?_)
                go_roundw
                case rel => exact ⟨k + 1, ps ++ [p], [], by omega, by omega, hpl2, Nat.zero_le _, by omega, rfl, by go_num, World.ownsRow_nil _ _ _ _, HB, HS⟩
                case measure => simp [intOf]; omega
              · go_wp2_with (at_builtin; refine wpList_append_own _ rfl _ _ 26 rfl w.heap.size 9 i0 (.string .empty) 1 16 Tryd.underlying26 hi hz0 hz1 hz2 rfl (by decide) _ _ _ rfl (World.ownsRow_nil _ _ _ _) ⟨g3, 0, none⟩ _ _ (cs (xs.take (xs.length - 1))) rfl (by rw [cs_len, List.length_take]; omega) (take_cells hown _) cs_one (by unfold maxLen; omega) (by omega) hBs ?_; intro v' w2 hown' hgrow _; have HO := Lib.hid hown'; have HG := Lib.hid (below_append0 HB.out hBs (World.ownsRow_nil wr w.heap.size 9 1) hgrow); clear hown' hgrow)
                go_roundw
                case rel => exact ⟨k + 1, ps ++ [p], xs.take (xs.length - 1), by omega, by omega, hpl2, by rw [List.length_take]; omega, by omega, rfl, by go_num, by rw [show (xs.take (xs.length - 1)).length = 0 + (max ((xs.length : Int) - 1) 0).toNat by rw [List.length_take]; omega]; exact HO.out, HG, HS⟩
                case measure => simp [intOf]; omega
            · rw [decide_eq_false h2] at b2
              by_cases h1 : p = [] ∨ p = [46]
              · have HS : Hid ((∀ q ∈ ps ++ [p], 47 ∉ q) ∧ pileL [] (ps ++ [p]) = xs) := ⟨HP2.out.1, by rw [HP2.out.2, stepL_none _ _ h1]⟩
                have HO := Lib.hid hown
                clear HP2 hown
                by_cases h3 : p = [46]
                · rw [decide_eq_true h3] at b1
                  clear b0 h1 h2 h3
                  generalize bs p = t at *
                  go_wp2
                  go_roundw
                  case rel => exact ⟨k + 1, ps ++ [p], xs, by omega, by omega, hpl2, by omega, by omega, rfl, by go_num, HO.out, HB, HS⟩
                  case measure => simp [intOf]; omega
                · rw [decide_eq_false h3] at b1
                  rw [decide_eq_true (h1.resolve_right h3)] at b0
                  clear h1 h2 h3
                  generalize bs p = t at *
                  go_wp2
                  go_roundw
                  case rel => exact ⟨k + 1, ps ++ [p], xs, by omega, by omega, hpl2, by omega, by omega, rfl, by go_num, HO.out, HB, HS⟩
                  case measure => simp [intOf]; omega
              · have h3 : ¬ p = [46] := fun e => h1 (.inr e)
                have h4 : ¬ p = [] := fun e => h1 (.inl e)
                have HS : Hid ((∀ q ∈ ps ++ [p], 47 ∉ q) ∧ pileL [] (ps ++ [p]) = xs ++ [p]) := ⟨HP2.out.1, by rw [HP2.out.2, stepL_put _ _ h4 h3 h2]⟩
                have HT : Hid (cs xs ++ [.string (bs p)] = cs (xs ++ [p])) := by show cs xs ++ cs [p] = cs (xs ++ [p]); exact (cs_app _ _).symm
                rw [decide_eq_false h3] at b1
                rw [decide_eq_false h4] at b0
                clear HP2 h1 h2 h3 h4
                generalize bs p = t at *
                rcases own_cases hown with ⟨rfl, rfl⟩ | ⟨g3, c3, rfl, hgc, hg0, hg1⟩
                · clear hown
                  have hfirst : True := trivial
                  go_wp2_with (first
                    | (at_builtin; refine wpList_append_own_none rfl _ _ 26 rfl w.heap.size 9 i0 1 Tryd.underlying26 hi _ _ _ rfl (World.ownsRow_nil _ _ _ _) rfl ?_)
                    | (at_builtin; refine wpList_append_own _ rfl _ _ 26 rfl w.heap.size 9 i0 (.string .empty) 1 16 Tryd.underlying26 hi hz0 hz1 hz2 rfl (by decide) _ _ _ rfl (World.ownsRow_nil _ _ _ _) ⟨wr.heap.size, 0, none⟩ 1 1 [.string t] rfl rfl (cell_one_new _ _ _) (by simp [Value.oneCell']) (by unfold maxLen; omega) (by omega) (by simp; omega) ?_; intro v' w2 hown' hgrow _; have HO := Lib.hid hown'; have HG := Lib.hid (below_append HB.out hBs (World.ownsRow_nil wr w.heap.size 9 1) hgrow); clear hown' hgrow))
                  go_roundw
                  case rel => exact ⟨k + 1, ps ++ [p], [] ++ [p], by omega, by omega, hpl2, by simp, by omega, rfl, by go_num, by rw [← HT.out]; exact HO.out, HG, HS⟩
                  case measure => simp [intOf]; omega
                · go_wp2_with (first
                    | (at_builtin; refine wpList_append_own _ rfl _ _ 26 rfl w.heap.size 9 i0 (.string .empty) 1 16 Tryd.underlying26 hi hz0 hz1 hz2 rfl (by decide) _ _ _ rfl (World.ownsRow_nil _ _ _ _) ⟨g3, 0, none⟩ _ _ (cs xs) rfl (by rw [cs_len, Nat.mul_one]) (own_cells hown) cs_one (by unfold maxLen; omega) (by omega) hBs ?_; intro v1 w2 hown1 hgrow _; have HG1 := Lib.hid (below_append0 HB.out hBs (World.ownsRow_nil wr w.heap.size 9 1) hgrow); have hBs2 := HG1.out.size; clear hown hgrow)
                    | (at_builtin; refine wpList_append_own _ rfl _ _ 26 rfl w.heap.size 9 i0 (.string .empty) 1 16 Tryd.underlying26 hi hz0 hz1 hz2 rfl (by decide) _ _ _ rfl (hown1.alloc _) ⟨w2.heap.size, 0, none⟩ 1 1 [.string t] rfl rfl (cell_one_new _ _ _) (by simp [Value.oneCell']) (by unfold maxLen; omega) (by omega) (by simp; omega) ?_; intro v2 w3 hown2 hgrow _; have HO := Lib.hid hown2; have HG := Lib.hid (below_append HG1.out hBs2 hown1 hgrow); clear hown2 hgrow))
                  go_roundw
                  case rel => exact ⟨k + 1, ps ++ [p], xs ++ [p], by omega, by omega, hpl2, by simp; omega, by omega, rfl, by go_num, by rw [← HT.out, show (xs ++ [p]).length = 0 + xs.length + 1 by simp]; exact HO.out, HG, HS⟩
                  case measure => simp [intOf]; omega
      · rw [decide_eq_false hgo]
        clear hgo HL
        have zt : (bs (textL lead ps)).size ≤ 120 := by rw [size_bs]; omega
        have z1 : (⟨#[47]⟩ : ByteArray).size = 1 := rfl
        have HO := Lib.hid hown
        clear hown
        go_upto_if 63 with fail
        go_cut [7] (fun v wx => v = .string (bs (wholeL lead last ps)) ∧ wr = wx)
        case first =>
          cases last with
          | true =>
            have a1 : ∀ W, (Op.stringOp .add (bs (textL lead ps)) ⟨#[47]⟩).run Tryd.prog W = .ok (.string (bs (wholeL lead true ps))) W := fun W => by rw [run_string_add_sum W _ _ (by omega), whole_true lead ps]
            generalize bs (textL lead ps) = s at *
            go_wp2_with fail
            go_meet
            exact ⟨rfl, rfl⟩
          | false =>
            have HE := Lib.hid (whole_false lead ps)
            go_wp2_with fail
            go_meet
            exact ⟨by rw [HE.out], rfl⟩
        case rest =>
          obtain ⟨rfl, rfl⟩ := hcut
          have hwl : (wholeL lead last ps).length ≤ 121 := by have := whole_len lead last ps; omega
          have HF := Lib.hid (facts_of (wholeL lead last ps) (by omega))
          have hfl := flat_small lead last ps HP.out.1 hwl
          have HT1 := Lib.hid (whole_slash lead last ps HP.out.1)
          have HT2 := Lib.hid (whole_flat lead last ps HP.out.1)
          rw [HP.out.2] at hfl HT1 HT2
          have hown := HO.out
          obtain ⟨A3, c3, rfl, hlc3, hA3⟩ := own_form hown
          have HC := Lib.hid hA3
          clear hown HO hA3 HP zt hwl
          generalize bs (wholeL lead last ps) = S at *
          generalize bs (absL (wholeL lead last ps)) = T at *
          go_wp2
          go_loopw [11, 12] (fun tv i wx => ∃ (j : Nat), j ≤ xs.length ∧ i = .int .i64 j ∧ tv = .string (bs (flatL (xs.take j))) ∧ wr = wx)
            (fun _ i _ => xs.length - (intOf i).toNat)
          case atStart => exact ⟨0, Nat.zero_le _, rfl, rfl, rfl⟩
          case round =>
            obtain ⟨j, hj, rfl, rfl, rfl⟩ := hrel
            have hft := flat_take_le xs j
            by_cases hjl : j < xs.length
            · obtain ⟨x, hxj⟩ : ∃ x, xs[j]? = some x := ⟨_, List.getElem?_eq_getElem hjl⟩
              obtain ⟨g3, rfl, hg3, hc3⟩ := HC.out j x hxj
              have HF2 := Lib.hid (flat_snoc xs j x hxj)
              have hfs := flat_take_le xs (j + 1)
              rw [HF2.out, List.length_append, List.length_cons] at hfs
              have HS2 := Lib.hid (sum2 (flatL (xs.take j)) x)
              have zt : (bs (flatL (xs.take j))).size ≤ 300 := by rw [size_bs]; omega
              have zx : (bs x).size ≤ 300 := by rw [size_bs]; omega
              rw [← HF2.out] at HS2
              clear HF2 hxj
              generalize bs (flatL (xs.take j)) = t at *
              generalize bs x = y at *
              have z2 : (t ++ (⟨#[47]⟩ : ByteArray)).size ≤ 301 := by rw [ByteArray.size_append]; omega
              have a1 : ∀ W, (Op.stringOp .add t ⟨#[47]⟩).run Tryd.prog W = .ok (.string (t ++ (⟨#[47]⟩ : ByteArray))) W := fun W => run_string_add_sum W _ _ (by omega)
              have a2 : ∀ W, (Op.stringOp .add (t ++ (⟨#[47]⟩ : ByteArray)) y).run Tryd.prog W = .ok (.string (bs (flatL (xs.take (j + 1))))) W := fun W => by rw [run_string_add_sum W _ _ (by omega), HS2.out]
              go_wp2
              go_roundw
              case rel => exact ⟨j + 1, by omega, by go_num, rfl, by first | rfl | trivial⟩
              case measure => simp [intOf]; omega
            · have hjj : j = xs.length := by omega
              subst hjj
              rw [List.take_length] at hft ⊢
              clear hjl HC hft
              have D1 := Lib.hid (fun W => dir_is S W (by have := HF.out.small; omega))
              have D2 := Lib.hid (fun W => notdir_is S W (by have := HF.out.small; omega))
              have D3 := Lib.hid (fun W => suffix_is S W (by have := HF.out.small; omega))
              have D4 := Lib.hid (fun W => base_is S W (by have := HF.out.small; omega))
              have zS := HF.out.small
              have zN : (notdirB S).size ≤ 200 := by rw [notdirB_size]; omega
              have zF : (sufB S).size ≤ 200 := by have := sufB_size S; omega
              have zB : (baseB S).size ≤ 200 := by rw [baseB, ByteArray.size_extract]; omega
              have zD : (S.extract 0 (wayB S)).size ≤ 200 := by rw [ByteArray.size_extract]; omega
              have a1 : ∀ W, (Op.stringOp .add (S.extract 0 (wayB S)) (notdirB S)).run Tryd.prog W = .ok (.string S) W := fun W => by rw [run_string_add_sum W _ _ (by omega), way_whole]
              have a2 : ∀ W, (Op.stringOp .add (baseB S) (sufB S)).run Tryd.prog W = .ok (.string S) W := fun W => by rw [run_string_add_sum W _ _ (by omega), base_suffix]
              have K1 := Lib.hid (dir_none S)
              have K2 := Lib.hid (dir_some S)
              have K3 := Lib.hid (not_same S)
              have K4 := Lib.hid (notdir_whole S)
              have K5 := Lib.hid (extract_none S)
              generalize dirB S = dv at *
              generalize notdirB S = nv at *
              generalize sufB S = fv at *
              generalize baseB S = bv at *
              generalize S.extract 0 (wayB S) = D at *
              generalize wayB S = way at *
              generalize bs (flatL xs) = t at *
              clear zN zF zB zD hfl hkn hk20 hpl hxl htl hlc3 hj
              go_upto_region 20 with fail
              go_cut [84] (fun v wx => ∃ b, v = .bool b ∧ Hid (b = true → T = ⟨#[47]⟩) ∧ Hid (b = false → T = t) ∧ wr = wx)
              case first =>
                clear a1 a2
                rcases Nat.eq_zero_or_pos t.size with h0 | h0
                · have e1 := empty_of t h0
                  rcases Nat.eq_zero_or_pos S.size with h1 | h1
                  · have e2 := empty_of S h1
                    have HE := Lib.hid (HT2.out (.inr h1))
                    go_wp2_with fail
                    go_meet
                    exact ⟨false, rfl, fun h => (by cases h), fun _ => HE.out, rfl⟩
                  · have e2 := full_of S h1
                    have HE := Lib.hid (HT1.out h0 (by omega))
                    go_wp2_with fail
                    go_meet
                    exact ⟨true, rfl, fun _ => HE.out, fun h => (by cases h), rfl⟩
                · have e1 := full_of t h0
                  have HE := Lib.hid (HT2.out (.inl (by omega)))
                  go_wp2_with fail
                  go_meet
                  exact ⟨false, rfl, fun h => (by cases h), fun _ => HE.out, rfl⟩
              case rest =>
                obtain ⟨b, rfl, E1, E2, rfl⟩ := hcut
                clear HT1 HT2
                go_upto_if 84 with fail
                go_cut [11] (fun v wx => v = .string T ∧ wr = wx)
                case first =>
                  clear a1 a2
                  cases b with
                  | true =>
                    have HE := Lib.hid (E1.out rfl)
                    go_wp2_with fail
                    go_meet
                    exact ⟨by rw [HE.out], rfl⟩
                  | false =>
                    have HE := Lib.hid (E2.out rfl)
                    go_wp2_with fail
                    go_meet
                    exact ⟨by rw [HE.out], rfl⟩
                case rest =>
                  obtain ⟨rfl, rfl⟩ := hcut
                  clear E1 E2
                  go_wp2_with fail
                  refine (D1.out _).mono ?_
                  rintro e w' ⟨rfl, rfl⟩
                  clear D1
                  go_upto_region 23 with fail
                  go_cut [94] (fun v wx => ∃ b, v = .bool b ∧ Hid (b = true → way = 0) ∧ Hid (b = false → way ≠ 0) ∧ wr = wx)
                  case first =>
                    clear a1 a2
                    by_cases hw : way = 0
                    · have e1 := K1.out hw
                      have e2 := K4.out hw
                      rw [e2] at D2
                      have HW := Lib.hid hw
                      clear e2 hw K1 K2 K3 K4 K5
                      go_wp2_with fail
                      refine (D2.out _).mono ?_
                      rintro e w' ⟨rfl, rfl⟩
                      go_wp2_with fail
                      go_meet
                      exact ⟨true, rfl, fun _ => HW.out, fun h => (by cases h), rfl⟩
                    · have e2 := K3.out hw
                      have HW := Lib.hid hw
                      clear hw K1 K2 K3 K4 K5
                      cases hk : (dv.toList == [46, 47]) with
                      | true =>
                        go_wp2_with fail
                        refine (D2.out _).mono ?_
                        rintro e w' ⟨rfl, rfl⟩
                        go_wp2_with fail
                        go_meet
                        exact ⟨false, rfl, fun h => (by cases h), fun _ => HW.out, rfl⟩
                      | false =>
                        go_wp2_with fail
                        go_meet
                        exact ⟨false, rfl, fun h => (by cases h), fun _ => HW.out, rfl⟩
                  case rest =>
                    obtain ⟨b, rfl, E1, E2, rfl⟩ := hcut
                    go_upto_if 94 with fail
                    go_cut [13] (fun v wx => v = .string D ∧ wr = wx)
                    case first =>
                      clear a1 a2
                      cases b with
                      | true =>
                        have HE := Lib.hid (K5.out (E1.out rfl))
                        go_wp2_with fail
                        go_meet
                        exact ⟨by rw [HE.out], rfl⟩
                      | false =>
                        have HE := Lib.hid (K2.out (E2.out rfl))
                        go_wp2_with fail
                        go_meet
                        exact ⟨by rw [HE.out], rfl⟩
                    case rest =>
                      obtain ⟨rfl, rfl⟩ := hcut
                      clear E1 E2 K1 K2 K3 K4 K5
                      have A1 := Lib.hid HF.out.abs1
                      have A2 := Lib.hid HF.out.abs2
                      go_wp2_with fail
                      refine (A1.out _).mono ?_
                      rintro e w1 ⟨rfl, hb⟩
                      have B1 := Lib.hid (HB.out.trans (hb.mono HB.out.size))
                      clear hb
                      go_wp2_with fail
                      refine (A1.out _).mono ?_
                      rintro e w2 ⟨rfl, hb⟩
                      have B2 := Lib.hid (B1.out.trans (hb.mono B1.out.size))
                      clear hb
                      go_wp2_with fail
                      refine (A2.out _).mono ?_
                      rintro e w3 ⟨rfl, hb⟩
                      have B3 := Lib.hid (B2.out.trans (hb.mono B2.out.size))
                      clear hb
                      go_wp2_with fail
                      refine (D2.out _).mono ?_
                      rintro e w' ⟨rfl, rfl⟩
                      go_wp2_with fail
                      refine (D4.out _).mono ?_
                      rintro e w' ⟨rfl, rfl⟩
                      go_wp2_with fail
                      refine (D3.out _).mono ?_
                      rintro e w' ⟨rfl, rfl⟩
                      go_wp2_with fail
                      refine (awake_is _).mono ?_
                      rintro e w4 ⟨rfl, hb⟩
                      have B4 := Lib.hid (B3.out.trans (hb.mono B3.out.size))
                      clear hb
                      go_wp2
                      go_ret
                      exact ⟨rfl, B4.out⟩

end Go.Proofs.YtiienppimamhoaaDoor.PathParts
