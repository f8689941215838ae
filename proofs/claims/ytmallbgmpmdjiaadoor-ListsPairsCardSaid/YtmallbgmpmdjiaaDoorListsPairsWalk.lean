/- The law ListsPairs, walked. -/
import Derived.Deep.DeepCutAuto
import Derived.Test.YtmallbgmpmdjiaaDoorLawake
import Derived.Test.YtmallbgmpmdjiaaDoorLdig
namespace Go.Proofs.YtmallbgmpmdjiaaDoor.ListsPairs
open Go.RowKit Go.Proofs.YtmallbgmpmdjiaaDoor.Strs Go.Proofs.YtmallbgmpmdjiaaDoor.Each Go.Proofs.YtmallbgmpmdjiaaDoor.Pairs Go.Proofs.YtmallbgmpmdjiaaDoor.Filter Go.Proofs.YtmallbgmpmdjiaaDoor.Lawake Go.Proofs.YtmallbgmpmdjiaaDoor.Ldig
open Go.Proofs.YtmallbgmpmdjiaaDoor.Place (place place_lt place_is)

/-- k words, a letter ahead of their numbers -/
def named (a : ByteArray) (k : Nat) : List ByteArray := (List.range k).map fun i => a ++ digB i
theorem named_len (a : ByteArray) (k : Nat) : (named a k).length = k := by rw [named, List.length_map, List.length_range]
theorem named_succ (a : ByteArray) (k : Nat) : named a (k + 1) = named a k ++ [a ++ digB k] := by rw [named, List.range_succ, List.map_append]; rfl
theorem named_at (a : ByteArray) (k j : Nat) (h : j < k) : (named a k)[j]? = some (a ++ digB j) := by
  rw [named, List.getElem?_map, List.getElem?_range h]; rfl
theorem named_size (a : ByteArray) (k : Nat) (ha : a.size ≤ 1) : ∀ x ∈ named a k, x.size ≤ 1000000 := fun x hx => by
  obtain ⟨i, _, rfl⟩ := List.mem_map.1 hx
  have := digB_size i
  rw [ByteArray.size_append]; omega

theorem pairB_get (xs ys : List ByteArray) (j : Nat) (h : j < max xs.length ys.length) : (pairB xs ys)[j]? = some (pairAt xs ys j) := by
  rw [pairB, List.getElem?_map, List.getElem?_range h]; rfl
theorem pair_nil (xs : List ByteArray) : pairB xs [] = xs := by
  refine List.ext_getElem? fun j => ?_
  by_cases h : j < xs.length
  · rw [pairB_get _ _ _ (by simpa using h), pairAt, List.getD_eq_getElem?_getD, List.getElem?_eq_getElem h]
    simp [ByteArray.append_empty]
  · rw [List.getElem?_eq_none (by rw [pairB_len]; simpa using h), List.getElem?_eq_none (by omega)]
theorem each_nil (xs : List ByteArray) : (xs.map fun x => (⟨#[]⟩ : ByteArray) ++ x ++ ⟨#[]⟩) = xs := by
  conv => rhs; rw [← List.map_id xs]
  refine List.map_congr_left fun x _ => ?_
  show (ByteArray.empty ++ x) ++ ByteArray.empty = x
  rw [ByteArray.append_empty, ByteArray.empty_append]

set_option maxRecDepth 100000 in
set_option maxHeartbeats 4000000 in
theorem walk_kj (a0 a1 : Int) (k j : Nat) (w : World) (hk : k < 20) (hj : j < 20)
    (hP : ∀ W : World, Calls Tryd.prog 21 #[.int .i64 a0, .int .i64 20] W fun e w' => e = .returned (.int .i64 (k : Int)) ∧ W = w')
    (hQ : ∀ W : World, Calls Tryd.prog 21 #[.int .i64 a1, .int .i64 20] W fun e w' => e = .returned (.int .i64 (j : Int)) ∧ W = w') :
    Calls Tryd.prog 6 #[.int .i64 a0, .int .i64 a1] w fun e W' => e = .returned (.bool true) ∧ Below w.heap.size w W' := by
  obtain ⟨i0, hi, hz0, hz1, hz2⟩ := info_parts infoString
  have HP := Lib.hid hP
  have HQ := Lib.hid hQ
  clear hP hQ
  have z97 : (⟨#[97]⟩ : ByteArray).size = 1 := rfl
  have z98 : (⟨#[98]⟩ : ByteArray).size = 1 := rfl
  go_enter Tryd.func6, Tryd.ntmps6
  go_wp2_with fail
  refine (HP.out _).mono ?_
  rintro e w' ⟨rfl, rfl⟩
  go_wp2_with fail
  refine (HQ.out _).mono ?_
  rintro e w' ⟨rfl, rfl⟩
  clear HP HQ
  go_wp2_with fail
  go_loopw [7, 9] (fun v i wr => ∃ n : Nat, n ≤ k ∧ i = .int .i64 n ∧ wr.ownsRow w.heap.size 9 1 v n ((named ⟨#[97]⟩ n).map Value.string) ∧ Hid (Below w.heap.size w wr)) (fun _ i _ => k - (intOf i).toNat)
  case atStart => exact ⟨0, Nat.zero_le _, rfl, World.ownsRow_nil _ _ _ _, Below.refl _ _⟩
  case round =>
    obtain ⟨n, hn, rfl, hown, H⟩ := hrel
    have hBs := H.out.size
    by_cases hlt : n < k
    · have HD := Lib.hid (fun W => dig_is n (by omega) W)
      have HNS : Hid ((named ⟨#[97]⟩ n).map Value.string ++ [.string (⟨#[97]⟩ ++ digB n)] = (named ⟨#[97]⟩ (n + 1)).map Value.string) := by
        show _ = _
        rw [named_succ, List.map_append]; rfl
      have HO := Lib.hid hown
      have zd := digB_size n
      clear hown
      generalize digB n = x at *
      have s1 : ∀ W, (Op.stringOp .add ⟨#[97]⟩ x).run Tryd.prog W = .ok (.string (⟨#[97]⟩ ++ x)) W := fun W => run_string_add_sum W _ _ (by omega)
      generalize (⟨#[97]⟩ : ByteArray) ++ x = y at *
      go_wp2_with fail
      refine (HD.out _).mono ?_
      rintro e w1 ⟨rfl, hb1⟩
      have hown := own_below HO.out hb1
      have HB1 := Lib.hid (H.out.trans (hb1.mono hBs))
      have hBs1 := HB1.out.size
      clear hb1 HO H HD
      go_wp2_with (at_builtin; refine wpList_append_own _ rfl _ _ 22 rfl w.heap.size 9 i0 (.string .empty) 1 16 Tryd.underlying22 hi hz0 hz1 hz2 rfl (by decide) _ _ _ rfl (hown.alloc _) ⟨w1.heap.size, 0, none⟩ 1 1 [.string y] rfl rfl (cell_one_new _ _ _) (by simp [Value.oneCell']) (by unfold maxLen; omega) (by omega) (by simp; omega) ?_; intro v' w2 hown' hgrow _; have HO := Lib.hid hown'; have HG := Lib.hid (below_append HB1.out hBs1 hown hgrow); clear hown' hgrow)
      go_roundw
      case rel => exact ⟨n + 1, by omega, by go_num, by rw [← HNS.out]; exact HO.out, HG⟩
      case measure => simp [intOf]; omega
    · obtain rfl : k = n := by omega
      obtain ⟨A, ca, rfl, hsA⟩ := slIs_of_own (named_len _ k) hown
      have HSA := Lib.hid hsA
      have HB := Lib.hid H.out
      clear hown hsA H hlt hn
      obtain ⟨wA, rfl⟩ : ∃ wA, wA = wr := ⟨_, rfl⟩
      go_wp2_with fail
      go_loopw [8, 10] (fun v i wx => ∃ n : Nat, n ≤ j ∧ i = .int .i64 n ∧ wx.ownsRow wA.heap.size 9 1 v n ((named ⟨#[98]⟩ n).map Value.string) ∧ Hid (Below wA.heap.size wA wx)) (fun _ i _ => j - (intOf i).toNat)
      case atStart => exact ⟨0, Nat.zero_le _, rfl, World.ownsRow_nil _ _ _ _, Below.refl _ _⟩
      case round =>
        obtain ⟨n, hn, rfl, hown, H⟩ := hrel
        have hBs2 := H.out.size
        by_cases hlt : n < j
        · have HD := Lib.hid (fun W => dig_is n (by omega) W)
          have HNS : Hid ((named ⟨#[98]⟩ n).map Value.string ++ [.string (⟨#[98]⟩ ++ digB n)] = (named ⟨#[98]⟩ (n + 1)).map Value.string) := by
            show _ = _
            rw [named_succ, List.map_append]; rfl
          have HO := Lib.hid hown
          have zd := digB_size n
          clear hown
          generalize digB n = x at *
          have s1 : ∀ W, (Op.stringOp .add ⟨#[98]⟩ x).run Tryd.prog W = .ok (.string (⟨#[98]⟩ ++ x)) W := fun W => run_string_add_sum W _ _ (by omega)
          generalize (⟨#[98]⟩ : ByteArray) ++ x = y at *
          go_wp2_with fail
          refine (HD.out _).mono ?_
          rintro e w1 ⟨rfl, hb1⟩
          have hown := own_below HO.out hb1
          have HB1 := Lib.hid (H.out.trans (hb1.mono hBs2))
          have hBs1 := HB1.out.size
          clear hb1 HO H HD
          go_wp2_with (at_builtin; refine wpList_append_own _ rfl _ _ 22 rfl wA.heap.size 9 i0 (.string .empty) 1 16 Tryd.underlying22 hi hz0 hz1 hz2 rfl (by decide) _ _ _ rfl (hown.alloc _) ⟨w1.heap.size, 0, none⟩ 1 1 [.string y] rfl rfl (cell_one_new _ _ _) (by simp [Value.oneCell']) (by unfold maxLen; omega) (by omega) (by simp; omega) ?_; intro v' w2 hown' hgrow _; have HO := Lib.hid hown'; have HG := Lib.hid (below_append HB1.out hBs1 hown hgrow); clear hown' hgrow)
          go_roundw
          case rel => exact ⟨n + 1, by omega, by go_num, by rw [← HNS.out]; exact HO.out, HG⟩
          case measure => simp [intOf]; omega
        · obtain rfl : j = n := by omega
          obtain ⟨B, cb, rfl, hsB⟩ := slIs_of_own (named_len _ j) hown
          have hsA2 := HSA.out.below H.out
          have HPC := Lib.hid (pairs_is A B k j ca cb _ _ wr (named_len _ k) (named_len _ j) hsA2 hsB (by omega) (by omega) (named_size _ _ (Nat.le_refl _)) (named_size _ _ (Nat.le_refl _)))
          have HB2 := Lib.hid (HB.out.trans (H.out.mono HB.out.size))
          have HA2 := Lib.hid hsA2
          have HS2 := Lib.hid hsB
          clear hown hsB hsA2 H HB HSA hlt hn hBs hBs2
          obtain ⟨wB, rfl⟩ : ∃ wB, wB = wr := ⟨_, rfl⟩
          go_wp2_with fail
          refine HPC.out.mono ?_
          rintro e w3 ⟨P, cp, rfl, hs3, hb3⟩
          have HB3 := Lib.hid (HB2.out.trans (hb3.mono HB2.out.size))
          have hsA3 := HA2.out.below hb3
          have HEC := Lib.hid (each_is A k ca _ ⟨#[60]⟩ ⟨#[62]⟩ w3 (named_len _ k) hsA3 (by omega) (named_size _ _ (Nat.le_refl _)) (by decide) (by decide))
          have HA3 := Lib.hid hsA3
          have HS3 := Lib.hid (HS2.out.below hb3)
          have HP3 := Lib.hid hs3
          clear hs3 hb3 hsA3 HPC HB2 HA2 HS2
          go_wp2_with fail
          refine HEC.out.mono ?_
          rintro e w4 ⟨E, ce, rfl, hs4, hb4⟩
          have HB4 := Lib.hid (HB3.out.trans (hb4.mono HB3.out.size))
          have HA4 := Lib.hid (HA3.out.below hb4)
          have HS4 := Lib.hid (HS3.out.below hb4)
          have HP4 := Lib.hid (HP3.out.below hb4)
          have HE4 := Lib.hid hs4
          clear hs4 hb4 HEC HB3 HA3 HS3 HP3
          obtain ⟨M, hM⟩ : ∃ M : Nat, M = max k j := ⟨_, rfl⟩
          have eM : (pairB (named ⟨#[97]⟩ k) (named ⟨#[98]⟩ j)).length = M := by rw [pairB_len, named_len, named_len]; exact hM.symm
          rw [eM]
          have HM := Lib.hid hM
          have HEM := Lib.hid eM
          clear hM eM
          go_upto_region 12 with fail
          go_cut [57] (fun v wx => v = .bool false ∧ w4 = wx)
          case first =>
            have hmx : max (k : Int) (j : Int) = (M : Int) := by have := HM.out; omega
            clear HM HEM HA4 HS4 HP4 HE4 HB4 z97 z98
            go_wp2
            go_meet
            exact ⟨rfl, rfl⟩
          case rest =>
            obtain ⟨rfl, rfl⟩ := hcut
            go_wp2_with fail
            go_loopw [13] (fun i wx => ∃ n m : Nat, n ≤ M ∧ i = .int .i64 n ∧ wx = w4.drewN m) (fun i _ => M - (intOf i).toNat)
            case atStart => exact ⟨0, 0, Nat.zero_le _, rfl, rfl⟩
            case round =>
              obtain ⟨n, m, hn, rfl, rfl⟩ := hrel
              by_cases hlt : n < M
              · have gp := pairB_get (named ⟨#[97]⟩ k) (named ⟨#[98]⟩ j) n (by rw [named_len, named_len, ← HM.out]; exact hlt)
                obtain ⟨bp, op, rfl, hbp, hcp⟩ := HP4.out.at_ gp
                have cp1 := hcp w4 (Below.refl _ _)
                clear hcp gp hbp
                by_cases hnk : n < k
                · have ga := named_at ⟨#[97]⟩ k n hnk
                  obtain ⟨ba, oa, rfl, hba, hca⟩ := HA4.out.at_ ga
                  have ca1 := hca w4 (Below.refl _ _)
                  have ge : ((named ⟨#[97]⟩ k).map fun x => (⟨#[60]⟩ : ByteArray) ++ x ++ ⟨#[62]⟩)[n]? = some (⟨#[60]⟩ ++ (⟨#[97]⟩ ++ digB n) ++ ⟨#[62]⟩) := by rw [List.getElem?_map, ga]; rfl
                  obtain ⟨be, oe, rfl, hbe, hce⟩ := HE4.out.at_ ge
                  have ce1 := hce w4 (Below.refl _ _)
                  have gx : (named ⟨#[97]⟩ k).getD n .empty = ⟨#[97]⟩ ++ digB n := by rw [List.getD_eq_getElem?_getD, ga]; rfl
                  have zx : ((⟨#[97]⟩ : ByteArray) ++ digB n).size ≤ 10 := by have := digB_size n; rw [ByteArray.size_append]; omega
                  unfold pairAt at cp1
                  rw [gx] at cp1
                  by_cases hnj : n < j
                  · have gb := named_at ⟨#[98]⟩ j n hnj
                    obtain ⟨bb, ob, rfl, hbb, hcb⟩ := HS4.out.at_ gb
                    have cb1 := hcb w4 (Below.refl _ _)
                    have gy : (named ⟨#[98]⟩ j).getD n .empty = ⟨#[98]⟩ ++ digB n := by rw [List.getD_eq_getElem?_getD, gb]; rfl
                    have zy : ((⟨#[98]⟩ : ByteArray) ++ digB n).size ≤ 10 := by have := digB_size n; rw [ByteArray.size_append]; omega
                    rw [gy] at cp1
                    clear hca hce hcb ga ge gb gx gy hba hbe hbb HA4 HE4 HS4 HP4 HM HEM
                    generalize (⟨#[97]⟩ : ByteArray) ++ digB n = x at *
                    generalize (⟨#[98]⟩ : ByteArray) ++ digB n = y at *
                    have z60 : (⟨#[60]⟩ : ByteArray).size = 1 := rfl
                    have z62 : (⟨#[62]⟩ : ByteArray).size = 1 := rfl
                    have zt : ((⟨#[60]⟩ : ByteArray) ++ x).size ≤ 11 := by rw [ByteArray.size_append]; omega
                    have s1 : ∀ W, (Op.stringOp .add ⟨#[60]⟩ x).run Tryd.prog W = .ok (.string (⟨#[60]⟩ ++ x)) W := fun W => run_string_add_sum W _ _ (by omega)
                    have s2 : ∀ W, (Op.stringOp .add (⟨#[60]⟩ ++ x) ⟨#[62]⟩).run Tryd.prog W = .ok (.string (⟨#[60]⟩ ++ x ++ ⟨#[62]⟩)) W := fun W => run_string_add_sum W _ _ (by omega)
                    have s3 : ∀ W, (Op.stringOp .add x y).run Tryd.prog W = .ok (.string (x ++ y)) W := fun W => run_string_add_sum W _ _ (by omega)
                    generalize (⟨#[60]⟩ : ByteArray) ++ x ++ ⟨#[62]⟩ = u at *
                    generalize (⟨#[60]⟩ : ByteArray) ++ x = t at *
                    generalize x ++ y = v at *
                    go_wp2
                    go_quiet (fail)
                    go_wp2
                    go_roundw
                    case rel => exact ⟨n + 1, _, by omega, by go_num, rfl⟩
                    case measure => simp [intOf]; omega
                  · have gy : (named ⟨#[98]⟩ j).getD n .empty = .empty := by rw [List.getD_eq_getElem?_getD, List.getElem?_eq_none (by rw [named_len]; omega)]; rfl
                    rw [gy, ByteArray.append_empty] at cp1
                    clear hca hce ga ge gx gy hba hbe HA4 HE4 HS4 HP4 HM HEM
                    generalize (⟨#[97]⟩ : ByteArray) ++ digB n = x at *
                    have z60 : (⟨#[60]⟩ : ByteArray).size = 1 := rfl
                    have z62 : (⟨#[62]⟩ : ByteArray).size = 1 := rfl
                    have zt : ((⟨#[60]⟩ : ByteArray) ++ x).size ≤ 11 := by rw [ByteArray.size_append]; omega
                    have s1 : ∀ W, (Op.stringOp .add ⟨#[60]⟩ x).run Tryd.prog W = .ok (.string (⟨#[60]⟩ ++ x)) W := fun W => run_string_add_sum W _ _ (by omega)
                    have s2 : ∀ W, (Op.stringOp .add (⟨#[60]⟩ ++ x) ⟨#[62]⟩).run Tryd.prog W = .ok (.string (⟨#[60]⟩ ++ x ++ ⟨#[62]⟩)) W := fun W => run_string_add_sum W _ _ (by omega)
                    generalize (⟨#[60]⟩ : ByteArray) ++ x ++ ⟨#[62]⟩ = u at *
                    generalize (⟨#[60]⟩ : ByteArray) ++ x = t at *
                    go_wp2
                    go_quiet (fail)
                    go_wp2
                    go_roundw
                    case rel => exact ⟨n + 1, _, by omega, by go_num, rfl⟩
                    case measure => simp [intOf]; omega
                · have hnj : n < j := by have := HM.out; omega
                  have gb := named_at ⟨#[98]⟩ j n hnj
                  obtain ⟨bb, ob, rfl, hbb, hcb⟩ := HS4.out.at_ gb
                  have cb1 := hcb w4 (Below.refl _ _)
                  have gy : (named ⟨#[98]⟩ j).getD n .empty = ⟨#[98]⟩ ++ digB n := by rw [List.getD_eq_getElem?_getD, gb]; rfl
                  have gx : (named ⟨#[97]⟩ k).getD n .empty = ⟨#[]⟩ := by rw [List.getD_eq_getElem?_getD, List.getElem?_eq_none (by rw [named_len]; omega)]; rfl
                  have zy : ((⟨#[98]⟩ : ByteArray) ++ digB n).size ≤ 10 := by have := digB_size n; rw [ByteArray.size_append]; omega
                  unfold pairAt at cp1
                  rw [gx, gy] at cp1
                  clear hcb gb gx gy hbb HA4 HE4 HS4 HP4 HM HEM
                  generalize (⟨#[98]⟩ : ByteArray) ++ digB n = y at *
                  have z0 : (⟨#[]⟩ : ByteArray).size = 0 := rfl
                  have s3 : ∀ W, (Op.stringOp .add ⟨#[]⟩ y).run Tryd.prog W = .ok (.string (⟨#[]⟩ ++ y)) W := fun W => run_string_add_sum W _ _ (by omega)
                  generalize (⟨#[]⟩ : ByteArray) ++ y = v at *
                  go_wp2
                  go_roundw
                  case rel => exact ⟨n + 1, _, by omega, by go_num, rfl⟩
                  case measure => simp [intOf]; omega
              · have hdr := below_drewN (Below.refl w4.heap.size w4) m
                have hA5 := HA4.out.below hdr
                have HPC := Lib.hid (pairs_is A none k 0 ca 0 _ [] (w4.drewN m) (named_len _ k) rfl hA5 ⟨Nat.le_refl _, .inl rfl⟩ (by omega) (by omega) (named_size _ _ (Nat.le_refl _)) (fun x hx => by cases hx))
                rw [pair_nil, named_len] at HPC
                have HS5 := Lib.hid (HS4.out.below hdr)
                have HA5 := Lib.hid hA5
                have HB5 := Lib.hid (HB4.out.trans (hdr.mono HB4.out.size))
                clear hA5 hdr HA4 HS4 HB4 HP4 HE4 HM HEM
                go_wp2_with fail
                refine HPC.out.mono ?_
                rintro e w6 ⟨A6, c6, rfl, hs6, hb6⟩
                have HB6 := Lib.hid (HB5.out.trans (hb6.mono HB5.out.size))
                have hA6 := HA5.out.below hb6
                have HSM := Lib.hid (same_is A6 A k c6 ca _ w6 (named_len _ k) hs6 hA6 (by unfold maxLen; omega))
                have HS6 := Lib.hid (HS5.out.below hb6)
                clear hs6 hb6 hA6 HPC HB5 HA5 HS5
                go_wp2_with fail
                refine HSM.out.mono ?_
                rintro e w7 ⟨rfl, hb7⟩
                have HB7 := Lib.hid (HB6.out.trans (hb7.mono HB6.out.size))
                have hS7 := HS6.out.below hb7
                have HEC := Lib.hid (each_is B j cb _ ⟨#[]⟩ ⟨#[]⟩ w7 (named_len _ j) hS7 (by omega) (named_size _ _ (Nat.le_refl _)) (by decide) (by decide))
                rw [each_nil] at HEC
                have HS7 := Lib.hid hS7
                clear hb7 hS7 HSM HB6 HS6
                go_wp2_with fail
                refine HEC.out.mono ?_
                rintro e w8 ⟨A8, c8, rfl, hs8, hb8⟩
                have HB8 := Lib.hid (HB7.out.trans (hb8.mono HB7.out.size))
                have HSM := Lib.hid (same_is A8 B j c8 cb _ w8 (named_len _ j) hs8 (HS7.out.below hb8) (by unfold maxLen; omega))
                clear hs8 hb8 HEC HB7 HS7
                go_wp2_with fail
                refine HSM.out.mono ?_
                rintro e w9 ⟨rfl, hb9⟩
                have HB9 := Lib.hid (HB8.out.trans (hb9.mono HB8.out.size))
                clear hb9 HSM HB8
                go_wp2_with fail
                refine (awake_is _).mono ?_
                rintro e w10 ⟨rfl, hb10⟩
                have HB10 := Lib.hid (HB9.out.trans (hb10.mono HB9.out.size))
                clear hb10 HB9
                go_wp2
                go_ret
                exact ⟨rfl, HB10.out⟩

theorem walk (a0 a1 : Int) (w : World) (w0 : (Lit.int .i64 a0).wf = true) (w1 : (Lit.int .i64 a1).wf = true) :
    Calls Tryd.prog 6 #[.int .i64 a0, .int .i64 a1] w fun e W' => e = .returned (.bool true) ∧ Below w.heap.size w W' :=
  walk_kj a0 a1 (place a0 20) (place a1 20) w (place_lt a0 20 (by omega)) (place_lt a1 20 (by omega)) (fun W => place_is a0 20 W (by omega) (by omega) w0) (fun W => place_is a1 20 W (by omega) (by omega) w1)

end Go.Proofs.YtmallbgmpmdjiaaDoor.ListsPairs
