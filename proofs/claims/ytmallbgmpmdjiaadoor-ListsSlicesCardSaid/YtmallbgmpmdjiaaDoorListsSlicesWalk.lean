/- The law ListsSlices, walked. -/
import Derived.Test.YtmallbgmpmdjiaaDoorLawake
import Derived.Test.YtmallbgmpmdjiaaDoorLdig
namespace Go.Proofs.YtmallbgmpmdjiaaDoor.ListsSlices
open Go.RowKit Go.Proofs.YtmallbgmpmdjiaaDoor.Strs Go.Proofs.YtmallbgmpmdjiaaDoor.Slice Go.Proofs.YtmallbgmpmdjiaaDoor.Filter Go.Proofs.YtmallbgmpmdjiaaDoor.Lawake Go.Proofs.YtmallbgmpmdjiaaDoor.Ldig
open Go.Proofs.YtmallbgmpmdjiaaDoor.Place (place place_lt place_is)

/-- the digits from 1 to k -/
def nums (k : Nat) : List ByteArray := (List.range k).map fun i => digB (i + 1)
theorem nums_len (k : Nat) : (nums k).length = k := by rw [nums, List.length_map, List.length_range]
theorem nums_succ (k : Nat) : nums (k + 1) = nums k ++ [digB (k + 1)] := by rw [nums, List.range_succ, List.map_append]; rfl
theorem nums_at (k j : Nat) (h : j < k) : (nums k)[j]? = some (digB (j + 1)) := by
  rw [nums, List.getElem?_map, List.getElem?_range h]; rfl

theorem keep2 {W W' : World} {b o p : Nat} {x y : Value} (hb : Below W.heap.size W W') (h : b < W.heap.size ∧ W.cell? ⟨b, o, none⟩ = some x ∧ W.cell? ⟨b, p, none⟩ = some y) :
    b < W'.heap.size ∧ W'.cell? ⟨b, o, none⟩ = some x ∧ W'.cell? ⟨b, p, none⟩ = some y :=
  ⟨Nat.lt_of_lt_of_le h.1 hb.size, (hb.cell (p := ⟨b, o, none⟩) h.1).trans h.2.1, (hb.cell (p := ⟨b, p, none⟩) h.1).trans h.2.2⟩

set_option maxRecDepth 100000 in
set_option maxHeartbeats 2000000 in
theorem walk_k (a0 a1 a2 : Int) (k : Nat) (w : World) (hk : k < 30) (h1 : (Lit.int .i64 a1).wf = true) (h2 : (Lit.int .i64 a2).wf = true)
    (hP : ∀ W : World, Calls Tryd.prog 21 #[.int .i64 a0, .int .i64 30] W fun e w' => e = .returned (.int .i64 (k : Int)) ∧ W = w') :
    Calls Tryd.prog 5 #[.int .i64 a0, .int .i64 a1, .int .i64 a2] w fun e W' => e = .returned (.bool true) ∧ Below w.heap.size w W' := by
  have hfb : -9223372036854775808 ≤ a1 ∧ a1 ≤ 9223372036854775807 := by simpa [Lit.wf, IntKind.min, IntKind.max, IntKind.signed, IntKind.bits] using h1
  have htb : -9223372036854775808 ≤ a2 ∧ a2 ≤ 9223372036854775807 := by simpa [Lit.wf, IntKind.min, IntKind.max, IntKind.signed, IntKind.bits] using h2
  obtain ⟨hf1, hf2⟩ := hfb
  obtain ⟨ht1, ht2⟩ := htb
  obtain ⟨i0, hi, hz0, hz1, hz2⟩ := info_parts infoString
  have HP := Lib.hid hP
  have HSL := Lib.hid (fun A c W (hs : SlIs W A c (nums k)) => slice_is A k c (nums k) a1 a2 W (nums_len k) hs (by omega) h1 h2)
  clear hP h1 h2
  go_enter Tryd.func5, Tryd.ntmps5
  go_wp2_with fail
  refine (HP.out _).mono ?_
  rintro e w' ⟨rfl, rfl⟩
  go_wp2_with fail
  go_loopw [8, 9] (fun v i wr => ∃ j : Nat, j ≤ k ∧ i = .int .i64 j ∧ wr.ownsRow w.heap.size 9 1 v j ((nums j).map Value.string) ∧ Hid (Below w.heap.size w wr)) (fun _ i _ => k - (intOf i).toNat)
  case atStart => exact ⟨0, Nat.zero_le _, rfl, World.ownsRow_nil _ _ _ _, Below.refl _ _⟩
  case round =>
    obtain ⟨j, hj, rfl, hown, H⟩ := hrel
    have hBs := H.out.size
    by_cases hlt : j < k
    · have HD : Hid (∀ W, Calls Tryd.prog 22 #[.int .i64 ((j : Int) + 1)] W fun e W' => e = .returned (.string (digB (j + 1))) ∧ Below W.heap.size W W') := fun W => dig_is (j + 1) (by omega) W
      have HNS : Hid ((nums j).map Value.string ++ [.string (digB (j + 1))] = (nums (j + 1)).map Value.string) := by
        show _ = _
        rw [nums_succ, List.map_append]; rfl
      have HO := Lib.hid hown
      clear hown
      generalize digB (j + 1) = x at *
      go_wp2_with fail
      refine (HD.out _).mono ?_
      rintro e w1 ⟨rfl, hb1⟩
      have hown := own_below HO.out hb1
      have HB1 := Lib.hid (H.out.trans (hb1.mono hBs))
      have hBs1 := HB1.out.size
      clear hb1 HO H HD
      go_wp2_with (at_builtin; refine wpList_append_own _ rfl _ _ 22 rfl w.heap.size 9 i0 (.string .empty) 1 16 Tryd.underlying22 hi hz0 hz1 hz2 rfl (by decide) _ _ _ rfl (hown.alloc _) ⟨w1.heap.size, 0, none⟩ 1 1 [.string x] rfl rfl (cell_one_new _ _ _) (by simp [Value.oneCell']) (by unfold maxLen; omega) (by omega) (by simp; omega) ?_; intro v' w2 hown' hgrow _; have HO := Lib.hid hown'; have HG := Lib.hid (below_append HB1.out hBs1 hown hgrow); clear hown' hgrow)
      go_roundw
      case rel => exact ⟨j + 1, by omega, by go_num, by rw [← HNS.out]; exact HO.out, HG⟩
      case measure => simp [intOf]; omega
    · obtain rfl : k = j := by omega
      obtain ⟨A, c, rfl, hs⟩ := slIs_of_own (nums_len k) hown
      have HSC := Lib.hid (HSL.out A c wr hs)
      clear hown hs HSL
      go_wp2_with fail
      refine HSC.out.mono ?_
      rintro e w2 ⟨A2, c2, rfl, hs2, hb2⟩
      have HB2 := Lib.hid (H.out.trans (hb2.mono hBs))
      clear hb2 HSC H hlt
      by_cases hgt : max a1 1 > min a2 k
      · have e0 : (sliceB (nums k) a1 a2).length = 0 := by
          unfold sliceB
          rw [List.length_drop, List.length_take, nums_len]
          omega
        rw [e0]
        clear hs2
        go_wp2_with fail
        refine (awake_is _).mono ?_
        rintro e w3 ⟨rfl, hb3⟩
        have HB3 := Lib.hid (HB2.out.trans (hb3.mono HB2.out.size))
        clear hb3
        go_wp2
        go_ret
        exact ⟨rfl, HB3.out⟩
      · obtain ⟨i, hii⟩ : ∃ i : Nat, max a1 1 = (i : Int) + 1 := ⟨(max a1 1 - 1).toNat, by omega⟩
        obtain ⟨L, hL⟩ : ∃ L : Nat, min a2 k = (i : Int) + (L : Int) + 1 := ⟨(min a2 k - i - 1).toNat, by omega⟩
        have hik : i + L < k := by omega
        have eS : sliceB (nums k) a1 a2 = ((nums k).take (i + L + 1)).drop i := by
          unfold sliceB
          rw [nums_len, hii, hL]
          congr 1
          congr 1
          omega
        have e0 : (sliceB (nums k) a1 a2).length = L + 1 := by
          rw [eS, List.length_drop, List.length_take, nums_len]
          omega
        have s0 : (sliceB (nums k) a1 a2)[0]? = some (digB (i + 1)) := by
          rw [eS, List.getElem?_drop, List.getElem?_take, if_pos (by omega)]
          exact nums_at k _ (by omega)
        have s1 : (sliceB (nums k) a1 a2)[L]? = some (digB (i + L + 1)) := by
          rw [eS, List.getElem?_drop, List.getElem?_take, if_pos (by omega)]
          exact nums_at k _ (by omega)
        obtain ⟨b, o, rfl, hb, hc0⟩ := hs2.at_ s0
        obtain ⟨b', o', he, hb', hc1⟩ := hs2.at_ s1
        cases he
        have c0 := hc0 w2 (Below.refl _ _)
        have c1 := hc1 w2 (Below.refl _ _)
        have HD : Hid (∀ (z : Int) (W : World), 0 ≤ z → z < 100 → Calls Tryd.prog 22 #[.int .i64 z] W fun e W' => e = .returned (.string (digI z)) ∧ Below W.heap.size W W') := fun z W h0 h1 => digI_is z h0 h1 W
        rw [show digB (i + 1) = digI ((i : Int) + 1) from rfl] at c0
        rw [show digB (i + L + 1) = digI ((i : Int) + (L : Int) + 1) from rfl] at c1
        obtain ⟨N, hN⟩ : ∃ N : Nat, N = L + 1 := ⟨_, rfl⟩
        rw [e0, ← hN]
        rw [Nat.add_zero] at c0
        have HNL := Lib.hid hN
        clear hs2 hc0 hc1 e0 s0 s1 eS hN
        go_wp2_with fail
        have hN := HNL.out
        have q1 : IntKind.i64.wrap ((i : Int) + (L : Int) + 1 - ((i : Int) + 1)) = (L : Int) := by
          rw [show (i : Int) + (L : Int) + 1 - ((i : Int) + 1) = (L : Int) by omega]
          exact IntWalk.i64_in _ (by omega)
        have q2 : IntKind.i64.wrap ((L : Int) + 1) = (L : Int) + 1 := IntWalk.i64_in _ (by omega)
        have q3 : IntKind.i64.wrap (L : Int) = (L : Int) := IntWalk.i64_in _ (by omega)
        have q4 : IntKind.i64.wrap ((N : Int) - 1) = (L : Int) := by
          rw [show (N : Int) - 1 = (L : Int) by omega]
          exact q3
        have q5 : (0 : Int) ≤ (L : Int) := by omega
        have q6 : (L : Int) < (N : Int) := by omega
        have q7 : ((N : Int) == (L : Int) + 1) = true := by rw [beq_iff_eq]; omega
        have q8 : L < N := by omega
        have q9 : (0 : Int) < (N : Int) := by omega
        have q10 : 0 < N := by omega
        clear hN
        go_region_held3 (fun w' => b < w'.heap.size ∧ w'.cell? ⟨b, o, none⟩ = some (.string (digI ((i : Int) + 1))) ∧ w'.cell? ⟨b, o + L, none⟩ = some (.string (digI ((i : Int) + (L : Int) + 1)))) (first | go_keep | exact keep2 hb3 (by go_keep) | exact keep2 hb5 (by go_keep)) (first | (go_at_call 22; refine (HD.out _ _ (by omega) (by omega)).mono ?_; rintro e w3 ⟨rfl, hb3⟩) | (go_at_call 8; refine (awake_is _).mono ?_; rintro e w5 ⟨rfl, hb5⟩))
        rename_i wa hba hh
        have HBa := Lib.hid (HB2.out.trans (((Below.drew (Below.refl _ w2)).trans hba).mono HB2.out.size))
        have HBb := Lib.hid (HBa.out.trans (hb3.mono HBa.out.size))
        have HBc := Lib.hid (HBb.out.trans (hb5.mono HBb.out.size))
        clear hba hb3 hb5 hh HBa HBb HD
        go_wp2_with fail
        go_ret
        exact ⟨rfl, HBc.out⟩

theorem walk (a0 a1 a2 : Int) (w : World) (w0 : (Lit.int .i64 a0).wf = true) (w1 : (Lit.int .i64 a1).wf = true) (w2 : (Lit.int .i64 a2).wf = true) :
    Calls Tryd.prog 5 #[.int .i64 a0, .int .i64 a1, .int .i64 a2] w fun e W' => e = .returned (.bool true) ∧ Below w.heap.size w W' :=
  walk_k a0 a1 a2 (place a0 30) w (place_lt a0 30 (by omega)) w1 w2 (fun W => place_is a0 30 W (by omega) (by omega) w0)

end Go.Proofs.YtmallbgmpmdjiaaDoor.ListsSlices
