/- The law ListsAll, walked. -/
import Derived.Deep.DeepCutAuto
import Derived.Test.YtmallbgmpmdjiaaDoorLawake
import Derived.Test.YtmallbgmpmdjiaaDoorLref
import Derived.Test.YtmallbgmpmdjiaaDoorLrefFilter
import Derived.Test.YtmallbgmpmdjiaaDoorLrefSort
namespace Go.Proofs.YtmallbgmpmdjiaaDoor.ListsAll
open Go.RowKit Go.Proofs.YtmallbgmpmdjiaaDoor.Strs Go.Proofs.YtmallbgmpmdjiaaDoor.Srt Go.Proofs.YtmallbgmpmdjiaaDoor.Sort Go.Proofs.YtmallbgmpmdjiaaDoor.Slice Go.Proofs.YtmallbgmpmdjiaaDoor.Each Go.Proofs.YtmallbgmpmdjiaaDoor.Pairs Go.Proofs.YtmallbgmpmdjiaaDoor.Filter Go.Proofs.YtmallbgmpmdjiaaDoor.Lawake Go.Proofs.YtmallbgmpmdjiaaDoor.Lref Go.Proofs.YtmallbgmpmdjiaaDoor.LrefFilter Go.Proofs.YtmallbgmpmdjiaaDoor.LrefSort

theorem few_val (A : Option Addr) (n c : Nat) (xs : List ByteArray) (r : Bool) (w : World) (hr : fewB xs = r) (hn : xs.length = n) (h : SlIs w A c xs) (hm : n ≤ maxLen) :
    Calls Tryd.prog 7 #[.slice A n c] w fun e W' => e = .returned (.bool r) ∧ W' = w := by
  subst hr
  exact few_is A n c xs w hn h hm
theorem sortB_len (xs : List ByteArray) : (sortB xs).length ≤ xs.length := by
  have := sortT_len (xs.map (·.data.toList))
  rw [List.length_map] at this
  rw [sortB, List.length_map]; exact this
theorem filterB_len (qs xs : List ByteArray) (out : Bool) : (filterB qs out xs).length ≤ xs.length := List.length_filter_le _ _
theorem sliceB_len (xs : List ByteArray) (f t : Int) : (sliceB xs f t).length ≤ xs.length := by
  unfold sliceB
  rw [List.length_drop, List.length_take]; omega

set_option maxRecDepth 100000 in
set_option maxHeartbeats 4000000 in
theorem walk (A0 : Option Addr) (n0 c0 : Nat) (xs0 : List ByteArray) (A1 : Option Addr) (n1 c1 : Nat) (xs1 : List ByteArray) (b2 : Bool) (a3 a4 : Int) (s5 s6 : ByteArray) (w : World)
    (hn0 : xs0.length = n0) (hl0 : SlIs w A0 c0 xs0) (hm0 : n0 ≤ maxLen) (hn1 : xs1.length = n1) (hl1 : SlIs w A1 c1 xs1) (hm1 : n1 ≤ maxLen) (w3 : (Lit.int .i64 a3).wf = true) (w4 : (Lit.int .i64 a4).wf = true) (z5 : s5.size ≤ 140737488355328) (z6 : s6.size ≤ 140737488355328) :
    Calls Tryd.prog 3 #[.slice A0 n0 c0, .slice A1 n1 c1, .bool b2, .int .i64 a3, .int .i64 a4, .string s5, .string s6] w fun e W' => e = .returned (.bool true) ∧ Below w.heap.size w W' := by
  have HF0 := Lib.hid (fun r hr => few_val A0 n0 c0 xs0 r w hr hn0 hl0 hm0)
  have HF1 := Lib.hid (fun r hr => few_val A1 n1 c1 xs1 r w hr hn1 hl1 hm1)
  have HN0 := Lib.hid hn0
  have HN1 := Lib.hid hn1
  have HL0 := Lib.hid hl0
  have HL1 := Lib.hid hl1
  have HW3 := Lib.hid w3
  have HW4 := Lib.hid w4
  clear hn0 hl0 hm0 hn1 hl1 hm1 w3 w4
  cases h0 : fewB xs0 with
  | false =>
    have HR := Lib.hid (HF0.out _ h0)
    clear h0 HF0 HF1
    go_enter Tryd.func3, Tryd.ntmps3
    go_wp2_with fail
    refine HR.out.mono ?_
    rintro e w' ⟨rfl, rfl⟩
    go_wp2_with fail
    refine (awake_is _).mono ?_
    rintro e w5 ⟨rfl, hb5⟩
    have HB := Lib.hid hb5
    clear hb5
    go_wp2
    go_ret
    exact ⟨rfl, HB.out⟩
  | true =>
    have HR := Lib.hid (HF0.out _ h0)
    have H60 := Lib.hid (fewB_len h0)
    have HZ0 := Lib.hid (fewB_size h0)
    cases h1 : fewB xs1 with
    | false =>
      have HR1 := Lib.hid (HF1.out _ h1)
      clear h0 h1 HF0 HF1
      go_enter Tryd.func3, Tryd.ntmps3
      go_wp2_with fail
      refine HR.out.mono ?_
      rintro e w' ⟨rfl, rfl⟩
      go_wp2_with fail
      refine HR1.out.mono ?_
      rintro e w' ⟨rfl, rfl⟩
      go_wp2_with fail
      refine (awake_is _).mono ?_
      rintro e w5 ⟨rfl, hb5⟩
      have HB := Lib.hid hb5
      clear hb5
      go_wp2
      go_ret
      exact ⟨rfl, HB.out⟩
    | true =>
      have HR1 := Lib.hid (HF1.out _ h1)
      have H61 := Lib.hid (fewB_len h1)
      have HZ1 := Lib.hid (fewB_size h1)
      clear h0 h1 HF0 HF1
      by_cases hsz : s5.size + s6.size ≤ 200
      · have hn0 : n0 ≤ 60 := by have := H60.out; have h2 := HN0.out; omega
        have hn1 : n1 ≤ 60 := by have := H61.out; have h2 := HN1.out; omega
        obtain ⟨i0, hi, hz0, hz1, hz2⟩ := info_parts infoString
        go_enter Tryd.func3, Tryd.ntmps3
        go_wp2_with fail
        refine HR.out.mono ?_
        rintro e w' ⟨rfl, rfl⟩
        go_wp2_with fail
        refine HR1.out.mono ?_
        rintro e w' ⟨rfl, rfl⟩
        clear HR HR1
        go_upto_region 4 with fail
        go_cut [16] (fun v wx => Hid (wx.ownsRow w'.heap.size 9 1 v n0 (xs0.map Value.string) ∧ Below w'.heap.size w' wx))
        case first =>
          have HLen : Hid ((xs0.map Value.string).length = n0 * 1) := by show _ = _; rw [List.length_map, Nat.mul_one]; exact HN0.out
          have HOne : Hid (∀ u ∈ xs0.map Value.string, u.oneCell' = true) := fun u hu => by
            obtain ⟨x, _, rfl⟩ := List.mem_map.1 hu
            rfl
          have hcapc := HL0.out.1
          cases A0 with
          | none =>
            have h0 : xs0 = [] := by
              rcases HL0.out.2 with h0 | ⟨b, o, he, _⟩
              · exact h0
              · cases he
            have hn00 : n0 = 0 := by have := HN0.out; rw [h0] at this; exact this.symm
            subst hn00
            have H0 := Lib.hid h0
            clear h0 hcapc
            go_wp2_with (at_builtin; refine wpList_append_own_none rfl _ _ 22 rfl w'.heap.size 9 i0 1 Tryd.underlying22 hi _ _ _ rfl (World.ownsRow_nil _ _ _ _) rfl ?_)
            go_meet
            rw [H0.out]
            exact ⟨World.ownsRow_nil _ _ _ _, Below.refl _ _⟩
          | some ad =>
            have HCell : Hid (∀ j u, (xs0.map Value.string)[j]? = some u → w'.cell? (ad.add j) = some u) := fun j u hu => by
              rcases HL0.out.2 with h0 | ⟨b, o, he, hlt, hc⟩
              · rw [h0] at hu; cases hu
              · cases he
                rw [List.getElem?_map] at hu
                obtain ⟨x, hx, rfl⟩ := Option.map_eq_some_iff.1 hu
                rw [addr_add]
                exact hc j x hx
            clear hcapc
            go_wp2_with (at_builtin; refine wpList_append_own _ rfl _ _ 22 rfl w'.heap.size 9 i0 (.string .empty) 1 16 Tryd.underlying22 hi hz0 hz1 hz2 rfl (by decide) _ 0 [] rfl (World.ownsRow_nil _ _ _ _) ad n0 c0 (xs0.map Value.string) rfl HLen.out HCell.out HOne.out (by unfold maxLen; omega) (by omega) (Nat.le_refl _) ?_; intro v' w2 hown' hgrow hnil; have HO := Lib.hid hown'; have HG := Lib.hid ((Below.refl _ w').grown hgrow (Nat.le_refl _) (fun k e => by cases e)); clear hown' hgrow hnil)
            go_meet
            refine ⟨?_, HG.out⟩
            have := HO.out
            rw [Nat.zero_add, List.nil_append] at this
            exact this
        case rest =>
          have hB0 := hcut.out.2
          obtain ⟨X, cx, rfl, hsX⟩ := slIs_of_own HN0.out hcut.out.1
          have B0 := Lib.hid hB0
          have X0 := Lib.hid hsX
          clear hcut hB0 hsX
          have HA := Lib.hid (sort_is X n0 cx xs0 wc HN0.out X0.out (by omega))
          go_wp2_with fail
          refine HA.out.mono ?_
          rintro e p1 ⟨P1, cp1, rfl, hsp, hbp⟩
          have BP := Lib.hid (B0.out.trans (hbp.mono B0.out.size))
          have XP := Lib.hid (X0.out.below hbp)
          have SP := Lib.hid hsp
          have HC := Lib.hid (refSort_is A0 n0 c0 xs0 p1 HN0.out (HL0.out.below BP.out) (by omega))
          clear hsp hbp HA B0 X0
          go_wp2_with fail
          refine HC.out.mono ?_
          rintro e q1 ⟨Q1, cq1, rfl, hsq, hbq⟩
          have BQ := Lib.hid (BP.out.trans (hbq.mono BP.out.size))
          have XQ := Lib.hid (XP.out.below hbq)
          have HE := Lib.hid (same_is P1 Q1 _ cp1 cq1 _ q1 rfl (SP.out.below hbq) hsq (by have := sortB_len xs0; have h2 := HN0.out; unfold maxLen; omega))
          clear hsq hbq HC BP XP SP
          go_wp2_with fail
          refine HE.out.mono ?_
          rintro e r1 ⟨rfl, hbr⟩
          have B1 := Lib.hid (BQ.out.trans (hbr.mono BQ.out.size))
          have X1 := Lib.hid (XQ.out.below hbr)
          clear hbr HE BQ XQ
          have HA := Lib.hid (filter_is X A1 n0 cx n1 c1 b2 xs0 xs1 r1 HN1.out (HL1.out.below B1.out) (by omega) HZ1.out HN0.out X1.out (by omega) HZ0.out)
          go_wp2_with fail
          refine HA.out.mono ?_
          rintro e p2 ⟨P2, cp2, rfl, hsp, hbp⟩
          have BP := Lib.hid (B1.out.trans (hbp.mono B1.out.size))
          have XP := Lib.hid (X1.out.below hbp)
          have SP := Lib.hid hsp
          have HC := Lib.hid (refFilter_is A0 A1 n0 c0 n1 c1 b2 xs0 xs1 p2 HN1.out (HL1.out.below BP.out) (by omega) HZ1.out HN0.out (HL0.out.below BP.out) (by omega) HZ0.out)
          clear hsp hbp HA B1 X1
          go_wp2_with fail
          refine HC.out.mono ?_
          rintro e q2 ⟨Q2, cq2, rfl, hsq, hbq⟩
          have BQ := Lib.hid (BP.out.trans (hbq.mono BP.out.size))
          have XQ := Lib.hid (XP.out.below hbq)
          have HE := Lib.hid (same_is P2 Q2 _ cp2 cq2 _ q2 rfl (SP.out.below hbq) hsq (by have := filterB_len xs1 xs0 b2; have h2 := HN0.out; unfold maxLen; omega))
          clear hsq hbq HC BP XP SP
          go_wp2_with fail
          refine HE.out.mono ?_
          rintro e r2 ⟨rfl, hbr⟩
          have B2 := Lib.hid (BQ.out.trans (hbr.mono BQ.out.size))
          have X2 := Lib.hid (XQ.out.below hbr)
          clear hbr HE BQ XQ
          have HA := Lib.hid (pairs_is X A1 n0 n1 cx c1 xs0 xs1 r2 HN0.out HN1.out X2.out (HL1.out.below B2.out) (by omega) (by omega) HZ0.out HZ1.out)
          go_wp2_with fail
          refine HA.out.mono ?_
          rintro e p3 ⟨P3, cp3, rfl, hsp, hbp⟩
          have BP := Lib.hid (B2.out.trans (hbp.mono B2.out.size))
          have XP := Lib.hid (X2.out.below hbp)
          have SP := Lib.hid hsp
          have HC := Lib.hid (refPairs_is A0 A1 n0 n1 c0 c1 xs0 xs1 p3 HN0.out HN1.out (HL0.out.below BP.out) (HL1.out.below BP.out) (by omega) (by omega) HZ0.out HZ1.out)
          clear hsp hbp HA B2 X2
          go_wp2_with fail
          refine HC.out.mono ?_
          rintro e q3 ⟨Q3, cq3, rfl, hsq, hbq⟩
          have BQ := Lib.hid (BP.out.trans (hbq.mono BP.out.size))
          have XQ := Lib.hid (XP.out.below hbq)
          have HE := Lib.hid (same_is P3 Q3 _ cp3 cq3 _ q3 rfl (SP.out.below hbq) hsq (by rw [pairB_len, HN0.out, HN1.out]; unfold maxLen; omega))
          clear hsq hbq HC BP XP SP
          go_wp2_with fail
          refine HE.out.mono ?_
          rintro e r3 ⟨rfl, hbr⟩
          have B3 := Lib.hid (BQ.out.trans (hbr.mono BQ.out.size))
          have X3 := Lib.hid (XQ.out.below hbr)
          clear hbr HE BQ XQ
          have HA := Lib.hid (slice_is X n0 cx xs0 a3 a4 r3 HN0.out X3.out (by omega) HW3.out HW4.out)
          go_wp2_with fail
          refine HA.out.mono ?_
          rintro e p4 ⟨P4, cp4, rfl, hsp, hbp⟩
          have BP := Lib.hid (B3.out.trans (hbp.mono B3.out.size))
          have XP := Lib.hid (X3.out.below hbp)
          have SP := Lib.hid hsp
          have HC := Lib.hid (refSlice_is A0 n0 c0 xs0 a3 a4 p4 HN0.out (HL0.out.below BP.out) (by omega))
          clear hsp hbp HA B3 X3
          go_wp2_with fail
          refine HC.out.mono ?_
          rintro e q4 ⟨Q4, cq4, rfl, hsq, hbq⟩
          have BQ := Lib.hid (BP.out.trans (hbq.mono BP.out.size))
          have XQ := Lib.hid (XP.out.below hbq)
          have HE := Lib.hid (same_is P4 Q4 _ cp4 cq4 _ q4 rfl (SP.out.below hbq) hsq (by have := sliceB_len xs0 a3 a4; have h2 := HN0.out; unfold maxLen; omega))
          clear hsq hbq HC BP XP SP
          go_wp2_with fail
          refine HE.out.mono ?_
          rintro e r4 ⟨rfl, hbr⟩
          have B4 := Lib.hid (BQ.out.trans (hbr.mono BQ.out.size))
          have X4 := Lib.hid (XQ.out.below hbr)
          clear hbr HE BQ XQ
          have HA := Lib.hid (each_is X n0 cx xs0 s5 s6 r4 HN0.out X4.out (by omega) HZ0.out (by omega) (by omega))
          go_wp2_with fail
          refine HA.out.mono ?_
          rintro e p5 ⟨P5, cp5, rfl, hsp, hbp⟩
          have BP := Lib.hid (B4.out.trans (hbp.mono B4.out.size))
          have XP := Lib.hid (X4.out.below hbp)
          have SP := Lib.hid hsp
          have HC := Lib.hid (refEach_is A0 n0 c0 xs0 s5 s6 p5 HN0.out (HL0.out.below BP.out) (by omega) HZ0.out (by omega) (by omega))
          clear hsp hbp HA B4 X4
          go_wp2_with fail
          refine HC.out.mono ?_
          rintro e q5 ⟨Q5, cq5, rfl, hsq, hbq⟩
          have BQ := Lib.hid (BP.out.trans (hbq.mono BP.out.size))
          have XQ := Lib.hid (XP.out.below hbq)
          have HE := Lib.hid (same_is P5 Q5 n0 cp5 cq5 (xs0.map fun x => s5 ++ x ++ s6) q5 ((List.length_map _).trans HN0.out) (SP.out.below hbq) hsq (by unfold maxLen; omega))
          clear hsq hbq HC BP XP SP
          go_wp2_with fail
          refine HE.out.mono ?_
          rintro e r5 ⟨rfl, hbr⟩
          have B5 := Lib.hid (BQ.out.trans (hbr.mono BQ.out.size))
          have X5 := Lib.hid (XQ.out.below hbr)
          clear hbr HE BQ XQ
          have HE := Lib.hid (same_is X A0 n0 cx c0 xs0 r5 HN0.out X5.out (HL0.out.below B5.out) (by unfold maxLen; omega))
          go_wp2_with fail
          refine HE.out.mono ?_
          rintro e r6 ⟨rfl, hbr⟩
          have B6 := Lib.hid (B5.out.trans (hbr.mono B5.out.size))
          clear hbr HE B5 X5
          go_wp2_with fail
          refine (awake_is _).mono ?_
          rintro e r7 ⟨rfl, hbr⟩
          have B7 := Lib.hid (B6.out.trans (hbr.mono B6.out.size))
          clear hbr B6
          go_wp2
          go_ret
          exact ⟨rfl, B7.out⟩
      · go_enter Tryd.func3, Tryd.ntmps3
        go_wp2_with fail
        refine HR.out.mono ?_
        rintro e w' ⟨rfl, rfl⟩
        go_wp2_with fail
        refine HR1.out.mono ?_
        rintro e w' ⟨rfl, rfl⟩
        go_wp2_with fail
        refine (awake_is _).mono ?_
        rintro e w5 ⟨rfl, hb5⟩
        have HB := Lib.hid hb5
        clear hb5
        go_wp2
        go_ret
        exact ⟨rfl, HB.out⟩

end Go.Proofs.YtmallbgmpmdjiaaDoor.ListsAll
