/- SoundNumbers: its walk. -/
import Derived.Deep.RegionHeld3
import Derived.Deep.QuietTactic
import Derived.Deep.DeepCutAuto
import Derived.Deep.CutBlock
import Derived.StillTailTactics
import Derived.BigQuiet
import Derived.BigRegion
import Derived.Test.YtpphkaolonjjdaaDoorRangeJ
import Derived.Test.YtpphkaolonjjdaaDoorStepAnyJ
import Derived.Test.YtpphkaolonjjdaaDoorQparseJ
import Derived.Test.YtpphkaolonjjdaaDoorCmkJ
import Derived.Test.YtpphkaolonjjdaaDoorYtopJ
import Derived.Test.YtpphkaolonjjdaaDoorJwtJ
import Derived.Test.YtpphkaolonjjdaaDoorJnvJ
namespace Go.Proofs.YtpphkaolonjjdaaDoor.SoundNumbers
open Go Go.RowKit Go.Proofs.YtpphkaolonjjdaaDoor.Spl Go.Proofs.YtpphkaolonjjdaaDoor.Nodm Go.Proofs.YtpphkaolonjjdaaDoor.Nz Go.Proofs.YtpphkaolonjjdaaDoor.Cpl Go.Proofs.YtpphkaolonjjdaaDoor.Cin Go.Proofs.YtpphkaolonjjdaaDoor.Cops Go.Proofs.YtpphkaolonjjdaaDoor.Cmm Go.Proofs.YtpphkaolonjjdaaDoor.Dpl Go.Proofs.YtpphkaolonjjdaaDoor.Dpr Go.Proofs.YtpphkaolonjjdaaDoor.Jkd Go.Proofs.YtpphkaolonjjdaaDoor.Jbk Go.Proofs.YtpphkaolonjjdaaDoor.Jdp Go.Proofs.YtpphkaolonjjdaaDoor.Jcd Go.Proofs.YtpphkaolonjjdaaDoor.Jnu Go.Proofs.YtpphkaolonjjdaaDoor.Jnv Go.Proofs.YtpphkaolonjjdaaDoor.Place Go.Proofs.YtpphkaolonjjdaaDoor.Nums Go.Proofs.YtpphkaolonjjdaaDoor.StepAny Go.Proofs.YtpphkaolonjjdaaDoor.Qlist
open Go.Proofs.YtpphkaolonjjdaaDoor.Pure (bs)

set_option maxRecDepth 100000 in
set_option maxHeartbeats 16000000 in
theorem walk (A0 : Option Addr) (n0 c0 : Nat) (zs0 : List Int) (a1 a2 a3 : Int) (w : World) (hl0 : IntIs w A0 n0 c0 zs0) (hm0 : n0 ≤ maxLen) (w1 : (Lit.int .i64 a1).wf = true) (w2 : (Lit.int .i64 a2).wf = true) (w3 : (Lit.int .i64 a3).wf = true) (hK : Knd w) :
    Calls Tryd.prog 4 #[.slice A0 n0 c0, .int .i64 a1, .int .i64 a2, .int .i64 a3] w fun e W' => e = .returned (.bool true) ∧ Below w.heap.size w W' := by
  have HT := Lib.hid (Ytop.numText_is A0 n0 c0 zs0 w (by unfold maxLen at hm0; omega) hl0)
  have HKn := Lib.hid (fun (W : World) (hW : Below w.heap.size w W) => hK.on hW)
  have HPl := Lib.hid (fun (v : Int) (n : Nat) (W : World) (hn : 0 < n) (hn2 : n ≤ 1000000) (hv : (Lit.int .i64 v).wf = true) => place_is v n W hn hn2 hv)
  have hq50 : IntKind.i64.wrap (a1.tdiv 50) = a1.tdiv 50 := tdiv_wrap w1
  have hw50 : (Lit.int .i64 (a1.tdiv 50)).wf = true := tdiv_wf w1
  have HW1 := Lib.hid w1
  have HW2 := Lib.hid w2
  have HW3 := Lib.hid w3
  have HW50 := Lib.hid hw50
  obtain ⟨d50, hd50⟩ : ∃ d50, a1.tdiv 50 = d50 := ⟨_, rfl⟩
  rw [hd50] at hq50 HW50
  clear hl0 hm0 hK w1 w2 w3 hw50
  go_enter Tryd.func4, Tryd.ntmps4
  go_upto_region 2 with (first | (go_at_call 15; refine HT.out.mono ?_; rintro e W1 ⟨s, hs, rfl, hb1, hg1⟩; have HG1 : Hid (0 < W1.heap.size) := Nat.lt_of_le_of_lt (Nat.zero_le _) hg1; clear hg1; obtain ⟨t, rfl⟩ : ∃ t, s = bs t := ⟨s.data.toList, (Pure.bs_self _).symm⟩; have HB1 := Lib.hid hb1; have HS := Lib.hid hs; clear hb1 hs) | (go_at_call 14; refine (Qparse.refParse_is t W1 (by have := HS.out; have h2 := Ymu.mu_size (bs t); rw [Pure.size_bs] at h2; omega)).mono ?_; rintro e W2 ⟨v, rfl, hv, hb2⟩; obtain ⟨kk, ss, A2, n2, c2, rfl⟩ := NodeOf.agg hv; have HV := Lib.hid hv; have HB2 := Lib.hid hb2; clear hv hb2))
  have htm : Ymu.muL t ≤ 996132 := by have := HS.out; rw [Ymu.mu_bs] at this; exact this
  have htl : t.length ≤ 996132 := Nat.le_trans (Ymu.muL_len t) htm
  obtain ⟨W3, hW3⟩ : ∃ W3, W2.alloc (.cells #[.int .i64 (kk : Int), .string (bs ss), .slice A2 n2 c2] 31) = W3 := ⟨_, rfl⟩
  have hx3 : W3.heap[W2.heap.size]? = some (.cells #[.int .i64 (kk : Int), .string (bs ss), .slice A2 n2 c2] 31) := by rw [← hW3]; exact heap_alloc_new W2 _
  have hb23 : Below W2.heap.size W2 W3 := by rw [← hW3]; exact (Below.refl _ _).alloc (Nat.le_refl _) _
  rw [hW3]
  have hb3 : Below w.heap.size w W3 := HB1.out.trans ((HB2.out.mono HB1.out.size).trans (hb23.mono (Nat.le_trans HB1.out.size HB2.out.size)))
  have HB3 := Lib.hid hb3
  have HV3 : Hid (∀ nd, parse t = .ok nd → NzIn (fun b => W1.heap.size ≤ b) W3 (.agg #[.int .i64 (kk : Int), .string (bs ss), .slice A2 n2 c2]) (toZ nd)) := fun nd h => by
    have hv := HV.out
    rw [h] at hv
    exact Nz.NodeIn.toZ ((show NodeIn _ W2 _ nd from hv).on hb23)
  obtain ⟨d0, d1, d2⟩ := Jfn.cells_3 hx3
  clear hW3 hx3 hb23 hb3 HV HS HT
  cases hR : parse t with
  | bad er =>
    obtain ⟨ne, hne⟩ : ∃ ne, ne = errNo (.bad er : Rd Nod) := ⟨_, rfl⟩
    have hn1 : ¬ ne = 0 := by rw [hne]; cases er <;> decide
    have hn2 : ¬ ((ne : Nat) : Int) = 0 := by omega
    have hn0 : (((ne : Nat) : Int) == 0) = false := by rw [beq_eq_false_iff_ne]; exact hn2
    have hn3 : (((ne : Nat) : Int) != 0) = true := by rw [bne_iff_ne]; exact hn2
    rw [← hne]
    clear hne hR HV3
    go_wp2_with (go_at_call 9; refine (Daw.awake_is _ (HKn.out _ HB3.out)).mono ?_; rintro e W5 ⟨rfl, hb5⟩; have HB5 := Lib.hid (HB3.out.trans (hb5.mono HB3.out.size)); clear hb5)
    go_ret
    exact ⟨rfl, HB5.out⟩
  | ok nd =>
    rw [show ((errNo (Rd.ok nd) : Nat) : Int) = 0 from rfl]
    have hx := HV3.out nd hR
    obtain ⟨hfrm, hfit, _⟩ := Dps.parse_gd t (by omega) nd hR
    have hsz := Jwt.parse_few t htm nd hR
    clear HV3 hR
    generalize toZ nd = x at *
    have HC := Lib.hid (Cmk.refCompile_is _ _ x W3 hx hfrm (by omega))
    have hops : opsP (compP x) ≤ 15813 := by
      have h1 := node_ops x 0 [[]] (by decide)
      have h2 := Cmn.sizC_le x
      show opsP (nodeP x 0 [[]]) ≤ _
      rw [h1]
      show 0 + 0 + sizC x ≤ _
      omega
    have hchk := Dcp.comp_sound x hfrm hfit (by omega)
    have HChk := Lib.hid hchk
    have HOps := Lib.hid hops
    have HOk := Lib.hid (comp_ok x hfrm (by omega))
    clear hx hfrm hfit hsz hops hchk
    generalize compP x = B at *
    go_upto_region 5 with (go_at_call 16; (refine HC.out.mono ?_; rintro e W5 ⟨vB, G, rfl, hrg, hB, hb5⟩; have HRG := Lib.hid hrg; have HBG := Lib.hid hB; have HB5 := Lib.hid hb5; obtain ⟨AB, cB, rfl⟩ := Jnv.own_slice hrg.row; clear hrg hb5 HC hB))
    obtain ⟨W6, hW6⟩ : ∃ W6, W5.alloc (.cells #[.slice AB G.length cB] 24) = W6 := ⟨_, rfl⟩
    have hx6 : W6.heap[W5.heap.size]? = some (.cells #[.slice AB G.length cB] 24) := by rw [← hW6]; exact heap_alloc_new W5 _
    have hb56 : Below W5.heap.size W5 W6 := by rw [← hW6]; exact (Below.refl _ _).alloc (Nat.le_refl _) _
    rw [hW6]
    have hb6 : Below w.heap.size w W6 := HB3.out.trans ((HB5.out.mono HB3.out.size).trans (hb56.mono (Nat.le_trans HB3.out.size HB5.out.size)))
    have hrg6 := HRG.out.on hb56
    have hsome := rows_some HChk.out
    have hlen : G.length = B.length := by rw [← HBG.out, blk_len]
    have hlen2 := len_le hsome.2
    have hq16 : G.length ≤ 15813 := by have := HOps.out; omega
    have hq0 : 0 < G.length := by rw [hlen]; exact List.length_pos_iff.2 hsome.1
    have hok6 : Okd B := ⟨by omega, by have := HOps.out; omega, fun l hl o ho => oko_of (HOk.out l hl o ho)⟩
    have hb57 : W3.heap.size ≤ W6.heap.size := Nat.le_trans HB5.out.size hb56.size
    have HB57' := Lib.hid hb57
    have HNe : Hid (∀ g ∈ G, 0 < g.2.length) := fun g hg => by
      have h1 := hsome.2 (g.2.map (·.1)) (by rw [← HBG.out]; exact List.mem_map_of_mem hg)
      have h2 := List.length_pos_iff.2 h1
      rwa [List.length_map] at h2
    have HRow : Hid (∀ g ∈ G, g.2.length ≤ 15813 ∧ ∀ y ∈ g.2, okoB y.1 = true) := fun g hg => by
      have h1 : g.2.map (·.1) ∈ B := by rw [← HBG.out]; exact List.mem_map_of_mem hg
      have h2 := rows_le h1
      rw [List.length_map] at h2
      exact ⟨by have := HOps.out; omega, fun y hy => HOk.out _ h1 y.1 (List.mem_map_of_mem hy)⟩
    have HCd : Hid (∀ U, Below W6.heap.size W6 U → CodeU U (.agg #[.slice AB G.length cB]) B) := fun U hU => by
      refine ⟨HKn.out U (hb6.trans (hU.mono hb6.size)), ?_⟩
      have h1 := (hrg6.on hU).code
      rw [HBG.out] at h1
      exact h1
    have hc1 := fun U (hU : Below W6.heap.size W6 U) => check_ok B _ U (HCd.out U hU) hok6
    rw [HChk.out] at hc1
    have hc3 := fun U (hU : Below W6.heap.size W6 U) => depth_ok B _ U (HCd.out U hU) hok6
    have hc4 := fun U (hU : Below W6.heap.size W6 U) => Ddp.depth_is B _ _ U (HCd.out U hU).2 hok6.1 hok6.2.1 (fun l hl o ho => (hok6.2.2 l hl o ho).1)
    generalize depthP B = dp at hc3 hc4
    have HC1 := Lib.hid hc1
    have HC3 := Lib.hid hc3
    have HC4 := Lib.hid hc4
    have HX6 : Hid (∀ U, Below W6.heap.size W6 U → U.cell? ⟨W5.heap.size, 0, none⟩ = some (.slice AB G.length cB)) := fun U hU => one_cell ((hU.block _ (Array.getElem?_eq_some_iff.1 hx6).1).trans hx6)
    have HRG6 := Lib.hid hrg6
    have HB6 := Lib.hid hb6
    have e6 := one_cell hx6
    obtain ⟨cb, hcb⟩ : ∃ cb, cb = W5.heap.size := ⟨_, rfl⟩
    rw [← hcb] at HX6 e6 ⊢
    obtain ⟨q, hq⟩ : ∃ q, q = G.length := ⟨_, rfl⟩
    rw [← hq] at HX6 e6 HC1 HC3 HC4 hq16 hq0 ⊢
    have HQ := Lib.hid hq
    clear hb57 hx6 hb56 hb6 hrg6 hsome hlen hlen2 hok6 HCd hc1 hc3 hc4 hW6 hcb hq d0 d1 d2
    have hdd : (dp != dp) = false := by simp
    have hdd2 : (dp == dp) = true := beq_self_eq_true dp
    go_cut [38] (fun b wx => b = .bool false ∧ Hid (Below W6.heap.size W6 wx))
    case first =>
      go_region_held3 (fun U => Below W6.heap.size W6 U ∧ U.cell? ⟨cb, 0, none⟩ = some (.slice AB q cB)) (first | exact ⟨hbw, HX6.out _ hbw⟩ | exact ⟨(Below.refl _ _).drew, e6⟩) (first | (go_at_call 10; have hh := And.left ‹Below W6.heap.size W6 _ ∧ _›; refine (HC1.out _ hh).mono ?_; rintro e W7 ⟨rfl, hb7⟩; have hbw := hh.trans (hb7.mono hh.size); clear hh hb7) | (go_at_call 12; have hh := And.left ‹Below W6.heap.size W6 _ ∧ _›; refine (HC3.out _ hh).mono ?_; rintro e W7 ⟨rfl, hb7⟩; have hbw := hh.trans (hb7.mono hh.size); clear hh hb7) | (go_at_call 13; have hh := And.left ‹Below W6.heap.size W6 _ ∧ _›; refine (HC4.out _ hh).mono ?_; rintro e W7 ⟨rfl, hb7⟩; have hbw := hh.trans (hb7.mono hh.size); clear hh hb7))
      all_goals have hh := And.left ‹Below W6.heap.size W6 _ ∧ _›
      all_goals go_wp2_with fail
      all_goals go_meet
      all_goals exact ⟨rfl, hh⟩
    case rest =>
      obtain ⟨rfl, HB7⟩ := hcut
      rename World => W7
      have HRG7 := Lib.hid (HRG6.out.on HB7.out)
      have HB57 : Hid (W3.heap.size ≤ W7.heap.size) := Nat.le_trans HB57'.out HB7.out.size
      obtain ⟨gB, rfl⟩ : ∃ gB, AB = some ⟨gB, 0, none⟩ := by
        rcases own_form HRG7.out.row with ⟨_, h2⟩ | ⟨g, c, h1, _⟩
        · have := HQ.out; omega
        · cases h1; exact ⟨g, rfl⟩
      have e7 := HX6.out W7 HB7.out
      obtain ⟨b, hb⟩ : ∃ b, b = place a1 q := ⟨_, rfl⟩
      have hbq : b < q := by rw [hb]; exact place_lt a1 q hq0
      have HP1 := Lib.hid (HPl.out a1 q W7 hq0 (by omega) HW1.out)
      rw [← hb] at HP1
      obtain ⟨r, hr⟩ : ∃ r, G[b]? = some r := ⟨_, List.getElem?_eq_getElem (by have := HQ.out; omega)⟩
      have hrm := List.mem_of_getElem? hr
      have hrow := HRG7.out.row
      rw [← HQ.out] at hrow
      have cB7 : W7.cell? ⟨gB, b, none⟩ = some r.1 := (hrow.cellAt b (by omega)).trans (by rw [List.getElem?_map, hr]; rfl)
      obtain ⟨n, hn⟩ : ∃ n, n = r.2.length := ⟨_, rfl⟩
      have hn0 : 0 < n := by rw [hn]; exact HNe.out r hrm
      have hn16 : n ≤ 15813 := by rw [hn]; exact (HRow.out r hrm).1
      have hops := HRG7.out.ops r hrm
      have hnum7 := HRG7.out.nums r hrm
      have hoks := (HRow.out r hrm).2
      obtain ⟨v0, L0⟩ := r
      dsimp only at hn hops hnum7 hoks cB7
      rw [← hn] at hops
      obtain ⟨g0, c0', rfl⟩ : ∃ g c, v0 = .slice (some ⟨g, 0, none⟩) n c := by
        rcases own_form hops with ⟨_, h2⟩ | ⟨g, c, h1, _⟩
        · omega
        · exact ⟨g, c, h1⟩
      obtain ⟨hform, hnews⟩ := own_news hops
      have hone := flat4_one hnum7
      have hfl : (flat4 L0).length = n * 4 := by rw [flat4_len, hn]
      obtain ⟨i0, hi0, hz0, hz1, hz2⟩ := infoOp_at
      have HNum := Lib.hid hnum7
      have HOks := Lib.hid hoks
      have HN := Lib.hid hn
      have HR := Lib.hid hr
      clear hrow hops hnum7 hoks hn hr hrm hb
      go_upto_region 8 with (go_at_call 17; refine HP1.out.mono ?_; rintro e W' ⟨rfl, rfl⟩; clear HP1)
      go_upto_region 9 with (at_builtin; refine wpList_append_any rfl _ _ 38 rfl W7.heap.size 40 i0 (.agg #[.int .i64 0, .int .i64 0, .string .empty, .slice none 0 0]) 4 56 Tryd.underlying38 hi0 hz0 hz1 hz2 rfl (by decide) _ 0 [] rfl (World.ownsRow_nil _ _ _ _) _ n c0' (flat4 L0) rfl hform hfl hnews hone (by unfold maxLen; omega) (by omega) (Nat.le_refl _) ?_; intro v8 W8 hown8 hg8; rw [Nat.zero_add, List.nil_append] at hown8; obtain ⟨g8, c8, rfl⟩ : ∃ g c, v8 = .slice (some ⟨g, 0, none⟩) n c := (own_form hown8).elim (fun h => absurd h.2 (by omega)) (fun ⟨g, c, h1, _⟩ => ⟨g, c, h1⟩); have HM8 : Hid (ModIs W3.heap.size W7 (.slice (some ⟨g8, 0, none⟩) n c8) L0 W8) := ModIs.start hg8 (by rw [← HN.out]; exact hown8) (by have := HN.out; omega) HNum.out HOks.out; clear hown8 hg8)
      clear hform hnews hone hfl e7 cB7
      obtain ⟨pi, hpi⟩ : ∃ pi, pi = place d50 n := ⟨_, rfl⟩
      have hpn : pi < n := by rw [hpi]; exact place_lt d50 n hn0
      obtain ⟨p9, hp9⟩ : ∃ p9, p9 = place a3 9 := ⟨_, rfl⟩
      have hp9l : p9 < 9 := by rw [hp9]; exact place_lt a3 9 (by decide)
      obtain ⟨p7, hp7⟩ : ∃ p7, p7 = place a2 7 := ⟨_, rfl⟩
      have hp7l : p7 < 7 := by rw [hp7]; exact place_lt a2 7 (by decide)
      have HPi := Lib.hid (HPl.out d50 n W8 hn0 (by omega) HW50.out)
      have HP9 := Lib.hid (HPl.out a3 9 W8 (by decide) (by decide) HW3.out)
      have HP7 := Lib.hid (HPl.out a2 7 W8 (by decide) (by decide) HW2.out)
      rw [← hpi] at HPi
      rw [← hp9] at HP9
      rw [← hp7] at HP7
      have hw9 : IntKind.i64.wrap ((p9 : Int) - 2) = (p9 : Int) - 2 := IntWalk.i64_in _ (by omega)
      have K0 : Hid True := trivial
      clear hpi hp9 hp7
      go_upto_region 10 with (first
        | (go_at_call 17; clear K0; refine HPi.out.mono ?_; rintro e W' ⟨rfl, rfl⟩; clear HPi)
        | (go_at_call 17; refine HP9.out.mono ?_; rintro e W' ⟨rfl, rfl⟩; clear HP9))
      go_upto_block 0 with (go_at_call 17; refine HP7.out.mono ?_; rintro e W' ⟨rfl, rfl⟩; clear HP7)
      go_cut [13, 16] from 60 to 142 (fun v _ wx => ∃ L, Hid (ModIs W3.heap.size W7 v L wx))
      case first =>
        have hm8 := HM8.out
        rw [HN.out] at hm8
        obtain ⟨y, hy⟩ : ∃ y, L0[pi]? = some y := ⟨_, List.getElem?_eq_getElem (by have := HN.out; omega)⟩
        have HY := Lib.hid hy
        obtain ⟨y0, y1, y2, y3⟩ := hm8.cells hy
        have f0 := hm8.row.frozenAt (pi * 4)
        have f1 := hm8.row.frozenAt (pi * 4 + 1)
        have f2 := hm8.row.frozenAt (pi * 4 + 2)
        have f3 := hm8.row.frozenAt (pi * 4 + 3)
        have hokY := hm8.oko y (List.mem_of_getElem? hy)
        have hfewY := hm8.few y (List.mem_of_getElem? hy)
        have HOY := Lib.hid hokY
        have HFY := Lib.hid hfewY
        have HNY := Lib.hid (hm8.nums y (List.mem_of_getElem? hy))
        have HMp := Lib.hid (fun (q : Nat) (u : Value) (y' : Opp × Value) (hq : q < 4) (hc : cell4 y' = (cell4 y).set q u) => hm8.put hy hq hc)
        rw [← HN.out] at HMp
        obtain ⟨⟨k1, n1, s1, l1⟩, v1⟩ := y
        dsimp only at y0 y1 y2 y3 HOY HFY HNY
        have hpni : (pi : Int) < (n : Int) := by omega
        clear hm8 hy hokY hfewY
        obtain rfl | rfl | rfl | rfl | rfl | rfl | rfl : p7 = 0 ∨ p7 = 1 ∨ p7 = 2 ∨ p7 = 3 ∨ p7 = 4 ∨ p7 = 5 ∨ p7 = 6 := by omega
        · have HE := Lib.hid (HMp.out 0 (.int .i64 ((p9 : Int) - 2)) (⟨(p9 : Int) - 2, n1, s1, l1⟩, v1) (by decide) rfl HNY.out HOY.out HFY.out)
          clear HMp
          go_wp2_with fail
          go_meet
          exact ⟨_, HE.out⟩
        · have HE := Lib.hid (HMp.out 1 (.int .i64 ((p9 : Int) - 2)) (⟨k1, (p9 : Int) - 2, s1, l1⟩, v1) (by decide) rfl HNY.out ⟨HOY.out.1, HOY.out.2.1, by show -9223372036854775808 ≤ (p9 : Int) - 2; omega, by show (p9 : Int) - 2 ≤ 9223372036854775807; omega⟩ HFY.out)
          clear HMp
          go_wp2_with fail
          go_meet
          exact ⟨_, HE.out⟩
        · obtain ⟨p4, hp4⟩ : ∃ p4, p4 = place a3 4 := ⟨_, rfl⟩
          have hp4l : p4 < 4 := by rw [hp4]; exact place_lt a3 4 (by decide)
          have HP4 := Lib.hid (HPl.out a3 4 W8 (by decide) (by decide) HW3.out)
          rw [← hp4] at HP4
          have ix := index_s p4 hp4l
          have hsl := nameS_len p4
          generalize nameS p4 = sx at ix hsl
          have HE := Lib.hid (HMp.out 2 (.string (bs sx)) (⟨k1, n1, sx, l1⟩, v1) (by decide) rfl HNY.out ⟨HOY.out.1, by show sx.length ≤ maxLen; unfold maxLen; omega, HOY.out.2.2.1, HOY.out.2.2.2⟩ HFY.out)
          clear HMp hp4 hsl
          go_wp2_with (go_at_call 17; refine HP4.out.mono ?_; rintro e W' ⟨rfl, rfl⟩; clear HP4)
          go_meet
          exact ⟨_, HE.out⟩
        · have hc8 : n ≤ c8 := by
            rcases HM8.out.row.2 with ⟨h1, _⟩ | ⟨_, _, _, h1, _, _, h4, _⟩
            · cases h1
            · cases h1; have := HN.out; omega
          have hw1 : IntKind.i64.wrap ((pi : Int) + 1) = (pi : Int) + 1 := IntWalk.i64_in _ (by omega)
          obtain ⟨Ab, ib, hAb, hAn⟩ := cut_back g8 n c8 pi hpn hc8
          have ia := cut_front g8 n c8 pi (by omega)
          obtain ⟨m1, hm1⟩ : ∃ m1, m1 = n - (pi + 1) := ⟨_, rfl⟩
          have hm := HM8.out
          rw [HN.out] at hm
          have hmd := hm.on (Below.refl W8.heap.size W8).drew
          have hnews := back_news (A := Ab) hmd.row (by rw [← HN.out]; exact hpn) (by rw [← HN.out]; exact hAb)
          have hone := flat4_one (w := W8.drew) (H := W3.heap.size) (L := L0.drop (pi + 1)) (fun z hz => hmd.nums z (List.mem_of_mem_drop hz))
          have hfront := hmd.front (i := pi) (by rw [← HN.out]; omega)
          have hnl : (flat4 (L0.drop (pi + 1))).length = m1 * 4 := by rw [flat4_len, List.length_drop, hm1, ← HN.out]
          have hHd := Lib.hid hmd
          have hM1 := Lib.hid hm1
          rw [← hm1] at ib
          have hs8 := HM8.out.bel.size
          have hmb : m1 ≤ n := by omega
          have hAf : Ab = none → m1 = 0 ∧ c8 - (pi + 1) = 0 := fun h => absurd h hAn
          clear HMp f0 f1 f2 f3 y0 y1 y2 y3 hm hmd hAb hAn hm1
          go_upto_region 22 with fail
          go_still_tail 7, (by kernel_rfl)
          change wpList _ _ _ _ _ W8.drew
          go_wp2_with (at_builtin; refine wpList_append_any rfl _ _ 38 rfl W7.heap.size 40 i0 (.agg #[.int .i64 0, .int .i64 0, .string .empty, .slice none 0 0]) 4 56 Tryd.underlying38 hi0 hz0 hz1 hz2 rfl (by decide) _ pi (flat4 (L0.take pi)) rfl hfront _ m1 (c8 - (pi + 1)) (flat4 (L0.drop (pi + 1))) rfl hAf hnl hnews hone (by unfold maxLen; omega) (by omega) hs8 ?_; intro v9 W9 hown9 hg9; have HO9 := Lib.hid hown9; have HG9 := Lib.hid hg9; clear hown9 hg9)
          go_meet
          refine ⟨_, hHd.out.less (i := pi) (by rw [← HN.out]; exact hpn) ?_ HG9.out⟩
          rw [← HN.out, ← hM1.out]
          exact HO9.out
        · obtain ⟨A1, c1, rfl⟩ := Jnv.own_slice HNY.out
          have hrow8 := HM8.out.row
          rw [← HN.out] at hrow8
          have hfl : (flat4 L0).length = n * 4 := by rw [flat4_len, ← HN.out]
          clear HMp f0 f1 f2 f3
          go_wp2_with (at_builtin; refine wpList_append_own _ rfl _ _ 38 rfl W7.heap.size 40 i0 (.agg #[.int .i64 0, .int .i64 0, .string .empty, .slice none 0 0]) 4 56 Tryd.underlying38 hi0 hz0 hz1 hz2 rfl (by decide) _ _ _ rfl (hrow8.alloc _) ⟨W8.heap.size, 0, none⟩ 1 1 [.int .i64 k1, .int .i64 n1, .string (bs s1), .slice A1 l1.length c1] rfl rfl (four_new _ _ _ _ _ _) (by simp [Value.oneCell']) (by unfold maxLen; omega) (by omega) (by have := HM8.out.bel.size; simp; omega) ?_; intro v9 W9 hown9 hg9 _; obtain ⟨A9, c9, rfl⟩ := Jnv.own_slice hown9; have HE : Hid (ModIs W3.heap.size W7 (.slice A9 (n + 1) c9) (L0 ++ [(⟨k1, n1, s1, l1⟩, .slice A1 l1.length c1)]) W9) := HM8.out.more HY.out (by have := HN.out; omega) (by rw [← HN.out]; exact hown9) hg9; clear hown9 hg9)
          go_meet
          exact ⟨_, HE.out⟩
        · obtain ⟨A1, c1, rfl⟩ := Jnv.own_slice HNY.out
          obtain ⟨i1, hi1, hx0, hx1, hx2⟩ := infoInt_at
          obtain ⟨m1, hm1⟩ : ∃ m1, m1 = l1.length := ⟨_, rfl⟩
          obtain ⟨hform, hnews⟩ := own_news HNY.out
          have hone := ints_one l1
          have hnl : (l1.map (Value.int .i64)).length = m1 * 1 := by rw [List.length_map, Nat.mul_one, hm1]
          have hm1b : m1 ≤ 1000000 := by rw [hm1]; exact (of_decide_eq_true (HOks.out _ (List.mem_of_getElem? HY.out))).1
          rw [← hm1] at hform y3
          have HM1 := Lib.hid hm1
          have HK8 : Hid (∀ V, Below W8.heap.size W8 V → V.cell? ⟨g8, pi * 4 + 3, none⟩ = some (.slice A1 m1 c1) ∧ V.frozen? ⟨g8, pi * 4 + 3, none⟩ = false) := fun V hV => by
            have hgl := (HM8.out.row.lt g8 rfl).2
            exact ⟨(hV.cell (p := ⟨g8, pi * 4 + 3, none⟩) hgl).trans y3, (World.frozen?_of_block (a := ⟨g8, pi * 4 + 3, none⟩) (hV.block g8 hgl)).trans f3⟩
          clear HMp f0 f1 f2 y0 y1 y2 hm1 f3
          go_wp2_with (first
            | (at_builtin; refine wpList_append_any rfl _ _ 28 rfl W8.heap.size 3 i1 (.int .i64 0) 1 8 Tryd.underlying28 hi1 hx0 hx1 hx2 rfl (by decide) _ 0 [] rfl (World.ownsRow_nil _ _ _ _) _ m1 c1 (l1.map (Value.int .i64)) rfl hform hnl hnews hone (by unfold maxLen; omega) (by omega) (Nat.le_refl _) ?_; intro v9 W9 hown9 hg9; rw [Nat.zero_add, List.nil_append] at hown9; obtain ⟨A9, c9, rfl⟩ := Jnv.own_slice hown9; have hb9 := grown_below hg9; have HB9 := Lib.hid hb9; have hs9 := hb9.size; clear hg9 hb9)
            | (at_builtin; refine wpList_append_own _ rfl _ _ 28 rfl W8.heap.size 3 i1 (.int .i64 0) 1 8 Tryd.underlying28 hi1 hx0 hx1 hx2 rfl (by decide) _ _ _ rfl (hown9.alloc _) ⟨W9.heap.size, 0, none⟩ 1 1 [.int .i64 ((p9 : Int) - 2)] rfl rfl (one_new _ _ _) (by simp [Value.oneCell']) (by unfold maxLen; omega) (by omega) (by simp; omega) ?_; intro v10 W10 hown10 hg10 _; obtain ⟨A10, c10, rfl⟩ := Jnv.own_slice hown10; have hb10 : Below W8.heap.size W8 W10 := (HB9.out.alloc hs9 _).grown hg10 (by rw [World.size_alloc]; omega) (fun k hk => (hown9.lt k hk).1); have HB10 := Lib.hid hb10; have HO10 := Lib.hid hown10; obtain ⟨z3, x3⟩ := HK8.out W10 hb10; clear hg10 hb10 hown10))
          go_meet
          refine ⟨L0.set pi (⟨k1, n1, s1, l1 ++ [(p9 : Int) - 2]⟩, .slice A10 (m1 + 1) c10), ?_⟩
          have hm := HM8.out
          have hh8 : W3.heap.size ≤ W8.heap.size := Nat.le_trans HB57.out HM8.out.bel.size
          have ho10 : W10.ownsRow W8.heap.size 3 1 (.slice A10 (m1 + 1) c10) (l1 ++ [(p9 : Int) - 2]).length ((l1 ++ [(p9 : Int) - 2]).map (Value.int .i64)) := by
            rw [List.length_append, List.map_append, ← HM1.out]
            exact HO10.out
          have hll : (l1 ++ [(p9 : Int) - 2]).length ≤ 2000000 := by rw [List.length_append, ← HM1.out]; show m1 + 1 ≤ _; omega
          show ModIs _ _ _ _ _
          rw [HN.out] at hm ⊢
          exact mod_nums hm HY.out HB10.out hh8 ho10 hll
        · obtain ⟨A1, c1, rfl⟩ := Jnv.own_slice HNY.out
          obtain ⟨i1, hi1, hx0, hx1, hx2⟩ := infoInt_at
          obtain ⟨m1, hm1⟩ : ∃ m1, m1 = l1.length := ⟨_, rfl⟩
          obtain ⟨hform, hnews⟩ := own_news HNY.out
          have hone := ints_one l1
          have hnl : (l1.map (Value.int .i64)).length = m1 * 1 := by rw [List.length_map, Nat.mul_one, hm1]
          have hm1b : m1 ≤ 1000000 := by rw [hm1]; exact (of_decide_eq_true (HOks.out _ (List.mem_of_getElem? HY.out))).1
          rw [← hm1] at hform y3
          have HM1 := Lib.hid hm1
          have HK8 : Hid (∀ V, Below W8.heap.size W8 V → V.cell? ⟨g8, pi * 4 + 3, none⟩ = some (.slice A1 m1 c1) ∧ V.frozen? ⟨g8, pi * 4 + 3, none⟩ = false) := fun V hV => by
            have hgl := (HM8.out.row.lt g8 rfl).2
            exact ⟨(hV.cell (p := ⟨g8, pi * 4 + 3, none⟩) hgl).trans y3, (World.frozen?_of_block (a := ⟨g8, pi * 4 + 3, none⟩) (hV.block g8 hgl)).trans f3⟩
          clear HMp f0 f1 f2 y0 y1 y2 hm1 f3
          by_cases hz : m1 = 0
          · have hz2 : ¬ (0 : Int) < (m1 : Int) := by omega
            go_wp2_with fail
            go_meet
            exact ⟨_, HM8.out⟩
          · have hz2 : (0 : Int) < (m1 : Int) := by omega
            go_upto_region 14 with (at_builtin; refine wpList_append_any rfl _ _ 28 rfl W8.heap.size 3 i1 (.int .i64 0) 1 8 Tryd.underlying28 hi1 hx0 hx1 hx2 rfl (by decide) _ 0 [] rfl (World.ownsRow_nil _ _ _ _) _ m1 c1 (l1.map (Value.int .i64)) rfl hform hnl hnews hone (by unfold maxLen; omega) (by omega) (Nat.le_refl _) ?_; intro v9 W9 hown9 hg9; rw [Nat.zero_add, List.nil_append] at hown9; obtain ⟨g9, c9, rfl⟩ : ∃ g c, v9 = .slice (some ⟨g, 0, none⟩) m1 c := (own_form hown9).elim (fun h => absurd h.2 (by omega)) (fun ⟨g, c, h1, _⟩ => ⟨g, c, h1⟩); have hb9 := grown_below hg9; have HB9 := Lib.hid hb9; have HO9 := Lib.hid hown9; obtain ⟨z3, x3⟩ := HK8.out W9 hb9; clear hg9 hb9 hown9)
            have hm := HM8.out
            have hh8 : W3.heap.size ≤ W8.heap.size := Nat.le_trans HB57.out HM8.out.bel.size
            have hg8l := HM8.out.row.lt g8 rfl
            rw [HN.out] at hm
            have hmX := mod_nums hm HY.out HB9.out hh8 (l2 := l1) (v2 := .slice (some ⟨g9, 0, none⟩) m1 c9) (by rw [← HM1.out]; exact HO9.out) (by rw [← HM1.out]; omega)
            have hmF := mod_first (z := (p9 : Int) - 2) hm HY.out HB9.out hh8 HM1.out HO9.out (by rw [← HM1.out]; omega)
            have hpl : pi < L0.length := by rw [← HN.out]; exact hpn
            obtain ⟨_, _, _, x3'⟩ := ModIs.cells (h := W3.heap.size) (g := g8) (c := c8) (w4 := W7) (L := L0.set pi (⟨k1, n1, s1, l1⟩, .slice (some ⟨g9, 0, none⟩) m1 c9)) (by rw [List.length_set]; exact hmX) (List.getElem?_set_self hpl)
            dsimp only at x3'
            have xf : (W9.setCell ⟨g8, pi * 4 + 3, none⟩ (.slice (some ⟨g9, 0, none⟩) m1 c9)).ownsRow W8.heap.size 3 1 (.slice (some ⟨g9, 0, none⟩) m1 c9) m1 (l1.map (Value.int .i64)) := own_keep HO9.out fun k hk => by
              have := HO9.out.lt k hk
              exact heap_setCell_other W9 ⟨g8, pi * 4 + 3, none⟩ k _ (by show k ≠ g8; omega)
            have q0 := xf.cellAt 0 (by omega)
            have q1 := xf.frozenAt 0
            rw [List.getElem?_map, List.getElem?_eq_getElem (by rw [← HM1.out]; omega : 0 < l1.length)] at q0
            rw [← HN.out] at hmF
            have HMF := Lib.hid hmF
            obtain ⟨z0, hz0⟩ : ∃ z0, l1[0]'(by rw [← HM1.out]; omega) = z0 := ⟨_, rfl⟩
            have q0 : (W9.setCell ⟨g8, pi * 4 + 3, none⟩ (.slice (some ⟨g9, 0, none⟩) m1 c9)).cell? ⟨g9, 0, none⟩ = some (.int .i64 z0) := by rw [q0, ← hz0]; rfl
            obtain ⟨X, hX⟩ : ∃ X, W9.setCell ⟨g8, pi * 4 + 3, none⟩ (.slice (some ⟨g9, 0, none⟩) m1 c9) = X := ⟨_, rfl⟩
            rw [hX] at x3' q0 q1 HMF ⊢
            clear hm hmX hmF xf hz0 hX z3 x3 y3
            go_wp2_with fail
            go_meet
            exact ⟨_, HMF.out⟩
      case rest =>
        obtain ⟨L, HM⟩ := hcut
        rename World => W9
        obtain ⟨AM, cM, rfl⟩ := Jnv.own_slice HM.out.row
        have hb9 : Below W6.heap.size W6 W9 := HB7.out.trans (HM.out.bel.mono HB7.out.size)
        have HB9 := Lib.hid hb9
        have hrg9 := HRG7.out.on HM.out.bel
        have e9 := HX6.out W9 hb9
        obtain ⟨j0, hj0, hy0, hy1, hy2⟩ := infoOps_at
        have hrow9 := hrg9.row
        rw [← HQ.out] at hrow9
        obtain ⟨hform, hnews⟩ := own_news hrow9
        have hone : ∀ u ∈ G.map (·.1), u.oneCell' = true := fun u hu => by
          obtain ⟨g', hg', rfl⟩ := List.mem_map.1 hu
          obtain ⟨A', c', e'⟩ := Jnv.own_slice (hrg9.ops g' hg')
          rw [e']; rfl
        have hfl : (G.map (·.1)).length = q * 1 := by rw [List.length_map, Nat.mul_one]; exact HQ.out.symm
        have HRG9 := Lib.hid hrg9
        clear hb9 hrg9 hrow9
        go_upto_region 28 with (at_builtin; (refine wpList_append_any rfl _ _ 22 rfl W9.heap.size 38 j0 (.slice none 0 0) 1 24 Tryd.underlying22 hj0 hy0 hy1 hy2 rfl (by decide) _ 0 [] rfl (World.ownsRow_nil _ _ _ _) _ q cB (G.map (·.1)) rfl hform hfl hnews hone (by unfold maxLen; omega) (by omega) (Nat.le_refl _) ?_; intro vD W10 hown10 hg10; rw [Nat.zero_add, List.nil_append] at hown10; obtain ⟨gD, cD, rfl⟩ : ∃ g c, vD = .slice (some ⟨g, 0, none⟩) q c := (own_form hown10).elim (fun h => absurd h.2 (by omega)) (fun ⟨g, c, h1, _⟩ => ⟨g, c, h1⟩); have HO10 := Lib.hid hown10; have HG10 := Lib.hid hg10; clear hown10 hg10))
        have hown10 := HO10.out
        have hal := hown10.alloc (.cells #[.slice (some ⟨gD, 0, none⟩) q cD] 24)
        have c10 := hal.cellAt b (by omega)
        rw [List.getElem?_map, HR.out] at c10
        have c10 : (W10.alloc (.cells #[.slice (some ⟨gD, 0, none⟩) q cD] 24)).cell? ⟨gD, b, none⟩ = some (.slice (some ⟨g0, 0, none⟩) n c0') := c10
        have f10 := hal.frozenAt b
        have htn := turned (b := b) (vM := .slice AM L.length cM) HB57.out HRG9.out HM.out (gD := gD) (cD := cD) (by rw [← HQ.out]; exact hown10) HG10.out
        rw [← HQ.out] at htn
        have htk := turned_ok HM.out (b := b) (by rw [← HQ.out]; exact hbq) (by rw [← HQ.out]; omega) (by rw [HBG.out]; have := HOps.out; omega) (by rw [HBG.out]; exact HOk.out)
        obtain ⟨V, hV⟩ : ∃ V, (W10.alloc (.cells #[.slice (some ⟨gD, 0, none⟩) q cD] 24)).setCell ⟨gD, b, none⟩ (.slice AM L.length cM) = V := ⟨_, rfl⟩
        rw [hV] at htn
        obtain ⟨hrgV, hxV, hbV⟩ := htn
        have hbwV : Below w.heap.size w V := HB6.out.trans ((HB9.out.trans (hbV.mono HB9.out.size)).mono HB6.out.size)
        obtain ⟨D, hD⟩ : ∃ D, D = blk (G.set b (.slice AM L.length cM, L)) := ⟨_, rfl⟩
        rw [← hD] at htk
        have HCd : Hid (∀ U, Below V.heap.size V U → CodeU U (.agg #[.slice (some ⟨gD, 0, none⟩) q cD]) D) := fun U hU => by
          refine ⟨HKn.out U (hbwV.trans (hU.mono hbwV.size)), ?_⟩
          rw [hD]
          exact (hrgV.on hU).code
        have hc1 := fun U (hU : Below V.heap.size V U) => check_ok D _ U (HCd.out U hU) htk
        have hc2 := fun U (hU : Below V.heap.size V U) => Ddp.check_is D _ _ U (HCd.out U hU).2 htk.1 htk.2.1 (fun l hl o ho => (htk.2.2 l hl o ho).1)
        have hc3 := fun U (hU : Below V.heap.size V U) => depth_ok D _ U (HCd.out U hU) htk
        have hc4 := fun U (hU : Below V.heap.size V U) => Ddp.depth_is D _ _ U (HCd.out U hU).2 htk.1 htk.2.1 (fun l hl o ho => (htk.2.2 l hl o ho).1)
        generalize depthP D = dq at hc3 hc4
        generalize checkP D = cq at hc1 hc2
        have HC1 := Lib.hid hc1
        have HC2 := Lib.hid hc2
        have HC3 := Lib.hid hc3
        have HC4 := Lib.hid hc4
        obtain ⟨db, hdb⟩ : ∃ db, db = W10.heap.size := ⟨_, rfl⟩
        rw [← hdb] at hxV
        have HXV : Hid (∀ U, Below V.heap.size V U → U.cell? ⟨db, 0, none⟩ = some (.slice (some ⟨gD, 0, none⟩) q cD)) := fun U hU => one_cell ((hU.block _ (Array.getElem?_eq_some_iff.1 hxV).1).trans hxV)
        have eV := one_cell hxV
        have HVB := Lib.hid hbwV
        have HV := Lib.hid hV
        have HDb := Lib.hid hdb
        have hcc : (cq == cq) = true := beq_self_eq_true cq
        have hdd3 : (dq == dq) = true := beq_self_eq_true dq
        have HAw := Lib.hid (fun (U : World) (hU : Below V.heap.size V U) => Daw.awake_is U (HKn.out U (hbwV.trans (hU.mono hbwV.size))))
        clear hown10 hal htk hrgV hxV hbV hbwV hD hc1 hc2 hc3 hc4 hV hdb hform hnews hone hfl e9
        go_upto_region 29 with fail
        rw [HV.out, ← HDb.out]
        clear c10 f10
        go_region_held3 (fun U => Below V.heap.size V U ∧ U.cell? ⟨db, 0, none⟩ = some (.slice (some ⟨gD, 0, none⟩) q cD)) (first | exact ⟨hbw, HXV.out _ hbw⟩ | exact ⟨(Below.refl _ _).drew, eV⟩) (first | (go_at_call 10; have hh := And.left ‹Below V.heap.size V _ ∧ _›; refine (HC1.out _ hh).mono ?_; rintro e W3 ⟨rfl, hb3⟩; have hbw := hh.trans (hb3.mono hh.size); clear hh hb3) | (go_at_call 11; have hh := And.left ‹Below V.heap.size V _ ∧ _›; refine (HC2.out _ hh).mono ?_; rintro e W3 ⟨rfl, hb3⟩; have hbw := hh.trans (hb3.mono hh.size); clear hh hb3) | (go_at_call 12; have hh := And.left ‹Below V.heap.size V _ ∧ _›; refine (HC3.out _ hh).mono ?_; rintro e W3 ⟨rfl, hb3⟩; have hbw := hh.trans (hb3.mono hh.size); clear hh hb3) | (go_at_call 13; have hh := And.left ‹Below V.heap.size V _ ∧ _›; refine (HC4.out _ hh).mono ?_; rintro e W3 ⟨rfl, hb3⟩; have hbw := hh.trans (hb3.mono hh.size); clear hh hb3) | (go_at_call 9; have hh := And.left ‹Below V.heap.size V _ ∧ _›; refine (HAw.out _ hh).mono ?_; rintro e W3 ⟨rfl, hb3⟩; have hbw := hh.trans (hb3.mono hh.size); clear hh hb3))
        all_goals have hh := And.left ‹Below V.heap.size V _ ∧ _›
        all_goals go_wp2
        all_goals go_ret
        all_goals exact ⟨rfl, HVB.out.trans (hh.mono HVB.out.size)⟩

end Go.Proofs.YtpphkaolonjjdaaDoor.SoundNumbers
