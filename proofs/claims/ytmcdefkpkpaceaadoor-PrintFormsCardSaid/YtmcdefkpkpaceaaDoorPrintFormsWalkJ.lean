/- The walk of the law PrintForms (its fourth region's alternatives by tools/mkforms.py). -/
import Derived.Test.YtmcdefkpkpaceaaDoorPawJ
import Derived.Test.YtmcdefkpkpaceaaDoorPlaceJ
namespace Go.Proofs.YtmcdefkpkpaceaaDoor.PrintForms
open Go.RowKit Go.Proofs.YtmcdefkpkpaceaaDoor.Spl Go.Proofs.YtmcdefkpkpaceaaDoor.Nodm Go.Proofs.YtmcdefkpkpaceaaDoor.Nz Go.Proofs.YtmcdefkpkpaceaaDoor.Qwhole Go.Proofs.YtmcdefkpkpaceaaDoor.Qlist Go.Proofs.YtmcdefkpkpaceaaDoor.Qtp Go.Proofs.YtmcdefkpkpaceaaDoor.Qprt Go.Proofs.YtmcdefkpkpaceaaDoor.Qsame Go.Proofs.YtmcdefkpkpaceaaDoor.Paw Go.Proofs.YtmcdefkpkpaceaaDoor.Qforms Go.Proofs.YtmcdefkpkpaceaaDoor.Qleaf Go.Proofs.YtmcdefkpkpaceaaDoor.Qfmx Go.Proofs.YtmcdefkpkpaceaaDoor.Place
open Go.Proofs.YtmcdefkpkpaceaaDoor.Pure (bs)

/-- what is written is read as it; else nothing is written -/
theorem pr_back (x : Nz) : (prB x = true ∧ prT x = textZ x ∧ ∃ m, parse (textZ x) = .ok m ∧ toZ m = x) ∨ (prB x = false ∧ prT x = []) := by
  cases hb : prB x with
  | false => exact .inr ⟨rfl, by rw [prT, hb]; rfl⟩
  | true =>
    refine .inl ⟨rfl, by rw [prT, hb]; rfl, ?_⟩
    unfold prB at hb
    split at hb
    · rename_i m hm
      exact ⟨m, hm, same_iff.1 hb⟩
    · cases hb

set_option maxRecDepth 100000 in
set_option maxHeartbeats 4000000 in
theorem walk (how v : Int) (w : World) (h1 : (Lit.int .i64 how).wf = true) (h2 : (Lit.int .i64 v).wf = true) :
    Calls Tryd.prog 4 #[.int .i64 how, .int .i64 v] w fun e W' => e = .returned (.bool true) ∧ Below w.heap.size w W' := by
  have HW := Lib.hid (Twrd.word_is v w h2)
  have HPl := Lib.hid (fun W => place_is how 10 W (by omega) (by omega) h1)
  have hp := place_lt how 10 (by omega)
  generalize place how 10 = p at *
  obtain ⟨q, hq⟩ : ∃ q, q = place v 16 := ⟨_, rfl⟩
  have hq16 : q < 16 := by rw [hq]; exact place_lt v 16 (by omega)
  rw [← hq] at HW
  clear hq
  obtain ⟨wd, hwd⟩ : ∃ wd, wd = Twrd.wordList.getD q [] := ⟨_, rfl⟩
  have hwm : wd ∈ Twrd.wordList := by
    have hl : q < Twrd.wordList.length := hq16
    rw [hwd, List.getD_eq_getElem?_getD, List.getElem?_eq_getElem hl]
    exact List.getElem_mem hl
  have hwa : Twrd.wordAt q = bs wd := by rw [hwd]; rfl
  rw [hwa] at HW
  have hwl : wd.length ≤ 100 := of_decide_eq_true (List.all_eq_true.1 words_few _ hwm)
  have HWM := Lib.hid hwm
  clear hwd hwa hwm hq16
  obtain ⟨xw, hxw⟩ : ∃ xw, xw = bs wd := ⟨_, rfl⟩
  rw [← hxw] at HW
  obtain ⟨xp, hxp⟩ : ∃ xp, xp = bs (wd ++ [41]) := ⟨_, rfl⟩
  obtain ⟨xs, hxs⟩ : ∃ xs, xs = bs ([32] ++ wd) := ⟨_, rfl⟩
  obtain ⟨y1, hy1⟩ : ∃ y1, y1 = bs ([36, 40] ++ wd) := ⟨_, rfl⟩
  obtain ⟨y2, hy2⟩ : ∃ y2, y2 = bs ([36, 40] ++ wd ++ [41]) := ⟨_, rfl⟩
  obtain ⟨y3, hy3⟩ : ∃ y3, y3 = bs ([36, 40] ++ wd ++ [58, 46, 99, 61, 46, 111, 41]) := ⟨_, rfl⟩
  obtain ⟨y4, hy4⟩ : ∃ y4, y4 = bs ([36, 40, 115, 116, 114, 105, 112, 32] ++ wd) := ⟨_, rfl⟩
  obtain ⟨y5, hy5⟩ : ∃ y5, y5 = bs ([36, 40, 115, 116, 114, 105, 112, 32] ++ wd ++ [41]) := ⟨_, rfl⟩
  have a1 : ∀ W, (Op.stringOp .add xw ⟨#[41]⟩).run Tryd.prog W = .ok (.string xp) W := fun W => by
    rw [hxw, hxp]; exact Qput.add_bs wd [41] W (by simp; omega)
  have a2 : ∀ W, (Op.stringOp .add ⟨#[32]⟩ xw).run Tryd.prog W = .ok (.string xs) W := fun W => by
    rw [hxw, hxs]; exact Qput.add_bs [32] wd W (by simp; omega)
  have a3 : ∀ W, (Op.stringOp .add ⟨#[36, 40]⟩ xw).run Tryd.prog W = .ok (.string y1) W := fun W => by
    rw [hxw, hy1]; exact Qput.add_bs [36, 40] wd W (by simp; omega)
  have a4 : ∀ W, (Op.stringOp .add y1 ⟨#[41]⟩).run Tryd.prog W = .ok (.string y2) W := fun W => by
    rw [hy1, hy2]; exact Qput.add_bs ([36, 40] ++ wd) [41] W (by simp; omega)
  have a5 : ∀ W, (Op.stringOp .add y1 ⟨#[58, 46, 99, 61, 46, 111, 41]⟩).run Tryd.prog W = .ok (.string y3) W := fun W => by
    rw [hy1, hy3]; exact Qput.add_bs ([36, 40] ++ wd) [58, 46, 99, 61, 46, 111, 41] W (by simp; omega)
  have a6 : ∀ W, (Op.stringOp .add ⟨#[36, 40, 115, 116, 114, 105, 112, 32]⟩ xw).run Tryd.prog W = .ok (.string y4) W := fun W => by
    rw [hxw, hy4]; exact Qput.add_bs [36, 40, 115, 116, 114, 105, 112, 32] wd W (by simp; omega)
  have a7 : ∀ W, (Op.stringOp .add y4 ⟨#[41]⟩).run Tryd.prog W = .ok (.string y5) W := fun W => by
    rw [hy4, hy5]; exact Qput.add_bs ([36, 40, 115, 116, 114, 105, 112, 32] ++ wd) [41] W (by simp; omega)
  have hwx := want_idx p hp xw xp y2 y3 y5
  obtain ⟨wv, hwv⟩ : ∃ wv, wv = wantV p xw xp y2 y3 y5 := ⟨_, rfl⟩
  rw [← hwv] at hwx
  have HX := Lib.hid (And.intro hxw (And.intro hxp hxs))
  have HY := Lib.hid (And.intro hy2 (And.intro hy3 (And.intro hy5 hwv)))
  have HP := Lib.hid hp
  clear hxw hxp hxs hy1 hy2 hy3 hy4 hy5 hwv hp hwl h1 h2
  go_enter Tryd.func4, Tryd.ntmps4
  go_upto_region 4 with (first
    | (go_at_call 9; refine HW.out.mono ?_; rintro e W0 ⟨rfl, rfl⟩)
    | (go_at_call 11; refine (HPl.out _).mono ?_; rintro e W0 ⟨rfl, rfl⟩))
  have K0 : Hid True := Lib.hid trivial
  have K1 : Hid True := Lib.hid trivial
  have K2 : Hid True := Lib.hid trivial
  have K3 : Hid True := Lib.hid trivial
  have K4 : Hid True := Lib.hid trivial
  have K5 : Hid True := Lib.hid trivial
  have K6 : Hid True := Lib.hid trivial
  have K7 : Hid True := Lib.hid trivial
  have K8 : Hid True := Lib.hid trivial
  have K9 : Hid True := Lib.hid trivial
  have K10 : Hid True := Lib.hid trivial
  have K11 : Hid True := Lib.hid trivial
  have K12 : Hid True := Lib.hid trivial
  have K13 : Hid True := Lib.hid trivial
  go_upto_region 5 with (first
    | (clear K0
       go_at_call 10
       refine (leaf_is _ _).mono ?_
       rintro e u0 ⟨rfl, hb, hz⟩
       have HM := Lib.hid (made_first hb hz)
       clear hb hz)
    | (clear K1
       go_at_call 10
       refine (leaf_is _ _).mono ?_
       rintro e u1 ⟨rfl, hb, hz⟩
       have HN := Lib.hid (made_call HM.out hb)
       clear HM
       have HM := HN
       clear HN
       clear hb hz)
    | (clear K2
       go_at_call 10
       refine (leaf_is _ _).mono ?_
       rintro e u2 ⟨rfl, hb, hz⟩
       have HN := Lib.hid (made_call HM.out hb)
       clear HM
       have HM := HN
       clear HN
       clear hb hz)
    | (clear K3
       go_at_call 10
       refine (leaf_is _ _).mono ?_
       rintro e u3 ⟨rfl, hb, hz⟩
       have HN := Lib.hid (made_call (made_row HM.out _) hb)
       clear HM
       have HM := HN
       clear HN
       clear hb hz)
    | (clear K4
       go_at_call 10
       refine (leaf_is _ _).mono ?_
       rintro e u4 ⟨rfl, hb, hz⟩
       have HN := Lib.hid (made_call (made_row HM.out _) hb)
       clear HM
       have HM := HN
       clear HN
       clear hb hz)
    | (clear K5
       go_at_call 10
       refine (leaf_is _ _).mono ?_
       rintro e u5 ⟨rfl, hb, hz⟩
       have HN := Lib.hid (made_call HM.out hb)
       clear HM
       have HM := HN
       clear HN
       clear hb hz)
    | (clear K6
       go_at_call 10
       refine (leaf_is _ _).mono ?_
       rintro e u6 ⟨rfl, hb, hz⟩
       have HN := Lib.hid (made_call HM.out hb)
       clear HM
       have HM := HN
       clear HN
       clear hb hz)
    | (clear K7
       go_at_call 10
       refine (leaf_is _ _).mono ?_
       rintro e u7 ⟨rfl, hb, hz⟩
       have HN := Lib.hid (made_call (made_row HM.out _) hb)
       clear HM
       have HM := HN
       clear HN
       clear hb hz)
    | (clear K8
       go_at_call 10
       refine (leaf_is _ _).mono ?_
       rintro e u8 ⟨rfl, hb, hz⟩
       have HN := Lib.hid (made_call (made_row HM.out _) hb)
       clear HM
       have HM := HN
       clear HN
       clear hb hz)
    | (clear K9
       go_at_call 10
       refine (leaf_is _ _).mono ?_
       rintro e u9 ⟨rfl, hb, hz⟩
       have HN := Lib.hid (made_call (made_row HM.out _) hb)
       clear HM
       have HM := HN
       clear HN
       clear hb hz)
    | (clear K10
       go_at_call 10
       refine (leaf_is _ _).mono ?_
       rintro e u10 ⟨rfl, hb, hz⟩
       have HN := Lib.hid (made_call HM.out hb)
       clear HM
       have HM := HN
       clear HN
       clear hb hz)
    | (clear K11
       go_at_call 10
       refine (leaf_is _ _).mono ?_
       rintro e u11 ⟨rfl, hb, hz⟩
       have HN := Lib.hid (made_call (made_row HM.out _) hb)
       clear HM
       have HM := HN
       clear HN
       clear hb hz)
    | (clear K12
       go_at_call 10
       refine (leaf_is _ _).mono ?_
       rintro e u12 ⟨rfl, hb, hz⟩
       have HN := Lib.hid (made_call HM.out hb)
       clear HM
       have HM := HN
       clear HN
       clear hb hz)
    | (clear K13
       go_at_call 10
       refine (leaf_is _ _).mono ?_
       rintro e u13 ⟨rfl, hb, hz⟩
       have HN := Lib.hid (made_call (made_row HM.out _) hb)
       clear HM
       have HM := HN
       clear HN
       clear hb hz
       obtain ⟨kk, ss, AA, nn, hfv, hix⟩ := form_idx p HP.out xw xp u2.heap.size u3.heap.size u6.heap.size u7.heap.size u8.heap.size u10.heap.size u12.heap.size u13.heap.size
       have HFV := Lib.hid hfv
       clear hfv))
  clear hix HW HPl
  obtain ⟨W2, hW2⟩ : ∃ W2, u13.alloc (.cells #[.int .i64 1, .string xw, .slice none 0 0] 24) = W2 := ⟨_, rfl⟩
  have hM2 := made_row HM.out #[.int .i64 1, .string xw, .slice none 0 0]
  rw [hW2] at hM2 ⊢
  obtain ⟨W3, hW3⟩ : ∃ W3, W2.alloc (.cells #[.int .i64 (kk : Int), .string ss, .slice AA nn nn] 24) = W3 := ⟨_, rfl⟩
  have hx3 : W3.heap[W2.heap.size]? = some (.cells #[.int .i64 (kk : Int), .string ss, .slice AA nn nn] 24) := by rw [← hW3]; exact heap_alloc_new W2 _
  have hb23 : Below W2.heap.size W2 W3 := by rw [← hW3]; exact (Below.refl _ _).alloc (Nat.le_refl _) _
  have hz3 : W3.heap.size = W2.heap.size + 1 := by rw [← hW3]; exact World.size_alloc _ _
  have hM3 := made_call hM2 hb23
  have HB3 := Lib.hid hM3.1
  have hs3 : w.heap.size ≤ W3.heap.size := hM3.1.size
  rw [hW3]
  obtain ⟨G, hG⟩ : ∃ G, G = W2.heap.size := ⟨_, rfl⟩
  have hg2 : u13.heap.size + 1 = G := by rw [hG, ← hW2, World.size_alloc]
  rw [hg2]
  rw [← hG] at hx3
  have hG3 : G < W3.heap.size := by omega
  have HX3 := Lib.hid hx3
  obtain ⟨d0, d1, d2⟩ := cells_three hx3
  go_upto_region 6 with fail
  have hform : ∃ x, x ∈ formL wd ∧ ∃ S : Nat → Prop, ¬ S 0 ∧ NodeIn S W3 (.agg #[.int .i64 (kk : Int), .string ss, .slice AA nn nn]) x.1 ∧ bs x.2 = wv := by
    obtain ⟨e1, e2, e3⟩ := HX.out
    obtain ⟨e4, e5, e6, e7⟩ := HY.out
    have h := HFV.out
    rw [e1, e2] at h
    rw [e1, e2, e4, e5, e6] at e7
    rw [e1, e2, e3] at hM3
    have hf := form_at wd p HP.out w W3 u2.heap.size u3.heap.size u6.heap.size u7.heap.size u8.heap.size u10.heap.size u12.heap.size u13.heap.size hM3
    rw [← h, ← e7] at hf
    exact hf
  obtain ⟨x, hx, S, hS0, hN, hwt⟩ := hform
  obtain ⟨g1, g2⟩ := form_is HWM.out hx
  obtain ⟨f1, f2, f3, f4⟩ := few_is HWM.out hx
  have hNz := Nz.NodeIn.toZ hN
  have hne : prB (toZ x.1) = true → prT (toZ x.1) ≠ [] := fun h => by
    rw [g1]; rw [g2] at h
    intro h0
    rw [h0] at h
    cases h
  have hwv : wv = bs (prT (toZ x.1)) := by rw [g1, hwt]
  have hpT : (prT (toZ x.1)).length ≤ 999999 := by rw [g1]; omega
  subst hwv
  generalize toZ x.1 = z at *
  have HK := Lib.hid (pr_back z)
  have HNe := Lib.hid hne
  have HPr := Lib.hid (Kprint.print_is z S hS0 _ W3 hNz (by omega) (by omega) (by omega))
  have HPa := Lib.hid (fun W => Qparse.refParse_is (prT z) W hpT)
  have HSm := Lib.hid (fun (m : Nod) (h : toZ m = z) (S' : Nat → Prop) (u : Value) (W : World) (hu : NodeIn S' W u m) (hW : Below W3.heap.size W3 W) => refSame_is (toZ m) z S' _ u _ W (Nz.NodeIn.toZ hu) (hNz.on hW) (by rw [h]; omega))
  have hqt : ((bs (prT z)).toList == (bs (prT z)).toList) = true := beq_self_eq_true _
  clear a1 a2 a3 a4 a5 a6 a7 hwx HX HY HP HFV HM hM2 hM3 hW2 hW3 hx3 hb23 hg2 hG hx hN hNz hwt g1 g2 f1 f2 f3 f4 hne hpT hS0 HWM
  rcases HK.out with ⟨hb, hT, m, hpm, hmx⟩ | ⟨hb, hT⟩
  · have hn0 := HNe.out hb
    rw [hT] at hqt HPr HPa hn0 ⊢
    rw [hb] at HPr
    rw [hpm] at HPa
    obtain ⟨mk, ms, ml⟩ := m
    obtain ⟨lz, hlz⟩ : ∃ lz, lz = ml.length := ⟨_, rfl⟩
    have HPb : Hid (∀ W : World, Calls Tryd.prog 12 #[.string (bs (textZ z))] W fun e W' => ∃ A3 c3, e = .returned (.tuple #[.agg #[.int .i64 (mk : Int), .string (bs ms), .slice A3 lz c3], .int .i64 0]) ∧ NodeIn (fun b => W.heap.size ≤ b) W' (.agg #[.int .i64 (mk : Int), .string (bs ms), .slice A3 lz c3]) (.mk mk ms ml) ∧ Below W.heap.size W W') := fun W => (HPa.out W).mono fun e W' ⟨u, he, hu, hb⟩ => by
      have hu : NodeIn (fun b => W.heap.size ≤ b) W' u (.mk mk ms ml) := hu
      obtain ⟨A3, c3, rfl, _⟩ := hu.inv
      rw [hlz]
      exact ⟨A3, c3, he, hu, hb⟩
    have HSm2 := Lib.hid (HSm.out _ hmx)
    rw [same_yes hmx] at HSm2
    have hn1 : ((bs (textZ z)).toList == []) = false := by
      rw [beq_eq_false_iff_ne, Lib.toList_data]
      exact hn0
    have hn2 : ((bs (textZ z)).toList != []) = true := by rw [bne, hn1]; rfl
    generalize textZ z = pt at *
    clear HPa HSm hb hT hpm hmx hlz HK hn0 HNe
    go_upto_region 7 with (go_at_call 7; refine HPr.out.mono ?_; rintro e W4 ⟨rfl, hb4⟩; have HB4 := Lib.hid hb4; clear hb4)
    clear d0 d1 d2 HPr
    go_upto_region 8 with (go_at_call 12; refine (HPb.out W4).mono ?_; rintro e W6 ⟨A3, c3, rfl, hn6, hb6⟩; have HB6 := Lib.hid hb6; have HN6 := Lib.hid hn6; clear hb6 hn6)
    obtain ⟨W7, hW7⟩ : ∃ W7, W6.alloc (.cells #[.int .i64 (mk : Int), .string (bs ms), .slice A3 lz c3] 24) = W7 := ⟨_, rfl⟩
    have hx7 : W7.heap[W6.heap.size]? = some (.cells #[.int .i64 (mk : Int), .string (bs ms), .slice A3 lz c3] 24) := by rw [← hW7]; exact heap_alloc_new W6 _
    have hb67 : Below W6.heap.size W6 W7 := by rw [← hW7]; exact (Below.refl _ _).alloc (Nat.le_refl _) _
    rw [hW7]
    have hb4 := HB4.out
    have hb6 := HB6.out
    have s4 := hb4.size
    have s6 := hb6.size
    have hb37 : Below W3.heap.size W3 W7 := hb4.trans ((hb6.mono s4).trans (hb67.mono (by omega)))
    have s7 := hb37.size
    obtain ⟨f0, f1, f2⟩ := cells_three ((hb37.block G (by omega)).trans HX3.out)
    obtain ⟨g0, g1, g2⟩ := cells_three hx7
    have HC := Lib.hid (HSm2.out (fun b => W4.heap.size ≤ b) _ W7 (HN6.out.on hb67) hb37)
    have HB7 := Lib.hid (HB3.out.trans (hb37.mono hs3))
    have hs7 : w.heap.size ≤ W7.heap.size := by omega
    clear hW7 hx7 hb67 hb4 hb6 hb37 HSm2 HN6 HPb
    go_wp2_with (first | (go_at_call 13; refine HC.out.mono ?_; rintro e W8 ⟨rfl, hb8⟩; have HB8 := Lib.hid (HB7.out.trans (hb8.mono hs7)); clear hb8) | (go_at_call 6; refine (awake_is _).mono ?_; rintro e W9 ⟨rfl, hb9⟩; have HB9 := Lib.hid hb9; clear hb9))
    go_ret
    exact ⟨rfl, HB8.out.trans (HB9.out.mono HB8.out.size)⟩
  · rw [hT] at hqt HPr HPa ⊢
    rw [hb] at HPr
    have HPb : Hid (∀ W : World, Calls Tryd.prog 12 #[.string (bs [])] W fun e W' => ∃ (k3 : Nat) (s3 : T) (A3 : Option Addr) (n3 c3 m3 : Nat), e = .returned (.tuple #[.agg #[.int .i64 (k3 : Int), .string (bs s3), .slice A3 n3 c3], .int .i64 (m3 : Int)]) ∧ Below W.heap.size W W') := fun W => (HPa.out W).mono fun e W' ⟨u, he, hu, hb⟩ => by
      obtain ⟨k3, s3, A3, n3, c3, rfl⟩ := NodeOf.agg hu
      exact ⟨k3, s3, A3, n3, c3, _, he, hb⟩
    have hq0 : (bs ([] : T)).toList = [] := by rw [Lib.toList_data]; rfl
    clear HPa HSm hb hT HK HNe
    go_upto_region 7 with (go_at_call 7; refine HPr.out.mono ?_; rintro e W4 ⟨rfl, hb4⟩; have HB4 := Lib.hid hb4; clear hb4)
    clear d0 d1 d2 HPr
    go_upto_region 8 with (go_at_call 12; refine (HPb.out W4).mono ?_; rintro e W6 ⟨k3, s3, A3, n3, c3, m3, rfl, hb6⟩; have HB6 := Lib.hid hb6; clear hb6)
    obtain ⟨W7, hW7⟩ : ∃ W7, W6.alloc (.cells #[.int .i64 (k3 : Int), .string (bs s3), .slice A3 n3 c3] 24) = W7 := ⟨_, rfl⟩
    have hb67 : Below W6.heap.size W6 W7 := by rw [← hW7]; exact (Below.refl _ _).alloc (Nat.le_refl _) _
    rw [hW7]
    have hb4 := HB4.out
    have hb6 := HB6.out
    have s4 := hb4.size
    have s6 := hb6.size
    have hb37 : Below W3.heap.size W3 W7 := hb4.trans ((hb6.mono s4).trans (hb67.mono (by omega)))
    have s7 := hb37.size
    have HB7 := Lib.hid (HB3.out.trans (hb37.mono hs3))
    have hs7 : w.heap.size ≤ W7.heap.size := by omega
    clear hW7 hb67 hb4 hb6 hb37 HPb
    go_wp2_with (go_at_call 6; refine (awake_is _).mono ?_; rintro e W9 ⟨rfl, hb9⟩; have HB9 := Lib.hid hb9; clear hb9)
    go_ret
    exact ⟨rfl, HB7.out.trans (HB9.out.mono hs7)⟩

end Go.Proofs.YtmcdefkpkpaceaaDoor.PrintForms
