/- The law VfsFirst, walked. -/
import Derived.Deep.DeepCutAuto
import Derived.Deep.RegionHeld3
import Derived.Deep.RegionLaw
import Derived.Laws.OwnMore
import Derived.Test.YtgfpdaaofhanoaaDoorStepAny
import Derived.Test.YtgfpdaaofhanoaaDoorVfirst
import Derived.Test.YtgfpdaaofhanoaaDoorWsame
import Derived.Test.YtgfpdaaofhanoaaDoorWnew
namespace Go.Proofs.YtgfpdaaofhanoaaDoor.VfsFirst
open Go.RowKit Go.Proofs.YtgfpdaaofhanoaaDoor.Pth Go.Proofs.YtgfpdaaofhanoaaDoor.Strs Go.Proofs.YtgfpdaaofhanoaaDoor.Vfs Go.Proofs.YtgfpdaaofhanoaaDoor.Vmap Go.Proofs.YtgfpdaaofhanoaaDoor.Vnames Go.Proofs.YtgfpdaaofhanoaaDoor.Vnew Go.Proofs.YtgfpdaaofhanoaaDoor.Vfind Go.Proofs.YtgfpdaaofhanoaaDoor.Vlook Go.Proofs.YtgfpdaaofhanoaaDoor.Vsort Go.Proofs.YtgfpdaaofhanoaaDoor.Vall Go.Proofs.YtgfpdaaofhanoaaDoor.Vawake Go.Proofs.YtgfpdaaofhanoaaDoor.Nums Go.Proofs.YtgfpdaaofhanoaaDoor.Wfiles Go.Proofs.YtgfpdaaofhanoaaDoor.Wfs Go.Proofs.YtgfpdaaofhanoaaDoor.Wown Go.Proofs.YtgfpdaaofhanoaaDoor.Wall Go.Proofs.YtgfpdaaofhanoaaDoor.Wrot Go.Proofs.YtgfpdaaofhanoaaDoor.StepAny Go.Proofs.YtgfpdaaofhanoaaDoor.Vfirst
open Go.Proofs.YtgfpdaaofhanoaaDoor.Place (place place_lt place_is)
open Go.Proofs.YtgfpdaaofhanoaaDoor.Srt (Up)

theorem keep2 {b e o : Nat} {v u : Value} {w W : World} (hb : Below w.heap.size w W) (h : e < w.heap.size ∧ w.cell? ⟨e, 0, none⟩ = some v ∧ b < w.heap.size ∧ w.cell? ⟨b, o, none⟩ = some u) :
    e < W.heap.size ∧ W.cell? ⟨e, 0, none⟩ = some v ∧ b < W.heap.size ∧ W.cell? ⟨b, o, none⟩ = some u :=
  ⟨Nat.lt_of_lt_of_le h.1 hb.size, (hb.cell (p := ⟨e, 0, none⟩) h.1).trans h.2.1, Nat.lt_of_lt_of_le h.2.2.1 hb.size, (hb.cell (p := ⟨b, o, none⟩) h.2.2.1).trans h.2.2.2⟩

theorem ne_of_bool {a b : ByteArray} (h : (a.toList != b.toList) = true) : a ≠ b := by
  rintro rfl
  simp at h

theorem cell_new3 (w : World) (a b c : Value) (t : TypeId) (j : Nat) (hj : j < 3) : (w.alloc (.cells #[a, b, c] t)).cell? ⟨w.heap.size, j, none⟩ = some #[a, b, c][j] := by
  rw [Lib.cell_of_heap (heap_alloc_new w _)]
  exact Array.getElem?_eq_getElem (xs := #[a, b, c]) hj

set_option maxRecDepth 100000 in
set_option maxHeartbeats 8000000 in
theorem walk (A0 : Option Addr) (n0 c0 : Nat) (zs0 : List Int) (a1 : Int) (w : World)
    (hl0 : IntIs w A0 n0 c0 zs0) (hm0 : n0 ≤ maxLen) (w1 : (Lit.int .i64 a1).wf = true) :
    Calls Tryd.prog 4 #[.slice A0 n0 c0, .int .i64 a1] w fun e W' => e = .returned (.bool true) ∧ Below w.heap.size w W' := by
  obtain ⟨i0, hi0, hz0, hz1, hz2⟩ := info_parts infoEnt
  have HFiles := Lib.hid (files_is A0 n0 c0 zs0 w hl0 hm0)
  have HW1 := Lib.hid w1
  clear hl0 hm0 w1
  go_enter Tryd.func4, Tryd.ntmps4
  go_wp2_with fail
  refine HFiles.out.mono ?_
  rintro e w1 ⟨A1, c1, k, l, hlk, rfl, hE1, hk12, hT, hb1⟩
  have HE1 := Lib.hid hE1
  have HT := Lib.hid hT
  have HLK := Lib.hid hlk
  have HB1 := Lib.hid hb1
  have HNew := Lib.hid (new_is A1 k c1 l w1 hlk hE1 (fun x hx => tiny_raw (hT x hx)) (by unfold maxLen; omega))
  have HInv := Lib.hid (newL_inv l)
  have HLow := Lib.hid (newL_low hT)
  have hlen := newL_len l (fun x hx => (hT x hx).2.2)
  have HWin := Lib.hid (fun i x (hx : l[i]? = some x) q => win (l := l) (i := i) (x := x) (by rw [hlk]; omega) hx (q := q))
  have HRN := Lib.hid (fun W (hW : Below w1.heap.size w1 W) => Wnew.new_is A1 k c1 l W hlk (hE1.below hW) (fun x hx => tiny_raw (hT x hx)))
  clear hE1 hT hb1 HFiles
  rw [hlk] at hlen
  clear hlk
  obtain ⟨L, hL⟩ : ∃ L, L = newL l := ⟨_, rfl⟩
  rw [← hL] at HNew HInv HLow hlen HRN HWin
  clear hL
  have hlen2 : L.length ≤ 48 := by omega
  clear hlen
  go_wp2_with fail
  refine HNew.out.mono ?_
  rintro e w2 ⟨fa, B, bl, rfl, hF, hb2⟩
  have HF := Lib.hid hF
  have HB2 := Lib.hid hb2
  have HAll := Lib.hid (all_own fa B bl L w2 hF HInv.out (by omega) sortsNone)
  clear hF hb2 HNew
  go_wp2_with fail
  refine HAll.out.mono ?_
  rintro e w3 ⟨AA, ca, M, rfl, hP, hU, hEM, hb3, hform⟩
  have hM : M = sorted L := sorted_one HInv.out hP hU
  have hNl : (M.map rawOf).length = L.length := by rw [List.length_map]; exact hP.length_eq
  obtain ⟨N, hN⟩ : ∃ N, N = L.length := ⟨_, rfl⟩
  rw [← hN] at hlen2 hNl
  have hca : N ≤ ca := by rw [← hNl]; exact hEM.1
  have HP := Lib.hid hP
  have HU := Lib.hid hU
  have HEM := Lib.hid hEM
  have HForm := Lib.hid hform
  have HM := Lib.hid hM
  have HNl := Lib.hid hNl
  have HN := Lib.hid hN
  have HF3 := Lib.hid (HF.out.below hb3)
  have HB3 := Lib.hid (HB2.out.trans (hb3.mono HB2.out.size))
  clear hP hU hEM hform hM hNl hb3 HAll HF HB2
  rw [← hN]
  clear hN
  go_upto_if 26 with fail
  go_cut [8] (fun v wx => ∃ s : Nat, v = .int .i64 s ∧ s ≤ N ∧ w3 = wx)
  case first =>
    by_cases h0 : 0 < N
    · have HPl := Lib.hid (fun W => place_is a1 N W h0 (by omega) HW1.out)
      have hpl := place_lt a1 N h0
      generalize place a1 N = s at *
      go_wp2_with fail
      refine (HPl.out _).mono ?_
      rintro e w' ⟨rfl, rfl⟩
      go_wp2_with fail
      go_meet
      exact ⟨s, rfl, by omega, rfl⟩
    · obtain rfl : N = 0 := by omega
      go_wp2_with fail
      go_meet
      exact ⟨0, rfl, Nat.le_refl _, rfl⟩
  case rest =>
    obtain ⟨s, rfl, hsN, rfl⟩ := hcut
    have HR := Lib.hid (rot_low HP.out HLow.out s)
    have hRlen : ((rot M s).map rawOf).length = N := by rw [List.length_map, (rot_perm M s).length_eq, ← HNl.out, List.length_map]
    have HRl := Lib.hid hRlen
    obtain ⟨L2, hL2⟩ : ∃ L2, L2 = newL ((rot M s).map rawOf) := ⟨_, rfl⟩
    have HL2 := Lib.hid hL2
    clear hRlen hL2
    go_upto_region 9 with fail
    go_cut [9] (fun v wx => ∃ fb B2 bl2 W5, v = .pointer (some fb) ∧ W5 = wx ∧ Hid (FsIs W5 fb B2 bl2 (dl L2) L2) ∧ Hid (Below w3.heap.size w3 W5))
    case first =>
      have hcat : [] ++ cells ((M.map rawOf).drop s) ++ cells ((M.map rawOf).take s) = cells ((rot M s).map rawOf) := by
        rw [List.nil_append, ← rot_cells, List.map_drop, List.map_take]
      have HCat := Lib.hid hcat
      have hE3 : EnIs w3.drew AA ca (M.map rawOf) := HEM.out.below (Below.refl _ _).drew
      have hC1 := lo_cells (k := s) HForm.out hE3 (by rw [HNl.out]; exact hsN)
      have hFo1 := from_form (k := s) (n := N) (m := s) HForm.out hca
      obtain ⟨A5, hA5⟩ : ∃ A5, A5 = fromA AA ca s := ⟨_, rfl⟩
      rw [← hA5] at hC1 hFo1
      have HC1 := Lib.hid hC1
      have HFo1 := Lib.hid hFo1
      have hA5' : (if ca = s then AA else Option.map (fun x => x.add (s * 3)) AA) = A5 := hA5.symm
      clear hC1 hFo1 hA5
      have HFo2 := Lib.hid (show fromA AA ca 0 = none → s = 0 ∧ ca = 0 from fun h => by
        have := from_form (k := 0) (n := N) (m := 0) HForm.out hca h
        omega)
      have hl1 : (cells ((M.map rawOf).drop s)).length = (N - s) * 3 := by rw [cells_len, List.length_drop, HNl.out]
      have hl2 : (cells ((M.map rawOf).take s)).length = s * 3 := by rw [cells_len, List.length_take, HNl.out, Nat.min_eq_left hsN]
      have HO1 := Lib.hid (cells_one ((M.map rawOf).drop s))
      have HO2 := Lib.hid (cells_one ((M.map rawOf).take s))
      have HC2 := Lib.hid (fun W (hW : Below w3.heap.size w3 W) => hi_cells (k := s) HForm.out (HEM.out.below hW))
      have HNew2 := Lib.hid (fun A c W (h : EnIs W A c ((rot M s).map rawOf)) => new_is A N c _ W HRl.out h HR.out (by unfold maxLen; omega))
      rw [← HL2.out] at HNew2
      have hn' : 0 + (N - s) + s = N := by omega
      have HN' := Lib.hid hn'
      have HA0 := Lib.hid (show AA = AA.map (fun x => x.add 0) from by rcases HForm.out with ⟨rfl, _⟩ | ⟨g, rfl, _⟩ <;> rfl)
      have hsc : s ≤ ca := Nat.le_trans hsN hca
      clear hcat hE3 hn'
      generalize cells ((M.map rawOf).drop s) = x1 at *
      generalize cells ((M.map rawOf).take s) = x2 at *
      go_region_law (first
        | (refine step_append_any rfl _ _ 22 rfl w3.heap.size 30 i0 (.agg #[.string .empty, .bool false, .string .empty]) 3 40 Tryd.underlying22 hi0 hz0 hz1 hz2 rfl (by decide) (.slice none 0 0) 0 [] (by simp [Act.eval]) (World.ownsRow_nil _ _ _ _) A5 (N - s) (ca - s) x1 (by simp [Act.eval, Act.put]) HFo1.out hl1 HC1.out HO1.out (by unfold maxLen; omega) (by omega) (Nat.le_refl _) ?_; intro v1 wa hown1 hgrow1; have HOw1 := Lib.hid hown1; have HBa : Hid (Below w3.heap.size w3 wa) := ((Below.refl _ _).drew).grown hgrow1 (Nat.le_refl _) (fun k e => by cases e); clear hown1 hgrow1)
        | (refine step_append_any rfl _ _ 22 rfl w3.heap.size 30 i0 (.agg #[.string .empty, .bool false, .string .empty]) 3 40 Tryd.underlying22 hi0 hz0 hz1 hz2 rfl (by decide) v1 (0 + (N - s)) ([] ++ x1) (by simp [Act.eval]) HOw1.out (fromA AA ca 0) s ca x2 (by simp [Act.eval, fromA]; exact fun _ => HA0.out) HFo2.out hl2 (HC2.out _ HBa.out) HO2.out (by unfold maxLen; omega) (by omega) HBa.out.size ?_; intro v2 wb hown2 hgrow2; have HBb : Hid (Below w3.heap.size w3 wb) := HBa.out.grown hgrow2 HBa.out.size (fun k e => (HOw1.out.lt k e).1); rw [HN'.out, HCat.out] at hown2; obtain ⟨A9, c9, rfl, hE9, _⟩ := enIs_of_own HRl.out hown2; have HNew9 := Lib.hid (HNew2.out A9 c9 wb hE9); clear hown2 hgrow2 hE9)
        | (go_simp; go_at_call 7; refine HNew9.out.mono ?_; rintro e wc ⟨fb, B2, bl2, rfl, hF9, hb9⟩; have HF9 := Lib.hid hF9; have HB9 : Hid (Below w3.heap.size w3 wc) := HBb.out.trans (hb9.mono HBb.out.size); clear hF9 hb9))
      all_goals go_wp2_with fail
      all_goals go_meet
      all_goals exact ⟨fb, B2, bl2, _, rfl, rfl, HF9.out, HB9.out⟩
    case rest =>
      obtain ⟨fb, B2, bl2, w5, rfl, rfl, HF5, HB5⟩ := hcut
      have HB51 := Lib.hid (HB3.out.trans (HB5.out.mono HB3.out.size))
      go_wp2_with fail
      refine (HRN.out w5 HB51.out).mono ?_
      rintro e w6 ⟨f, rfl, hFo, hb6⟩
      have HFA := Lib.hid hFo.fat
      have HF6 := Lib.hid (HF5.out.below hb6)
      have HB6 := Lib.hid (HB5.out.trans (hb6.mono HB5.out.size))
      clear hFo hb6 HRN HF5 HB51 HB5
      go_wp2_with fail
      refine (Wall.all_is f L w6 HFA.out HInv.out (by rw [← HN.out]; omega)).mono ?_
      rintro e w7 ⟨A7, c7, rfl, hE7, hb7⟩
      rw [← HM.out] at hE7
      have HF7 := Lib.hid (HF6.out.below hb7)
      have HB7 := Lib.hid (HB6.out.trans (hb7.mono HB6.out.size))
      have HSame := Lib.hid (Wsame.same_is AA A7 N ca c7 (M.map rawOf) w7 HNl.out (HEM.out.below HB7.out) hE7 (by omega))
      clear hE7 hb7 HF6 HB6 HFA
      rw [← HN.out]
      go_wp2_with fail
      refine HSame.out.mono ?_
      rintro e w8 ⟨rfl, hb8⟩
      have HF8 := Lib.hid (HF7.out.below hb8)
      have HB8 := Lib.hid (HB7.out.trans (hb8.mono HB7.out.size))
      have HEM8 := Lib.hid (HEM.out.below HB8.out)
      clear hb8 HF7 HB7 HSame
      go_wp2_with fail
      go_loopw [10] (fun i wx => ∃ t m : Nat, 1 ≤ t ∧ i = .int .i64 t ∧ wx = w8.drewN m) (fun i _ => N - (intOf i).toNat)
      case atStart => exact ⟨1, 0, Nat.le_refl _, rfl, rfl⟩
      case round =>
        obtain ⟨t, m, ht1, rfl, rfl⟩ := hrel
        by_cases hlt : t < N
        · obtain ⟨p, rfl⟩ : ∃ p, t = p + 1 := ⟨t - 1, by omega⟩
          have hx : (M.map rawOf)[p]? = some ((M.map rawOf)[p]'(by rw [HNl.out]; omega)) := List.getElem?_eq_getElem _
          have hy : (M.map rawOf)[p + 1]? = some ((M.map rawOf)[p + 1]'(by rw [HNl.out]; omega)) := List.getElem?_eq_getElem _
          obtain ⟨b1, o1, rfl, hbl1, hcs1⟩ := HEM8.out.at_ hx
          obtain ⟨b2, o2, hbo, hbl2, hcs2⟩ := HEM8.out.at_ hy
          obtain ⟨rfl, rfl⟩ : b1 = b2 ∧ o1 = o2 := by simpa using hbo
          obtain ⟨d1, _, _⟩ := hcs1 w8 (Below.refl _ _)
          obtain ⟨d2, _, _⟩ := hcs2 w8 (Below.refl _ _)
          have hge := fun t W => Vfirst.binOp_geq t _ _ (less_path HU.out hx hy) W
          clear hcs1 hcs2 hbl1 hbl2 hbo hx hy
          generalize ((M.map rawOf)[p]'(by rw [HNl.out]; omega)) = x at *
          generalize ((M.map rawOf)[p + 1]'(by rw [HNl.out]; omega)) = y at *
          have q1 : IntKind.i64.wrap (((p + 1 : Nat) : Int) - 1) = (p : Int) := by
            rw [show (((p + 1 : Nat) : Int) - 1) = (p : Int) by omega]; exact IntWalk.i64_in _ (by omega)
          go_wp2_with fail
          go_quiet (fail)
          go_wp2_with fail
          go_roundw
          case rel => exact ⟨p + 1 + 1, _, by omega, by go_num, rfl⟩
          case measure => simp [intOf]; omega
        · have HB9 := Lib.hid (below_drewN HB8.out m)
          have HG9 := Lib.hid (HF8.out.below (below_drewN (Below.refl _ _) m))
          have HEM9 := Lib.hid (HEM8.out.below (below_drewN (Below.refl _ _) m))
          have HFa9 := Lib.hid (HF3.out.below HB9.out)
          have HE9 := Lib.hid (HE1.out.below (HB3.out.trans (HB9.out.mono HB3.out.size)))
          have HW9 := Lib.hid (HB1.out.trans ((HB3.out.trans (HB9.out.mono HB3.out.size)).mono HB1.out.size))
          clear HB8 HF8 HEM8 HE1 HF3 HB3 HB1 HEM ht1
          generalize w8.drewN m = w9 at *
          go_wp2_with fail
          clear hlt
          go_loopw [11] (fun i wr => ∃ t : Nat, t ≤ k ∧ i = .int .i64 t ∧ Hid (Below w9.heap.size w9 wr)) (fun i _ => k - (intOf i).toNat)
          case atStart => exact ⟨0, Nat.zero_le _, rfl, Below.refl _ _⟩
          case round =>
            obtain ⟨t, ht, rfl, HBr⟩ := hrel
            by_cases hlt : t < k
            · have hx : l[t]? = some (l[t]'(by rw [HLK.out]; exact hlt)) := List.getElem?_eq_getElem _
              have htx := HT.out _ (List.getElem_mem (by rw [HLK.out]; exact hlt : t < l.length))
              have hwin := HWin.out t _ hx
              obtain ⟨b1, o1, rfl, hbl1, hcs1⟩ := HE9.out.at_ hx
              have HC := Lib.hid hcs1
              obtain ⟨d0, d1, d2⟩ := hcs1 wr HBr.out
              generalize (l[t]'(by rw [HLK.out]; exact hlt)) = x at *
              have hlook := look_is fa B bl L x.path wr (HFa9.out.below HBr.out) HInv.out (Nat.le_trans htx.1 (by decide)) (by rw [← HN.out]; omega)
              obtain ⟨q, ok, hq, hok, hwin2⟩ : ∃ (q : Nd) (ok : Bool), (lookN L x.path).getD ndZero = q ∧ (lookN L x.path).isSome = ok ∧ (ok = true → q.d = false → (∀ j y, j < t → l[j]? = some y → absB y.path ≠ q.p) → q.t = x.text) := by
                refine ⟨_, _, rfl, rfl, fun h1 h2 h3 => ?_⟩
                obtain ⟨q, hq⟩ := Option.isSome_iff_exists.1 h1
                rw [hq] at h2 h3 ⊢
                exact hwin q hq h2 h3
              rw [hq, hok] at hlook
              have HLook := Lib.hid hlook
              have HWq := Lib.hid hwin2
              have hsx := htx.1
              clear hlook hwin2 hwin hx hcs1 hq hok htx d1 d2
              go_wp2_with fail
              refine HLook.out.mono ?_
              rintro e w10 ⟨rfl, hb10⟩
              unfold Nd.e
              obtain ⟨w11, hw11⟩ : ∃ w11, w11 = w10.alloc (.cells #[.string q.p, .bool q.d, .string q.t] 30) := ⟨_, rfl⟩
              have hE : w10.heap.size < w11.heap.size := by rw [hw11, World.size_alloc]; omega
              have e0 : w11.cell? ⟨w10.heap.size, 0, none⟩ = some (.string q.p) := by rw [hw11]; exact cell_new3 _ _ _ _ _ 0 (by decide)
              have e1 : w11.cell? ⟨w10.heap.size, 1, none⟩ = some (.bool q.d) := by rw [hw11]; exact cell_new3 _ _ _ _ _ 1 (by decide)
              have e2 : w11.cell? ⟨w10.heap.size, 2, none⟩ = some (.string q.t) := by rw [hw11]; exact cell_new3 _ _ _ _ _ 2 (by decide)
              have hb11 : Below w9.heap.size w9 w11 := by
                rw [hw11]
                have := HBr.out.trans (hb10.mono HBr.out.size)
                exact this.alloc this.size _
              have HB11 := Lib.hid hb11
              have HE0 := Lib.hid e0
              have HE0' := Lib.hid hE
              have HE1 := Lib.hid e1
              have HE2 := Lib.hid e2
              obtain ⟨d3, d4, d5⟩ := HC.out w11 hb11
              have hb1 : b1 < w11.heap.size := Nat.lt_of_lt_of_le hbl1 hb11.size
              go_upto_region 21 with fail
              rw [← hw11]
              clear hw11 hb10 hb11 HLook
              have HAb := Lib.hid (fun W => Prabs.refAbs_is x.path W (by omega))
              go_cut [14] (fun v wx => ∃ (b : Bool) (W : World), v = .bool b ∧ W = wx ∧ Hid (b = true → ok = true) ∧ Hid (Below w11.heap.size w11 W))
              case first =>
                cases ok with
                | true =>
                  go_region_held3 (fun w' => w10.heap.size < w'.heap.size ∧ w'.cell? ⟨w10.heap.size, 0, none⟩ = some (.string q.p) ∧ b1 < w'.heap.size ∧ w'.cell? ⟨b1, o1 + t * 3, none⟩ = some (.string x.path)) (first | go_keep | exact ⟨hE, e0, hb1, d3⟩ | exact keep2 hb12 (by go_keep)) (first | (go_at_call 19; refine (HAb.out _).mono ?_; rintro e w12 ⟨rfl, hb12⟩))
                  all_goals go_wp2_with fail
                  all_goals go_meet
                  all_goals exact ⟨_, _, rfl, rfl, (fun _ => trivial), (Below.refl _ _).drew.trans hb12⟩
                | false =>
                  go_region
                  all_goals go_wp2_with fail
                  all_goals go_meet
                  all_goals exact ⟨false, _, rfl, rfl, (fun h => nomatch h), (Below.refl _ _).drew⟩
              case rest =>
                obtain ⟨b, w12, rfl, rfl, HOk, HB12⟩ := hcut
                clear d0 d3 e0 hE hb1
                go_wp2_with fail
                go_loopw [14, 15] (fun bv j wy => ∃ (u : Nat) (g : Bool), u ≤ t ∧ bv = .bool g ∧ j = .int .i64 u ∧ Hid (g = true → ok = true ∧ ∀ j y, j < u → l[j]? = some y → absB y.path ≠ q.p) ∧ Hid (Below w11.heap.size w11 wy)) (fun _ j _ => t - (intOf j).toNat)
                case atStart => exact ⟨0, b, Nat.zero_le _, rfl, rfl, fun h => ⟨HOk.out h, fun j y h => absurd h (Nat.not_lt_zero _)⟩, HB12.out⟩
                case round =>
                  obtain ⟨u, g, hu, rfl, rfl, HG, HBy⟩ := hrel
                  go_upto_region 23 with fail
                  go_cut [101] (fun v wx => ∃ go : Bool, v = .bool go ∧ wr = wx ∧ Hid (go = true → u < t ∧ g = true) ∧ Hid (go = false → g = true → u = t))
                  case first =>
                    by_cases h1 : u < t
                    · have HX : Hid ((g = true → u < t ∧ g = true) ∧ (g = false → g = true → u = t)) := ⟨fun h => ⟨h1, h⟩, fun h2 h3 => by rw [h2] at h3; cases h3⟩
                      go_wp2_with fail
                      go_meet
                      exact ⟨g, rfl, rfl, HX.out.1, HX.out.2⟩
                    · have HX : Hid (u = t) := by show _ = _; omega
                      go_wp2_with fail
                      go_meet
                      exact ⟨false, rfl, rfl, (fun h => nomatch h), fun _ _ => HX.out⟩
                  case rest =>
                    obtain ⟨go, rfl, rfl, HGo1, HGo2⟩ := hcut
                    cases go with
                    | true =>
                      have hut := (HGo1.out rfl).1
                      have huk : u < k := by omega
                      have hy : l[u]? = some (l[u]'(by rw [HLK.out]; omega)) := List.getElem?_eq_getElem _
                      have hsy := (HT.out _ (List.getElem_mem (by rw [HLK.out]; omega : u < l.length))).1
                      obtain ⟨b2, o2, hbo, hbl2, hcs2⟩ := HE9.out.at_ hy
                      obtain ⟨rfl, rfl⟩ : b1 = b2 ∧ o1 = o2 := by simpa using hbo
                      obtain ⟨d0, _, _⟩ := hcs2 wr (HB11.out.trans (HBy.out.mono HB11.out.size))
                      have hE := Nat.lt_of_lt_of_le HE0'.out HBy.out.size
                      have e0 : wr.cell? ⟨w10.heap.size, 0, none⟩ = some (.string q.p) := (HBy.out.cell (p := ⟨w10.heap.size, 0, none⟩) HE0'.out).trans HE0.out
                      have hb1 : b1 < wr.heap.size := Nat.lt_of_lt_of_le hbl1 (Nat.le_trans HB11.out.size HBy.out.size)
                      have HAb2 := Lib.hid (fun W => Prabs.refAbs_is (l[u]'(by rw [HLK.out]; omega)).path W (by omega))
                      have HNx : Hid (∀ b' : Bool, (b' = true → absB (l[u]'(by rw [HLK.out]; omega)).path ≠ q.p) → b' = true → ok = true ∧ ∀ j y, j < u + 1 → l[j]? = some y → absB y.path ≠ q.p) := fun b' h1 h2 => by
                        obtain ⟨k1, k2⟩ := HG.out (HGo1.out rfl).2
                        refine ⟨k1, fun j z hj hz => ?_⟩
                        rcases Nat.lt_or_ge j u with h3 | h3
                        · exact k2 j z h3 hz
                        · obtain rfl : j = u := by omega
                          obtain rfl := Option.some.inj (hy.symm.trans hz)
                          exact h1 h2
                      clear hcs2 hbl2 hbo hsy
                      generalize (l[u]'(by rw [HLK.out]; omega)) = y at *
                      go_upto_region 25 with fail
                      go_region_held3 (fun w' => w10.heap.size < w'.heap.size ∧ w'.cell? ⟨w10.heap.size, 0, none⟩ = some (.string q.p) ∧ b1 < w'.heap.size ∧ w'.cell? ⟨b1, o1 + u * 3, none⟩ = some (.string y.path)) (first | go_keep | exact ⟨hE, e0, hb1, d0⟩ | exact keep2 hb13 (by go_keep)) (first | (go_at_call 19; refine (HAb2.out _).mono ?_; rintro e w13 ⟨rfl, hb13⟩))
                      all_goals
                        have hb14 : Below w11.heap.size w11 w13 := HBy.out.trans (((Below.refl _ _).drew.trans hb13).mono HBy.out.size)
                        have HB14 := Lib.hid hb14
                        clear hb14 hb13 d0 e0 hE hb1 HAb2
                        go_wp2_with fail
                        go_roundw
                        case rel => exact ⟨u + 1, _, by omega, rfl, by go_num, HNx.out _ (fun h => ne_of_bool h), HB14.out⟩
                        case measure => simp [intOf]; omega
                    | false =>
                      have HEnd : Hid (g = true → q.d = false → q.t = x.text) := fun h1 h2 => by
                        have hu2 := HGo2.out rfl h1
                        obtain ⟨k1, k2⟩ := HG.out h1
                        exact HWq.out k1 h2 (fun j y hj hy => k2 j y (by omega) hy)
                      obtain ⟨_, _, d2⟩ := HC.out wr (HB11.out.trans (HBy.out.mono HB11.out.size))
                      have e1 : wr.cell? ⟨w10.heap.size, 1, none⟩ = some (.bool q.d) := (HBy.out.cell (p := ⟨w10.heap.size, 1, none⟩) HE0'.out).trans HE1.out
                      have e2 : wr.cell? ⟨w10.heap.size, 2, none⟩ = some (.string q.t) := (HBy.out.cell (p := ⟨w10.heap.size, 2, none⟩) HE0'.out).trans HE2.out
                      have HBn := Lib.hid (HB11.out.trans (HBy.out.mono HB11.out.size))
                      clear HG HGo1 HGo2
                      go_upto_region 26 with fail
                      go_cut [128] (fun v wx => v = .bool false ∧ ∃ n, wx = wr.drewN n)
                      case first =>
                        cases g with
                        | false =>
                          go_quiet (fail)
                          go_wp2_with fail
                          go_meet
                          exact ⟨rfl, _, rfl⟩
                        | true =>
                          cases hd : q.d with
                          | true =>
                            rw [hd] at e1
                            clear hd
                            go_quiet (fail)
                            go_wp2_with fail
                            go_meet
                            exact ⟨rfl, _, rfl⟩
                          | false =>
                            have ht2 := HEnd.out rfl hd
                            rw [hd] at e1
                            have hbe : (q.t.toList == x.text.toList) = true := by rw [ht2]; simp
                            clear hd ht2
                            go_quiet (fail)
                            go_wp2_with fail
                            go_meet
                            exact ⟨rfl, _, rfl⟩
                      case rest =>
                        obtain ⟨rfl, n, rfl⟩ := hcut
                        clear e1 e2 d2
                        go_wp2_with fail
                        go_roundw
                        case rel => exact ⟨t + 1, by omega, by go_num, below_drewN HBn.out n⟩
                        case measure => simp [intOf]; omega
            · have HFb := Lib.hid (HG9.out.below HBr.out)
              have hperm := (rot_perm M s).trans HP.out
              have hagain := sorted_again HInv.out hperm (by rw [← HN.out]; omega)
              rw [← HL2.out, ← HM.out] at hagain
              have hInv2 : Vfs.Inv L2 := by rw [HL2.out]; exact newL_inv _
              have hL2 : L2.length = N := by
                have h1 := (sorted_perm hInv2).length_eq
                rw [hagain] at h1
                rw [← h1, ← HNl.out, List.length_map]
              have hAll2 := all_is fb B2 bl2 L2 wr HFb.out hInv2 (by omega) sortsNone
              rw [hL2] at hAll2
              have HAll2 := Lib.hid hAll2
              have HAg := Lib.hid hagain
              have HInv2 := Lib.hid hInv2
              clear hAll2 hL2 hperm hagain hInv2 HFb
              go_wp2_with fail
              refine HAll2.out.mono ?_
              rintro e w14 ⟨A8, c8, M2, rfl, hP2, hU2, hE8, hb14⟩
              have hM2 : M2 = M := (sorted_one HInv2.out hP2 hU2).trans HAg.out
              rw [hM2] at hE8
              have HS2 := Lib.hid (Wsame.same_is A8 AA N c8 ca (M.map rawOf) w14 HNl.out hE8 (HEM9.out.below (HBr.out.trans (hb14.mono HBr.out.size))) (by omega))
              have HB14 := Lib.hid (HBr.out.trans (hb14.mono HBr.out.size))
              clear hP2 hU2 hE8 hb14 hM2 HAll2 HBr
              go_wp2_with fail
              refine HS2.out.mono ?_
              rintro e w15 ⟨rfl, hb15⟩
              have HB15 := Lib.hid (HB14.out.trans (hb15.mono HB14.out.size))
              clear hb15 HB14 HS2
              go_wp2_with fail
              refine (awake_is _).mono ?_
              rintro e w16 ⟨rfl, hb16⟩
              have HB16 := Lib.hid (HW9.out.trans ((HB15.out.trans (hb16.mono HB15.out.size)).mono HW9.out.size))
              clear hb16 HB15
              go_wp2
              go_ret
              exact ⟨rfl, HB16.out⟩

end Go.Proofs.YtgfpdaaofhanoaaDoor.VfsFirst
