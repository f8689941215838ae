/- The document's node: a call that is not lazy (written by wip/tools/mkref12.py) -/
import Derived.Deep.RegionHeld3
import Derived.Test.YtpphkaolonjjdaaDoorCmnJ
namespace Go.Proofs.YtpphkaolonjjdaaDoor.Cmd
open Go Go.RowKit Go.Proofs.YtpphkaolonjjdaaDoor.Spl Go.Proofs.YtpphkaolonjjdaaDoor.Nodm Go.Proofs.YtpphkaolonjjdaaDoor.Nz Go.Proofs.YtpphkaolonjjdaaDoor.Cpl Go.Proofs.YtpphkaolonjjdaaDoor.Cin Go.Proofs.YtpphkaolonjjdaaDoor.Cops Go.Proofs.YtpphkaolonjjdaaDoor.Cmc Go.Proofs.YtpphkaolonjjdaaDoor.Cmm Go.Proofs.YtpphkaolonjjdaaDoor.Cnm Go.Proofs.YtpphkaolonjjdaaDoor.Cpu Go.Proofs.YtpphkaolonjjdaaDoor.Cmr Go.Proofs.YtpphkaolonjjdaaDoor.Cmn
open Go.Proofs.YtpphkaolonjjdaaDoor.Pure (bs)

set_option maxRecDepth 100000 in
set_option maxHeartbeats 16000000 in
theorem node_call (S : Nat → Prop) (w0 : World) (h cb b : Nat) (Y : Nat → Prop) (B : List (List Opp)) (s : T) (l : List Nz) (A : Option Addr) (c : Nat) (w : World) (HI : KidsR S w0 h cb b l) (hst : StR S w0 h cb Y w B) (hn : NzsIn S w0 A c l) (hb : b < B.length) (ho : opsP B + sizs l < 400000) (hB : B.length + sizs l ≤ 400000) (hz : lazyB s = false) :
    Calls Tryd.prog 24 #[.pointer (some ⟨cb, 0, none⟩), .int .i64 (b : Int), .agg #[.int .i64 4, .string (bs s), .slice A l.length c]] w fun e W' => e = .returned (.tuple #[]) ∧ StR S w0 h cb Y W' (Cpl.put (nodesP l b B) b ⟨5, (l.length : Int), s, []⟩) ∧ Kp h (XR cb) w W' ∧ Stay Y w W' := by
  obtain ⟨i0, hi0, hz0, hz1, hz2⟩ := info_parts infoOp
  obtain ⟨m, hm⟩ : ∃ m, m = l.length := ⟨_, rfl⟩
  have hml := sizs_len l
  rw [← hm] at hml ⊢
  obtain ⟨w1, hw1⟩ : ∃ w1, w.alloc (.cells #[.int .i64 4, .string (bs s), .slice A m c] 31) = w1 := ⟨_, rfl⟩
  have hb1 : Below w.heap.size w w1 := by rw [← hw1]; exact (Below.refl _ _).alloc (Nat.le_refl _) _
  have hx1 : w1.heap[w.heap.size]? = some (.cells #[.int .i64 4, .string (bs s), .slice A m c] 31) := by rw [← hw1]; exact heap_alloc_new w _
  have HW1 := Lib.hid hw1
  have HS1 := Lib.hid (hst.on hb1)
  have HK1 : Hid (Kp h (XR cb) w w1) := Kp.of hb1 hst.1.size _
  have HY1 : Hid (Stay Y w w1) := hst.stay hb1
  have HX1 := Lib.hid hx1
  have HM := Lib.hid hm
  have HKi := Lib.hid HI
  have HNs := Lib.hid hn
  obtain ⟨n0, n1, n2⟩ := cells_3 hx1
  have HFd : Hid (∀ W, Calls Tryd.prog 35 #[.string (bs s)] W fun e W' => ∃ mn mx pu ok, e = .returned (.tuple #[.agg #[.int .i64 mn, .int .i64 mx, .bool false, .bool pu], .bool ok]) ∧ Below W.heap.size W W') := fun W => by
    have h1 := Frd.refFind_is (bs s) W
    unfold Frd.refV Frd.infV at h1
    have e0 : (bs s).data.toList = s := by simp [bs]
    rw [e0, Frd.refI_eq] at h1
    have e1 : ((Fpl.lookI Fpl.tab s).getD Fpl.zero).lz = false := (lazy_get s).trans hz
    rw [e1] at h1
    exact h1.mono fun e W' ⟨h2, h3⟩ => ⟨_, _, _, _, h2, h3⟩
  clear hw1 hb1 hst hx1 HI hn hm
  go_enter Tryd.func24, Tryd.ntmps24
  go_upto_region 1 with fail
  rw [HW1.out]
  go_upto_region 6 with (go_at_call 35; refine (HFd.out _).mono ?_; rintro e w2 ⟨mn, mx, pu, ok, rfl, hb2⟩; have HB2 := Lib.hid hb2; clear hb2)
  obtain ⟨w3, hw3⟩ : ∃ w3, w2.alloc (.cells #[.int .i64 mn, .int .i64 mx, .bool false, .bool pu] 73) = w3 := ⟨_, rfl⟩
  rw [hw3]
  have hb3 : Below w1.heap.size w1 w3 := by rw [← hw3]; exact HB2.out.alloc HB2.out.size _
  have hx3 : w3.heap[w2.heap.size]? = some (.cells #[.int .i64 mn, .int .i64 mx, .bool false, .bool pu] 73) := by rw [← hw3]; exact heap_alloc_new w2 _
  obtain ⟨f0, f1, f2, f3⟩ := cells_four hx3
  have hs3 := HS1.out.on hb3
  have hk3 : Kp h (XR cb) w1 w3 := Kp.of hb3 HS1.out.1.size _
  have hy3 : Stay Y w1 w3 := HS1.out.stay hb3
  clear hw3 hb3 hx3
  have HS3 := Lib.hid hs3
  have HK3 := Lib.hid hk3
  have HY3 := Lib.hid hy3
  clear n0 n1 n2
  obtain ⟨n0, n1, n2⟩ := cells_3 (hk3.keep _ _ HX1.out xr_not)
  clear hs3 hk3 hy3
  go_upto_region 9 with fail
  clear f0 f1 f2 f3
  go_loopw [8] (fun iv wr => ∃ j : Nat, j ≤ m ∧ iv = .int .i64 (j : Int) ∧ Hid (StR S w0 h cb Y wr (nodesP (l.take j) b B)) ∧ Hid (Kp h (XR cb) w1 wr) ∧ Hid (Stay Y w1 wr)) (fun iv _ => m - (intOf iv).toNat)
  case atStart => exact ⟨0, Nat.zero_le _, rfl, by rw [List.take_zero, nodesP]; exact HS3, HK3, HY3⟩
  case round =>
    obtain ⟨j, hj, rfl, HSr, HKr, HYr⟩ := hrel
    clear n0 n1 n2
    obtain ⟨n0, n1, n2⟩ := cells_3 (HKr.out.keep _ _ HX1.out xr_not)
    by_cases hlt : j < m
    · obtain ⟨x, hx⟩ : ∃ x, l[j]? = some x := ⟨_, List.getElem?_eq_getElem (by have := HM.out; omega)⟩
      have hjm : (j : Int) < (m : Int) := by omega
      have HC0 := kid HKi.out HNs.out hx HSr.out hb ho hB
      obtain ⟨k', s', l'⟩ := x
      obtain ⟨bb, oo, A', c', rfl, hbb, hSb, hin, hcw⟩ := HNs.out.at_ hx
      obtain ⟨d0, d1, d2⟩ := hcw wr (HSr.out.1.block hSb hbb)
      have HC := Lib.hid (HC0 _ hin)
      obtain ⟨q', hq'⟩ : ∃ q', q' = l'.length := ⟨_, rfl⟩
      rw [← hq'] at HC d2
      have HT := Lib.hid (nodes_take l b B hx)
      clear hcw hin hx hq' HC0
      go_wp2_with (go_at_call 24; refine HC.out.mono ?_; rintro e w4 ⟨rfl, hs4, hk4, hy4⟩; have HS4 := Lib.hid hs4; have HK4 := Lib.hid (HKr.out.trans hk4); have HY4 := Lib.hid (HYr.out.trans hy4); clear hs4 hk4 hy4)
      go_roundw
      case rel => exact ⟨j + 1, hlt, by go_num, by rw [HT.out]; exact HS4, HK4, HY4⟩
      case measure => simp [intOf]; omega
    · obtain rfl : m = j := by omega
      have hsx : StR S w0 h cb Y wr (nodesP l b B) := by
        have h1 := HSr.out
        rw [show l.take m = l by rw [HM.out]; exact List.take_length] at h1
        exact h1
      have hbx : b < (nodesP l b B).length := by rw [nodes_len]; omega
      have hrx : ∀ r ∈ nodesP l b B, r.length ≤ 1000000 := fun r hr => rows_in l b B hb ho r hr
      have HK0 := Lib.hid (HK1.out.trans HKr.out)
      have HY0 := Lib.hid (HY1.out.trans HYr.out)
      have hxl := (Array.getElem?_eq_some_iff.1 (HKr.out.keep _ _ HX1.out xr_not)).1
      obtain ⟨N0, N1, N2⟩ := cells_3 ((Lib.alloc_old wr (.cells #[.int .i64 5, .int .i64 (m : Int), .string (bs s), .slice none 0 0] 40) _ hxl).trans (HKr.out.keep _ _ HX1.out xr_not))
      have HXn := Lib.hid (HKr.out.keep _ _ HX1.out xr_not)
      go_upto_region 19 with fail
      obtain ⟨gB, q, capB, p, cr, Ar, lr, G, hc, hG, hY, hq, hi, hp, hpl, hbq, hgl, hro, hrow⟩ := opened hsx hbx hrx
      have a0 := one_cell hc.box
      have hvi : (G.map (·.1))[b]? = some (.slice Ar p cr) := by rw [List.getElem?_map, hi]; rfl
      have b0 := (hrow.cellAt b (by omega)).trans hvi
      have hbq' : (b : Int) < (q : Int) := by omega
      have hcl := (Array.getElem?_eq_some_iff.1 hc.box).1
      obtain ⟨ob, hob⟩ : ∃ ob, ob = Obj.cells #[.int .i64 5, .int .i64 (m : Int), .string (bs s), .slice none 0 0] 40 := ⟨_, rfl⟩
      have HPE := Lib.hid (put_fin hc hG hY hq hi hp hsx.1.size ⟨5, (m : Int), s, []⟩ (.slice none 0 0) (World.ownsRow_nil ..) ob)
      have A0 : (wr.alloc (.cells #[.int .i64 5, .int .i64 (m : Int), .string (bs s), .slice none 0 0] 40)).cell? ⟨cb, 0, none⟩ = some (.slice (some ⟨gB, 0, none⟩) q capB) := one_cell ((Lib.alloc_old wr _ cb hcl).trans hc.box)
      have B0 : (wr.alloc (.cells #[.int .i64 5, .int .i64 (m : Int), .string (bs s), .slice none 0 0] 40)).cell? ⟨gB, b, none⟩ = some (.slice Ar p cr) := ((hrow.alloc _).cellAt b (by omega)).trans hvi
      have hnB : (Value.slice Ar p cr).ownBlock ≠ some cb := own_not hro hc.box (by decide)
      have hrB : (Value.slice Ar p cr).ownBlock ≠ some gB := (own_type hro hrow (by decide)).elim (fun e1 e2 => by rw [e1] at e2; cases e2) id
      have HBx := Lib.hid hc.box
      have HRo := Lib.hid hro
      have HRow := Lib.hid hrow
      have HnB := Lib.hid hnB
      have HrB := Lib.hid hrB
      have HV := Lib.hid hvi
      have HOB := Lib.hid hob
      have HWr := Lib.hid hsx.1
      have hzz := hsx.1.size
      have HZn := Lib.hid (four_new wr.drew (.int .i64 5) (.int .i64 (m : Int)) (.string (bs s)) (.slice none 0 0) 40)
      have hfl := flat4_len lr
      rw [← hp] at hfl
      generalize flat4 lr = fr at *
      generalize G.map (·.1) = vs at *
      clear hsx hc hG hY hq hi hp hro hrow hvi hob hnB hrB hrx
      have hcg : cb ≠ gB := fun e => own_not HRow.out HBx.out (by decide) (by rw [e]; rfl)
      have HCg := Lib.hid hcg
      clear hcg
      have hng : w.heap.size ≠ gB := fun e => own_not HRow.out HXn.out (by decide) (by rw [e]; rfl)
      have HNg := Lib.hid hng
      have hnn : (Value.slice Ar p cr).ownBlock ≠ some w.heap.size := own_not HRo.out HXn.out (by decide)
      have HNn := Lib.hid hnn
      clear hng hnn
      refine wp_region_held_drew (S := (fun U => U.cell? ⟨cb, 0, none⟩ = some (.slice (some ⟨gB, 0, none⟩) q capB) ∧ U.cell? ⟨w.heap.size, 1, none⟩ = some (.string (bs s)) ∧ U.cell? ⟨w.heap.size, 2, none⟩ = some (.slice A m c))) (by kernel_rfl) (by exact ⟨a0, n1, n2⟩) (fun hHeld => ?_)
      refine wpAnyH_take (i := 0) (oi := _) (v := ?_) rfl (by kernel_rfl) (by kernel_rfl) (by kernel_rfl) (fun _ _ _ h => h) (Or.inl ⟨by rfl, ?_⟩) (by assumption) ?_
      rotate_left
      · (intro w hSw; (try dsimp only at hSw); go_simp; try with_reducible rfl)
      try simp only [Act.put, List.setIfInBounds_toArray]
      refine wpAnyH_take (i := 1) (oi := _) (v := ?_) rfl (by kernel_rfl) (by kernel_rfl) (by kernel_rfl) (fun _ _ _ h => h) (Or.inl ⟨by rfl, ?_⟩) (by assumption) ?_
      rotate_left
      · (intro w hSw; (try dsimp only at hSw); go_simp; try with_reducible rfl)
      try simp only [Act.put]
      refine wpAnyH_take (i := 2) (oi := _) (v := ?_) rfl (by kernel_rfl) (by kernel_rfl) (by kernel_rfl) (fun _ _ _ h => h) (Or.inl ⟨by rfl, ?_⟩) (by assumption) ?_
      rotate_left
      · (intro w hSw; (try dsimp only at hSw); go_simp; try with_reducible rfl)
      try simp only [Act.put]
      refine wpAnyH_take (i := 3) (oi := _) (v := ?_) rfl (by kernel_rfl) (by kernel_rfl) (by kernel_rfl) (fun _ _ _ h => h) (Or.inl ⟨by rfl, ?_⟩) (by assumption) ?_
      rotate_left
      · (intro w hSw; (try dsimp only at hSw); go_simp; try with_reducible rfl)
      try simp only [Act.put]
      refine wpAnyH_take (i := 4) (oi := _) (v := ?_) rfl (by kernel_rfl) (by kernel_rfl) (by kernel_rfl) (fun _ _ _ h => h) (Or.inl ⟨by rfl, ?_⟩) (by assumption) ?_
      rotate_left
      · (intro w hSw; (try dsimp only at hSw); go_simp; try with_reducible rfl)
      try simp only [Act.put]
      refine wpAnyH_take (i := 5) (oi := _) (v := ?_) rfl (by kernel_rfl) (by kernel_rfl) (by kernel_rfl) (fun _ _ _ h => h) (Or.inl ⟨by rfl, ?_⟩) (by assumption) ?_
      rotate_left
      · (intro w hSw; (try dsimp only at hSw); go_simp; try with_reducible rfl)
      try simp only [Act.put]
      refine wpAnyH_take (i := 6) (oi := _) (v := ?_) rfl (by kernel_rfl) (by kernel_rfl) (by kernel_rfl) (fun _ _ _ h => h) (Or.inl ⟨by rfl, ?_⟩) (by assumption) ?_
      rotate_left
      · (intro w hSw; (try dsimp only at hSw); go_simp; try with_reducible rfl)
      try simp only [Act.put]
      refine wpAnyH_take (i := 7) (oi := _) (v := ?_) rfl (by kernel_rfl) (by kernel_rfl) (by kernel_rfl) (fun _ _ _ h => h) (Or.inl ⟨by rfl, ?_⟩) (by assumption) ?_
      rotate_left
      · (intro w hSw; (try dsimp only at hSw); go_simp; try with_reducible rfl)
      try simp only [Act.put]
      refine wpAnyH_take (i := 8) (oi := _) (v := ?_) rfl (by kernel_rfl) (by kernel_rfl) (by kernel_rfl) (fun _ _ _ h => h) (Or.inl ⟨by rfl, ?_⟩) (by assumption) ?_
      rotate_left
      · (intro w hSw; (try dsimp only at hSw); go_simp; try with_reducible rfl)
      try simp only [Act.put]
      refine wpAnyH_take (i := 9) (oi := _) (v := ?_) rfl (by kernel_rfl) (by kernel_rfl) (by kernel_rfl) (fun _ _ _ h => h) (Or.inl ⟨by rfl, ?_⟩) (by assumption) ?_
      rotate_left
      · (intro w hSw; (try dsimp only at hSw); go_simp; try with_reducible rfl)
      try simp only [Act.put]
      refine wpAnyH_take (i := 10) (oi := _) (v := ?_) rfl (by kernel_rfl) (by kernel_rfl) (by kernel_rfl) (fun _ _ _ h => h) (Or.inl ⟨by rfl, ?_⟩) (by assumption) ?_
      rotate_left
      · (intro w hSw; (try dsimp only at hSw); go_simp; try with_reducible rfl)
      try simp only [Act.put]
      refine wpAnyH_take (i := 12) (oi := _) (v := ?_) rfl (by kernel_rfl) (by kernel_rfl) (by kernel_rfl) (fun _ _ _ h => h) (Or.inl ⟨by rfl, ?_⟩) (by assumption) ?_
      rotate_left
      · (intro w hSw; (try dsimp only at hSw); go_simp; try with_reducible rfl)
      try simp only [Act.put]
      refine wpAnyH_take (i := 13) (oi := _) (v := ?_) rfl (by kernel_rfl) (by kernel_rfl) (by kernel_rfl) (fun _ _ _ h => h) (Or.inl ⟨by rfl, ?_⟩) (by assumption) ?_
      rotate_left
      · (intro w hSw; (try dsimp only at hSw); go_simp; try with_reducible rfl)
      try simp only [Act.put]
      refine wpAnyH_take (i := 14) (oi := _) (v := ?_) rfl (by kernel_rfl) (by kernel_rfl) (by kernel_rfl) (fun _ _ _ h => h) (Or.inl ⟨by rfl, ?_⟩) (by assumption) ?_
      rotate_left
      · (intro w hSw; (try dsimp only at hSw); go_simp; try with_reducible rfl)
      try simp only [Act.put]
      refine wpAnyH_take (i := 15) (oi := _) (v := ?_) rfl (by kernel_rfl) (by kernel_rfl) (by kernel_rfl) (fun _ _ _ h => h) (Or.inl ⟨by rfl, ?_⟩) (by assumption) ?_
      rotate_left
      · (intro w hSw; (try dsimp only at hSw); go_simp; try with_reducible rfl)
      try simp only [Act.put]
      refine wpAnyH_take (i := 16) (oi := _) (v := ?_) rfl (by kernel_rfl) (by kernel_rfl) (by kernel_rfl) (fun _ _ _ h => h) (Or.inl ⟨by rfl, ?_⟩) (by assumption) ?_
      rotate_left
      · (intro w hSw; (try dsimp only at hSw); go_simp; try with_reducible rfl)
      try simp only [Act.put]
      refine wpAnyH_take (i := 17) (oi := _) (v := ?_) rfl (by kernel_rfl) (by kernel_rfl) (by kernel_rfl) (fun _ _ _ h => h) (Or.inl ⟨by rfl, ?_⟩) (by assumption) ?_
      rotate_left
      · (intro w hSw; (try dsimp only at hSw); go_simp; try with_reducible rfl)
      try simp only [Act.put]
      refine wpAnyH_ready (rs := [11, 18]) (by kernel_rfl) (by simp) ?_
      refine AllReadyH.cons (o := _) rfl (fun K hK => ?_) ?_
      · go_simp
        refine hK.out _ _ (by exact ⟨a0, n1, n2⟩) (fun hHeld => ?_)
        clear hK K
        try simp only [Act.put, List.setIfInBounds_toArray, List.set_cons_zero, List.set_cons_succ]
        refine wpAnyH_ready (rs := [18]) (by kernel_rfl) (by simp) ?_
        refine AllReadyH.cons (o := _) rfl (fun K hK => ?_) ?_
        · go_simp
          refine hK.out _ _ (by exact ⟨A0, N1, N2⟩) (fun hHeld => ?_)
          clear hK K
          try simp only [Act.put, List.setIfInBounds_toArray, List.set_cons_zero, List.set_cons_succ]
          refine wpAnyH_ready (rs := [19]) (by kernel_rfl) (by simp) ?_
          refine AllReadyH.cons (o := _) rfl (fun K hK => ?_) ?_
          · refine step_append_lies _ rfl _ _ 38 rfl h 40 i0 (.agg #[.int .i64 0, .int .i64 0, .string .empty, .slice none 0 0]) 4 56 Tryd.underlying38 hi0 hz0 hz1 hz2 rfl (by decide) (.slice Ar p cr) p _ (by first | rfl | simp [Act.eval, Act.put]) (HRo.out.drew.alloc _) ⟨wr.heap.size, 0, none⟩ 1 1 [.int .i64 5, .int .i64 (m : Int), .string (bs s), .slice none 0 0] (by first | rfl | simp [Act.eval, Act.put]) rfl HZn.out (by simp [Value.oneCell']) (by decide) (by unfold maxLen; omega) (by omega) (by simp; omega) (wr.heap.size + 1) (World.size_alloc ..) ?_; intro g cap w5 hown5 hgrow5 hat5 hlt5; have hb5 : w5.heap[cb]? = _ := (hgrow5.block cb (by simp; omega) (fun e => HnB.out e.symm)).trans ((Lib.alloc_old wr.drew _ cb hcl).trans HBx.out); have z0 := one_cell hb5; have hr5 := (HRow.out.drew.alloc _).kept hgrow5 (.inr (fun e => HrB.out e.symm)); have z1 := (hr5.cellAt b (by omega)).trans HV.out; have t0 := hr5.frozenAt b; have HFin := Lib.hid (HPE.out g cap w5 hown5 (by rw [HOB.out]; exact ⟨hgrow5.os, hgrow5.tape, hgrow5.output, hgrow5.size, hgrow5.block⟩) hat5); have hn5 : w5.heap[w.heap.size]? = _ := (hgrow5.block w.heap.size (by simp; omega) (fun e => HNn.out e.symm)).trans ((Lib.alloc_old wr.drew _ w.heap.size hxl).trans HXn.out); obtain ⟨x0, x1, x2⟩ := cells_3 hn5; have HN5 := Lib.hid hn5; clear hn5; have HB5 := Lib.hid hb5; clear hown5 hgrow5 hat5 hb5 hr5
            refine hK.out _ _ (by exact ⟨z0, x1, x2⟩) (fun hHeld => ?_)
            clear hK K
            try simp only [Act.put, List.setIfInBounds_toArray]
            refine wpAnyH_take (i := 20) (oi := _) (v := ?_) rfl (by kernel_rfl) (by kernel_rfl) (by kernel_rfl) (fun _ _ _ h => h) (Or.inl ⟨by rfl, ?_⟩) (by assumption) ?_
            rotate_left
            · (intro w hSw; (try dsimp only at hSw); go_simp; try with_reducible rfl)
            try simp only [Act.put]
            refine wpAnyH_ready (rs := [21]) (by kernel_rfl) (by simp) ?_
            refine AllReadyH.cons (o := _) rfl (fun K hK => ?_) ?_
            · go_simp
              refine hK.out _ _ (by exact ⟨one_cell ((heap_setCell_other w5 ⟨gB, b, none⟩ cb _ HCg.out).trans HB5.out), (cells_3 ((heap_setCell_other w5 ⟨gB, b, none⟩ w.heap.size _ HNg.out).trans HN5.out)).2⟩) (fun hHeld => ?_)
              clear hK K
              try simp only [Act.put, List.setIfInBounds_toArray, List.set_cons_zero, List.set_cons_succ]
              refine wpAnyH_done (by kernel_rfl) ?_ _
              go_wp2
              exact bodyPost_end (v := .tuple #[]) (by simp [results, Tryd.results24, go_sem]) rfl ⟨rfl, ⟨HWr.out.s (HFin.out.2.1.mono fun _ _ h => .inr h), HFin.out.1⟩, HK0.out.trans (HFin.out.2.1.mono fun _ _ h => .inr h), HY0.out.trans HFin.out.2.2⟩
            · exact AllReadyH.nil
          · exact AllReadyH.nil
        · exact AllReadyH.nil
      · refine AllReadyH.cons (o := _) rfl (fun K hK => ?_) ?_
        · go_simp
          refine hK.out _ _ (by exact ⟨A0, N1, N2⟩) (fun hHeld => ?_)
          clear hK K
          try simp only [Act.put, List.setIfInBounds_toArray, List.set_cons_zero, List.set_cons_succ]
          refine wpAnyH_ready (rs := [11]) (by kernel_rfl) (by simp) ?_
          refine AllReadyH.cons (o := _) rfl (fun K hK => ?_) ?_
          · go_simp
            refine hK.out _ _ (by exact ⟨A0, N1, N2⟩) (fun hHeld => ?_)
            clear hK K
            try simp only [Act.put, List.setIfInBounds_toArray, List.set_cons_zero, List.set_cons_succ]
            refine wpAnyH_ready (rs := [19]) (by kernel_rfl) (by simp) ?_
            refine AllReadyH.cons (o := _) rfl (fun K hK => ?_) ?_
            · refine step_append_lies _ rfl _ _ 38 rfl h 40 i0 (.agg #[.int .i64 0, .int .i64 0, .string .empty, .slice none 0 0]) 4 56 Tryd.underlying38 hi0 hz0 hz1 hz2 rfl (by decide) (.slice Ar p cr) p _ (by first | rfl | simp [Act.eval, Act.put]) (HRo.out.drew.alloc _) ⟨wr.heap.size, 0, none⟩ 1 1 [.int .i64 5, .int .i64 (m : Int), .string (bs s), .slice none 0 0] (by first | rfl | simp [Act.eval, Act.put]) rfl HZn.out (by simp [Value.oneCell']) (by decide) (by unfold maxLen; omega) (by omega) (by simp; omega) (wr.heap.size + 1) (World.size_alloc ..) ?_; intro g cap w5 hown5 hgrow5 hat5 hlt5; have hb5 : w5.heap[cb]? = _ := (hgrow5.block cb (by simp; omega) (fun e => HnB.out e.symm)).trans ((Lib.alloc_old wr.drew _ cb hcl).trans HBx.out); have z0 := one_cell hb5; have hr5 := (HRow.out.drew.alloc _).kept hgrow5 (.inr (fun e => HrB.out e.symm)); have z1 := (hr5.cellAt b (by omega)).trans HV.out; have t0 := hr5.frozenAt b; have HFin := Lib.hid (HPE.out g cap w5 hown5 (by rw [HOB.out]; exact ⟨hgrow5.os, hgrow5.tape, hgrow5.output, hgrow5.size, hgrow5.block⟩) hat5); have hn5 : w5.heap[w.heap.size]? = _ := (hgrow5.block w.heap.size (by simp; omega) (fun e => HNn.out e.symm)).trans ((Lib.alloc_old wr.drew _ w.heap.size hxl).trans HXn.out); obtain ⟨x0, x1, x2⟩ := cells_3 hn5; have HN5 := Lib.hid hn5; clear hn5; have HB5 := Lib.hid hb5; clear hown5 hgrow5 hat5 hb5 hr5
              refine hK.out _ _ (by exact ⟨z0, x1, x2⟩) (fun hHeld => ?_)
              clear hK K
              try simp only [Act.put, List.setIfInBounds_toArray]
              refine wpAnyH_take (i := 20) (oi := _) (v := ?_) rfl (by kernel_rfl) (by kernel_rfl) (by kernel_rfl) (fun _ _ _ h => h) (Or.inl ⟨by rfl, ?_⟩) (by assumption) ?_
              rotate_left
              · (intro w hSw; (try dsimp only at hSw); go_simp; try with_reducible rfl)
              try simp only [Act.put]
              refine wpAnyH_ready (rs := [21]) (by kernel_rfl) (by simp) ?_
              refine AllReadyH.cons (o := _) rfl (fun K hK => ?_) ?_
              · go_simp
                refine hK.out _ _ (by exact ⟨one_cell ((heap_setCell_other w5 ⟨gB, b, none⟩ cb _ HCg.out).trans HB5.out), (cells_3 ((heap_setCell_other w5 ⟨gB, b, none⟩ w.heap.size _ HNg.out).trans HN5.out)).2⟩) (fun hHeld => ?_)
                clear hK K
                try simp only [Act.put, List.setIfInBounds_toArray, List.set_cons_zero, List.set_cons_succ]
                refine wpAnyH_done (by kernel_rfl) ?_ _
                go_wp2
                exact bodyPost_end (v := .tuple #[]) (by simp [results, Tryd.results24, go_sem]) rfl ⟨rfl, ⟨HWr.out.s (HFin.out.2.1.mono fun _ _ h => .inr h), HFin.out.1⟩, HK0.out.trans (HFin.out.2.1.mono fun _ _ h => .inr h), HY0.out.trans HFin.out.2.2⟩
              · exact AllReadyH.nil
            · exact AllReadyH.nil
          · exact AllReadyH.nil
        · exact AllReadyH.nil

end Go.Proofs.YtpphkaolonjjdaaDoor.Cmd
