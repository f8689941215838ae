/- The program's Compile. -/
import Derived.Deep.LoopGhost
import Derived.Laws.EntriesVeiled
import Derived.Test.YtfenlhbkdfmneaaCsz
import Derived.Test.YtfenlhbkdfmneaaCsd
namespace Go.Proofs.Ytfenlhbkdfmneaa.Ccm
open Go Go.RowKit Go.Proofs.Ytfenlhbkdfmneaa.Spl Go.Proofs.Ytfenlhbkdfmneaa.Nodm Go.Proofs.Ytfenlhbkdfmneaa.Nz Go.Proofs.Ytfenlhbkdfmneaa.Cpl Go.Proofs.Ytfenlhbkdfmneaa.Cin Go.Proofs.Ytfenlhbkdfmneaa.Cops Go.Proofs.Ytfenlhbkdfmneaa.Cmc Go.Proofs.Ytfenlhbkdfmneaa.Cmm Go.Proofs.Ytfenlhbkdfmneaa.Cnm Go.Proofs.Ytfenlhbkdfmneaa.Cpu Go.Proofs.Ytfenlhbkdfmneaa.Cla Go.Proofs.Ytfenlhbkdfmneaa.Cpm Go.Proofs.Ytfenlhbkdfmneaa.Cap Go.Proofs.Ytfenlhbkdfmneaa.Cpo Go.Proofs.Ytfenlhbkdfmneaa.Cno Go.Proofs.Ytfenlhbkdfmneaa.Cst Go.Proofs.Ytfenlhbkdfmneaa.Csd
open Go.Proofs.Ytfenlhbkdfmneaa.Pure (bs)

set_option maxRecDepth 100000 in
set_option maxHeartbeats 2000000 in
theorem ends_is (S : Nat → Prop) (v : Value) (x : Nz) (w : World) (h : NzIn S w v x) (hx : siz x < 1000000) :
    Calls Try.prog 25 #[v] w fun e W' => e = .returned (.bool true) ∧ Below w.heap.size w W' := by
  obtain ⟨k, s, l⟩ := x
  obtain ⟨A, c, rfl, hn⟩ := h.inv
  obtain ⟨w1, hw1⟩ : ∃ w1, w.alloc (.cells #[.int .i64 k, .string (bs s), .slice A l.length c] 30) = w1 := ⟨_, rfl⟩
  have hb1 : Below w.heap.size w w1 := by rw [← hw1]; exact (Below.refl _ _).alloc (Nat.le_refl _) _
  have hx1 : w1.heap[w.heap.size]? = some (.cells #[.int .i64 k, .string (bs s), .slice A l.length c] 30) := by rw [← hw1]; exact heap_alloc_new w _
  obtain ⟨n0, n1, n2⟩ := cells_3 hx1
  have HC := Lib.hid (Csz.size_is S _ (.mk k s l) w1 (h.on hb1) hx)
  obtain ⟨X, hX⟩ : ∃ X, X = siz (.mk k s l) := ⟨_, rfl⟩
  rw [← hX] at HC hx
  have hlt : (X : Int) < 1000000 := by omega
  have HW1 := Lib.hid hw1
  have HB1 := Lib.hid hb1
  clear h hn hw1 hb1 hx1 hX
  go_enter Try.func25, Try.ntmps25
  go_upto_region 1 with fail
  rw [HW1.out]
  go_wp2_with (go_at_call 41; refine HC.out.mono ?_; rintro e W4 ⟨rfl, hb4⟩; have HB4 := Lib.hid (HB1.out.trans (hb4.mono HB1.out.size)); clear hb4)
  go_ret
  exact ⟨rfl, HB4.out⟩

theorem make_info (W : World) : (Instr.makeMap 80 none).run Try.prog W = .ok (.map (some W.heap.size)) (W.alloc (.map #[] 0)) := by kernel_rfl
set_option maxRecDepth 100000 in
set_option maxHeartbeats 2000000 in
theorem asker_is (w : World) :
    Calls Try.prog 28 #[] w fun e W' => ∃ kb mb, e = .returned (.func (.func 43) #[] #[.pointer (some ⟨kb, 0, none⟩)]) ∧ Known kb mb 0 W' ∧ Below w.heap.size w W' ∧ w.heap.size ≤ mb := by
  have hk : Known (w.heap.size + 1) w.heap.size 0 ((w.alloc (.map #[] 0)).alloc (.cells #[.map (some w.heap.size)] 80)) := by
    refine ⟨?_, _, 0, (World.ownsMap_made w _ _ _).alloc _, Nat.le_refl _, fun x hx => by cases hx⟩
    have := heap_alloc_new (w.alloc (.map #[] 0)) (.cells #[.map (some w.heap.size)] 80)
    rw [World.size_alloc] at this
    exact this
  have HK := Lib.hid hk
  have HB : Hid (Below w.heap.size w ((w.alloc (.map #[] 0)).alloc (.cells #[.map (some w.heap.size)] 80))) := ((Below.refl _ _).alloc (Nat.le_refl _) _).alloc (by simp) _
  clear hk
  have mk := make_info
  go_enter Try.func28, Try.ntmps28
  go_wp2
  exact bodyPost_ret (v := .func (.func 43) #[] #[.pointer (some ⟨w.heap.size + 1, 0, none⟩)]) (by simp [results, Try.results28, go_sem]) rfl ⟨w.heap.size + 1, w.heap.size, rfl, HK.out, HB.out, Nat.le_refl _⟩

set_option maxRecDepth 100000 in
set_option maxHeartbeats 4000000 in
/-- Compile -/
theorem compile_is (S : Nat → Prop) (v : Value) (x : Nz) (w : World) (h : NzIn S w v x) (hf : frmZ x = true) (hx : siz x ≤ 400000) :
    Calls Try.prog 15 #[v] w fun e W' => ∃ A c, e = .returned (.agg #[.slice A (compP x).length c]) ∧ CodeIn (fun b => w.heap.size ≤ b) W' (.agg #[.slice A (compP x).length c]) (compP x) ∧ Below w.heap.size w W' := by
  obtain ⟨M, hM⟩ : ∃ M, M = siz x := ⟨_, rfl⟩
  have hfit := fits_first x hf
  have hfin := fin_first x
  rw [← hM] at hfit hx
  obtain ⟨k, s, l⟩ := x
  obtain ⟨A, c, rfl, hn⟩ := h.inv
  obtain ⟨w1, hw1, hb1, hx1, hx2⟩ := two_boxes w (.cells #[.int .i64 k, .string (bs s), .slice A l.length c] 30) (.cells #[.slice none 0 0] 25)
  have hz1 : w1.heap.size = w.heap.size + 1 + 1 := by rw [← hw1]; simp
  obtain ⟨n0, n1, n2⟩ := cells_3 hx1
  have HE := Lib.hid (ends_is S _ (.mk k s l) w1 (h.on hb1) (by rw [← hM]; omega))
  have HAs := Lib.hid asker_is
  obtain ⟨q, hq⟩ : ∃ q, q = l.length := ⟨_, rfl⟩
  have HW1 := Lib.hid hw1
  have HB1 := Lib.hid hb1
  have HX1 := Lib.hid hx1
  have HX2 := Lib.hid hx2
  have HH := Lib.hid h
  have HF := Lib.hid hfit
  have HFn := Lib.hid hfin
  have HQ := Lib.hid hq
  have HZ1 := Lib.hid hz1
  rw [← hq] at HE HW1 n2
  rw [← hq]
  clear h hf hn hw1 hb1 hx1 hx2 hfit hfin hq hM hz1
  go_enter Try.func15, Try.ntmps15
  go_upto_region 1 with fail
  rw [HW1.out]
  go_upto_region 3 with (go_at_call 25; refine HE.out.mono ?_; rintro e w2 ⟨rfl, hb2⟩; have HB2 := Lib.hid hb2; clear hb2)
  obtain ⟨w3, hw3⟩ : ∃ w3, w2.alloc (.cells #[.slice none 0 0] 25) = w3 := ⟨_, rfl⟩
  have hb3 : Below w2.heap.size w2 w3 := by rw [← hw3]; exact (Below.refl _ _).alloc (Nat.le_refl _) _
  have hx3 : w3.heap[w2.heap.size]? = some (.cells #[.slice none 0 0] 25) := by rw [← hw3]; exact heap_alloc_new w2 _
  have HW3 := Lib.hid hw3
  have HB3 := Lib.hid hb3
  have HX3 := Lib.hid hx3
  obtain ⟨cb, hcb⟩ : ∃ cb, cb = w2.heap.size := ⟨_, rfl⟩
  have HCb := Lib.hid hcb
  clear hw3 hb3 hx3 hcb
  clear n0 n1 n2
  go_upto_region 4 with fail
  rw [HW3.out]
  go_upto_region 7 with (go_at_call 28; refine (HAs.out _).mono ?_; rintro e w4 ⟨kb, mb, rfl, hk4, hb4, hmb4⟩; have HK4 := Lib.hid hk4; have HB4 := Lib.hid hb4; have HMb := Lib.hid hmb4; clear hk4 hb4 hmb4)
  rw [← HCb.out]
  obtain ⟨w5, hw5⟩ : ∃ w5, w4.alloc (.cells #[.slice none 0 0, .func (.func 26) #[] #[.pointer (some ⟨cb, 0, none⟩)], .func (.func 27) #[] #[.pointer (some ⟨cb, 0, none⟩)], .func (.func 43) #[] #[.pointer (some ⟨kb, 0, none⟩)]] 67) = w5 := ⟨_, rfl⟩
  rw [hw5]
  have hb5 : Below w4.heap.size w4 w5 := by rw [← hw5]; exact (Below.refl _ _).alloc (Nat.le_refl _) _
  have hx5 : w5.heap[w4.heap.size]? = some (.cells #[.slice none 0 0, fNum cb, fPut cb, fLazy kb] 67) := by rw [← hw5]; exact heap_alloc_new w4 _
  have h12 : Below w.heap.size w w2 := HB1.out.trans (HB2.out.mono HB1.out.size)
  have h13 : Below w.heap.size w w3 := h12.trans (HB3.out.mono h12.size)
  have h14 : Below w.heap.size w w4 := h13.trans (HB4.out.mono h13.size)
  have h15 : Below w.heap.size w w5 := h14.trans (hb5.mono h14.size)
  have h25 : Below w2.heap.size w2 w5 := HB3.out.trans ((HB4.out.mono HB3.out.size).trans (hb5.mono (Nat.le_trans HB3.out.size HB4.out.size)))
  have hxn : w5.heap[w.heap.size]? = some (.cells #[.int .i64 k, .string (bs s), .slice A q c] 30) := by
    rw [HQ.out]
    have h1 := HZ1.out
    have h2 := HB2.out.size
    exact (h25.block _ (by omega)).trans ((HB2.out.block _ (by omega)).trans HX1.out)
  have hxr : w5.heap[w.heap.size + 1]? = some (.cells #[.slice none 0 0] 25) := by
    have h1 := HZ1.out
    have h2 := HB2.out.size
    exact (h25.block _ (by omega)).trans ((HB2.out.block _ (by omega)).trans HX2.out)
  have hxc : w5.heap[cb]? = some (.cells #[.slice none 0 0] 25) := by
    rw [HCb.out]
    have h1 := heap_lt HX3.out
    have h2 := HB4.out.size
    exact (hb5.block _ (by omega)).trans ((HB4.out.block _ h1).trans HX3.out)
  have hcbr : cb ≠ w.heap.size + 1 := by
    have h1 := HZ1.out
    have h2 := HB2.out.size
    have h3 := HCb.out
    omega
  have hcbw : w.heap.size ≤ cb := by rw [HCb.out]; exact h12.size
  have hk5 := HK4.out.on hb5
  obtain ⟨w6, hw6⟩ : ∃ w6, w5.alloc (.cells #[.int .i64 k, .string (bs s), .slice A q c] 30) = w6 := ⟨_, rfl⟩
  have hb6 : Below w5.heap.size w5 w6 := by rw [← hw6]; exact (Below.refl _ _).alloc (Nat.le_refl _) _
  have hx6 : w6.heap[w5.heap.size]? = some (.cells #[.int .i64 k, .string (bs s), .slice A q c] 30) := by rw [← hw6]; exact heap_alloc_new w5 _
  have h16 : Below w.heap.size w w6 := h15.trans (hb6.mono h15.size)
  obtain ⟨S', hS'⟩ : ∃ S' : Nat → Prop, S' = fun b => (b < w.heap.size ∧ S b) ∨ b = w5.heap.size := ⟨_, rfl⟩
  have hnx : NzIn S' w6 (.agg #[.int .i64 k, .string (bs s), .slice A l.length c]) (.mk k s l) := HH.out.move (fun b hSb hlt => ⟨by rw [hS']; exact .inl ⟨hlt, hSb⟩, h16.block b hlt⟩) h16.size
  have hns : NzsIn S' w6 (some ⟨w5.heap.size, 0, none⟩) 1 [.mk k s l] := by
    obtain ⟨e0, e1, e2⟩ := cells_3 hx6
    refine ⟨Nat.le_refl _, fun _ => .agg #[.int .i64 k, .string (bs s), .slice A l.length c], .inr ⟨w5.heap.size, 0, rfl, heap_lt hx6, by rw [hS']; exact .inr rfl, .inr ⟨_, _, hx6⟩, fun j hj => ?_⟩, fun j n hj => ?_⟩
    · obtain rfl : j = 0 := by have hj : j < 1 := hj; omega
      exact ⟨_, _, _, by rw [← HQ.out], e0, e1, e2⟩
    · have hj1 := (List.getElem?_eq_some_iff.1 hj).1
      obtain rfl : j = 0 := by have hj1 : j < 1 := hj1; omega
      cases hj
      exact hnx
  have hwl : Wl S' w.heap.size cb w4.heap.size mb w6 w6 := ⟨Kp.refl _ _ _, h16.size, fun b hSb hlt => by
    rw [hS'] at hSb
    rcases hSb with ⟨h1, _⟩ | h1
    · exact .inl h1
    · rw [h1]
      exact .inr ⟨_, _, hx6⟩⟩
  have hst6 : St S' w6 w.heap.size cb w4.heap.size kb mb 0 w6 [] [] := by
    refine ⟨hwl, ⟨.slice none 0 0, [], ⟨hcbw, (hb6.block _ (heap_lt hxc)).trans hxc, World.ownsRow_nil .., (fun g hg => by cases hg), (fun g hg => by cases hg), fun i j a b _ ha => by cases ha⟩, rfl⟩, ⟨.slice none 0 0, [], ⟨h14.size, (hb6.block _ (heap_lt hx5)).trans hx5, World.ownsRow_nil .., fun q hq => by cases hq⟩, rfl⟩, hk5.on hb6, Nat.le_trans h13.size HMb.out⟩
  have hap := apart_is S' w6 w.heap.size cb w4.heap.size kb mb 0 [] [] [.mk k s l] (some ⟨w5.heap.size, 0, none⟩) 1 w6 hst6 hns (by show 1 ≤ _; omega) (by decide) (by decide)
  have HAp : Hid (Calls Try.prog 29 #[.pointer (some ⟨w4.heap.size, 0, none⟩), .slice (some ⟨w5.heap.size, 0, none⟩) 1 1] w6 fun e W' => ∃ nv, e = .returned nv ∧ St S' w6 w.heap.size cb w4.heap.size kb mb 0 W' [first (.mk k s l)] [[]] ∧ Kp w.heap.size (XS cb w4.heap.size mb) w6 W') := hap.mono fun e W' ⟨nv, h1, _, h3, h4⟩ => ⟨nv, h1, h3, h4⟩
  obtain ⟨n0, n1, n2⟩ := cells_3 hxn
  have HW6 := Lib.hid hw6
  have H16 := Lib.hid h16
  have hxr6 := (hb6.block _ (heap_lt hxr)).trans hxr
  have HXr := Lib.hid hxr6
  have HCr := Lib.hid hcbr
  obtain ⟨wb, hwb⟩ : ∃ wb, wb = w4.heap.size := ⟨_, rfl⟩
  rw [← hwb] at HAp ⊢
  clear hw5 hb5 hx5 h12 h13 h14 h15 h25 hxn hxr hxc hk5 hw6 hb6 hx6 h16 hnx hns hwl hst6 hap hxr6 hcbr hcbw hS' hwb
  go_upto_region 8 with (go_at_call 29; rw [HW6.out]; refine HAp.out.mono ?_; rintro e w7 ⟨nv, rfl, hs7, hk7⟩; have HS7 := Lib.hid hs7; have HK7 := Lib.hid hk7; clear hs7 hk7)
  clear n0 n1 n2
  go_loopg [] (2 * M + 2) (fun gk wx => ∃ (P : List Prt) (B : List (List Opp)) (K : Nat), left P < gk ∧ K + left P ≤ 2 * M + 1 ∧ Hid (St S' w6 w.heap.size cb wb kb mb K wx P B) ∧ Hid (Fits M P B) ∧ Hid (fin P B = compP (.mk k s l)) ∧ Hid (Kp w.heap.size (XS cb wb mb) w6 wx))
  case atStart =>
    refine ⟨[first (.mk k s l)], [[]], 0, ?_, ?_, HS7, HF, HFn, HK7⟩
    · have := HF.out.count
      omega
    · have := HF.out.count
      omega
  case round =>
    obtain ⟨P, B, K, hlg, hKl, HSt, HFt, HFi, HKp⟩ := hrel
    by_cases h0 : P = []
    · subst h0
      obtain ⟨hwl, ⟨vB, G, hco, hG⟩, ⟨vP, Q, hpa, hQ⟩, _, _⟩ := HSt.out
      have hQ0 : Q = [] := List.map_eq_nil_iff.1 hQ
      rw [hQ0] at hpa
      obtain ⟨Ap, cp, rfl⟩ := own_slice hpa.row
      have a0 : wr.cell? ⟨wb, 0, none⟩ = some (.slice Ap 0 cp) := (cells_four hpa.box).1
      obtain ⟨Ab, cbp, rfl⟩ := own_slice hco.row
      have b0 := one_cell hco.box
      have hxr := HKp.out.keep _ _ HXr.out (fun h => h.elim (fun h => h.elim (fun h => HCr.out h.1.symm) (isT_ne (by decide))) fun h => h.elim (xo_not (by decide) (by decide)) fun h => h.elim (xp_not (by decide) (by decide)) xm_not)
      have r0 := one_cell hxr
      have r1 := Lib.frozen_of_heap hxr 0
      have hkr : Kp w.heap.size (fun k o => k = w.heap.size + 1 ∧ isT 25 o) wr (wr.setCell ⟨w.heap.size + 1, 0, none⟩ (.slice Ab G.length cbp)) := Kp.set _ 0 _ (by omega) fun o ho => by
        rw [hxr] at ho
        cases ho
        exact ⟨rfl, _, _, rfl⟩
      have hcd := (hco.kept hkr ⟨fun cs h => HCr.out h.1, fun k cs h => isT_ne (by decide) h.2, fun k cs h => isT_ne (by decide) h.2, fun k cs h => isT_ne (by decide) h.2⟩).done
      have hBc : blk G = compP (.mk k s l) := hG.trans HFi.out
      have hres := heap_setCell_same wr (w.heap.size + 1) 0 _ _ (.slice Ab G.length cbp) hxr
      have d0 := one_cell hres
      obtain ⟨g, hg⟩ : ∃ g, g = G.length := ⟨_, rfl⟩
      have hgl : (compP (.mk k s l)).length = g := by rw [← hBc, blk_len, hg]
      have HFin : Hid (∃ A c, Ending.returned (.agg #[.slice Ab g cbp]) = .returned (.agg #[.slice A (compP (.mk k s l)).length c]) ∧ CodeIn (fun b => w.heap.size ≤ b) (wr.setCell ⟨w.heap.size + 1, 0, none⟩ (.slice Ab g cbp)) (.agg #[.slice A (compP (.mk k s l)).length c]) (compP (.mk k s l)) ∧ Below w.heap.size w (wr.setCell ⟨w.heap.size + 1, 0, none⟩ (.slice Ab g cbp))) := by
        obtain ⟨A', c', h1, h2⟩ := hcd
        rw [hBc, hgl] at h1 h2
        rw [← hg] at h1 h2 hkr
        cases h1
        rw [hgl]
        exact ⟨Ab, cbp, rfl, h2, (H16.out.trans HKp.out.below).trans hkr.below⟩
      rw [← hg] at b0 d0
      clear hwl hco hG hpa hQ hQ0 hxr hkr hcd hBc hres hg hgl
      go_wp2
      exact bodyPost_ret (v := .agg #[.slice Ab g cbp]) (by simp [results, Try.results15, go_sem, d0]) rfl HFin.out
    · obtain ⟨P, p, rfl⟩ : ∃ P' p, P = P' ++ [p] := ⟨P.dropLast, P.getLast h0, (List.dropLast_concat_getLast h0).symm⟩
      obtain ⟨_, _, ⟨vP, Q, hpa, hQ⟩, _, _⟩ := HSt.out
      obtain ⟨Ap, cp, rfl⟩ := own_slice hpa.row
      obtain ⟨t, ht⟩ : ∃ t, t = Q.length := ⟨_, rfl⟩
      have a0 := (cells_four hpa.box).1
      rw [← ht] at a0
      have ht0 : (0 : Int) < (t : Int) := by
        have := congrArg List.length hQ
        rw [List.length_map, List.length_append, List.length_singleton, ← ht] at this
        omega
      have hne : ∃ (P2 : List Prt) (B2 : List (List Opp)) (K2 : Nat), left P2 < left (P ++ [p]) ∧ K2 ≤ K + 1 ∧ Fits M P2 B2 ∧ fin P2 B2 = fin (P ++ [p]) B ∧ Calls Try.prog 30 #[.pointer (some ⟨wb, 0, none⟩)] wr fun e W' => e = .returned (.bool true) ∧ St S' w6 w.heap.size cb wb kb mb K2 W' P2 B2 ∧ Kp w.heap.size (XS cb wb mb) wr W' := by
        cases hpl : p.l with
        | nil => exact ⟨P, doneB p B, K, left_done p P, Nat.le_succ _, fits_done HFt.out hpl, done_is p hpl P B, step_done S' w6 w.heap.size cb wb kb mb K M P p B wr HSt.out hpl HFt.out hx⟩
        | cons n r =>
          have hg := HFt.out.parts p (List.mem_append_right _ (List.mem_singleton_self _))
          have hbB : p.b < B.length := fits_lt hg (.inr (by rw [hpl]; exact List.cons_ne_nil _ _))
          have hfn := (frms_cons (by have := hg.2.1; rw [hpl] at this; exact this)).1
          exact ⟨_, _, K + 1, left_step p n r hpl P B, Nat.le_refl _, fits_step HFt.out hpl, step_is p n r hpl P B hbB hfn, step_node S' w6 w.heap.size cb wb kb mb K M P p n r B wr HSt.out hpl HFt.out hx (by unfold maxLen; omega)⟩
      obtain ⟨P2, B2, K2, hl2, hk2, hf2, hfi2, hcall⟩ := hne
      have HC := Lib.hid hcall
      have HF2 := Lib.hid hf2
      have HFi2 := Lib.hid (hfi2.trans HFi.out)
      have HG : Hid (0 < gk ∧ left P2 < gk - 1 ∧ K2 + left P2 ≤ 2 * M + 1) := by
        refine ⟨by omega, by omega, by omega⟩
      clear hpa hQ ht hcall hf2 hfi2 hl2 hk2 hlg hKl h0
      go_wp2_with (go_at_call 30; refine HC.out.mono ?_; rintro e w8 ⟨rfl, hs8, hk8⟩; have HS8 := Lib.hid hs8; have HK8 := Lib.hid hk8; clear hs8 hk8)
      go_roundg (gk - 1)
      case rel => exact ⟨P2, B2, K2, HG.out.2.1, HG.out.2.2, HS8, HF2, HFi2, HKp.out.trans HK8.out⟩
      case measure => have := HG.out; omega

end Go.Proofs.Ytfenlhbkdfmneaa.Ccm
