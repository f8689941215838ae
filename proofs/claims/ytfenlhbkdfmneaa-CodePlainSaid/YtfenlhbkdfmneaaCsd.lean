/- The program's step where the last part has no nodes left. -/
import Derived.Test.YtfenlhbkdfmneaaCst
namespace Go.Proofs.Ytfenlhbkdfmneaa.Csd
open Go Go.RowKit Go.Proofs.Ytfenlhbkdfmneaa.Spl Go.Proofs.Ytfenlhbkdfmneaa.Nodm Go.Proofs.Ytfenlhbkdfmneaa.Nz Go.Proofs.Ytfenlhbkdfmneaa.Cpl Go.Proofs.Ytfenlhbkdfmneaa.Cin Go.Proofs.Ytfenlhbkdfmneaa.Cops Go.Proofs.Ytfenlhbkdfmneaa.Cmc Go.Proofs.Ytfenlhbkdfmneaa.Cmm Go.Proofs.Ytfenlhbkdfmneaa.Cnm Go.Proofs.Ytfenlhbkdfmneaa.Cpu Go.Proofs.Ytfenlhbkdfmneaa.Cla Go.Proofs.Ytfenlhbkdfmneaa.Cpm Go.Proofs.Ytfenlhbkdfmneaa.Cap Go.Proofs.Ytfenlhbkdfmneaa.Cpo Go.Proofs.Ytfenlhbkdfmneaa.Cno Go.Proofs.Ytfenlhbkdfmneaa.Cst
open Go.Proofs.Ytfenlhbkdfmneaa.Pure (bs)

set_option maxRecDepth 100000 in
set_option maxHeartbeats 4000000 in
theorem step_done (S : Nat → Prop) (w0 : World) (h0 : Nat) (cb wb kb mb K M : Nat) (P : List Prt) (p : Prt) (B : List (List Opp)) (w : World) (hst : St S w0 h0 cb wb kb mb K w (P ++ [p]) B) (hl : p.l = []) (hfit : Fits M (P ++ [p]) B) (hM : M ≤ 400000) :
    Calls Try.prog 30 #[.pointer (some ⟨wb, 0, none⟩)] w fun e W' => e = .returned (.bool true) ∧ St S w0 h0 cb wb kb mb K W' P (doneB p B) ∧ Kp h0 (XS cb wb mb) w W' := by
  have hg := hfit.parts p (List.mem_append_right _ (List.mem_singleton_self _))
  have hlow := hfit.blocks
  obtain ⟨vP, Q, ⟨pv, qv⟩, hpa, hQ, hq⟩ := St.len hst
  have hq : pv = p := hq
  subst hq
  obtain ⟨h1, h2, _, h6, h7⟩ := hst
  obtain ⟨gP, cap, rfl, hgP, hgPl⟩ := hpa.row.form (by simp)
  rw [List.length_append, List.length_singleton] at hpa
  obtain ⟨hcells, hfroz⟩ := hpa.at_ rfl
  obtain ⟨A, c, hqv, hnz⟩ := hpa.nodes (pv, qv) (List.mem_append_right _ (List.mem_singleton_self _))
  have hqv : qv = .slice A pv.l.length c := hqv
  rw [hl] at hqv
  have hqv : qv = .slice A 0 c := hqv
  subst hqv
  obtain ⟨ok, on, os, hol⟩ : ∃ k n s, pv.o = ⟨k, n, s, []⟩ := by
    have h0 := hg.2.2
    generalize pv.o = z at h0
    obtain ⟨k, n, s, l⟩ := z
    have h0 : l = [] := h0
    exact ⟨k, n, s, by rw [h0]⟩
  have hcell : ∀ j, j < 7 → w.cell? ⟨gP, Q.length * 7 + j, none⟩ = ([.slice A 0 c, .int .i64 (pv.b : Int), .bool pv.apart, .int .i64 ok, .int .i64 on, .string (bs os), .slice none 0 0] : List Value)[j]? := fun j hj => by
    rw [hcells j hj]
    unfold cell7
    rw [hol]
  obtain ⟨t, ht⟩ : ∃ t, t = Q.length := ⟨_, rfl⟩
  rw [← ht] at hcell
  have hcapt : t + 1 ≤ cap ∧ cap ≤ 9223372036854775807 := by
    have hrw := hpa.row
    rw [List.length_append, List.length_singleton, ← ht] at hrw
    rcases hrw.2 with ⟨h0, _⟩ | ⟨g', cap', cur, hv, _, _, hn, hm, _⟩
    · cases h0
    · cases hv
      unfold maxLen at hm
      omega
  have htw : IntKind.i64.wrap (t : Int) = (t : Int) := IntWalk.i64_in _ (by omega)
  have ht1 : (t : Int) < (t : Int) + 1 := by omega
  have ht2 : (t : Int) ≤ (cap : Int) := by omega
  obtain ⟨a0, _, a2, _⟩ := cells_four hpa.box
  rw [← ht] at a0
  have c0 : w.cell? ⟨gP, t * 7, none⟩ = some (.slice A 0 c) := hcell 0 (by decide)
  have c1 : w.cell? ⟨gP, t * 7 + 1, none⟩ = some (.int .i64 (pv.b : Int)) := hcell 1 (by decide)
  have c2 : w.cell? ⟨gP, t * 7 + 2, none⟩ = some (.bool pv.apart) := hcell 2 (by decide)
  have c3 : w.cell? ⟨gP, t * 7 + 3, none⟩ = some (.int .i64 ok) := hcell 3 (by decide)
  have c4 : w.cell? ⟨gP, t * 7 + 3 + 1, none⟩ = some (.int .i64 on) := hcell 4 (by decide)
  have c5 : w.cell? ⟨gP, t * 7 + 3 + 2, none⟩ = some (.string (bs os)) := hcell 5 (by decide)
  have c6 : w.cell? ⟨gP, t * 7 + 3 + 3, none⟩ = some (.slice none 0 0) := hcell 6 (by decide)
  unfold fPut at a2
  have hrow0 : ∀ r ∈ B, r.length ≤ 1000000 := fun r0 hr0 => by have := rows_le hfit r0 hr0; omega
  have HPu : Hid (pv.apart = false → ∀ U, Kp h0 (XS cb wb mb) w U → St S w0 h0 cb wb kb mb K U (P ++ [pv]) B → Calls Try.prog 27 #[.int .i64 (pv.b : Int), .agg #[.int .i64 ok, .int .i64 on, .string (bs os), .slice none 0 0], .pointer (some ⟨cb, 0, none⟩)] U fun e W' => e = .returned (.tuple #[]) ∧ St S w0 h0 cb wb kb mb K W' (P ++ [pv]) (Cpl.put B pv.b ⟨ok, on, os, []⟩) ∧ Kp h0 XO U W') := fun hap U hk hu =>
    put_st S w0 h0 cb wb kb mb K (P ++ [pv]) B pv.b ok on os [] (.slice none 0 0) U hu (fits_lt hg (.inl hap)) (by omega) hrow0 (World.ownsRow_nil ..)
  have hstw : St S w0 h0 cb wb kb mb K w (P ++ [pv]) B := ⟨h1, h2, ⟨_, _, hpa, by rw [List.map_append, hQ]; rfl⟩, h6, h7⟩
  have HPa := Lib.hid hpa
  have HQ := Lib.hid hQ
  have HSt := Lib.hid hstw
  have HT := Lib.hid ht
  have HOl := Lib.hid hol
  clear hpa h1 h2 h6 hQ ht hfit hcells hfroz hcell hg hlow hrow0 hstw hol hl hnz
  go_enter Try.func30, Try.ntmps30
  go_upto_region 1 with fail
  go_quiet (fail)
  obtain ⟨wa, hwa⟩ : ∃ wa, wa = w.drewN nq := ⟨_, rfl⟩
  rw [← hwa]
  have hba : Below w.heap.size w wa := by rw [hwa]; exact ⟨rfl, rfl, rfl, Nat.le_refl _, fun _ _ => rfl⟩
  have hca : ∀ a, wa.cell? a = w.cell? a := fun a => by rw [hwa]; rfl
  rw [← hca] at a0 a2 c0 c1 c2 c3 c4 c5 c6
  have hpa := HPa.out.on hba
  have f0 := Lib.frozen_of_heap hpa.box 0
  have HPa1 := Lib.hid hpa
  have HSt1 := Lib.hid (HSt.out.on hba)
  have HKa : Hid (Kp h0 (XS cb wb mb) w wa) := Kp.of hba HSt.out.below.size _
  clear hba hca hwa hpa
  cases hap : pv.apart
  · rw [hap] at c2
    have HP := Lib.hid (HPu.out hap)
    have hdb : doneB pv B = Cpl.put B pv.b ⟨ok, on, os, []⟩ := by unfold doneB; rw [hap, HOl.out]; rfl
    have HDb := Lib.hid hdb
    clear hap hdb
    go_upto_region 9 with fail
    have HSd : Hid (St S w0 h0 cb wb kb mb K wa.drew (P ++ [pv]) B) := HSt1.out.on ((Below.refl _ _).drew)
    have HKd : Hid (Kp h0 (XS cb wb mb) w wa.drew) := HKa.out.drew
    have HPd : Hid (Parts S w0 h0 wb (fNum cb) (fPut cb) (fLazy kb) wa.drew (.slice (some ⟨gP, 0, none⟩) (Q.length + 1) cap) (Q ++ [(pv, .slice A 0 c)])) := HPa1.out.on ((Below.refl _ _).drew)
    have HPx : Hid (∀ U, Parts S w0 h0 wb (fNum cb) (fPut cb) (fLazy kb) U (.slice (some ⟨gP, 0, none⟩) (Q.length + 1) cap) (Q ++ [(pv, .slice A 0 c)]) → U.cell? ⟨wb, 2, none⟩ = some (.func (.func 27) #[] #[.pointer (some ⟨cb, 0, none⟩)]) ∧ U.cell? ⟨gP, t * 7 + 1, none⟩ = some (.int .i64 (pv.b : Int)) ∧ U.cell? ⟨gP, t * 7 + 3, none⟩ = some (.int .i64 ok) ∧ U.cell? ⟨gP, t * 7 + 3 + 1, none⟩ = some (.int .i64 on) ∧ U.cell? ⟨gP, t * 7 + 3 + 2, none⟩ = some (.string (bs os)) ∧ U.cell? ⟨gP, t * 7 + 3 + 3, none⟩ = some (.slice none 0 0)) := fun U hU => by
      have hh := (hU.at_ rfl).1
      rw [← HT.out] at hh
      unfold cell7 at hh
      rw [HOl.out] at hh
      exact ⟨(cells_four hU.box).2.2.1, hh 1 (by decide), hh 3 (by decide), hh 4 (by decide), hh 5 (by decide), hh 6 (by decide)⟩
    go_region_held3 (fun U => U.cell? ⟨wb, 2, none⟩ = some (.func (.func 27) #[] #[.pointer (some ⟨cb, 0, none⟩)]) ∧ U.cell? ⟨gP, t * 7 + 1, none⟩ = some (.int .i64 (pv.b : Int)) ∧ U.cell? ⟨gP, t * 7 + 3, none⟩ = some (.int .i64 ok) ∧ U.cell? ⟨gP, t * 7 + 3 + 1, none⟩ = some (.int .i64 on) ∧ U.cell? ⟨gP, t * 7 + 3 + 2, none⟩ = some (.string (bs os)) ∧ U.cell? ⟨gP, t * 7 + 3 + 3, none⟩ = some (.slice none 0 0)) (first | exact ⟨a2, c1, c3, c4, c5, c6⟩ | exact HPx.out _ HP2.out) (first
      | (go_at_call 27; refine (HP.out _ HKd.out HSd.out).mono ?_; rintro e w2 ⟨rfl, hs2, hk2⟩; have HS2 := Lib.hid hs2; have HK2 := Lib.hid (HKd.out.trans (hk2.mono fun _ _ h => .inr (.inl h))); have HP2 := Lib.hid (HPd.out.kept hk2 (notP_xo wb)); clear hs2 hk2))
    have hb2 := HP2.out.box
    rw [← HT.out] at hb2
    obtain ⟨a0, _, _, _⟩ := cells_four hb2
    have f0 := Lib.frozen_of_heap hb2 0
    obtain ⟨hp3, hk3⟩ := HP2.out.pop rfl
    rw [← HT.out] at hp3 hk3
    obtain ⟨W3, hW3⟩ : ∃ W3, W3 = w2.setCell ⟨wb, 0, none⟩ (.slice (some ⟨gP, 0, none⟩) t cap) := ⟨_, rfl⟩
    rw [← hW3] at hp3 hk3
    have HFin : Hid (St S w0 h0 cb wb kb mb K W3.drew P (doneB pv B) ∧ Kp h0 (XS cb wb mb) w W3.drew) := by
      obtain ⟨h3, ⟨vB, G, h4, h5⟩, _, h6, h7⟩ := HS2.out
      rw [HDb.out]
      exact ⟨St.on (⟨h3.p hk3, ⟨vB, G, h4.kept hk3 (notC_xp cb wb), h5⟩, ⟨_, _, hp3, HQ.out⟩, h6.kept hk3 (notK_xp kb mb wb), h7⟩ : St S w0 h0 cb wb kb mb K W3 P _) ((Below.refl _ _).drew), (HK2.out.trans (hk3.mono fun _ _ h => .inr (.inr (.inl h)))).drew⟩
    have HW3 := Lib.hid hW3
    clear hb2 hp3 hk3 hW3
    go_upto_region 10 with fail
    go_region
    all_goals rw [← HW3.out]
    all_goals go_wp2
    all_goals go_ret
    all_goals exact ⟨rfl, HFin.out⟩
  · rw [hap] at c2
    have hdb : doneB pv B = B := by unfold doneB; rw [hap]; rfl
    have HDb := Lib.hid hdb
    clear hap hdb
    obtain ⟨hp3, hk3⟩ := HPa1.out.pop rfl
    rw [← HT.out] at hp3 hk3
    obtain ⟨W3, hW3⟩ : ∃ W3, W3 = wa.setCell ⟨wb, 0, none⟩ (.slice (some ⟨gP, 0, none⟩) t cap) := ⟨_, rfl⟩
    rw [← hW3] at hp3 hk3
    have HFin : Hid (St S w0 h0 cb wb kb mb K W3.drew P (doneB pv B) ∧ Kp h0 (XS cb wb mb) w W3.drew) := by
      obtain ⟨h3, ⟨vB, G, h4, h5⟩, _, h6, h7⟩ := HSt1.out
      rw [HDb.out]
      exact ⟨St.on (⟨h3.p hk3, ⟨vB, G, h4.kept hk3 (notC_xp cb wb), h5⟩, ⟨_, _, hp3, HQ.out⟩, h6.kept hk3 (notK_xp kb mb wb), h7⟩ : St S w0 h0 cb wb kb mb K W3 P _) ((Below.refl _ _).drew), (HKa.out.trans (hk3.mono fun _ _ h => .inr (.inr (.inl h)))).drew⟩
    have HW3 := Lib.hid hW3
    clear hp3 hk3 hW3
    go_upto_region 10 with fail
    go_region
    all_goals rw [← HW3.out]
    all_goals go_wp2
    all_goals go_ret
    all_goals exact ⟨rfl, HFin.out⟩

end Go.Proofs.Ytfenlhbkdfmneaa.Csd
