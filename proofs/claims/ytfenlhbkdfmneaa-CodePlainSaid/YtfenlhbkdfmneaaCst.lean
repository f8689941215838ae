/- The program's step. -/
import Derived.BigQuiet
import Derived.Test.YtfenlhbkdfmneaaCno
namespace Go.Proofs.Ytfenlhbkdfmneaa.Cst
open Go Go.RowKit Go.Proofs.Ytfenlhbkdfmneaa.Spl Go.Proofs.Ytfenlhbkdfmneaa.Nodm Go.Proofs.Ytfenlhbkdfmneaa.Nz Go.Proofs.Ytfenlhbkdfmneaa.Cpl Go.Proofs.Ytfenlhbkdfmneaa.Cin Go.Proofs.Ytfenlhbkdfmneaa.Cops Go.Proofs.Ytfenlhbkdfmneaa.Cmc Go.Proofs.Ytfenlhbkdfmneaa.Cmm Go.Proofs.Ytfenlhbkdfmneaa.Cnm Go.Proofs.Ytfenlhbkdfmneaa.Cpu Go.Proofs.Ytfenlhbkdfmneaa.Cla Go.Proofs.Ytfenlhbkdfmneaa.Cpm Go.Proofs.Ytfenlhbkdfmneaa.Cap Go.Proofs.Ytfenlhbkdfmneaa.Cpo Go.Proofs.Ytfenlhbkdfmneaa.Cno
open Go.Proofs.Ytfenlhbkdfmneaa.Pure (bs)

theorem node_is (S : Nat → Prop) (w0 : World) (h0 : Nat) (cb wb kb mb K : Nat) (P : List Prt) (B : List (List Opp)) (k : Int) (s : T) (l : List Nz) (A : Option Addr) (c b : Nat) (w : World) (hst : St S w0 h0 cb wb kb mb K w P B) (hn : NzsIn S w0 A c l) (hb : b < B.length) (hB : B.length + l.length ≤ 1000000) (hr : ∀ r ∈ B, r.length ≤ 1000000) (hP : P.length ≤ 10000000) (hK : K < maxLen) (hs : s.length ≤ maxLen) (hf : formB k l = true) :
    Calls Try.prog 45 #[.pointer (some ⟨wb, 0, none⟩), .agg #[.int .i64 k, .string (bs s), .slice A l.length c], .int .i64 (b : Int)] w fun e W' => e = .returned (.bool true) ∧ St S w0 h0 cb wb kb mb (K + 1) W' (P ++ nextP (.mk k s l) b B) (nextB (.mk k s l) b B) ∧ Kp h0 (XS cb wb mb) w W' := by
  by_cases h4 : k = 4
  · subst h4
    cases hz : lazyB s
    · exact node_call S w0 h0 cb wb kb mb K P B s l A c b w hst hn hb hB hr hP hK hs hf hz
    · exact node_lazy S w0 h0 cb wb kb mb K P B s l A c b w hst hn hb hB hr hP hK hs hz
  · exact node_other S w0 h0 cb wb kb mb K P B k s l A c b w hst hn hb hB hr hP hK hs hf h4

theorem rows_le {M : Nat} {P : List Prt} {B : List (List Opp)} (h : Fits M P B) : ∀ r ∈ B, r.length ≤ M := fun _ hr => by
  have := row_le hr
  have := h.ops
  omega
theorem St.len {S : Nat → Prop} {w0 w : World} {h0 cb wb kb mb K : Nat} {P : List Prt} {B : List (List Opp)} {p : Prt} (c : St S w0 h0 cb wb kb mb K w (P ++ [p]) B) : ∃ vP Q q, Parts S w0 h0 wb (fNum cb) (fPut cb) (fLazy kb) w vP (Q ++ [q]) ∧ Q.map (·.1) = P ∧ q.1 = p := by
  obtain ⟨_, _, ⟨vP, Q, h4, h5⟩, _, _⟩ := c
  have hne : Q ≠ [] := fun e => by rw [e] at h5; simp at h5
  obtain ⟨Q0, q, rfl⟩ : ∃ Q0 q, Q = Q0 ++ [q] := ⟨Q.dropLast, Q.getLast hne, (List.dropLast_concat_getLast hne).symm⟩
  rw [List.map_append] at h5
  obtain ⟨h6, h7⟩ := List.append_inj' h5 rfl
  exact ⟨vP, Q0, q, h4, h6, by simpa using h7⟩

set_option maxRecDepth 100000 in
set_option maxHeartbeats 4000000 in
/-- a node is taken from the last part -/
theorem step_node (S : Nat → Prop) (w0 : World) (h0 : Nat) (cb wb kb mb K M : Nat) (P : List Prt) (p : Prt) (n : Nz) (r : List Nz) (B : List (List Opp)) (w : World) (hst : St S w0 h0 cb wb kb mb K w (P ++ [p]) B) (hl : p.l = n :: r) (hfit : Fits M (P ++ [p]) B) (hM : M ≤ 400000) (hK : K < maxLen) :
    Calls Try.prog 30 #[.pointer (some ⟨wb, 0, none⟩)] w fun e W' => e = .returned (.bool true) ∧ St S w0 h0 cb wb kb mb (K + 1) W' (P ++ [p.tail] ++ nextP n p.b B) (nextB n p.b B) ∧ Kp h0 (XS cb wb mb) w W' := by
  have hg := hfit.parts p (List.mem_append_right _ (List.mem_singleton_self _))
  have hbB : p.b < B.length := fits_lt hg (.inr (by rw [hl]; exact List.cons_ne_nil _ _))
  obtain ⟨hfn, _⟩ := frms_cons (by have := hg.2.1; rw [hl] at this; exact this)
  obtain ⟨k, s, m⟩ := n
  obtain ⟨hform, hsl, _⟩ := frm_mk hfn
  have hlow := hfit.blocks
  have hops := hfit.ops
  have hcount := hfit.count
  have hpl := len_left (P ++ [p])
  rw [List.length_append, List.length_singleton] at hpl
  have hml : m.length ≤ M := by
    rw [todo_app, todo, todo, hl, sizs, siz] at hops
    have := sizs_len m
    omega
  obtain ⟨vP, Q, q, hpa, hQ, hq⟩ := St.len hst
  obtain ⟨h1, h2, _, h6, h7⟩ := hst
  obtain ⟨gP, cap, rfl, hgP, hgPl⟩ := hpa.row.form (by simp)
  rw [List.length_append, List.length_singleton] at hpa
  obtain ⟨hcells, hfroz⟩ := hpa.at_ rfl
  obtain ⟨A, c, hqv, hnz⟩ := hpa.nodes q (List.mem_append_right _ (List.mem_singleton_self _))
  rw [hq, hl] at hqv hnz
  rw [List.length_cons] at hqv
  obtain ⟨b, o, A', c', rfl, hb, hSb, hin, hcw⟩ := hnz.at_ (j := 0) rfl
  obtain ⟨A2, c2, hv2, hm⟩ := hin.inv
  cases hv2
  have hrest := NzsIn.rest hnz
  have hcc : r.length + 1 ≤ c := hnz.1
  have hQl : Q.length = P.length := by rw [← hQ, List.length_map]
  obtain ⟨pv, qv⟩ := q
  have hq : pv = p := hq
  subst hq
  have hqv : qv = .slice (some ⟨b, o, none⟩) (r.length + 1) c := hqv
  subst hqv
  obtain ⟨e0, hqn⟩ : ∃ e0, e0 = Q.length := ⟨_, rfl⟩
  have c0 := hcells 0 (by decide)
  have c1 := hcells 1 (by decide)
  have c2 := hcells 2 (by decide)
  have c0 : w.cell? ⟨gP, Q.length * 7, none⟩ = some (.slice (some ⟨b, o, none⟩) (r.length + 1) c) := c0
  have c1 : w.cell? ⟨gP, Q.length * 7 + 1, none⟩ = some (.int .i64 (pv.b : Int)) := c1
  have c2 : w.cell? ⟨gP, Q.length * 7 + 2, none⟩ = some (.bool pv.apart) := c2
  have f0 := hfroz (Q.length * 7)
  have f1 := hfroz (Q.length * 7 + 1)
  obtain ⟨a0, _, _, _⟩ := cells_four hpa.box
  obtain ⟨d0, d1, d2⟩ := hcw w (h1.block hSb hb)
  rw [Nat.zero_mul, Nat.add_zero] at d0 d1 d2
  obtain ⟨t, ht⟩ : ∃ t, t = Q.length := ⟨_, rfl⟩
  obtain ⟨u, hu⟩ : ∃ u, u = r.length := ⟨_, rfl⟩
  obtain ⟨x, hx⟩ : ∃ x, x = m.length := ⟨_, rfl⟩
  rw [← ht] at a0 c0 c1 c2 f0 f1
  rw [← hu] at c0
  rw [← hx] at d2
  have hcapt : t + 1 ≤ cap ∧ cap ≤ 9223372036854775807 := by
    have hrw := hpa.row
    rw [List.length_append, List.length_singleton, ← ht] at hrw
    rcases hrw.2 with ⟨h0, _⟩ | ⟨g', cap', cur, hv, _, _, hn, hm, _⟩
    · cases h0
    · cases hv
      unfold maxLen at hm
      omega
  have htw : IntKind.i64.wrap (t : Int) = (t : Int) := IntWalk.i64_in _ (by omega)
  have ht1 : (t : Int) < (t : Int) + 1 := by omega
  have HNd : Hid (∀ U, Kp h0 (XS cb wb mb) w U → St S w0 h0 cb wb kb mb K U (P ++ [pv.tail]) B → Calls Try.prog 45 #[.pointer (some ⟨wb, 0, none⟩), .agg #[.int .i64 k, .string (bs s), .slice A' x c'], .int .i64 (pv.b : Int)] U fun e W' => e = .returned (.bool true) ∧ St S w0 h0 cb wb kb mb (K + 1) W' (P ++ [pv.tail] ++ nextP (.mk k s m) pv.b B) (nextB (.mk k s m) pv.b B) ∧ Kp h0 (XS cb wb mb) w W') := fun U hk hu2 => by
    rw [hx]
    refine (node_is S w0 h0 cb wb kb mb K (P ++ [pv.tail]) B k s m A' c' pv.b U hu2 hm hbB (by omega) (fun r0 hr0 => by have := rows_le hfit r0 hr0; omega) (by rw [List.length_append, List.length_singleton]; omega) hK (Nat.le_trans hsl (by decide)) hform).mono ?_
    rintro e W' ⟨rfl, h3, h4⟩
    exact ⟨rfl, h3, hk.trans h4⟩
  have HPa := Lib.hid hpa
  have HBel := Lib.hid h1
  have HCo := Lib.hid h2
  have HKn := Lib.hid h6
  have HQ := Lib.hid hQ
  have HT := Lib.hid ht
  have HU := Lib.hid hu
  have HX := Lib.hid hx
  have HRest := Lib.hid hrest
  have HM := Lib.hid hm
  have HFit := Lib.hid hfit
  have HL := Lib.hid hl
  clear hpa h1 h2 h6 hQ ht hu hx hrest hm hnz hin hcw hcells hfroz hfit hqn hg hfn hlow hops hcount hpl hQl hl
  go_enter Try.func30, Try.ntmps30
  go_upto_region 1 with fail
  go_quiet (fail)
  obtain ⟨wa, hwa⟩ : ∃ wa, wa = w.drewN nq := ⟨_, rfl⟩
  rw [← hwa]
  have hba : Below w.heap.size w wa := by rw [hwa]; exact ⟨rfl, rfl, rfl, Nat.le_refl _, fun _ _ => rfl⟩
  have hca : ∀ a, wa.cell? a = w.cell? a := fun a => by rw [hwa]; rfl
  have hfa : ∀ a, wa.frozen? a = w.frozen? a := fun a => by rw [hwa]; rfl
  have hza : wa.heap.size = w.heap.size := by rw [hwa]; rfl
  rw [← hca] at a0 c0 c1 c2 d0 d1 d2
  rw [← hfa] at f0 f1
  have hga : gP < wa.heap.size := by rw [hza]; exact hgPl
  have hbz : b < wa.heap.size := by rw [hza]; exact Nat.lt_of_lt_of_le hb HBel.out.kp.below.size
  have hal : ∀ (a : Addr) (ob : Obj), a.block < wa.heap.size → (wa.alloc ob).cell? a = wa.cell? a := fun a ob h => World.cell?_of_block (Lib.alloc_old wa ob _ h)
  have C0 := (hal ⟨gP, t * 7, none⟩ (.cells #[.int .i64 0, .string ⟨#[]⟩, .slice none 0 0] 30) hga).trans c0
  have C1 := (hal ⟨gP, t * 7 + 1, none⟩ (.cells #[.int .i64 0, .string ⟨#[]⟩, .slice none 0 0] 30) hga).trans c1
  have D0 := (hal ⟨b, o, none⟩ (.cells #[.int .i64 0, .string ⟨#[]⟩, .slice none 0 0] 30) hbz).trans d0
  have D1 := (hal ⟨b, o + 1, none⟩ (.cells #[.int .i64 0, .string ⟨#[]⟩, .slice none 0 0] 30) hbz).trans d1
  have D2 := (hal ⟨b, o + 2, none⟩ (.cells #[.int .i64 0, .string ⟨#[]⟩, .slice none 0 0] 30) hbz).trans d2
  have HBA := Lib.hid hba
  clear hba hca hfa hal hwa
  go_upto_region 3 with fail
  go_region
  obtain ⟨W3, hW3⟩ : ∃ W3, W3 = (wa.alloc (.cells #[.int .i64 k, .string (bs s), .slice A' x c'] 30)).drew := ⟨_, rfl⟩
  rw [← hW3]
  have hb3 : Below wa.heap.size wa W3 := by rw [hW3]; exact ((Below.refl _ _).alloc (Nat.le_refl _) _).drew
  have hx3 : W3.heap[w.heap.size]? = some (.cells #[.int .i64 k, .string (bs s), .slice A' x c'] 30) := by rw [hW3, ← hza]; exact heap_alloc_new wa _
  have hbw : Below w.heap.size w W3 := HBA.out.trans (hb3.mono (by omega))
  have hcl : ∀ a : Addr, a.block < wa.heap.size → W3.cell? a = wa.cell? a ∧ W3.frozen? a = wa.frozen? a := fun a h => ⟨World.cell?_of_block (hb3.block _ h), World.frozen?_of_block (hb3.block _ h)⟩
  have g0 := (hcl ⟨gP, t * 7, none⟩ hga).1.trans c0
  have g1 := (hcl ⟨gP, t * 7 + 1, none⟩ hga).1.trans c1
  have g2 := (hcl ⟨gP, t * 7 + 2, none⟩ hga).1.trans c2
  have k0 := (hcl ⟨gP, t * 7, none⟩ hga).2.trans f0
  have k1 := (hcl ⟨gP, t * 7 + 1, none⟩ hga).2.trans f1
  obtain ⟨y0, y1, y2⟩ := cells_3 hx3
  have HX3 := Lib.hid hx3
  have HB3 := Lib.hid hbw
  have hu1 : (1 : Int) ≤ (u : Int) + 1 := by omega
  have huc : (u : Int) + 1 ≤ (c : Int) := by have := HU.out; omega
  clear hW3 hb3 hx3 hbw hcl C0 C1 D0 D1 D2 c0 c1 c2 f0 f1 d0 d1 d2 a0 hga hbz
  go_upto_region 5 with fail
  obtain ⟨A4, hA4⟩ : ∃ A4, A4 = (if c = 1 then some (⟨b, o, none⟩ : Addr) else some ⟨b, o + 3, none⟩) := ⟨_, rfl⟩
  rw [← hA4]
  have hn4 : NzsIn S w0 A4 (c - 1) r := by
    by_cases h1 : c = 1
    · have hr0 : r = [] := List.eq_nil_of_length_eq_zero (by have := HU.out; omega)
      rw [hr0]
      exact ⟨Nat.zero_le _, fun _ => .nilFunc, .inl rfl, fun _ _ h => by cases h⟩
    · rw [hA4, if_neg h1]
      exact HRest.out
  obtain ⟨hp4, hk4⟩ := (HPa.out.on HB3.out).turn (gP := gP) (cap := cap) (j := 0) (u := .slice A4 u (c - 1)) (q' := (⟨r, pv.b, pv.apart, pv.o⟩, .slice A4 u (c - 1))) rfl rfl ⟨A4, c - 1, by rw [HU.out], hn4⟩
  rw [← HT.out] at hp4 hk4
  have hp4 := hp4
  obtain ⟨W4, hW4⟩ : ∃ W4, W4 = W3.setCell ⟨gP, t * 7, none⟩ (.slice A4 u (c - 1)) := ⟨_, rfl⟩
  rw [show t * 7 + 0 = t * 7 from rfl, ← hW4] at hp4 hk4
  rw [← hW4]
  have hkw4 : Kp h0 (XS cb wb mb) w W4 := (Kp.of HB3.out HBel.out.size _).trans (hk4.mono fun _ _ h => .inr (.inr (.inl h)))
  have hx4 : W4.heap[w.heap.size]? = some (.cells #[.int .i64 k, .string (bs s), .slice A' x c'] 30) := hk4.keep _ _ HX3.out (xp_not (by decide) (by decide))
  have hh4 := hp4.at_ (gP := gP) (cap := cap) (by rw [HT.out])
  rw [← HT.out] at hh4
  obtain ⟨hcl4, hfr4⟩ := hh4
  have g1 : W4.cell? ⟨gP, t * 7 + 1, none⟩ = some (.int .i64 (pv.b : Int)) := hcl4 1 (by decide)
  have g2 : W4.cell? ⟨gP, t * 7 + 2, none⟩ = some (.bool pv.apart) := hcl4 2 (by decide)
  have k1 := hfr4 (t * 7 + 1)
  obtain ⟨y0, y1, y2⟩ := cells_3 hx4
  obtain ⟨vB, G, hco3, hG3⟩ := HCo.out
  have hkx : Kp h0 (XP wb) w W4 := (Kp.of HB3.out HBel.out.size _).trans hk4
  have HKX := Lib.hid hkx
  have HCo3 := Lib.hid hco3
  have HG3 := Lib.hid hG3
  have HP4 := Lib.hid hp4
  have HX4 := Lib.hid hx4
  have HKw4 := Lib.hid hkw4
  have hb1w : IntKind.i64.wrap ((pv.b : Int) + 1) = (pv.b : Int) + 1 := IntWalk.i64_in _ (by have := HFit.out.blocks; omega)
  have htail : pv.tail = ⟨r, if pv.apart then pv.b + 1 else pv.b, pv.apart, pv.o⟩ := by
    unfold Prt.tail
    rw [HL.out]; rfl
  have HTl := Lib.hid htail
  clear hkx hco3 hG3 hp4 hx4 hkw4 hcl4 hfr4 hW4 hk4 hn4 hA4 htail g0 k0
  cases hap : pv.apart
  · rw [hap] at g2
    have hst4 : St S w0 h0 cb wb kb mb K W4 (P ++ [pv.tail]) B := ⟨HBel.out.p HKX.out, ⟨vB, G, HCo3.out.kept HKX.out (notC_xp cb wb), HG3.out⟩, ⟨_, _, HP4.out, by rw [List.map_append, HQ.out, HTl.out, hap]; rfl⟩, HKn.out.kept HKX.out (notK_xp kb mb wb), h7⟩
    have HC := Lib.hid (HNd.out W4 HKw4.out hst4)
    clear hst4 hap
    go_wp2_with (go_at_call 45; refine HC.out.mono ?_; rintro e W6 ⟨rfl, h8, h9⟩; have H8 := Lib.hid h8; have H9 := Lib.hid h9; clear h8 h9)
    go_ret
    exact ⟨rfl, H8.out, H9.out⟩
  · rw [hap] at g2
    obtain ⟨hp5, hk5⟩ := HP4.out.turn (gP := gP) (cap := cap) (j := 1) (u := .int .i64 ((pv.b : Int) + 1)) (q' := (⟨r, pv.b + 1, true, pv.o⟩, .slice A4 u (c - 1))) (by rw [HT.out]) (by rw [hap]; rfl) (HP4.out.nodes (⟨r, pv.b, pv.apart, pv.o⟩, .slice A4 u (c - 1)) (List.mem_append_right _ (List.mem_singleton_self _)))
    rw [← HT.out] at hp5 hk5
    have hst4 : St S w0 h0 cb wb kb mb K (W4.setCell ⟨gP, t * 7 + 1, none⟩ (.int .i64 ((pv.b : Int) + 1))) (P ++ [pv.tail]) B := ⟨(HBel.out.p HKX.out).p hk5, ⟨vB, G, (HCo3.out.kept HKX.out (notC_xp cb wb)).kept hk5 (notC_xp cb wb), HG3.out⟩, ⟨_, _, hp5, by rw [List.map_append, HQ.out, HTl.out, hap]; rfl⟩, (HKn.out.kept HKX.out (notK_xp kb mb wb)).kept hk5 (notK_xp kb mb wb), h7⟩
    have HC := Lib.hid (HNd.out _ (HKw4.out.trans (hk5.mono fun _ _ h => .inr (.inr (.inl h)))) hst4)
    have hx5 := hk5.keep _ _ HX4.out (xp_not (by decide) (by decide))
    obtain ⟨y0, y1, y2⟩ := cells_3 hx5
    clear hst4 hap hp5 hk5 hx5
    go_wp2_with (go_at_call 45; refine HC.out.mono ?_; rintro e W6 ⟨rfl, h8, h9⟩; have H8 := Lib.hid h8; have H9 := Lib.hid h9; clear h8 h9)
    go_ret
    exact ⟨rfl, H8.out, H9.out⟩

end Go.Proofs.Ytfenlhbkdfmneaa.Cst
