/- The program's step by one node. -/
import Derived.Deep.RegionHeld3
import Derived.Test.YtfenlhbkdfmneaaCpo
namespace Go.Proofs.Ytfenlhbkdfmneaa.Cno
open Go Go.RowKit Go.Proofs.Ytfenlhbkdfmneaa.Spl Go.Proofs.Ytfenlhbkdfmneaa.Nodm Go.Proofs.Ytfenlhbkdfmneaa.Nz Go.Proofs.Ytfenlhbkdfmneaa.Cpl Go.Proofs.Ytfenlhbkdfmneaa.Cin Go.Proofs.Ytfenlhbkdfmneaa.Cops Go.Proofs.Ytfenlhbkdfmneaa.Cmc Go.Proofs.Ytfenlhbkdfmneaa.Cmm Go.Proofs.Ytfenlhbkdfmneaa.Cnm Go.Proofs.Ytfenlhbkdfmneaa.Cpu Go.Proofs.Ytfenlhbkdfmneaa.Cla Go.Proofs.Ytfenlhbkdfmneaa.Cpm Go.Proofs.Ytfenlhbkdfmneaa.Cap Go.Proofs.Ytfenlhbkdfmneaa.Cpo
open Go.Proofs.Ytfenlhbkdfmneaa.Pure (bs)

/-- an instruction is put -/
theorem put_st (S : Nat → Prop) (w0 : World) (h0 : Nat) (cb wb kb mb K : Nat) (P : List Prt) (B : List (List Opp)) (b : Nat) (k n : Int) (s : T) (l : List Int) (nv : Value) (w : World) (hst : St S w0 h0 cb wb kb mb K w P B) (hb : b < B.length) (hB : B.length ≤ 1000000) (hr : ∀ r ∈ B, r.length ≤ 1000000) (hy : w.ownsRow h0 3 1 nv l.length (l.map (Value.int .i64))) :
    Calls Try.prog 27 #[.int .i64 (b : Int), .agg #[.int .i64 k, .int .i64 n, .string (bs s), nv], .pointer (some ⟨cb, 0, none⟩)] w fun e W' => e = .returned (.tuple #[]) ∧ St S w0 h0 cb wb kb mb K W' P (Cpl.put B b ⟨k, n, s, l⟩) ∧ Kp h0 XO w W' := by
  obtain ⟨h1, ⟨vB, G, h2, h3⟩, ⟨vP, Q, h4, h5⟩, h6, h7⟩ := hst
  have hG : G.length = B.length := by rw [← h3, blk_len]
  obtain ⟨r, hr0⟩ : ∃ r, G[b]? = some r := ⟨_, List.getElem?_eq_getElem (by omega)⟩
  have hrl : r.2.length ≤ 1000000 := by
    have := hr (r.2.map (·.1)) (by rw [← h3]; exact List.mem_map.2 ⟨r, List.mem_of_getElem? hr0, rfl⟩)
    rw [List.length_map] at this
    exact this
  refine (put_is h0 cb b vB G r k n s l nv w h2 h1.size hr0 hy (by omega) hrl).mono ?_
  rintro e W' ⟨rfl, ⟨v', h8⟩, h9⟩
  refine ⟨rfl, ⟨h1.o h9, ⟨vB, _, h8, ?_⟩, ⟨vP, Q, h4.kept h9 (notP_xo wb), h5⟩, h6.kept h9 (notK_xo kb mb), h7⟩, h9⟩
  rw [← h3]
  exact blk_put hr0 v' (⟨k, n, s, l⟩, nv)
theorem mem_len {B : List (List Opp)} {n m : Nat} (h : ∀ r ∈ B, r.length ≤ m) : ∀ r ∈ B ++ List.replicate n [], r.length ≤ m := fun r hr => by
  rcases List.mem_append.1 hr with hr | hr
  · exact h r hr
  · rw [(List.mem_replicate.1 hr).2]; exact Nat.zero_le _

set_option maxRecDepth 100000 in
set_option maxHeartbeats 8000000 in
theorem node_lazy (S : Nat → Prop) (w0 : World) (h0 : Nat) (cb wb kb mb K : Nat) (P : List Prt) (B : List (List Opp)) (s : T) (l : List Nz) (A : Option Addr) (c b : Nat) (w : World) (hst : St S w0 h0 cb wb kb mb K w P B) (hn : NzsIn S w0 A c l) (hb : b < B.length) (hB : B.length + l.length ≤ 1000000) (hr : ∀ r ∈ B, r.length ≤ 1000000) (hP : P.length ≤ 10000000) (hK : K < maxLen) (hs : s.length ≤ maxLen) (hz : lazyB s = true) :
    Calls Try.prog 45 #[.pointer (some ⟨wb, 0, none⟩), .agg #[.int .i64 4, .string (bs s), .slice A l.length c], .int .i64 (b : Int)] w fun e W' => e = .returned (.bool true) ∧ St S w0 h0 cb wb kb mb (K + 1) W' (P ++ nextP (.mk 4 s l) b B) (nextB (.mk 4 s l) b B) ∧ Kp h0 (XS cb wb mb) w W' := by
  obtain ⟨i0, hi0, hz0, hz1, hz2⟩ := info_parts infoPart
  obtain ⟨w1, hw1⟩ : ∃ w1, w.alloc (.cells #[.int .i64 4, .string (bs s), .slice A l.length c] 30) = w1 := ⟨_, rfl⟩
  have hb1 : Below w.heap.size w w1 := by rw [← hw1]; exact (Below.refl _ _).alloc (Nat.le_refl _) _
  have hx1 : w1.heap[w.heap.size]? = some (.cells #[.int .i64 4, .string (bs s), .slice A l.length c] 30) := by rw [← hw1]; exact heap_alloc_new w _
  have hst1 := hst.on hb1
  have hk1 : Kp h0 (XS cb wb mb) w w1 := Kp.of hb1 hst.below.size _
  have HKX : Hid (∀ V, Kp h0 (XS cb wb mb) w1 V → V.heap[w.heap.size]? = some (.cells #[.int .i64 4, .string (bs s), .slice A l.length c] 30)) := fun V k => k.keep _ _ hx1 xs_not
  obtain ⟨n0, n1, n2⟩ := cells_3 hx1
  have HW1 := Lib.hid hw1
  have HS1 := Lib.hid hst1
  have HK1 := Lib.hid hk1
  have HN := Lib.hid hn
  have HR := Lib.hid hr
  obtain ⟨p2, p3⟩ := hst1.funcs
  unfold fPut at p2
  unfold fLazy at p3
  have HL : Hid (∀ U, Kp h0 (XS cb wb mb) w1 U → St S w0 h0 cb wb kb mb K U P B → Calls Try.prog 43 #[.string (bs s), .pointer (some ⟨kb, 0, none⟩)] U fun e W' => e = .returned (.bool true) ∧ St S w0 h0 cb wb kb mb (K + 1) W' P B ∧ Kp h0 (XS cb wb mb) w1 W') := fun U hk hs2 => by
    refine (lazy_is h0 kb mb K s U hs2.known hs2.below.size hs2.mbge hs hK).mono ?_
    rintro e W' ⟨rfl, h1, h2⟩
    exact ⟨by rw [hz], hs2.asked h2 h1, hk.trans (h2.mono fun _ _ h => .inr (.inr (.inr h)))⟩
  obtain ⟨m, hm⟩ : ∃ m, m = l.length := ⟨_, rfl⟩
  have HA : Hid (∀ U, Kp h0 (XS cb wb mb) w1 U → St S w0 h0 cb wb kb mb (K + 1) U P B → Calls Try.prog 29 #[.pointer (some ⟨wb, 0, none⟩), .slice A m c] U fun e W' => ∃ nv, e = .returned nv ∧ W'.ownsRow h0 3 1 nv m (((List.range' B.length m).map Int.ofNat).map (Value.int .i64)) ∧ St S w0 h0 cb wb kb mb (K + 1) W' (P ++ apartP l B.length) (B ++ List.replicate m []) ∧ Kp h0 (XS cb wb mb) w1 W') := fun U hk hs2 => by
    rw [hm]
    refine (apart_is S w0 h0 cb wb kb mb (K + 1) P B l A c U hs2 hn (by omega) (by omega) hP).mono ?_
    rintro e W' ⟨nv, rfl, h1, h2, h3⟩
    exact ⟨nv, rfl, h1, h2, hk.trans h3⟩
  have HPu : Hid (∀ U nv, Kp h0 (XS cb wb mb) w1 U → U.ownsRow h0 3 1 nv m (((List.range' B.length m).map Int.ofNat).map (Value.int .i64)) → St S w0 h0 cb wb kb mb (K + 1) U (P ++ apartP l B.length) (B ++ List.replicate m []) → Calls Try.prog 27 #[.int .i64 (b : Int), .agg #[.int .i64 6, .int .i64 0, .string (bs s), nv], .pointer (some ⟨cb, 0, none⟩)] U fun e W' => e = .returned (.tuple #[]) ∧ St S w0 h0 cb wb kb mb (K + 1) W' (P ++ nextP (.mk 4 s l) b B) (nextB (.mk 4 s l) b B) ∧ Kp h0 (XS cb wb mb) w1 W') := fun U nv hk ho hs2 => by
    refine (put_st S w0 h0 cb wb kb mb (K + 1) (P ++ apartP l B.length) (B ++ List.replicate m []) b 6 0 s ((List.range' B.length m).map Int.ofNat) nv U hs2 (by rw [List.length_append]; omega) (by rw [List.length_append, List.length_replicate]; omega) (mem_len HR.out) (by rw [List.length_map, List.length_range']; exact ho)).mono ?_
    rintro e W' ⟨rfl, h1, h2⟩
    refine ⟨rfl, ?_, hk.trans (h2.mono fun _ _ h => .inr (.inl h))⟩
    unfold nextP nextB
    dsimp only
    rw [if_pos (show ((4 : Int) = 4 ∧ lazyB s = true) from ⟨rfl, hz⟩), if_pos (show ((4 : Int) = 4 ∧ lazyB s = true) from ⟨rfl, hz⟩), ← hm]
    exact h1
  rw [← hm] at HW1 HKX n2
  rw [← hm]
  have HF : Hid (∀ V, Kp h0 (XS cb wb mb) w1 V → ∀ K' P' B', St S w0 h0 cb wb kb mb K' V P' B' → V.cell? ⟨wb, 2, none⟩ = some (.func (.func 27) #[] #[.pointer (some ⟨cb, 0, none⟩)]) ∧ V.cell? ⟨wb, 3, none⟩ = some (.func (.func 43) #[] #[.pointer (some ⟨kb, 0, none⟩)]) ∧ V.cell? ⟨w.heap.size, 0, none⟩ = some (.int .i64 4) ∧ V.cell? ⟨w.heap.size, 1, none⟩ = some (.string (bs s)) ∧ V.cell? ⟨w.heap.size, 2, none⟩ = some (.slice A m c)) := fun V k K' P' B' hs2 => ⟨hs2.funcs.1, hs2.funcs.2, cells_3 (HKX.out V k)⟩
  clear hw1 hx1 hst1 hk1 hn hr hst hb1 hm
  go_enter Try.func45, Try.ntmps45
  go_upto_region 1 with fail
  rw [HW1.out]
  have HS1d : Hid (St S w0 h0 cb wb kb mb K w1.drew P B) := HS1.out.on ((Below.refl _ _).drew)
  have HK1d : Hid (Kp h0 (XS cb wb mb) w1 w1.drew) := (Kp.refl _ _ _).drew
  go_region_held3 (fun U => U.cell? ⟨wb, 2, none⟩ = some (.func (.func 27) #[] #[.pointer (some ⟨cb, 0, none⟩)]) ∧ U.cell? ⟨wb, 3, none⟩ = some (.func (.func 43) #[] #[.pointer (some ⟨kb, 0, none⟩)]) ∧ U.cell? ⟨w.heap.size, 0, none⟩ = some (.int .i64 4) ∧ U.cell? ⟨w.heap.size, 1, none⟩ = some (.string (bs s)) ∧ U.cell? ⟨w.heap.size, 2, none⟩ = some (.slice A m c)) (first | exact ⟨p2, p3, n0, n1, n2⟩ | exact HF.out _ HK2.out _ _ _ HS2.out) (first | (go_at_call 43; refine (HL.out _ HK1d.out HS1d.out).mono ?_; rintro e w2 ⟨rfl, hs2, hk2⟩; have HS2 := Lib.hid hs2; have HK2 := Lib.hid hk2; clear hs2 hk2))
  obtain ⟨p2, p3, n0, n1, n2⟩ := HF.out _ HK2.out _ _ _ HS2.out
  go_upto_region 2 with fail
  have HS2d : Hid (St S w0 h0 cb wb kb mb (K + 1) w2.drew P B) := HS2.out.on ((Below.refl _ _).drew)
  have HK2d : Hid (Kp h0 (XS cb wb mb) w1 w2.drew) := HK2.out.drew
  go_region_held3 (fun U => U.cell? ⟨wb, 2, none⟩ = some (.func (.func 27) #[] #[.pointer (some ⟨cb, 0, none⟩)]) ∧ U.cell? ⟨w.heap.size, 0, none⟩ = some (.int .i64 4) ∧ U.cell? ⟨w.heap.size, 1, none⟩ = some (.string (bs s)) ∧ U.cell? ⟨w.heap.size, 2, none⟩ = some (.slice A m c)) (first | exact ⟨p2, n0, n1, n2⟩ | (exact ⟨(HF.out _ HK3.out _ _ _ HS3.out).1, (HF.out _ HK3.out _ _ _ HS3.out).2.2⟩) | (exact ⟨(HF.out _ HK4.out _ _ _ HS4.out).1, (HF.out _ HK4.out _ _ _ HS4.out).2.2⟩)) (first
    | (go_at_call 29; refine (HA.out _ HK2d.out HS2d.out).mono ?_; rintro e w3 ⟨nv, rfl, ho3, hs3, hk3⟩; obtain ⟨An, cn, rfl⟩ := own_slice ho3; have HO3 := Lib.hid ho3; have HS3 := Lib.hid hs3; have HK3 := Lib.hid hk3; clear ho3 hs3 hk3)
    | (go_at_call 27; refine (HPu.out _ _ HK3.out HO3.out HS3.out).mono ?_; rintro e w4 ⟨rfl, hs4, hk4⟩; have HS4 := Lib.hid hs4; have HK4 := Lib.hid hk4; clear hs4 hk4))

  go_wp2
  go_ret
  exact ⟨rfl, HS4.out, HK1.out.trans HK4.out⟩

set_option maxRecDepth 100000 in
set_option maxHeartbeats 8000000 in
theorem node_other (S : Nat → Prop) (w0 : World) (h0 : Nat) (cb wb kb mb K : Nat) (P : List Prt) (B : List (List Opp)) (k : Int) (s : T) (l : List Nz) (A : Option Addr) (c b : Nat) (w : World) (hst : St S w0 h0 cb wb kb mb K w P B) (hn : NzsIn S w0 A c l) (_hb : b < B.length) (_hB : B.length + l.length ≤ 1000000) (hr : ∀ r ∈ B, r.length ≤ 1000000) (hP : P.length ≤ 10000000) (_hK : K < maxLen) (_hs : s.length ≤ maxLen) (hf : formB k l = true) (h4 : k ≠ 4) :
    Calls Try.prog 45 #[.pointer (some ⟨wb, 0, none⟩), .agg #[.int .i64 k, .string (bs s), .slice A l.length c], .int .i64 (b : Int)] w fun e W' => e = .returned (.bool true) ∧ St S w0 h0 cb wb kb mb (K + 1) W' (P ++ nextP (.mk k s l) b B) (nextB (.mk k s l) b B) ∧ Kp h0 (XS cb wb mb) w W' := by
  obtain ⟨i0, hi0, hz0, hz1, hz2⟩ := info_parts infoPart
  obtain ⟨w1, hw1⟩ : ∃ w1, w.alloc (.cells #[.int .i64 k, .string (bs s), .slice A l.length c] 30) = w1 := ⟨_, rfl⟩
  have hb1 : Below w.heap.size w w1 := by rw [← hw1]; exact (Below.refl _ _).alloc (Nat.le_refl _) _
  have hx1 : w1.heap[w.heap.size]? = some (.cells #[.int .i64 k, .string (bs s), .slice A l.length c] 30) := by rw [← hw1]; exact heap_alloc_new w _
  have hst1 := hst.on hb1
  have hk1 : Kp h0 (XS cb wb mb) w w1 := Kp.of hb1 hst.below.size _
  have HKX : Hid (∀ V, Kp h0 (XS cb wb mb) w1 V → V.heap[w.heap.size]? = some (.cells #[.int .i64 k, .string (bs s), .slice A l.length c] 30)) := fun V k => k.keep _ _ hx1 xs_not
  obtain ⟨n0, n1, n2⟩ := cells_3 hx1
  have HW1 := Lib.hid hw1
  have HS1 := Lib.hid hst1
  have HK1 := Lib.hid hk1
  have HN := Lib.hid hn
  have HR := Lib.hid hr
  obtain ⟨p2, p3⟩ := hst1.funcs
  unfold fPut at p2
  unfold fLazy at p3
  have hnl : ¬ (k = (4 : Int) ∧ lazyB s = true) := fun h => h4 h.1
  obtain ⟨o, ho⟩ : ∃ o, o = lastO k s l.length := ⟨_, rfl⟩
  have hol : o.l = [] := by rw [ho]; exact lastO_l _ _ _
  obtain ⟨m, hm⟩ : ∃ m, m = l.length := ⟨_, rfl⟩
  have HPl : Hid (∀ U, Calls Try.prog 61 #[.agg #[.int .i64 k, .string (bs s), .slice A m c]] U fun e W' => e = .returned (.tuple #[.agg #[.int .i64 o.k, .int .i64 o.n, .string (bs o.s), .slice none 0 0], .bool true]) ∧ Below U.heap.size U W') := fun U => by
    rw [ho, hm]
    exact plain_is k s l hf A c U
  have hnp : nextP (.mk k s l) b B = [⟨l, b, false, o⟩] := by
    unfold nextP
    dsimp only
    rw [if_neg hnl, ho]; rfl
  have hnb : nextB (.mk k s l) b B = B := by
    unfold nextB
    dsimp only
    rw [if_neg hnl]
  rw [hnp, hnb]
  rw [← hm] at HW1 HKX n2
  rw [← hm]
  have HM := Lib.hid hm
  clear hw1 hx1 hst1 hk1 hn hr hst hb1 hm ho hnp hnb hnl hol
  go_enter Try.func45, Try.ntmps45
  go_upto_region 1 with fail
  rw [HW1.out]
  have hk4' : (k == (4 : Int)) = false := by rw [beq_eq_false_iff_ne]; exact h4
  go_quiet (fail)
  obtain ⟨w2, hw2⟩ : ∃ w2, w2 = w1.drewN nq := ⟨_, rfl⟩
  rw [← hw2]
  have hbq : Below w1.heap.size w1 w2 := by rw [hw2]; exact ⟨rfl, rfl, rfl, Nat.le_refl _, fun _ _ => rfl⟩
  have HSC : Hid (St S w0 h0 cb wb kb mb (K + 1) w2 P B) := (HS1.out.on hbq).mono (Nat.le_succ _)
  have HKC : Hid (Kp h0 (XS cb wb mb) w1 w2) := Kp.of hbq HS1.out.below.size _
  obtain ⟨n0, n1, n2⟩ := cells_3 (HKX.out _ HKC.out)
  obtain ⟨p2, p3⟩ := HSC.out.funcs
  unfold fPut at p2
  unfold fLazy at p3
  clear hw2 hbq
  go_upto_region 5 with (go_at_call 61; refine (HPl.out _).mono ?_; rintro e w3 ⟨rfl, hb3⟩; have HB3 := Lib.hid hb3; clear hb3)
  obtain ⟨w4, hw4⟩ : ∃ w4, w3.alloc (.cells #[.int .i64 o.k, .int .i64 o.n, .string (bs o.s), .slice none 0 0] 44) = w4 := ⟨_, rfl⟩
  rw [hw4]
  have hx4 : w4.heap[w3.heap.size]? = some (.cells #[.int .i64 o.k, .int .i64 o.n, .string (bs o.s), .slice none 0 0] 44) := by rw [← hw4]; exact heap_alloc_new w3 _
  have hb24 : Below w2.heap.size w2 w4 := by rw [← hw4]; exact HB3.out.alloc HB3.out.size _
  have hs4 : St S w0 h0 cb wb kb mb (K + 1) w4 P B := HSC.out.on hb24
  have hk4 : Kp h0 (XS cb wb mb) w1 w4 := HKC.out.trans (Kp.of hb24 HSC.out.below.size _)
  have hnx := HKX.out _ hk4
  obtain ⟨n0, n1, n2⟩ := cells_3 hnx
  obtain ⟨o0, o1, o2, o3⟩ := cells_four hx4
  obtain ⟨hbel, ⟨vB, G, hco, hG⟩, ⟨vP, Q, hpa, hQ⟩, hkn, hmb⟩ := hs4
  have hQl : Q.length = P.length := by rw [← hQ, List.length_map]
  obtain ⟨Ap, cp, rfl⟩ := own_slice hpa.row
  have hwl := heap_lt hpa.box
  have hnl4 := heap_lt hnx
  have hol4 := heap_lt hx4
  obtain ⟨ob, hob⟩ : ∃ ob, ob = Obj.cells #[.slice A m c, .int .i64 (b : Int), .bool false, .int .i64 o.k, .int .i64 o.n, .string (bs o.s), .slice none 0 0] 87 := ⟨_, rfl⟩
  have hz1' : h0 ≤ w4.heap.size := hbel.size
  have HPE : Hid (∀ g cap w5, w5.ownsRow h0 87 7 (.slice (some ⟨g, 0, none⟩) (Q.length + 1) cap) (Q.length + 1) (flat7 Q ++ [.slice A m c, .int .i64 (b : Int), .bool false, .int .i64 o.k, .int .i64 o.n, .string (bs o.s), .slice none 0 0]) → (w4.drew.alloc ob).grownBy w5 (Value.slice Ap Q.length cp).ownBlock →
      St S w0 h0 cb wb kb mb (K + 1) (w5.setCell ⟨wb, 0, none⟩ (.slice (some ⟨g, 0, none⟩) (Q.length + 1) cap)) (P ++ [⟨l, b, false, o⟩]) B ∧ Kp h0 (XS cb wb mb) w1 (w5.setCell ⟨wb, 0, none⟩ (.slice (some ⟨g, 0, none⟩) (Q.length + 1) cap))) := fun g cap w5 ho hg => by
    have hb2 : Below w4.heap.size w4 (w4.drew.alloc ob) := ((Below.refl _ w4).drew).alloc (Nat.le_refl _) _
    have hpe := (hpa.on hb2).push (w2 := w5) (v' := .slice (some ⟨g, 0, none⟩) (Q.length + 1) cap) (Nat.le_trans hz1' hb2.size) (⟨l, b, false, o⟩, .slice A m c) ⟨A, c, by rw [HM.out], HN.out⟩ ho hg
    obtain ⟨h1, h2⟩ := hpe
    have k2 : Kp h0 (XP wb) w4 (w5.setCell ⟨wb, 0, none⟩ (.slice (some ⟨g, 0, none⟩) (Q.length + 1) cap)) := (Kp.of hb2 hz1' _).trans h2
    refine ⟨⟨hbel.p k2, ⟨vB, _, hco.kept k2 (notC_xp cb wb), hG⟩, ⟨_, _, h1, ?_⟩, hkn.kept k2 (notK_xp kb mb wb), hmb⟩, hk4.trans (k2.mono fun _ _ h => .inr (.inr (.inl h)))⟩
    rw [List.map_append, hQ]; rfl
  have hrow := hpa.row
  have hnw : (Value.slice Ap Q.length cp).ownBlock ≠ some wb := own_not hrow hpa.box (by decide)
  have hnn : (Value.slice Ap Q.length cp).ownBlock ≠ some w.heap.size := own_not hrow hnx (by decide)
  have hno : (Value.slice Ap Q.length cp).ownBlock ≠ some w3.heap.size := own_not hrow hx4 (by decide)
  have HRow := Lib.hid hrow
  have HNw := Lib.hid hnw
  have HNn := Lib.hid hnn
  have HNo := Lib.hid hno
  have HZn := Lib.hid (seven_new w4.drew (.slice A m c) (.int .i64 (b : Int)) (.bool false) (.int .i64 o.k) (.int .i64 o.n) (.string (bs o.s)) (.slice none 0 0) 87)
  obtain ⟨q, hq⟩ : ∃ q, q = Q.length := ⟨_, rfl⟩
  have hfl := flat7_len Q
  have hwb := hpa.box
  rw [← hq] at HPE HRow HNw HNn HNo hfl hwb hQl
  generalize flat7 Q = fq at *
  have HOB := Lib.hid hob
  have HWB := Lib.hid hwb
  have HNX := Lib.hid hnx
  have HOX := Lib.hid hx4
  rw [← hQl] at hP
  have a0 := (cells_four hwb).1
  have A0 := (cells_four ((Lib.alloc_old w4.drew (.cells #[.slice A m c, .int .i64 (b : Int), .bool false, .int .i64 o.k, .int .i64 o.n, .string (bs o.s), .slice none 0 0] 87) wb hwl).trans hwb)).1
  obtain ⟨N0, N1, N2⟩ := cells_3 ((Lib.alloc_old w4.drew (.cells #[.slice A m c, .int .i64 (b : Int), .bool false, .int .i64 o.k, .int .i64 o.n, .string (bs o.s), .slice none 0 0] 87) _ hnl4).trans hnx)
  obtain ⟨O0, O1, O2, O3⟩ := cells_four ((Lib.alloc_old w4.drew (.cells #[.slice A m c, .int .i64 (b : Int), .bool false, .int .i64 o.k, .int .i64 o.n, .string (bs o.s), .slice none 0 0] 87) _ hol4).trans hx4)
  obtain ⟨g3, hg3⟩ : ∃ g3, g3 = w3.heap.size := ⟨_, rfl⟩
  rw [← hg3] at HNo HOX o0 o1 o2 o3 O0 O1 O2 O3 hol4 ⊢
  clear hbel hco hG hpa hQ hkn hw4 hx4 hb24 hk4 hnx hrow hnw hnn hno hq hob hwb hQl hg3
  go_upto_region 6 with fail

  go_region_law (refine step_append_lies _ rfl _ _ 65 rfl h0 87 i0 (.agg #[.slice none 0 0, .int .i64 0, .bool false, .int .i64 0, .int .i64 0, .string .empty, .slice none 0 0]) 7 96 Try.underlying65 hi0 hz0 hz1 hz2 rfl (by decide) (.slice Ap q cp) q _ (by first | rfl | simp [Act.eval]) (HRow.out.drew.alloc _) ⟨w4.heap.size, 0, none⟩ 1 1 [.slice A m c, .int .i64 (b : Int), .bool false, .int .i64 o.k, .int .i64 o.n, .string (bs o.s), .slice none 0 0] (by first | rfl | simp [Act.eval]) rfl HZn.out (by simp [Value.oneCell']) (by decide) (by unfold maxLen; omega) (by omega) (by simp; omega) (w4.heap.size + 1) (World.size_alloc ..) ?_; intro g cap w5 hown5 hgrow5 hat5 hlt5; have hb5 : w5.heap[wb]? = _ := (hgrow5.block wb (by simp; omega) (fun e => HNw.out e.symm)).trans ((Lib.alloc_old w4.drew _ wb hwl).trans HWB.out); have z0 := (cells_four hb5).1; have t0 := Lib.frozen_of_heap hb5 0; have HFin := Lib.hid (HPE.out g cap w5 hown5 (by rw [HOB.out]; exact hgrow5)); clear hown5 hgrow5 hat5 hb5)
  all_goals go_wp2
  all_goals go_ret
  all_goals exact ⟨rfl, HFin.out.1, HK1.out.trans HFin.out.2⟩

set_option maxRecDepth 100000 in
set_option maxHeartbeats 8000000 in
theorem node_call (S : Nat → Prop) (w0 : World) (h0 : Nat) (cb wb kb mb K : Nat) (P : List Prt) (B : List (List Opp)) (s : T) (l : List Nz) (A : Option Addr) (c b : Nat) (w : World) (hst : St S w0 h0 cb wb kb mb K w P B) (hn : NzsIn S w0 A c l) (_hb : b < B.length) (_hB : B.length + l.length ≤ 1000000) (hr : ∀ r ∈ B, r.length ≤ 1000000) (hP : P.length ≤ 10000000) (hK : K < maxLen) (hs : s.length ≤ maxLen) (hf : formB 4 l = true) (hz : lazyB s = false) :
    Calls Try.prog 45 #[.pointer (some ⟨wb, 0, none⟩), .agg #[.int .i64 4, .string (bs s), .slice A l.length c], .int .i64 (b : Int)] w fun e W' => e = .returned (.bool true) ∧ St S w0 h0 cb wb kb mb (K + 1) W' (P ++ nextP (.mk 4 s l) b B) (nextB (.mk 4 s l) b B) ∧ Kp h0 (XS cb wb mb) w W' := by
  obtain ⟨i0, hi0, hz0, hz1, hz2⟩ := info_parts infoPart
  obtain ⟨w1, hw1⟩ : ∃ w1, w.alloc (.cells #[.int .i64 4, .string (bs s), .slice A l.length c] 30) = w1 := ⟨_, rfl⟩
  have hb1 : Below w.heap.size w w1 := by rw [← hw1]; exact (Below.refl _ _).alloc (Nat.le_refl _) _
  have hx1 : w1.heap[w.heap.size]? = some (.cells #[.int .i64 4, .string (bs s), .slice A l.length c] 30) := by rw [← hw1]; exact heap_alloc_new w _
  have hst1 := hst.on hb1
  have hk1 : Kp h0 (XS cb wb mb) w w1 := Kp.of hb1 hst.below.size _
  have HKX : Hid (∀ V, Kp h0 (XS cb wb mb) w1 V → V.heap[w.heap.size]? = some (.cells #[.int .i64 4, .string (bs s), .slice A l.length c] 30)) := fun V k => k.keep _ _ hx1 xs_not
  obtain ⟨n0, n1, n2⟩ := cells_3 hx1
  have HW1 := Lib.hid hw1
  have HS1 := Lib.hid hst1
  have HK1 := Lib.hid hk1
  have HN := Lib.hid hn
  have HR := Lib.hid hr
  obtain ⟨p2, p3⟩ := hst1.funcs
  unfold fPut at p2
  unfold fLazy at p3
  have hnl : ¬ (4 = (4 : Int) ∧ lazyB s = true) := fun h => by rw [hz] at h; exact absurd h.2 (by decide)
  obtain ⟨o, ho⟩ : ∃ o, o = lastO 4 s l.length := ⟨_, rfl⟩
  have hol : o.l = [] := by rw [ho]; exact lastO_l _ _ _
  obtain ⟨m, hm⟩ : ∃ m, m = l.length := ⟨_, rfl⟩
  have HPl : Hid (∀ U, Calls Try.prog 61 #[.agg #[.int .i64 4, .string (bs s), .slice A m c]] U fun e W' => e = .returned (.tuple #[.agg #[.int .i64 o.k, .int .i64 o.n, .string (bs o.s), .slice none 0 0], .bool true]) ∧ Below U.heap.size U W') := fun U => by
    rw [ho, hm]
    exact plain_is 4 s l hf A c U
  have hnp : nextP (.mk 4 s l) b B = [⟨l, b, false, o⟩] := by
    unfold nextP
    dsimp only
    rw [if_neg hnl, ho]; rfl
  have hnb : nextB (.mk 4 s l) b B = B := by
    unfold nextB
    dsimp only
    rw [if_neg hnl]
  rw [hnp, hnb]
  rw [← hm] at HW1 HKX n2
  rw [← hm]
  have HM := Lib.hid hm
  have HL : Hid (∀ U, Kp h0 (XS cb wb mb) w1 U → St S w0 h0 cb wb kb mb K U P B → Calls Try.prog 43 #[.string (bs s), .pointer (some ⟨kb, 0, none⟩)] U fun e W' => e = .returned (.bool false) ∧ St S w0 h0 cb wb kb mb (K + 1) W' P B ∧ Kp h0 (XS cb wb mb) w1 W') := fun U hk hs2 => by
    refine (lazy_is h0 kb mb K s U hs2.known hs2.below.size hs2.mbge hs hK).mono ?_
    rintro e W' ⟨rfl, h1, h2⟩
    exact ⟨by rw [hz], hs2.asked h2 h1, hk.trans (h2.mono fun _ _ h => .inr (.inr (.inr h)))⟩
  have HF : Hid (∀ V, Kp h0 (XS cb wb mb) w1 V → ∀ K' P' B', St S w0 h0 cb wb kb mb K' V P' B' → V.cell? ⟨wb, 2, none⟩ = some (.func (.func 27) #[] #[.pointer (some ⟨cb, 0, none⟩)]) ∧ V.cell? ⟨wb, 3, none⟩ = some (.func (.func 43) #[] #[.pointer (some ⟨kb, 0, none⟩)]) ∧ V.cell? ⟨w.heap.size, 0, none⟩ = some (.int .i64 4) ∧ V.cell? ⟨w.heap.size, 1, none⟩ = some (.string (bs s)) ∧ V.cell? ⟨w.heap.size, 2, none⟩ = some (.slice A m c)) := fun V k K' P' B' hs2 => ⟨hs2.funcs.1, hs2.funcs.2, cells_3 (HKX.out V k)⟩
  clear hw1 hx1 hst1 hk1 hn hr hst hb1 hm ho hnp hnb hnl hol
  go_enter Try.func45, Try.ntmps45
  go_upto_region 1 with fail
  rw [HW1.out]
  have HS1d : Hid (St S w0 h0 cb wb kb mb K w1.drew P B) := HS1.out.on ((Below.refl _ _).drew)
  have HK1d : Hid (Kp h0 (XS cb wb mb) w1 w1.drew) := (Kp.refl _ _ _).drew
  go_region_held3 (fun U => U.cell? ⟨wb, 2, none⟩ = some (.func (.func 27) #[] #[.pointer (some ⟨cb, 0, none⟩)]) ∧ U.cell? ⟨wb, 3, none⟩ = some (.func (.func 43) #[] #[.pointer (some ⟨kb, 0, none⟩)]) ∧ U.cell? ⟨w.heap.size, 0, none⟩ = some (.int .i64 4) ∧ U.cell? ⟨w.heap.size, 1, none⟩ = some (.string (bs s)) ∧ U.cell? ⟨w.heap.size, 2, none⟩ = some (.slice A m c)) (first | exact ⟨p2, p3, n0, n1, n2⟩ | exact HF.out _ HKC.out _ _ _ HSC.out) (first | (go_at_call 43; refine (HL.out _ HK1d.out HS1d.out).mono ?_; rintro e w2 ⟨rfl, hs2, hk2⟩; have HSC := Lib.hid hs2; have HKC := Lib.hid hk2; clear hs2 hk2))
  obtain ⟨p2, p3, n0, n1, n2⟩ := HF.out _ HKC.out _ _ _ HSC.out
  go_upto_region 5 with (go_at_call 61; refine (HPl.out _).mono ?_; rintro e w3 ⟨rfl, hb3⟩; have HB3 := Lib.hid hb3; clear hb3)
  obtain ⟨w4, hw4⟩ : ∃ w4, w3.alloc (.cells #[.int .i64 o.k, .int .i64 o.n, .string (bs o.s), .slice none 0 0] 44) = w4 := ⟨_, rfl⟩
  rw [hw4]
  have hx4 : w4.heap[w3.heap.size]? = some (.cells #[.int .i64 o.k, .int .i64 o.n, .string (bs o.s), .slice none 0 0] 44) := by rw [← hw4]; exact heap_alloc_new w3 _
  have hb24 : Below w2.heap.size w2 w4 := by rw [← hw4]; exact HB3.out.alloc HB3.out.size _
  have hs4 : St S w0 h0 cb wb kb mb (K + 1) w4 P B := HSC.out.on hb24
  have hk4 : Kp h0 (XS cb wb mb) w1 w4 := HKC.out.trans (Kp.of hb24 HSC.out.below.size _)
  have hnx := HKX.out _ hk4
  obtain ⟨n0, n1, n2⟩ := cells_3 hnx
  obtain ⟨o0, o1, o2, o3⟩ := cells_four hx4
  obtain ⟨hbel, ⟨vB, G, hco, hG⟩, ⟨vP, Q, hpa, hQ⟩, hkn, hmb⟩ := hs4
  have hQl : Q.length = P.length := by rw [← hQ, List.length_map]
  obtain ⟨Ap, cp, rfl⟩ := own_slice hpa.row
  have hwl := heap_lt hpa.box
  have hnl4 := heap_lt hnx
  have hol4 := heap_lt hx4
  obtain ⟨ob, hob⟩ : ∃ ob, ob = Obj.cells #[.slice A m c, .int .i64 (b : Int), .bool false, .int .i64 o.k, .int .i64 o.n, .string (bs o.s), .slice none 0 0] 87 := ⟨_, rfl⟩
  have hz1' : h0 ≤ w4.heap.size := hbel.size
  have HPE : Hid (∀ g cap w5, w5.ownsRow h0 87 7 (.slice (some ⟨g, 0, none⟩) (Q.length + 1) cap) (Q.length + 1) (flat7 Q ++ [.slice A m c, .int .i64 (b : Int), .bool false, .int .i64 o.k, .int .i64 o.n, .string (bs o.s), .slice none 0 0]) → (w4.drew.alloc ob).grownBy w5 (Value.slice Ap Q.length cp).ownBlock →
      St S w0 h0 cb wb kb mb (K + 1) (w5.setCell ⟨wb, 0, none⟩ (.slice (some ⟨g, 0, none⟩) (Q.length + 1) cap)) (P ++ [⟨l, b, false, o⟩]) B ∧ Kp h0 (XS cb wb mb) w1 (w5.setCell ⟨wb, 0, none⟩ (.slice (some ⟨g, 0, none⟩) (Q.length + 1) cap))) := fun g cap w5 ho hg => by
    have hb2 : Below w4.heap.size w4 (w4.drew.alloc ob) := ((Below.refl _ w4).drew).alloc (Nat.le_refl _) _
    have hpe := (hpa.on hb2).push (w2 := w5) (v' := .slice (some ⟨g, 0, none⟩) (Q.length + 1) cap) (Nat.le_trans hz1' hb2.size) (⟨l, b, false, o⟩, .slice A m c) ⟨A, c, by rw [HM.out], HN.out⟩ ho hg
    obtain ⟨h1, h2⟩ := hpe
    have k2 : Kp h0 (XP wb) w4 (w5.setCell ⟨wb, 0, none⟩ (.slice (some ⟨g, 0, none⟩) (Q.length + 1) cap)) := (Kp.of hb2 hz1' _).trans h2
    refine ⟨⟨hbel.p k2, ⟨vB, _, hco.kept k2 (notC_xp cb wb), hG⟩, ⟨_, _, h1, ?_⟩, hkn.kept k2 (notK_xp kb mb wb), hmb⟩, hk4.trans (k2.mono fun _ _ h => .inr (.inr (.inl h)))⟩
    rw [List.map_append, hQ]; rfl
  have hrow := hpa.row
  have hnw : (Value.slice Ap Q.length cp).ownBlock ≠ some wb := own_not hrow hpa.box (by decide)
  have hnn : (Value.slice Ap Q.length cp).ownBlock ≠ some w.heap.size := own_not hrow hnx (by decide)
  have hno : (Value.slice Ap Q.length cp).ownBlock ≠ some w3.heap.size := own_not hrow hx4 (by decide)
  have HRow := Lib.hid hrow
  have HNw := Lib.hid hnw
  have HNn := Lib.hid hnn
  have HNo := Lib.hid hno
  have HZn := Lib.hid (seven_new w4.drew (.slice A m c) (.int .i64 (b : Int)) (.bool false) (.int .i64 o.k) (.int .i64 o.n) (.string (bs o.s)) (.slice none 0 0) 87)
  obtain ⟨q, hq⟩ : ∃ q, q = Q.length := ⟨_, rfl⟩
  have hfl := flat7_len Q
  have hwb := hpa.box
  rw [← hq] at HPE HRow HNw HNn HNo hfl hwb hQl
  generalize flat7 Q = fq at *
  have HOB := Lib.hid hob
  have HWB := Lib.hid hwb
  have HNX := Lib.hid hnx
  have HOX := Lib.hid hx4
  rw [← hQl] at hP
  have a0 := (cells_four hwb).1
  have A0 := (cells_four ((Lib.alloc_old w4.drew (.cells #[.slice A m c, .int .i64 (b : Int), .bool false, .int .i64 o.k, .int .i64 o.n, .string (bs o.s), .slice none 0 0] 87) wb hwl).trans hwb)).1
  obtain ⟨N0, N1, N2⟩ := cells_3 ((Lib.alloc_old w4.drew (.cells #[.slice A m c, .int .i64 (b : Int), .bool false, .int .i64 o.k, .int .i64 o.n, .string (bs o.s), .slice none 0 0] 87) _ hnl4).trans hnx)
  obtain ⟨O0, O1, O2, O3⟩ := cells_four ((Lib.alloc_old w4.drew (.cells #[.slice A m c, .int .i64 (b : Int), .bool false, .int .i64 o.k, .int .i64 o.n, .string (bs o.s), .slice none 0 0] 87) _ hol4).trans hx4)
  obtain ⟨g3, hg3⟩ : ∃ g3, g3 = w3.heap.size := ⟨_, rfl⟩
  rw [← hg3] at HNo HOX o0 o1 o2 o3 O0 O1 O2 O3 hol4 ⊢
  clear hbel hco hG hpa hQ hkn hw4 hx4 hb24 hk4 hnx hrow hnw hnn hno hq hob hwb hQl hg3
  go_upto_region 6 with fail

  go_region_law (refine step_append_lies _ rfl _ _ 65 rfl h0 87 i0 (.agg #[.slice none 0 0, .int .i64 0, .bool false, .int .i64 0, .int .i64 0, .string .empty, .slice none 0 0]) 7 96 Try.underlying65 hi0 hz0 hz1 hz2 rfl (by decide) (.slice Ap q cp) q _ (by first | rfl | simp [Act.eval]) (HRow.out.drew.alloc _) ⟨w4.heap.size, 0, none⟩ 1 1 [.slice A m c, .int .i64 (b : Int), .bool false, .int .i64 o.k, .int .i64 o.n, .string (bs o.s), .slice none 0 0] (by first | rfl | simp [Act.eval]) rfl HZn.out (by simp [Value.oneCell']) (by decide) (by unfold maxLen; omega) (by omega) (by simp; omega) (w4.heap.size + 1) (World.size_alloc ..) ?_; intro g cap w5 hown5 hgrow5 hat5 hlt5; have hb5 : w5.heap[wb]? = _ := (hgrow5.block wb (by simp; omega) (fun e => HNw.out e.symm)).trans ((Lib.alloc_old w4.drew _ wb hwl).trans HWB.out); have z0 := (cells_four hb5).1; have t0 := Lib.frozen_of_heap hb5 0; have HFin := Lib.hid (HPE.out g cap w5 hown5 (by rw [HOB.out]; exact hgrow5)); clear hown5 hgrow5 hat5 hb5)
  all_goals go_wp2
  all_goals go_ret
  all_goals exact ⟨rfl, HFin.out.1, HK1.out.trans HFin.out.2⟩

end Go.Proofs.Ytfenlhbkdfmneaa.Cno
