/- The program's parts with blocks of their own. -/
import Derived.Test.YtfenlhbkdfmneaaCpm
namespace Go.Proofs.Ytfenlhbkdfmneaa.Cap
open Go Go.RowKit Go.Proofs.Ytfenlhbkdfmneaa.Spl Go.Proofs.Ytfenlhbkdfmneaa.Nodm Go.Proofs.Ytfenlhbkdfmneaa.Nz Go.Proofs.Ytfenlhbkdfmneaa.Cpl Go.Proofs.Ytfenlhbkdfmneaa.Cin Go.Proofs.Ytfenlhbkdfmneaa.Cops Go.Proofs.Ytfenlhbkdfmneaa.Cmc Go.Proofs.Ytfenlhbkdfmneaa.Cmm Go.Proofs.Ytfenlhbkdfmneaa.Cnm Go.Proofs.Ytfenlhbkdfmneaa.Cpu Go.Proofs.Ytfenlhbkdfmneaa.Cla Go.Proofs.Ytfenlhbkdfmneaa.Cpm
open Go.Proofs.Ytfenlhbkdfmneaa.Pure (bs)

theorem seven_new (w : World) (x y z u v p q : Value) (t : TypeId) : ∀ (j : Nat) (c : Value), [x, y, z, u, v, p, q][j]? = some c → (w.alloc (.cells #[x, y, z, u, v, p, q] t)).cell? ((⟨w.heap.size, 0, none⟩ : Addr).add j) = some c := by
  intro j c hu
  have h := heap_alloc_new w (.cells #[x, y, z, u, v, p, q] t)
  rw [Strs.addr_add, Nat.zero_add, Lib.cell_of_heap h, ← hu]
  rw [← List.getElem?_toArray]
/-- the parts that apart lays down -/
def apartP (l : List Nz) (b : Nat) : List Prt := if l = [] then [] else [⟨l, b, true, ⟨0, 0, [], []⟩⟩]
theorem blk_many (G : List Rw) (m : Nat) : blk (G ++ List.replicate m (.slice none 0 0, [])) = blk G ++ List.replicate m [] := by
  unfold blk
  rw [List.map_append, List.map_replicate]; rfl

set_option maxRecDepth 100000 in
set_option maxHeartbeats 4000000 in
theorem apart_is (S : Nat → Prop) (w0 : World) (h0 : Nat) (cb wb kb mb K : Nat) (P : List Prt) (B : List (List Opp)) (l : List Nz) (A : Option Addr) (c : Nat) (w : World) (hst : St S w0 h0 cb wb kb mb K w P B) (hn : NzsIn S w0 A c l) (hl : l.length ≤ 1000000) (hB : B.length ≤ 1000000) (hP : P.length ≤ 10000000) :
    Calls Try.prog 29 #[.pointer (some ⟨wb, 0, none⟩), .slice A l.length c] w fun e W' => ∃ nv, e = .returned nv ∧ W'.ownsRow h0 3 1 nv l.length (((List.range' B.length l.length).map Int.ofNat).map (Value.int .i64)) ∧ St S w0 h0 cb wb kb mb K W' (P ++ apartP l B.length) (B ++ List.replicate l.length []) ∧ Kp h0 (XS cb wb mb) w W' := by
  obtain ⟨i0, hi0, hz0, hz1, hz2⟩ := info_parts infoPart
  obtain ⟨hbel, ⟨vB, G, hco, hG⟩, ⟨vP, Q, hpa, hQ⟩, hkn, hmb⟩ := hst
  have hGl : G.length = B.length := by rw [← hG, blk_len]
  have hQl : Q.length = P.length := by rw [← hQ, List.length_map]
  have HC := Lib.hid (number_is h0 cb l.length vB G w hco hbel.size hl (by omega))
  have HPa := Lib.hid hpa
  have HKn := Lib.hid hkn
  have HBel := Lib.hid hbel
  have HGG := Lib.hid hG
  have HQQ := Lib.hid hQ
  have HN := Lib.hid hn
  have b1 := (cells_four hpa.box).2.1
  unfold fNum at b1
  obtain ⟨m, hm⟩ : ∃ m, m = l.length := ⟨_, rfl⟩
  rw [← hm] at HC hl ⊢
  have HM := Lib.hid hm
  clear hco hpa hkn hbel hG hQ hn hm
  go_enter Try.func29, Try.ntmps29
  go_upto_region 2 with (go_at_call 26; refine HC.out.mono ?_; rintro e w1 ⟨nv, vB1, rfl, hnv, hc1, hk1⟩; have HNv := Lib.hid hnv; have HC1 := Lib.hid hc1; have HK1 := Lib.hid hk1; clear hnv hc1 hk1)
  have hp1 := HPa.out.kept HK1.out (notP_xn wb cb)
  have hkn1 := HKn.out.kept HK1.out (notK_xn kb mb cb)
  have hb1 := HBel.out.n HK1.out
  have HP1 := Lib.hid hp1
  have HKn1 := Lib.hid hkn1
  have HB1 := Lib.hid hb1
  obtain ⟨a0, a1, a2, a3⟩ := cells_four hp1.box
  clear hp1 hkn1 hb1 b1
  by_cases hm00 : m = 0
  · subst hm00
    go_wp2
    go_ret
    have hl0 : l = [] := List.eq_nil_of_length_eq_zero HM.out.symm
    refine ⟨nv, rfl, by rw [← hGl]; exact HNv.out, ⟨HB1.out, ⟨vB1, _, HC1.out, by rw [blk_many, HGG.out]⟩, ⟨vP, Q, HP1.out, ?_⟩, HKn1.out, hmb⟩, HK1.out.mono fun _ _ => .inl⟩
    unfold apartP
    rw [if_pos hl0, List.append_nil]
    exact HQQ.out
  · have hm0 : (0 : Int) < (m : Int) := by omega
    obtain ⟨gn, cn, rfl, hgn, hgnl⟩ := HNv.out.form (by omega)
    obtain ⟨x0, hx0⟩ : ∃ x0, x0 = G.length := ⟨_, rfl⟩
    have hv0 : (((List.range' G.length m).map Int.ofNat).map (Value.int .i64))[0]? = some (.int .i64 (x0 : Int)) := by
      rw [List.getElem?_map, List.getElem?_map, List.getElem?_range' (by omega), hx0]; rfl
    have d0 := (HNv.out.cellAt 0 (by omega)).trans hv0
    have D0 := ((HNv.out.drew.alloc (.cells #[.slice A m c, .int .i64 (x0 : Int), .bool true, .int .i64 0, .int .i64 0, .string ⟨#[]⟩, .slice none 0 0] 87)).cellAt 0 (by omega)).trans hv0
    obtain ⟨Ap, cp, rfl⟩ := own_slice HP1.out.row
    have hwl := heap_lt HP1.out.box
    obtain ⟨A0, A1, A2, A3⟩ := cells_four ((Lib.alloc_old w1.drew (.cells #[.slice A m c, .int .i64 (x0 : Int), .bool true, .int .i64 0, .int .i64 0, .string ⟨#[]⟩, .slice none 0 0] 87) wb hwl).trans HP1.out.box)
    obtain ⟨ob, hob⟩ : ∃ ob, ob = Obj.cells #[.slice A m c, .int .i64 (x0 : Int), .bool true, .int .i64 0, .int .i64 0, .string ⟨#[]⟩, .slice none 0 0] 87 := ⟨_, rfl⟩
    have hz1' : h0 ≤ w1.heap.size := HB1.out.size
    have HPE : Hid (∀ g cap w5, w5.ownsRow h0 87 7 (.slice (some ⟨g, 0, none⟩) (Q.length + 1) cap) (Q.length + 1) (flat7 Q ++ [.slice A m c, .int .i64 (x0 : Int), .bool true, .int .i64 0, .int .i64 0, .string ⟨#[]⟩, .slice none 0 0]) → (w1.drew.alloc ob).grownBy w5 (Value.slice Ap Q.length cp).ownBlock →
        (w5.setCell ⟨wb, 0, none⟩ (.slice (some ⟨g, 0, none⟩) (Q.length + 1) cap)).ownsRow h0 3 1 (.slice (some ⟨gn, 0, none⟩) m cn) m (((List.range' B.length m).map Int.ofNat).map (Value.int .i64)) ∧ St S w0 h0 cb wb kb mb K (w5.setCell ⟨wb, 0, none⟩ (.slice (some ⟨g, 0, none⟩) (Q.length + 1) cap)) (P ++ apartP l B.length) (B ++ List.replicate m []) ∧ Kp h0 (XS cb wb mb) w (w5.setCell ⟨wb, 0, none⟩ (.slice (some ⟨g, 0, none⟩) (Q.length + 1) cap))) := fun g cap w5 ho hg => by
      have hb2 : Below w1.heap.size w1 (w1.drew.alloc ob) := ((Below.refl _ w1).drew).alloc (Nat.le_refl _) _
      have hpe := (HP1.out.on hb2).push (w2 := w5) (v' := .slice (some ⟨g, 0, none⟩) (Q.length + 1) cap) (Nat.le_trans hz1' hb2.size) (⟨l, x0, true, ⟨0, 0, [], []⟩⟩, .slice A m c) ⟨A, c, by rw [HM.out], HN.out⟩ ho hg
      obtain ⟨h1, h2⟩ := hpe
      have k2 : Kp h0 (XP wb) w1 (w5.setCell ⟨wb, 0, none⟩ (.slice (some ⟨g, 0, none⟩) (Q.length + 1) cap)) := (Kp.of hb2 hz1' _).trans h2
      refine ⟨k2.own (by rw [← hGl]; exact HNv.out) (fun _ _ => xp_not (by decide) (by decide)), ⟨HB1.out.p k2, ⟨vB1, _, HC1.out.kept k2 (notC_xp cb wb), by rw [blk_many, HGG.out]⟩, ⟨_, _, h1, ?_⟩, HKn1.out.kept k2 (notK_xp kb mb wb), hmb⟩, (HK1.out.mono fun _ _ => .inl).trans (k2.mono fun _ _ h => .inr (.inr (.inl h)))⟩
      unfold apartP
      rw [List.map_append, HQQ.out, if_neg (fun e => hm00 (by rw [HM.out, e]; rfl)), ← hGl, hx0]; rfl
    have hrow := HP1.out.row
    have hnw : (Value.slice Ap Q.length cp).ownBlock ≠ some wb := own_not hrow HP1.out.box (by decide)
    have HRow := Lib.hid hrow
    have HNw := Lib.hid hnw
    have HZn := Lib.hid (seven_new w1.drew (.slice A m c) (.int .i64 (x0 : Int)) (.bool true) (.int .i64 0) (.int .i64 0) (.string ⟨#[]⟩) (.slice none 0 0) 87)
    obtain ⟨q, hq⟩ : ∃ q, q = Q.length := ⟨_, rfl⟩
    have hfl := flat7_len Q
    rw [← hq] at HPE HRow hnw HNw A0 hfl a0 hQl
    generalize flat7 Q = fq at *
    have HOB := Lib.hid hob
    have HWB := Lib.hid HP1.out.box
    rw [← hq] at HWB
    rw [← hQl] at hP
    clear hv0 hrow hnw hob hx0 hq hQl
    go_upto_region 3 with fail
    go_region_law (refine step_append_lies _ rfl _ _ 65 rfl h0 87 i0 (.agg #[.slice none 0 0, .int .i64 0, .bool false, .int .i64 0, .int .i64 0, .string .empty, .slice none 0 0]) 7 96 Try.underlying65 hi0 hz0 hz1 hz2 rfl (by decide) (.slice Ap q cp) q _ (by first | rfl | simp [Act.eval]) (HRow.out.drew.alloc _) ⟨w1.heap.size, 0, none⟩ 1 1 [.slice A m c, .int .i64 (x0 : Int), .bool true, .int .i64 0, .int .i64 0, .string ⟨#[]⟩, .slice none 0 0] (by first | rfl | simp [Act.eval]) rfl HZn.out (by simp [Value.oneCell']) (by decide) (by unfold maxLen; omega) (by omega) (by simp; omega) (w1.heap.size + 1) (World.size_alloc ..) ?_; intro g cap w5 hown5 hgrow5 hat5 hlt5; have hb5 : w5.heap[wb]? = _ := (hgrow5.block wb (by simp; omega) (fun e => HNw.out e.symm)).trans ((Lib.alloc_old w1.drew _ wb hwl).trans HWB.out); have z0 := (cells_four hb5).1; have t0 := Lib.frozen_of_heap hb5 0; have HFin := Lib.hid (HPE.out g cap w5 hown5 (by rw [HOB.out]; exact hgrow5)); clear hown5 hgrow5 hat5 hb5)
    all_goals go_wp2
    all_goals go_ret
    all_goals exact ⟨_, rfl, HFin.out⟩

end Go.Proofs.Ytfenlhbkdfmneaa.Cap
