/- The program's numbers of new blocks. -/
import Derived.WalkKit
import Derived.WalkSpells
import Derived.IntWalk
import Derived.OwnWalk
import Derived.StillTailTactics
import Derived.Maps.AppendAt
import Derived.Deep.DeepCutAuto
import Derived.Test.YtfenlhbkdfmneaaCmm
import Derived.Test.YtfenlhbkdfmneaaCops
import Derived.Test.YtfenlhbkdfmneaaStrs
namespace Go.Proofs.Ytfenlhbkdfmneaa.Cnm
open Go Go.RowKit Go.Proofs.Ytfenlhbkdfmneaa.Spl Go.Proofs.Ytfenlhbkdfmneaa.Cpl Go.Proofs.Ytfenlhbkdfmneaa.Cin Go.Proofs.Ytfenlhbkdfmneaa.Cops Go.Proofs.Ytfenlhbkdfmneaa.Cmc Go.Proofs.Ytfenlhbkdfmneaa.Cmm
open Go.Proofs.Ytfenlhbkdfmneaa.Pure (bs)

theorem infoInt : (Try.prog.info? 3).map (fun i => (i.zero, i.size, i.bytes)) = some (some (.int .i64 0), 1, 8) := by kernel_rfl
theorem infoOps : (Try.prog.info? 42).map (fun i => (i.zero, i.size, i.bytes)) = some (some (.slice none 0 0), 1, 24) := by kernel_rfl
theorem own_slice {w : World} {B e sz n : Nat} {v : Value} {xs : List Value} (h : w.ownsRow B e sz v n xs) : ∃ A c, v = .slice A n c := by
  rcases h.2 with ⟨h1, h2⟩ | ⟨g, cap, _, h1, _⟩
  · exact ⟨none, 0, by rw [h1, h2]⟩
  · exact ⟨_, cap, h1⟩
theorem own_mono {w : World} {base base' : Nat} {e : TypeId} {size : Nat} {v : Value} {n : Nat} {xs : List Value} (h : w.ownsRow base e size v n xs) (hb : base' ≤ base) : w.ownsRow base' e size v n xs :=
  ⟨h.1, h.2.imp id fun ⟨g, cap, cur, h1, h2, h3⟩ => ⟨g, cap, cur, h1, Nat.le_trans hb h2, h3⟩⟩
theorem Kp.set_new {h : Nat} {X : Nat → Obj → Prop} {w W : World} (a : Kp h X w W) (hz : h ≤ w.heap.size) {b : Nat} (hb : w.heap.size ≤ b) (j : Nat) (u : Value) : Kp h X w (W.setCell ⟨b, j, none⟩ u) :=
  ⟨a.below.setCell (p := ⟨b, j, none⟩) (Nat.le_trans hz hb) u, fun k o hk hx => by
    rw [heap_setCell_other W ⟨b, j, none⟩ k u (fun e => by
      have e : k = b := e
      have := heap_lt hk; omega)]
    exact a.keep k o hk hx⟩
/-- a row whose block no store meets -/
theorem own_set {w : World} {B e sz n b : Nat} {v : Value} {xs : List Value} (h : w.ownsRow B e sz v n xs) (hb : v.ownBlock ≠ some b) (j : Nat) (u : Value) : (w.setCell ⟨b, j, none⟩ u).ownsRow B e sz v n xs := by
  refine ⟨h.1, ?_⟩
  rcases h.2 with h0 | ⟨g, cap, cu, rfl, hB, hg, hr⟩
  · exact .inl h0
  · refine .inr ⟨g, cap, cu, rfl, hB, ?_, hr⟩
    rw [heap_setCell_other w ⟨b, j, none⟩ g u (fun e => hb (by
      have e : g = b := e
      rw [e]; rfl))]
    exact hg
def numbers (q j m : Nat) : List Int := (List.range' q j).map Int.ofNat ++ List.replicate (m - j) 0
theorem numbers_set {q j m : Nat} (h : j < m) : (numbers q j m).set j ((q + j : Nat) : Int) = numbers q (j + 1) m := by
  unfold numbers
  have hl : ((List.range' q j).map Int.ofNat).length = j := by rw [List.length_map, List.length_range']
  obtain ⟨d, hd⟩ : ∃ d, m - j = d + 1 := ⟨m - j - 1, by omega⟩
  have hd' : m - (j + 1) = d := by omega
  rw [hd, hd', List.set_append_right _ _ (by omega), hl, Nat.sub_self, List.replicate_succ, List.set_cons_zero]
  rw [List.range'_concat, List.map_append, List.append_assoc]
  simp
theorem numbers_done (q m : Nat) : numbers q m m = (List.range' q m).map Int.ofNat := by
  unfold numbers
  rw [Nat.sub_self, List.replicate_zero, List.append_nil]

/-- many new blocks -/
theorem codes_many {h cb m : Nat} {w W : World} {vB v' : Value} {G : List Rw} (c : Codes h cb w vB G) (k : Kp h (XN cb) w W) (hbox : W.heap[cb]? = some (.cells #[v'] 25))
    (hrow : W.ownsRow h 42 1 v' (G.length + m) (G.map (·.1) ++ List.replicate m (.slice none 0 0))) : Codes h cb W v' (G ++ List.replicate m (.slice none 0 0, [])) := by
  refine ⟨c.ge, hbox, ?_, fun g hg => ?_, fun g hg y hy => ?_, fun i j a b hij ha hb => ?_⟩
  · rw [List.length_append, List.length_replicate, List.map_append, List.map_replicate]
    exact hrow
  · rcases List.mem_append.1 hg with hg | hg
    · exact k.own (c.ops g hg) fun _ _ => xn_not (by decide) (by decide)
    · rw [(List.mem_replicate.1 hg).2]
      exact World.ownsRow_nil ..
  · rcases List.mem_append.1 hg with hg | hg
    · exact k.own (c.nums g hg y hy) fun _ _ => xn_not (by decide) (by decide)
    · rw [(List.mem_replicate.1 hg).2] at hy
      cases hy
  · by_cases hi : i < G.length
    · rw [List.getElem?_append_left hi] at ha
      by_cases hj : j < G.length
      · rw [List.getElem?_append_left hj] at hb
        exact c.apart i j a b hij ha hb
      · rw [List.getElem?_append_right (by omega)] at hb
        have e := (List.mem_replicate.1 (List.mem_of_getElem? hb)).2
        subst e
        cases hab : a.1.ownBlock with
        | none => exact .inl rfl
        | some _ => right; intro e; cases e
    · rw [List.getElem?_append_right (by omega)] at ha
      have e := (List.mem_replicate.1 (List.mem_of_getElem? ha)).2
      subst e
      exact .inl rfl

set_option maxRecDepth 100000 in
set_option maxHeartbeats 4000000 in
theorem number_is (h cb m : Nat) (vB : Value) (G : List Rw) (w : World) (hc : Codes h cb w vB G) (hz : h ≤ w.heap.size) (hm : m ≤ 1000000) (hG : G.length ≤ 1000000) :
    Calls Try.prog 26 #[.int .i64 (m : Int), .pointer (some ⟨cb, 0, none⟩)] w fun e W' => ∃ nv v', e = .returned nv ∧ W'.ownsRow h 3 1 nv m (((List.range' G.length m).map Int.ofNat).map (Value.int .i64)) ∧ Codes h cb W' v' (G ++ List.replicate m (.slice none 0 0, [])) ∧ Kp h (XN cb) w W' := by
  obtain ⟨i0, hi, hz0, hz1, hz2⟩ := info_parts infoInt
  obtain ⟨j0, hj, hj0, hj1, hj2⟩ := info_parts infoOps
  have hlt := heap_lt hc.box
  have HC := Lib.hid hc
  obtain ⟨q, hq⟩ : ∃ q, q = G.length := ⟨_, rfl⟩
  have HQ := Lib.hid hq
  rw [← hq] at hG ⊢
  clear hc hq
  go_enter Try.func26, Try.ntmps26
  go_wp2_with (at_make; refine wpList_make_full _ rfl _ _ 22 rfl w.heap.size 3 i0 (.int .i64 0) 1 Try.underlying22 hi hz0 hz1 .i64 .i64 _ _ m rfl rfl rfl rfl ?c1 ?c2 ?c3 ?_)
  case c1 => rw [hz2]; omega
  case c2 => unfold maxLen; omega
  case c3 => exact Nat.le_refl _
  intro w1 hown1 hgrow1
  have k1 : Kp h (XN cb) w w1 := ⟨⟨hgrow1.os, hgrow1.tape, hgrow1.output, hgrow1.size, fun k hk => hgrow1.block k (by omega) (by intro e; cases e)⟩, fun k o hk _ => (hgrow1.block k (heap_lt hk) (by intro e; cases e)).trans hk⟩
  have hown2 : w1.ownsRow w.heap.size 3 1 (.slice (some ⟨w.heap.size, 0, none⟩) m m) m ((numbers q 0 m).map (Value.int .i64)) := by
    have e : (madeCells #[Value.int .i64 0] m).toList = (numbers q 0 m).map (Value.int .i64) := by
      rw [toList_madeCells_one]
      unfold numbers
      simp
    rw [← e]
    simpa using hown1
  have hb1 : Below w.heap.size w w1 := ⟨hgrow1.os, hgrow1.tape, hgrow1.output, hgrow1.size, fun k hk => hgrow1.block k hk (by intro e; cases e)⟩
  have c1 := HC.out.on hb1 hz
  have HB1 : Hid (w1.heap[cb]? = some (.cells #[vB] 25)) := c1.box
  have HR1 : Hid (w1.ownsRow h 42 1 vB (q + 0) (G.map (·.1) ++ List.replicate 0 (.slice none 0 0))) := by
    show w1.ownsRow _ _ _ _ _ _
    rw [List.replicate_zero, List.append_nil, Nat.add_zero, HQ.out]
    exact c1.row
  have HN1 := Lib.hid hown2
  have HK1 := Lib.hid k1
  clear k1 hown1 hown2 hgrow1 hb1 c1
  go_wp2_with fail
  go_loopw [10] (fun i wr => ∃ (j : Nat) (v' : Value), j ≤ m ∧ i = .int .i64 (j : Int) ∧ Hid (wr.heap[cb]? = some (.cells #[v'] 25)) ∧ Hid (wr.ownsRow h 42 1 v' (q + j) (G.map (·.1) ++ List.replicate j (.slice none 0 0))) ∧ Hid (wr.ownsRow w.heap.size 3 1 (.slice (some ⟨w.heap.size, 0, none⟩) m m) m ((numbers q j m).map (Value.int .i64))) ∧ Hid (Kp h (XN cb) w wr)) (fun i _ => m - (intOf i).toNat)
  case atStart => exact ⟨0, vB, Nat.zero_le _, rfl, HB1, HR1, HN1, HK1⟩
  case round =>
    obtain ⟨j, v', hjm, rfl, HX, HR, HN, HK⟩ := hrel
    by_cases hjlt : j < m
    · obtain ⟨A, cA, rfl⟩ := own_slice HR.out
      have hnl : ((numbers q j m).map (Value.int .i64)).length = m := by have := HN.out.1; omega
      obtain ⟨u, hu⟩ : ∃ u, ((numbers q j m).map (Value.int .i64))[j]? = some u := ⟨_, List.getElem?_eq_getElem (by omega)⟩
      have a0 := one_cell HX.out
      have a1 := (HN.out.cellAt j (by omega)).trans hu
      have a2 := HN.out.frozenAt j
      have hij : (j : Int) < (m : Int) := by omega
      go_upto_region 6 with fail
      obtain ⟨W1, hW1⟩ : ∃ W1, W1 = wr.setCell ⟨w.heap.size, j, none⟩ (.int .i64 ((q : Int) + (j : Int))) := ⟨_, rfl⟩
      rw [← hW1]
      have hbx : W1.heap[cb]? = some (.cells #[.slice A (q + j) cA] 25) := by rw [hW1, heap_setCell_other wr ⟨w.heap.size, j, none⟩ cb _ (fun e => by have e : cb = w.heap.size := e; omega)]; exact HX.out
      have hown : W1.ownsRow h 42 1 (.slice A (q + j) cA) (q + j) (G.map (·.1) ++ List.replicate j (.slice none 0 0)) := by rw [hW1]; exact own_set HR.out ((own_type HR.out HN.out (by decide)).elim (fun e1 e2 => by rw [e1] at e2; cases e2) id) _ _
      have HN1' : Hid (W1.ownsRow w.heap.size 3 1 (.slice (some ⟨w.heap.size, 0, none⟩) m m) m ((numbers q (j + 1) m).map (Value.int .i64))) := by
        show W1.ownsRow _ _ _ _ _ _
        rw [← numbers_set hjlt, List.map_set, hW1]
        exact (HN.out.stored j _).1
      have HK1' : Hid (Kp h (XN cb) w W1) := by rw [hW1]; exact Kp.set_new HK.out hz (Nat.le_refl _) _ _
      have hz1' : h ≤ W1.heap.size := Nat.le_trans hz HK1'.out.below.size
      have HX1 := Lib.hid hbx
      have hcl := heap_lt hbx
      clear a0 a1 a2 hu hnl HK HN HR HX hW1
      have a0 := one_cell hbx
      have a3 := one_cell ((Lib.alloc_old W1 (.cells #[.slice none 0 0] 42) cb hcl).trans hbx)
      clear hbx
      go_wp2_with (at_builtin; refine wpList_append_own _ rfl _ _ 23 rfl h 42 j0 (.slice none 0 0) 1 24 Try.underlying23 hj hj0 hj1 hj2 rfl (by decide) _ _ _ rfl (hown.alloc _) ⟨W1.heap.size, 0, none⟩ 1 1 [.slice none 0 0] rfl rfl (cell_one_new _ _ _) (by simp [Value.oneCell']) (by unfold maxLen; omega) (by omega) (by simp; omega) ?_; intro v' w2 hown' hgrow _; obtain ⟨A2, c2, rfl⟩ := own_slice hown'; have k2 : Kp h (fun _ o => isT 42 o) W1 w2 := (Kp.refl h _ W1).alloc hz1' _ |>.trans (Kp.grown hgrow (hown.alloc _) (Nat.le_refl _) (by simp; omega) fun _ _ _ => ⟨_, _, rfl⟩); have hb2 : w2.heap[cb]? = some (.cells #[.slice A (q + j) cA] 25) := k2.keep cb _ HX1.out (isT_ne (by decide)); have b0 := one_cell hb2; have b1 := Lib.frozen_of_heap hb2 0; have HO2 := Lib.hid hown'; have HK2 := Lib.hid k2; have HB2 := Lib.hid hb2; clear k2 hown' hgrow hb2)
      go_roundw
      case rel =>
        refine ⟨j + 1, _, hjlt, by go_num, heap_setCell_same w2 cb 0 _ _ _ HB2.out, ?_, ?_, ?_⟩
        · show World.ownsRow _ _ _ _ _ _ _
          rw [List.replicate_succ', ← List.append_assoc]
          exact own_set HO2.out (own_not HO2.out HB2.out (by decide)) _ _
        · show World.ownsRow _ _ _ _ _ _ _
          have h2 := HK2.out.own HN1'.out (fun _ _ => isT_ne (by decide))
          exact own_set h2 (own_not h2 HB2.out (by decide)) _ _
        · refine (HK1'.out.trans (HK2.out.mono fun _ _ => .inr)).trans ?_
          exact Kp.set cb 0 _ HC.out.ge fun o ho => by
            rw [HB2.out] at ho
            cases ho
            exact .inl ⟨rfl, _, _, rfl⟩
      case measure => simp [intOf]; omega
    · obtain rfl : j = m := by omega
      go_wp2_with fail
      go_ret
      refine ⟨_, v', rfl, ?_, codes_many HC.out HK.out HX.out (by rw [← HQ.out]; exact HR.out), HK.out⟩
      rw [← numbers_done]
      exact own_mono HN.out hz

end Go.Proofs.Ytfenlhbkdfmneaa.Cnm
