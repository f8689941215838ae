/- The program's walk of two expansions: one step. -/
import Derived.Deep.DeepCutAuto
import Derived.Test.YtmcdefkpkpaceaaGreatDoorKsaJ
namespace Go.Proofs.YtmcdefkpkpaceaaGreatDoor.Ksc
open Go Go.RowKit Go.Proofs.YtmcdefkpkpaceaaGreatDoor.Spl Go.Proofs.YtmcdefkpkpaceaaGreatDoor.Nodm Go.Proofs.YtmcdefkpkpaceaaGreatDoor.Nz Go.Proofs.YtmcdefkpkpaceaaGreatDoor.Qwhole Go.Proofs.YtmcdefkpkpaceaaGreatDoor.Kpl Go.Proofs.YtmcdefkpkpaceaaGreatDoor.Kkd Go.Proofs.YtmcdefkpkpaceaaGreatDoor.Kru Go.Proofs.YtmcdefkpkpaceaaGreatDoor.Ksa Go.Proofs.YtmcdefkpkpaceaaGreatDoor.Ksb
open Go.Proofs.YtmcdefkpkpaceaaGreatDoor.Pure (bs)

/-- the last pair's cells -/
theorem last_cells {W : World} {B : Nat} {v : Value} {T : List (Value × Value)} {x : Value × Value} (h : W.ownsRow B 121 2 v (T ++ [x]).length (flat (T ++ [x]))) :
    ∃ g cap, v = .slice (some ⟨g, 0, none⟩) (T.length + 1) cap ∧ T.length + 1 ≤ cap ∧ cap ≤ maxLen ∧ W.cell? ⟨g, T.length * 2, none⟩ = some x.1 ∧ W.cell? ⟨g, T.length * 2 + 1, none⟩ = some x.2 ∧ (∃ cs, W.heap[g]? = some (.cells cs 121)) ∧ W.ownsRow B 121 2 (.slice (some ⟨g, 0, none⟩) T.length cap) T.length (flat T) := by
  have hlen : (T ++ [x]).length = T.length + 1 := by rw [List.length_append, List.length_singleton]
  rw [hlen] at h
  rcases h.2 with ⟨_, h0⟩ | ⟨g, cap, cur, rfl, hB, hg, hcap, hmax, hsz, htk⟩
  · omega
  · have hat : ∀ i, i < 2 → cur[T.length * 2 + i]? = ([x.1, x.2] : List Value)[i]? := fun i hi => by
      have e : (flat (T ++ [x]))[T.length * 2 + i]? = ([x.1, x.2] : List Value)[i]? := by
        rw [flat_app, List.getElem?_append_right (by rw [flat_len]; omega), flat_len, Nat.add_sub_cancel_left]; rfl
      rw [← e, ← htk, List.getElem?_take, if_pos (by omega), Array.getElem?_toList]
    refine ⟨g, cap, rfl, hcap, hmax, ?_, ?_, ⟨cur, hg⟩, ?_, .inr ⟨g, cap, cur, rfl, hB, hg, by omega, hmax, hsz, ?_⟩⟩
    · rw [Lib.cell_of_heap hg]; exact hat 0 (by decide)
    · rw [Lib.cell_of_heap hg]; exact hat 1 (by decide)
    · exact flat_len T
    · have e : (flat (T ++ [x])).take (T.length * 2) = flat T := by
        rw [flat_app, List.take_left']
        exact flat_len T
      rw [← e, ← htk, List.take_take]
      congr 1
      omega

theorem Ws.on {X : Nat → Prop} {B sb laid : Nat} {T : List (Value × Value)} {W W' : World} (h : Ws X B sb T laid W) (hb : Below W.heap.size W W') : Ws X B sb T laid W' := by
  obtain ⟨v, m, h1, h2, h3⟩ := h.st
  exact ⟨h.ge, v, m, (hb.block sb (Array.getElem?_eq_some_iff.1 h1).1).trans h1, own_keep h2 fun g hg => hb.block g (h2.lt g hg).2, fun k hk => ⟨Nat.lt_of_lt_of_le (h3 k hk).1 hb.size, (h3 k hk).2⟩⟩
theorem Ws.less {X Y : Nat → Prop} {B sb laid : Nat} {T : List (Value × Value)} {W : World} (h : Ws X B sb T laid W) (hY : ∀ k, Y k → X k) : Ws Y B sb T laid W := by
  obtain ⟨v, m, h1, h2, h3⟩ := h.st
  exact ⟨h.ge, v, m, h1, h2, fun k hk => h3 k (hY k hk)⟩
theorem str_eq (s t : T) : ((bs s).toList == (bs t).toList) = decide (s = t) := by
  rw [Lib.toList_data, Lib.toList_data]
  rw [Bool.eq_iff_iff, beq_iff_eq, decide_eq_true_iff]
  exact Iff.rfl

theorem pairs_cnt {S : Nat → Prop} {w0 : World} : ∀ {T : List (Value × Value)} {P : List Pr}, PairsOk S w0 T P → T.length ≤ sumL P
  | [], [], _ => Nat.zero_le _
  | _ :: _, p :: _, h => by
    obtain ⟨_, _, _, _, _, _, _, _, h1⟩ := h.1
    have := pairs_cnt h.2
    rw [List.length_cons, sumL]; omega
  | [], _ :: _, h => h.elim
  | _ :: _, [], h => h.elim
theorem qof_less (l l' : List Nz) (j : Nat) (h : l.length = l'.length) : sumL (qof (l.take j) (l'.take j)) + l.length ≤ sizs l := by
  have h1 := qof_app (l.take j) (l.drop j) (l'.take j) (l'.drop j) (by rw [List.length_take, List.length_take]; omega)
  rw [List.take_append_drop, List.take_append_drop] at h1
  have h2 := sumS_qof l l' h
  have h3 := sumL_le (qof l l')
  rw [h1, sumL_app] at h3
  rw [h1] at h2
  omega
theorem node_inv {S : Nat → Prop} {w : World} {k : Int} {x : ByteArray} {A : Option Addr} {n c : Nat} {s : T} {m : List Nz} (h : NzIn S w (.agg #[.int .i64 k, .string x, .slice A n c]) (.mk k s m)) : NzsIn S w A c m := by
  obtain ⟨A', c', e, h⟩ := h.inv
  simp only [Value.agg.injEq, Array.mk.injEq, List.cons.injEq, Value.slice.injEq, and_true, true_and] at e
  obtain ⟨_, rfl, _, rfl⟩ := e
  exact h

set_option maxRecDepth 100000 in
set_option maxHeartbeats 4000000 in
theorem step_is (X : Nat → Prop) (B sb : Nat) (w0 : World) (Ts : List (Value × Value)) (P : List Pr) (x : Value × Value) (p : Pr) (laid : Nat) (w : World) (h : Ws X B sb (Ts ++ [x]) laid w) (hb : Below B w0 w) (hbz : B ≤ w0.heap.size) (hk0 : ∀ k, X k → w.heap[k]? = w0.heap[k]?) (hB : B ≤ w.heap.size)
    (hT : PairsOk (fun g => g < B ∨ X g) w0 Ts P) (hx : PairOk (fun g => g < B ∨ X g) w0 x p) (hl : laid + (sizs p.1 - p.1.length) ≤ 131072) (hP2 : sumL P ≤ laid) (hP3 : p.1.length ≤ 131072) :
    Calls Tryz.prog 35 #[.pointer (some ⟨sb, 0, none⟩)] w fun e W' => ∃ z : Bool, e = .returned (.bool z) ∧ Below B w W' ∧ (∀ k, X k → W'.heap[k]? = w.heap[k]?) ∧
      (z = false → p.1 ≠ p.2) ∧ (z = true → (∃ T', Ws X B sb (Ts ++ T') (laid + sumL (qof p.1 p.2)) W' ∧ PairsOk (fun g => g < B ∨ X g) w0 (Ts ++ T') (P ++ qof p.1 p.2)) ∧ (AllEq (qof p.1 p.2) ↔ p.1 = p.2)) := by
  obtain ⟨l, l'⟩ := p
  obtain ⟨A, c, A', c', rfl, hn1, hn2, hlen, hpos⟩ := hx
  obtain ⟨v, m, hg, hown, hXw⟩ := h.st
  have hge := h.ge
  obtain ⟨g, cap, rfl, hcap, hmax, e0, e1, ⟨cs, hgg⟩, hown'⟩ := last_cells hown
  have hXw2 : ∀ k, X k → k < w.heap.size ∧ k ≠ sb ∧ g ≠ k := fun k hk => ⟨(hXw k hk).1, (hXw k hk).2.1, fun e => (hXw k hk).2.2 (by rw [← e]; rfl)⟩
  have HXw := Lib.hid hXw2
  have HK0 := Lib.hid hk0
  have HBz := Lib.hid hbz
  clear hXw hXw2 hk0 hbz
  have hgsb : g ≠ sb := fun e => by
    rw [e, hg] at hgg
    simp only [Option.some.injEq, Obj.cells.injEq] at hgg
    exact absurd hgg.2.1 (by decide)
  obtain ⟨n, hn⟩ : ∃ n, n = Ts.length := ⟨_, rfl⟩
  rw [← hn] at e0 e1 hown' hcap
  obtain ⟨n1, hnn⟩ : ∃ n1, n1 = n + 1 := ⟨_, rfl⟩
  have hs : (Value.slice (some ⟨g, 0, none⟩) (Ts.length + 1) cap) = .slice (some ⟨g, 0, none⟩) n1 cap := by rw [← hn, hnn]
  rw [hs] at hg
  have v1 : IntKind.i64.wrap ((n1 : Int) - 1) = (n : Int) := by rw [hnn, Int.natCast_add, Int.natCast_one, Int.add_sub_cancel]; exact IntWalk.i64_in _ (by unfold maxLen at hmax; omega)
  have b0 : (0 : Int) ≤ (n : Int) := by omega
  have b1 : (n : Int) < (n1 : Int) := by omega
  have b2 : (n : Int) ≤ (cap : Int) := by omega
  dsimp only at e0 e1 hn1 hn2 hlen hpos hl hP3
  obtain ⟨q, hq⟩ : ∃ q, q = l.length := ⟨_, rfl⟩
  rw [← hlen, ← hq] at e1
  rw [← hq] at e0
  obtain ⟨a0, a1, a2⟩ := cells_three hg
  have f0 := Lib.frozen_of_heap hg 0
  have hsl : sb < w.heap.size := (Array.getElem?_eq_some_iff.1 hg).1
  have hgl : g < w.heap.size := (Array.getElem?_eq_some_iff.1 hgg).1
  have HG := Lib.hid hg
  have HGG := Lib.hid hgg
  have HOw := Lib.hid hown'
  have HN := Lib.hid (And.intro hn hnn)
  have HQ := Lib.hid hq
  have HL1 := Lib.hid hn1
  have HL2 := Lib.hid hn2
  clear hown hown' hg hgg hs hn hnn hmax h hn1 hn2 hq
  go_enter Tryz.func35, Tryz.ntmps35
  go_wp2_with fail
  go_region
  obtain ⟨W2, hW2⟩ : ∃ W2, W2 = (w.alloc (.cells #[.slice A q c, .slice A' q c'] 121)).drew := ⟨_, rfl⟩
  obtain ⟨pb, hpb⟩ : ∃ pb, pb = w.heap.size := ⟨_, rfl⟩
  rw [← hW2, ← hpb]
  have hb2 : Below w.heap.size w W2 := by rw [hW2]; exact (alloc_below w _).drew
  have hp2 : W2.heap[pb]? = some (.cells #[.slice A q c, .slice A' q c'] 121) := by rw [hW2, hpb]; exact heap_alloc_new w _
  have hs2 : W2.heap.size = w.heap.size + 1 := by rw [hW2]; show (w.alloc _).heap.size = _; rw [World.size_alloc]
  have hg2 := (hb2.block sb hsl).trans HG.out
  have HO2 := Lib.hid (own_keep HOw.out fun k hk => hb2.block k (HOw.out.lt k hk).2)
  have HB2 := Lib.hid (hb2.mono hB)
  have HX2 : Hid (∀ k, X k → W2.heap[k]? = w.heap[k]?) := fun k hk => hb2.block k (HXw.out k hk).1
  have HP2 := Lib.hid hp2
  have HG2 := Lib.hid hg2
  have hpl : pb < W2.heap.size := by omega
  have hps : pb ≠ sb := by omega
  have hpg : pb ≠ g := by omega
  have HS2 := Lib.hid hs2
  have HPb := Lib.hid hpb
  clear hW2 hb2 hp2 hs2 a0 a1 a2 f0 e0 e1 hpb
  obtain ⟨a0, a1, a2⟩ := cells_three hg2
  have f0 := Lib.frozen_of_heap hg2 0
  have hsl2 : sb < W2.heap.size := (Array.getElem?_eq_some_iff.1 hg2).1
  clear hg2
  go_wp2_with fail
  go_region
  obtain ⟨W3, hW3⟩ : ∃ W3, W3 = (W2.setCell ⟨sb, 0, none⟩ (.slice (some ⟨g, 0, none⟩) n cap)).drew := ⟨_, rfl⟩
  rw [← hW3]
  have hg3 : W3.heap[sb]? = some (.cells #[.slice (some ⟨g, 0, none⟩) n cap, .int .i64 (laid : Int), m] 88) := by rw [hW3]; exact heap_setCell_same W2 sb 0 _ _ _ HG2.out
  have hoth : ∀ k, k ≠ sb → W3.heap[k]? = W2.heap[k]? := fun k hk => by rw [hW3]; exact heap_setCell_other W2 ⟨sb, 0, none⟩ k _ hk
  have ho3 : W3.ownsRow B 121 2 (.slice (some ⟨g, 0, none⟩) n cap) Ts.length (flat Ts) := by
    rw [← HN.out.1]
    refine own_keep HO2.out fun k hk => hoth k ?_
    have : g = k := by simpa [Value.ownBlock] using hk
    exact fun e => hgsb (this.trans e)
  have hs3 : W3.heap.size = W2.heap.size := by rw [hW3]; show (W2.setCell _ _).heap.size = _; simp
  have HX3 : Hid (∀ k, X k → W3.heap[k]? = w.heap[k]?) := fun k hk => (hoth k (HXw.out k hk).2.1).trans (HX2.out k hk)
  have HWs : Hid (Ws (fun k => X k ∨ k = pb) B sb Ts laid W3) := ⟨hge, _, m, hg3, ho3, fun k hk => by
    rcases hk with hk | hk
    · obtain ⟨u1, u2, u3⟩ := HXw.out k hk
      refine ⟨by have := HS2.out; omega, u2, fun e => u3 ?_⟩
      simpa [Value.ownBlock] using e
    rw [hk]
    refine ⟨by omega, hps, fun e => hpg ?_⟩
    have : g = pb := by simpa [Value.ownBlock] using e
    exact this.symm⟩
  have HB3 : Hid (Below B w W3) := by rw [hW3]; exact (HB2.out.setCell (p := ⟨sb, 0, none⟩) hge _).drew
  have HP3 := Lib.hid ((hoth pb hps).trans HP2.out)
  have HL := Lib.hid (And.intro hl (And.intro hP2 hP3))
  have HPs := Lib.hid hT
  have HLen := Lib.hid hlen
  clear hW3 hg3 hoth ho3 hs3 a0 a1 a2 f0 hsl2 hsl hgl v1 b0 b1 b2 hcap hgsb HG HGG HOw HO2 HP2 HG2 HB2 HS2 hpl hps hpg hT hl hlen hP2 hP3
  have HBw := Lib.hid hb
  clear hb
  obtain ⟨e0, e1⟩ := two_cells HP3.out
  go_wp2_with fail
  clear e0 e1
  go_loopw [36] (fun i wr => ∃ (j : Nat) (T' : List (Value × Value)), j ≤ q ∧ i = .int .i64 (j : Int) ∧ Hid (Ws (fun k => X k ∨ k = pb) B sb (Ts ++ T') (laid + sumL (qof (l.take j) (l'.take j))) wr) ∧ Hid (PairsOk (fun g => g < B ∨ X g) w0 (Ts ++ T') (P ++ qof (l.take j) (l'.take j))) ∧ Hid (Below B w wr) ∧ Hid (∀ k, X k → wr.heap[k]? = w.heap[k]?) ∧ Hid (wr.heap[pb]? = some (.cells #[.slice A q c, .slice A' q c'] 121)) ∧ Hid (∀ (i : Nat) (x y : Nz), i < j → l[i]? = some x → l'[i]? = some y → top x y)) (fun i _ => q - (intOf i).toNat)
  case atStart => exact ⟨0, [], Nat.zero_le _, rfl, by show Ws _ _ _ _ _ _; rw [List.take_zero, List.take_zero, List.append_nil]; exact HWs.out, by show PairsOk _ _ _ _; rw [List.take_zero, List.take_zero, List.append_nil]; show PairsOk _ _ _ (P ++ []); rw [List.append_nil]; exact HPs.out, HB3, HX3, HP3, fun i x y h => absurd h (Nat.not_lt_zero _)⟩
  case round =>
    obtain ⟨j, T', hj, rfl, HWr, HPr, HBr, HXr, HQr, HTr⟩ := hrel
    obtain ⟨e0, e1⟩ := two_cells HQr.out
    by_cases hlt : j < q
    · have hl1 : j < l.length := by have := HQ.out; omega
      have hl2 : j < l'.length := by have := HQ.out; have := HLen.out; omega
      obtain ⟨⟨k, s, mm⟩, hx⟩ : ∃ x, l[j]? = some x := ⟨_, List.getElem?_eq_getElem hl1⟩
      obtain ⟨⟨k', s', mm'⟩, hy⟩ : ∃ x, l'[j]? = some x := ⟨_, List.getElem?_eq_getElem hl2⟩
      obtain ⟨b1, o1, A1, c1, rfl, hb1, hB1, hxi, hc1⟩ := HL1.out.at_ hx
      obtain ⟨b2, o2, A2, c2, rfl, hb2, hB2, hyi, hc2⟩ := HL2.out.at_ hy
      obtain ⟨n0, n1', n2⟩ := hc1 wr (hB1.elim (fun hh => (HBw.out.trans HBr.out).block b1 hh) (fun hh => (HXr.out b1 hh).trans (HK0.out b1 hh)))
      obtain ⟨p0, p1, p2⟩ := hc2 wr (hB2.elim (fun hh => (HBw.out.trans HBr.out).block b2 hh) (fun hh => (HXr.out b2 hh).trans (HK0.out b2 hh)))
      have HX := Lib.hid hx
      have HY := Lib.hid hy
      have HXi := Lib.hid hxi
      have HYi := Lib.hid hyi
      have hstr := str_eq s s'
      obtain ⟨ml, hml⟩ : ∃ ml, ml = mm.length := ⟨_, rfl⟩
      obtain ⟨ml', hml'⟩ : ∃ ml', ml' = mm'.length := ⟨_, rfl⟩
      rw [← hml] at n2
      rw [← hml'] at p2
      have HM := Lib.hid (And.intro hml hml')
      clear hx hy hxi hyi hc1 hc2 hl1 hl2 hml hml'
      generalize bs s = xs at *
      generalize bs s' = xs' at *
      have hpw : pb < wr.heap.size := (Array.getElem?_eq_some_iff.1 HQr.out).1
      have hBz : B ≤ wr.heap.size := Nat.le_trans hB HBr.out.size
      have hb2w : b2 < wr.heap.size := hB2.elim (fun hh => Nat.lt_of_lt_of_le hh hBz) (fun hh => Nat.lt_of_lt_of_le (HXw.out b2 hh).1 (Nat.le_trans (Nat.le_refl _) HBr.out.size))
      go_upto_region 7 with fail
      obtain ⟨wn, hwn⟩ : ∃ wn, wn = (wr.alloc (.cells #[.int .i64 k, .string xs, .slice A1 ml c1] 25)).alloc (.cells #[.int .i64 k', .string xs', .slice A2 ml' c2] 25) := ⟨_, rfl⟩
      obtain ⟨G, hG⟩ : ∃ G, G = wr.heap.size := ⟨_, rfl⟩
      rw [← hwn, ← hG]
      have hz1 := World.size_alloc wr (.cells #[.int .i64 k, .string xs, .slice A1 ml c1] 25)
      have hbn : Below wr.heap.size wr wn := by rw [hwn]; exact (alloc_below wr _).alloc (by omega) _
      have hgn1 : wn.heap[G]? = some (.cells #[.int .i64 k, .string xs, .slice A1 ml c1] 25) := by rw [hwn, hG]; exact kept _ (heap_alloc_new wr _)
      have hgn2 : wn.heap[G + 1]? = some (.cells #[.int .i64 k', .string xs', .slice A2 ml' c2] 25) := by rw [hwn]; exact newAt _ (by omega)
      have HWn := Lib.hid (Ws.on HWr.out hbn)
      have HBn := Lib.hid (HBr.out.trans (hbn.mono hBz))
      have HXn : Hid (∀ k, X k → wn.heap[k]? = w.heap[k]?) := fun k hk => (hbn.block k (Nat.lt_of_lt_of_le (HXw.out k hk).1 HBr.out.size)).trans (HXr.out k hk)
      have HQn := Lib.hid ((hbn.block pb hpw).trans HQr.out)
      clear n0 n1' n2 p0 p1 p2 e0 e1 hwn hG hz1 hbn hpw hb2w hBz HWr HQr
      obtain ⟨n0, n1', n2⟩ := cells_three hgn1
      obtain ⟨p0, p1, p2⟩ := cells_three hgn2
      clear hgn1 hgn2
      have HE : Hid (∀ (z : Nz) (y : Nz), z = .mk k s mm → y = .mk k' s' mm' → z ≠ y → l ≠ l') := fun z y h1 h2 h3 e => by
        have h4 := HX.out
        have h5 := HY.out
        rw [e] at h4
        rw [h4] at h5
        exact h3 (by rw [h1, h2]; exact Option.some.inj h5)
      by_cases hk : k = k'
      · subst hk
        by_cases hs : s = s'
        · rw [decide_eq_true hs] at hstr
          by_cases hm : ml = ml'
          · have HTop : Hid (top (.mk k s mm) (.mk k s' mm')) := ⟨rfl, hs, by rw [← HM.out.1, ← HM.out.2]; exact hm⟩
            have hme : ((ml : Int) == (ml' : Int)) = true := by rw [beq_iff_eq]; omega
            have hmn : ((ml : Int) != (ml' : Int)) = false := by rw [hm]; simp
            obtain ⟨j1, hj1⟩ : ∃ j1, j1 = j + 1 := ⟨_, rfl⟩
            have v4 : IntKind.i64.wrap ((j : Int) + 1) = ((j1 : Nat) : Int) := by rw [hj1]; exact IntWalk.i64_in _ (by have := HL.out; have := HQ.out; omega)
            have HJ := Lib.hid hj1
            have hq1 := qof_snoc HX.out HY.out
            rw [← hj1] at hq1
            have HQ1 := Lib.hid hq1
            have HSL : Hid (sumL (qof (l.take j1) (l'.take j1)) = sumL (qof (l.take j) (l'.take j)) + ml) := by show _ = _; rw [hq1, sumL_app, sumL_one, HM.out.1]
            have hT1 : ∀ (i : Nat) (x y : Nz), i < j1 → l[i]? = some x → l'[i]? = some y → top x y := fun i x y h1 h2 h3 => by
              by_cases hi : i < j
              · exact HTr.out i x y hi h2 h3
              · obtain rfl : i = j := by omega
                have h4 := HX.out
                have h5 := HY.out
                rw [h4] at h2
                rw [h5] at h3
                rw [← Option.some.inj h2, ← Option.some.inj h3]
                exact HTop.out
            have HT1 := Lib.hid hT1
            clear hj1 hq1 hT1 HTr HE
            by_cases h0 : ml = 0
            · subst h0
              have hmm : mm = [] := List.eq_nil_of_length_eq_zero HM.out.1.symm
              have hone : one (.mk k s mm) (.mk k s' mm') = [] := by rw [one, if_pos hmm]
              rw [hone, List.append_nil] at HQ1
              subst hm
              go_wp2_with (go_at_call 34; refine (ask_none sb A1 c1 _ wn).mono ?_; rintro e w5 ⟨rfl, hw5⟩; rw [hw5]; clear hw5)
              go_roundw
              case rel =>
                refine ⟨j1, T', by have := HJ.out; omega, rfl, ?_, ?_, HBn, HXn, HQn, HT1⟩
                · show Ws _ _ _ _ _ _
                  rw [HSL.out]; exact HWn.out
                · show PairsOk _ _ _ _
                  rw [HQ1.out]; exact HPr.out
              case measure => have := HJ.out; simp only [intOf]; omega
            · have hone : one (.mk k s mm) (.mk k s' mm') = [(mm, mm')] := by
                rw [one, if_neg]
                intro e
                rw [e] at HM
                exact h0 HM.out.1
              rw [hone] at HQ1
              have hcnt := pairs_cnt HPr.out
              have hles := qof_less l l' j HLen.out
              rw [sumL_app] at hcnt
              have hlen2 := sizs_len l
              have HAs := Lib.hid (ask_some (fun k => X k ∨ k = pb) B sb (Ts ++ T') _ A1 A2 ml c1 c2 wn HWn.out (Nat.le_trans hB HBn.out.size) (by have := HL.out; omega) (by have := HL.out; omega) (by omega) (by
                have := HL.out
                have h7 := sumL_le (one (.mk k s mm) (.mk k s' mm'))
                rw [sumL_one, sumS_one] at h7
                have h8 := sizs_le (List.mem_of_getElem? HX.out)
                rw [siz] at h8
                rw [HM.out.1]; omega))
              clear hcnt hles hone hlen2
              subst hm
              go_wp2_with (go_at_call 34; refine HAs.out.mono ?_; rintro e w5 ⟨rfl, h5, hb5, hx5⟩; have HW5 := Lib.hid h5; have HB5 := Lib.hid (HBn.out.trans hb5); have HQ5 := Lib.hid ((hx5 pb (.inr rfl)).trans HQn.out); have HX5 : Hid (∀ k, X k → w5.heap[k]? = w.heap[k]?) := fun k hk => (hx5 k (.inl hk)).trans (HXn.out k hk); clear h5 hb5 hx5)
              go_roundw
              case rel =>
                refine ⟨j1, T' ++ [(Value.slice A1 ml c1, Value.slice A2 ml c2)], by have := HJ.out; omega, rfl, ?_, ?_, HB5, HX5, HQ5, HT1⟩
                · show Ws _ _ _ _ _ _
                  rw [HSL.out, ← List.append_assoc, ← Nat.add_assoc]; exact HW5.out
                · show PairsOk _ _ _ _
                  rw [HQ1.out, ← List.append_assoc, ← List.append_assoc]
                  refine pairs_snoc HPr.out ⟨A1, c1, A2, c2, ?_, node_inv HXi.out, node_inv HYi.out, ?_, ?_⟩
                  · show (_, _) = (_, _)
                    rw [← HM.out.1, ← HM.out.2]
                  · rw [← HM.out.1, ← HM.out.2]
                  · rw [← HM.out.1]; omega
              case measure => have := HJ.out; simp only [intOf]; omega
          · have hme : ((ml : Int) == (ml' : Int)) = false := by rw [beq_eq_false_iff_ne]; omega
            have hmn : ((ml : Int) != (ml' : Int)) = true := by rw [bne_iff_ne]; omega
            have hne : l ≠ l' := HE.out _ _ rfl rfl (fun e => by injection e with _ _ e; apply hm; rw [HM.out.1, HM.out.2, e])
            go_wp2
            go_ret
            exact ⟨false, rfl, HBn.out, HXn.out, fun _ => hne, fun h => by cases h⟩
        · rw [decide_eq_false hs] at hstr
          have hne : l ≠ l' := HE.out _ _ rfl rfl (fun e => by injection e with _ e _; exact hs e)
          go_wp2
          go_ret
          exact ⟨false, rfl, HBn.out, HXn.out, fun _ => hne, fun h => by cases h⟩
      · have hke : (k == k') = false := beq_eq_false_iff_ne.2 hk
        have hkn : (k != k') = true := by rw [bne_iff_ne]; exact hk
        have hne : l ≠ l' := HE.out _ _ rfl rfl (fun e => by injection e with e _ _; exact hk e)
        go_wp2
        go_ret
        exact ⟨false, rfl, HBn.out, HXn.out, fun _ => hne, fun h => by cases h⟩
    · obtain rfl : j = q := by omega
      have t1 : l.take j = l := by rw [HQ.out, List.take_length]
      have t2 : l'.take j = l' := by rw [HQ.out, HLen.out, List.take_length]
      have hW := HWr.out
      have hP := HPr.out
      rw [t1, t2] at hW hP
      have HWf := Lib.hid (Ws.less (Y := X) hW fun k hk => .inl hk)
      have HPf := Lib.hid hP
      clear hW hP t1 t2
      go_wp2
      go_ret
      exact ⟨true, rfl, HBr.out, HXr.out, fun h => (by cases h), fun _ => ⟨⟨T', HWf.out, HPf.out⟩, allEq_qof HLen.out fun i x y h1 h2 => HTr.out i x y (by have := (List.getElem?_eq_some_iff.1 h1).1; rw [← HQ.out] at this; exact this) h1 h2⟩⟩

end Go.Proofs.YtmcdefkpkpaceaaGreatDoor.Ksc
