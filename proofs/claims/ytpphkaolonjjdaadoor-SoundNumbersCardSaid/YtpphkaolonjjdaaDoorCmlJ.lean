/- The document's lazy: a block for each argument (its ending by wip/tools/mkref12.py) -/
import Derived.Maps.AppendAt
import Derived.Test.YtpphkaolonjjdaaDoorCmnJ
namespace Go.Proofs.YtpphkaolonjjdaaDoor.Cml
open Go Go.RowKit Go.Proofs.YtpphkaolonjjdaaDoor.Spl Go.Proofs.YtpphkaolonjjdaaDoor.Nodm Go.Proofs.YtpphkaolonjjdaaDoor.Nz Go.Proofs.YtpphkaolonjjdaaDoor.Cpl Go.Proofs.YtpphkaolonjjdaaDoor.Cin Go.Proofs.YtpphkaolonjjdaaDoor.Cops Go.Proofs.YtpphkaolonjjdaaDoor.Cmc Go.Proofs.YtpphkaolonjjdaaDoor.Cmm Go.Proofs.YtpphkaolonjjdaaDoor.Cnm Go.Proofs.YtpphkaolonjjdaaDoor.Cpu Go.Proofs.YtpphkaolonjjdaaDoor.Cmr Go.Proofs.YtpphkaolonjjdaaDoor.Cmn
open Go.Proofs.YtpphkaolonjjdaaDoor.Pure (bs)

theorem sizs_take2 (l : List Nz) {j : Nat} {x : Nz} (h : l[j]? = some x) : sizs (l.take j) + siz x + (l.length - j - 1) ≤ sizs l := by
  have h1 := sizs_app (l.take (j + 1)) (l.drop (j + 1))
  rw [List.take_append_drop, List.take_add_one, h, sizs_app] at h1
  have h2 : sizs (some x).toList = siz x + 0 := rfl
  have h3 := sizs_len (l.drop (j + 1))
  rw [List.length_drop] at h3
  omega
theorem lazy_app : ∀ (l r : List Nz) (f : Nat) (B : List (List Opp)), lazyP (l ++ r) f B = lazyP r (f + l.length) (lazyP l f B)
  | [], r, f, B => by rw [List.nil_append, lazyP]; rfl
  | n :: l, r, f, B => by rw [List.cons_append, lazyP, lazyP, lazy_app l r, List.length_cons, Nat.add_assoc, Nat.add_comm 1]
theorem lazy_take (l : List Nz) (f : Nat) (B : List (List Opp)) {j : Nat} {x : Nz} (h : l[j]? = some x) : lazyP (l.take (j + 1)) f B = nodeP x (f + j) (lazyP (l.take j) f B) := by
  have hl := (List.getElem?_eq_some_iff.1 h).1
  rw [List.take_add_one, h, lazy_app, List.length_take, Nat.min_eq_left (by omega)]
  show lazyP [x] _ _ = _
  rw [lazyP, lazyP]
theorem rows_inL (l : List Nz) (f : Nat) (B : List (List Opp)) (hb : f + l.length ≤ B.length) (ho : opsP B + sizs l < 400000) : ∀ r ∈ lazyP l f B, r.length ≤ 1000000 := fun r hr => by
  have h1 := row_le hr
  rw [lazy_ops l f B hb] at h1
  have := sizsC_le l
  omega
/-- many new blocks -/
theorem codesR_many {h cb m : Nat} {w W : World} {vB v' : Value} {G : List Rw} (c : CodesR h cb w vB G) (k : Kp h (XNR cb) w W) (hbox : W.heap[cb]? = some (.cells #[v'] 60))
    (hrow : W.ownsRow h 38 1 v' (G.length + m) (G.map (·.1) ++ List.replicate m (.slice none 0 0))) : CodesR h cb W v' (G ++ List.replicate m (.slice none 0 0, [])) := by
  refine ⟨c.ge, hbox, ?_, fun g hg => ?_, fun g hg y hy => ?_, fun i j a b hij ha hb => ?_⟩
  · rw [List.length_append, List.length_replicate, List.map_append, List.map_replicate]
    exact hrow
  · rcases List.mem_append.1 hg with hg | hg
    · exact k.own (c.ops g hg) fun _ _ => xnr_not (by decide) (by decide)
    · rw [(List.mem_replicate.1 hg).2]
      exact World.ownsRow_nil ..
  · rcases List.mem_append.1 hg with hg | hg
    · exact k.own (c.nums g hg y hy) fun _ _ => xnr_not (by decide) (by decide)
    · rw [(List.mem_replicate.1 hg).2] at hy
      cases hy
  · by_cases hi : i < G.length
    · rw [List.getElem?_append_left hi] at ha
      by_cases hj : j < G.length
      · rw [List.getElem?_append_left hj] at hb
        exact c.apart i j a b hij ha hb
      · rw [List.getElem?_append_right (by omega)] at hb
        have e := (List.mem_replicate.1 (List.mem_of_getElem? hb)).2
        subst e
        cases hab : a.1.ownBlock with
        | none => exact .inl rfl
        | some _ => right; intro e; cases e
    · rw [List.getElem?_append_right (by omega)] at ha
      have e := (List.mem_replicate.1 (List.mem_of_getElem? ha)).2
      subst e
      exact .inl rfl
theorem blk_many (G : List Rw) (m : Nat) : blk (G ++ List.replicate m (.slice none 0 0, [])) = blk G ++ List.replicate m [] := by
  unfold blk
  rw [List.map_append, List.map_replicate]; rfl
theorem ints_snoc (q j : Nat) : (((List.range' q j).map Int.ofNat).map (Value.int .i64)) ++ [.int .i64 ((q : Int) + (j : Int))] = ((List.range' q (j + 1)).map Int.ofNat).map (Value.int .i64) := by
  rw [List.range'_concat, List.map_append, List.map_append]
  simp
theorem opsP_nils (B : List (List Opp)) (m : Nat) : opsP (B ++ List.replicate m []) = opsP B := by
  induction B with
  | nil =>
    induction m with
    | zero => rfl
    | succ m ih => rw [List.nil_append] at ih ⊢; rw [List.replicate_succ]; show 0 + opsP (List.replicate m []) = _; rw [ih]; rfl
  | cons x r ih => rw [List.cons_append, opsP, opsP, ih]
theorem own_stay {w W : World} {H e sz n : Nat} {v : Value} {xs : List Value} (ho : w.ownsRow H e sz v n xs) (hk : ∀ k, v.ownBlock = some k → W.heap[k]? = w.heap[k]?) : W.ownsRow H e sz v n xs :=
  ⟨ho.1, ho.2.imp id fun ⟨g, cap, cur, h2, h3, h4, h5⟩ => ⟨g, cap, cur, h2, h3, (hk g (by rw [h2]; rfl)).trans h4, h5⟩⟩
/-- the j-th argument into its own block -/
theorem kidL {S : Nat → Prop} {w0 w : World} {h cb q j : Nat} {l : List Nz} {Y : Nat → Prop} {B : List (List Opp)} {x : Nz} (HI : ∀ f, KidsR S w0 h cb f l) (hx : l[j]? = some x) (hq : q = B.length) (hst : StR S w0 h cb Y w (lazyP (l.take j) q (B ++ List.replicate l.length []))) (ho : opsP B + sizs l < 400000) (hB : q + sizs l ≤ 400000) (v : Value) (hv : NzIn S w0 v x) :
    Calls Tryd.prog 24 #[.pointer (some ⟨cb, 0, none⟩), .int .i64 ((q : Int) + (j : Int)), v] w fun e W' => e = .returned (.tuple #[]) ∧ StR S w0 h cb Y W' (lazyP (l.take (j + 1)) q (B ++ List.replicate l.length [])) ∧ Kp h (XR cb) w W' ∧ Stay Y w W' := by
  have hjl := (List.getElem?_eq_some_iff.1 hx).1
  have h1 := sizs_take2 l hx
  have h2 := sizsC_le (l.take j)
  have h3 := news_le (l.take j)
  have h4 : (l.take j).length = j := by rw [List.length_take]; omega
  have h5 : (B ++ List.replicate l.length []).length = q + l.length := by rw [List.length_append, List.length_replicate, hq]
  rw [lazy_take l q _ hx]
  exact HI (q + j) x (List.mem_of_getElem? hx) Y _ v w (by rw [lazy_ops _ _ _ (by omega), opsP_nils]; omega) (by rw [lazy_len]; omega) (by rw [lazy_len]; omega) hv hst
/-- behind the first loop: all of it, the instruction's own box and row beside it -/
theorem laid {S : Nat → Prop} {w0 w1 w : World} {h cb q m ob : Nat} {Y : Nat → Prop} {B : List (List Opp)} {vB v' nv : Value} {G : List Rw} {cs : Array Value} {fr : Nat × Nat} {xs : List Value} (hc : CodesR h cb w1 vB G) (hG : blk G = B) (hq : G.length = q) (hbes : Beside Y cb vB G w1) (hw : Wr S h cb w0 w1)
    (hbx : w.heap[cb]? = some (.cells #[v'] 60)) (hro : w.ownsRow h 38 1 v' (q + m) (G.map (·.1) ++ List.replicate m (.slice none 0 0))) (hv : v'.ownBlock = vB.ownBlock ∨ ∀ k, v'.ownBlock = some k → w1.heap.size ≤ k) (hob : w.heap[ob]? = some (.cells cs 40 fr)) (ho : ob = w1.heap.size) (hnu : w.ownsRow w1.heap.size 3 1 nv m xs) (hk : Kp h (XNR cb) w1 w) :
    StR S w0 h cb (fun k => Y k ∨ k = ob ∨ nv.ownBlock = some k) w (B ++ List.replicate m []) := by
  have hcl := heap_lt hc.box
  have hsz := hk.below.size
  have hobl := heap_lt hob
  refine ⟨hw.s (hk.mono fun _ _ => .inl), v', G ++ List.replicate m (.slice none 0 0, []), codesR_many hc hk hbx (by rw [hq]; exact hro), by rw [blk_many, hG], fun k hY => ?_⟩
  have hn : ∀ (P : Prop), (k = cb → P) → (v'.ownBlock = some k → P) → ((∃ g ∈ G, g.1.ownBlock = some k) → P) → Own cb v' (G ++ List.replicate m (.slice none 0 0, [])) k → P := fun P h1 h2 h3 h4 => by
    rcases h4 with h4 | h4 | ⟨g, hg, h4⟩
    · exact h1 h4
    · exact h2 h4
    · rcases List.mem_append.1 hg with hg | hg
      · exact h3 ⟨g, hg, h4⟩
      · rw [(List.mem_replicate.1 hg).2] at h4; cases h4
  have hin : (∃ g ∈ G, g.1.ownBlock = some k) → k < w1.heap.size := fun ⟨g, hg, e⟩ => ((hc.ops g hg).lt k e).2
  rcases hY with hY | hY | hY
  · obtain ⟨h1, h2⟩ := hbes k hY
    refine ⟨by omega, hn False (fun e => h2 (.inl e)) (fun e => ?_) (fun e => h2 (.inr (.inr e)))⟩
    rcases hv with h3 | h3
    · exact h2 (.inr (.inl (h3.symm.trans e)))
    · have := h3 k e; omega
  · subst hY
    exact ⟨hobl, hn False (fun e => by omega) (fun e => own_not hro hob (by decide) e) (fun e => by have := hin e; omega)⟩
  · obtain ⟨h1, h2⟩ := hnu.lt k hY
    refine ⟨h2, hn False (fun e => by omega) (fun e => ?_) (fun e => by have := hin e; omega)⟩
    rcases own_type hnu hro (by decide) with h3 | h3
    · rw [h3] at hY; cases hY
    · exact h3 (hY.trans e.symm)

set_option maxRecDepth 100000 in
set_option maxHeartbeats 16000000 in
theorem lazy_is (S : Nat → Prop) (w0 : World) (h cb b : Nat) (Y : Nat → Prop) (B : List (List Opp)) (s : T) (l : List Nz) (A : Option Addr) (c : Nat) (w : World) (HI : ∀ f, KidsR S w0 h cb f l) (hst : StR S w0 h cb Y w B) (hn : NzsIn S w0 A c l) (hb : b < B.length) (ho : opsP B + sizs l < 400000) (hB : B.length + sizs l ≤ 400000) :
    Calls Tryd.prog 36 #[.pointer (some ⟨cb, 0, none⟩), .int .i64 (b : Int), .agg #[.int .i64 4, .string (bs s), .slice A l.length c]] w fun e W' => e = .returned (.tuple #[]) ∧ StR S w0 h cb Y W' (Cpl.put (lazyP l B.length (B ++ List.replicate l.length [])) b ⟨6, 0, s, (List.range' B.length l.length).map Int.ofNat⟩) ∧ Kp h (XR cb) w W' ∧ Stay Y w W' := by
  obtain ⟨i0, hi0, hz0, hz1, hz2⟩ := info_parts infoOp
  obtain ⟨i1, hi1, hy0, hy1, hy2⟩ := info_parts infoInt
  obtain ⟨i2, hi2, hx0, hx1', hx2⟩ := info_parts infoOps
  obtain ⟨m, hm⟩ : ∃ m, m = l.length := ⟨_, rfl⟩
  have hml := sizs_len l
  rw [← hm] at hml ⊢
  obtain ⟨w1, hw1⟩ : ∃ w1, w.alloc (.cells #[.int .i64 4, .string (bs s), .slice A m c] 31) = w1 := ⟨_, rfl⟩
  have hb1 : Below w.heap.size w w1 := by rw [← hw1]; exact (Below.refl _ _).alloc (Nat.le_refl _) _
  have hx1 : w1.heap[w.heap.size]? = some (.cells #[.int .i64 4, .string (bs s), .slice A m c] 31) := by rw [← hw1]; exact heap_alloc_new w _
  have HK1 : Hid (Kp h (XR cb) w w1) := Kp.of hb1 hst.1.size _
  have HY1 : Hid (Stay Y w w1) := hst.stay hb1
  have hs1 := hst.on hb1
  obtain ⟨hw1r, vB, G, hc, hG, hbes⟩ := hs1
  obtain ⟨q, hq⟩ : ∃ q, q = B.length := ⟨_, rfl⟩
  have hGq : G.length = q := by rw [hq, ← hG, blk_len]
  obtain ⟨w2, hw2⟩ : ∃ w2, w1.alloc (.cells #[.int .i64 6, .int .i64 0, .string (bs s), .slice none 0 0] 40) = w2 := ⟨_, rfl⟩
  have hb2 : Below w1.heap.size w1 w2 := by rw [← hw2]; exact (Below.refl _ _).alloc (Nat.le_refl _) _
  have hx2' : w2.heap[w1.heap.size]? = some (.cells #[.int .i64 6, .int .i64 0, .string (bs s), .slice none 0 0] 40) := by rw [← hw2]; exact heap_alloc_new w1 _
  have hc2 := hc.on hb2 hw1r.size
  have hk2 : Kp h (XNR cb) w1 w2 := Kp.of hb2 hw1r.size _
  have HW1 := Lib.hid hw1
  have HW2 := Lib.hid hw2
  have HX1 := Lib.hid hx1
  have HX2 := Lib.hid hx2'
  have HM := Lib.hid hm
  have HQ := Lib.hid hq
  have HC := Lib.hid hc
  have HG := Lib.hid hG
  have HGq := Lib.hid hGq
  have HBe := Lib.hid hbes
  have HWr := Lib.hid hw1r
  have HKi := Lib.hid HI
  have HNs := Lib.hid hn
  have hcl := (Array.getElem?_eq_some_iff.1 hc.box).1
  have hzw := hw1r.size
  obtain ⟨A0, c0, hvB⟩ := own_slice hc.row
  have hcb1 : w1.heap[cb]? = some (.cells #[.slice A0 q c0] 60) := by rw [hc.box, hvB, hGq]
  have a0 := one_cell hcb1
  obtain ⟨n0, n1, n2⟩ := cells_3 hx1
  have HR2 : Hid (w2.ownsRow h 38 1 vB (q + 0) (G.map (·.1) ++ List.replicate 0 (.slice none 0 0))) := by
    show w2.ownsRow _ _ _ _ _ _
    rw [List.replicate_zero, List.append_nil, Nat.add_zero, ← hGq]
    exact hc2.row
  have HB2 : Hid (w2.heap[cb]? = some (.cells #[vB] 60)) := hc2.box
  have HK2 := Lib.hid hk2
  have HS2 : Hid (Stay Y w1 w2) := fun k hk => hb2.block k (hbes k hk).1
  rw [← hq] at hb hB ⊢
  clear hw1 hb1 hst hx1 HI hn hm hc hG hbes hw1r hw2 hb2 hx2' hc2 hk2 hq hGq hvB hcb1
  go_enter Tryd.func36, Tryd.ntmps36
  go_upto_region 1 with fail
  rw [HW1.out]
  go_upto_region 3 with fail
  rw [HW2.out]
  obtain ⟨ob, hob⟩ : ∃ ob, ob = w1.heap.size := ⟨_, rfl⟩
  have HOb := Lib.hid hob
  rw [← hob] at HX2 ⊢
  clear hob a0 n0 n1 n2
  go_upto_region 4 with fail
  go_loopw [8] (fun iv wr => ∃ (j : Nat) (v' nv : Value), j ≤ m ∧ iv = .int .i64 (j : Int) ∧ Hid (wr.heap[cb]? = some (.cells #[v'] 60)) ∧ Hid (wr.ownsRow h 38 1 v' (q + j) (G.map (·.1) ++ List.replicate j (.slice none 0 0))) ∧ Hid (v'.ownBlock = vB.ownBlock ∨ ∀ k, v'.ownBlock = some k → w1.heap.size ≤ k) ∧ Hid (wr.heap[ob]? = some (.cells #[.int .i64 6, .int .i64 0, .string (bs s), nv] 40)) ∧ Hid (wr.ownsRow w1.heap.size 3 1 nv j (((List.range' q j).map Int.ofNat).map (Value.int .i64))) ∧ Hid (Kp h (XNR cb) w1 wr) ∧ Hid (Stay Y w1 wr)) (fun iv _ => m - (intOf iv).toNat)
  case atStart => exact ⟨0, vB, .slice none 0 0, Nat.zero_le _, rfl, HB2, HR2, .inl rfl, HX2, World.ownsRow_nil .., HK2, HS2⟩
  case round =>
    obtain ⟨j, v', nv, hj, rfl, HBx, HRo, HVo, HOx, HNu, HKr, HSr⟩ := hrel
    obtain ⟨n0, n1, n2⟩ := cells_3 (HKr.out.keep _ _ HX1.out (xnr_not (by decide) (by decide)))
    by_cases hlt : j < m
    · have hjm : (j : Int) < (m : Int) := by omega
      obtain ⟨A1, c1, rfl⟩ := own_slice HRo.out
      obtain ⟨A2, c2, rfl⟩ := own_slice HNu.out
      have a0 := one_cell HBx.out
      have hcl2 := (Array.getElem?_eq_some_iff.1 HBx.out).1
      have a1 := one_cell ((Lib.alloc_old wr (.cells #[.slice none 0 0] 38) cb hcl2).trans HBx.out)
      have hzr : h ≤ wr.heap.size := Nat.le_trans hzw HKr.out.below.size
      have hobl := (Array.getElem?_eq_some_iff.1 HOx.out).1
      have hown := HRo.out
      go_upto_region 7 with (at_builtin; refine wpList_append_lies _ rfl _ _ 22 rfl h 38 i2 (.slice none 0 0) 1 24 Tryd.underlying22 hi2 hx0 hx1' hx2 rfl (by decide) _ _ _ rfl (hown.alloc _) ⟨wr.heap.size, 0, none⟩ 1 1 [.slice none 0 0] rfl rfl (cell_one_new _ _ _) (by simp [Value.oneCell']) (by decide) (by unfold maxLen; omega) (by omega) (by simp; omega) (wr.heap.size + 1) (by rw [World.size_alloc]) ?_; intro g3 c3 w3 hown' hgrow hat _; have k3 : Kp h (fun _ o => isT 38 o) wr w3 := ((Kp.refl h _ wr).alloc hzr _).trans (Kp.grown hgrow (hown.alloc _) (Nat.le_refl _) (by simp; omega) fun _ _ _ => ⟨_, _, rfl⟩); have hb3 : w3.heap[cb]? = some (.cells #[.slice A1 (q + j) c1] 60) := k3.keep cb _ HBx.out (isT_ne (by decide)); have b0 := one_cell hb3; have b1 := Lib.frozen_of_heap hb3 0; have HG3 := Lib.hid hgrow; have HAt := Lib.hid hat; have HO3 := Lib.hid hown'; have HK3 := Lib.hid k3; have HB3 := Lib.hid hb3; clear k3 hown' hgrow hb3 hat)
      obtain ⟨w4, hw4⟩ : ∃ w4, w4 = w3.setCell ⟨cb, 0, none⟩ (.slice (some ⟨g3, 0, none⟩) (q + j + 1) c3) := ⟨_, rfl⟩
      rw [← hw4]
      have hb4 : w4.heap[cb]? = some (.cells #[.slice (some ⟨g3, 0, none⟩) (q + j + 1) c3] 60) := by rw [hw4]; exact heap_setCell_same w3 cb 0 _ _ _ HB3.out
      have hk34 : Kp h (fun k o => k = cb ∧ isT 60 o) w3 w4 := by
        rw [hw4]
        refine Kp.set cb 0 _ HC.out.ge fun o hoo => ?_
        rw [HB3.out] at hoo
        cases hoo
        exact ⟨rfl, _, _, rfl⟩
      have hk4 : Kp h (XNR cb) wr w4 := (HK3.out.mono fun _ _ => .inr).trans (hk34.mono fun _ _ => .inl)
      have ho4 : w4.ownsRow h 38 1 (.slice (some ⟨g3, 0, none⟩) (q + j + 1) c3) (q + j + 1) (G.map (·.1) ++ List.replicate (j + 1) (.slice none 0 0)) := by
        rw [List.replicate_succ', ← List.append_assoc]
        exact hk34.own HO3.out fun k cs h => isT_ne (by decide) h.2
      have hx4 := hk4.keep _ _ HOx.out (xnr_not (by decide) (by decide))
      have hn4 : w4.ownsRow w1.heap.size 3 1 (.slice A2 j c2) j (((List.range' q j).map Int.ofNat).map (Value.int .i64)) := hk4.own HNu.out fun _ _ => xnr_not (by decide) (by decide)
      have hv4 : Hid ((Value.slice (some ⟨g3, 0, none⟩) (q + j + 1) c3).ownBlock = vB.ownBlock ∨ ∀ k, (Value.slice (some ⟨g3, 0, none⟩) (q + j + 1) c3).ownBlock = some k → w1.heap.size ≤ k) := by
        rcases HAt.out with e | e
        · rcases HVo.out with e2 | e2
          · exact .inl (e.symm.trans e2)
          · refine .inr fun k hk => e2 k ?_
            have e : (Value.slice A1 (q + j) c1).ownBlock = some g3 := e
            rw [e, ← hk]; rfl
        · refine .inr fun k hk => ?_
          have : g3 = k := by simpa [Value.ownBlock] using hk
          have := HKr.out.below.size
          omega
      have hs4 : Hid (Stay Y w1 w4) := fun k hk => by
        obtain ⟨h1, h2⟩ := HBe.out k hk
        have h3 : k ≠ cb := fun e => h2 (.inl e)
        have h4 : (Value.slice A1 (q + j) c1).ownBlock ≠ some k := fun e => by
          rcases HVo.out with e2 | e2
          · exact h2 (.inr (.inl (e2.symm.trans e)))
          · have := e2 k e; omega
        have h5 := HKr.out.below.size
        rw [hw4, heap_setCell_other w3 ⟨cb, 0, none⟩ k _ h3]
        exact (HG3.out.block k (by rw [World.size_alloc]; omega) (fun e => h4 e.symm)).trans ((Lib.alloc_old wr _ k (by omega)).trans (HSr.out k hk))
      have hz4 : w1.heap.size ≤ w4.heap.size := Nat.le_trans HKr.out.below.size hk4.below.size
      obtain ⟨y0, y1, y2, y3⟩ := cells_four hx4
      have hw6 : IntKind.i64.wrap ((q : Int) + (j : Int)) = (q : Int) + (j : Int) := IntWalk.i64_in _ (by omega)
      have HX4 := Lib.hid hx4
      have HK4 := Lib.hid (HKr.out.trans hk4)
      have HB4 := Lib.hid hb4
      have HO4 := Lib.hid ho4
      have hob4 := (Array.getElem?_eq_some_iff.1 hx4).1
      clear hw4 hb4 hk34 hk4 ho4 hx4 a0 a1 b0 b1 hown n0 n1 n2
      have yy3 := (cells_four ((Lib.alloc_old w4 (.cells #[.int .i64 ((q : Int) + (j : Int))] 3) ob hob4).trans HX4.out)).2.2.2
      go_wp2_with (at_builtin; refine wpList_append_own _ rfl _ _ 28 rfl w1.heap.size 3 i1 (.int .i64 0) 1 8 Tryd.underlying28 hi1 hy0 hy1 hy2 rfl (by decide) _ _ _ rfl (hn4.alloc _) ⟨w4.heap.size, 0, none⟩ 1 1 [.int .i64 ((q : Int) + (j : Int))] rfl rfl (cell_one_new _ _ _) (by simp [Value.oneCell']) (by unfold maxLen; omega) (by omega) (by simp; omega) ?_; intro v5 w5 hown' hgrow _; obtain ⟨A5, c5, rfl⟩ := own_slice hown'; have hg5 : ∀ k, k < w4.heap.size → (Value.slice A2 j c2).ownBlock ≠ some k → w5.heap[k]? = w4.heap[k]? := (fun k hk hne => (hgrow.block k (by rw [World.size_alloc]; omega) (fun e => hne e.symm)).trans (Lib.alloc_old w4 _ k hk)); have hbw : Below w1.heap.size w4 w5 := (((Below.refl _ w4).alloc hz4 _).grown hgrow (by rw [World.size_alloc]; omega) (fun k hk => (hn4.lt k hk).1)); have hx5 : w5.heap[ob]? = some (.cells #[.int .i64 6, .int .i64 0, .string (bs s), .slice A2 j c2] 40) := (hg5 ob hob4 (own_not hn4 HX4.out (by decide))).trans HX4.out; obtain ⟨z0, z1, z2, z3⟩ := cells_four hx5; have z4 := Lib.frozen_of_heap hx5 3; have HX5 := Lib.hid hx5; have HN5 := Lib.hid hown'; have HG5 := Lib.hid hg5; have HB5 := Lib.hid hbw; clear hx5 hown' hg5 hbw hgrow)
      have HE : Hid (∀ k o, w4.heap[k]? = some o → k ≠ ob → (∀ cs f, o ≠ .cells cs 3 f) → (w5.setCell ⟨ob, 3, none⟩ (.slice A5 (j + 1) c5)).heap[k]? = some o) := fun k o hk h1 h2 => by
        rw [heap_setCell_other w5 ⟨ob, 3, none⟩ k _ h1]
        refine (HG5.out k (heap_lt hk) fun e => ?_).trans hk
        rcases hn4.2 with ⟨h3, _⟩ | ⟨g', cap', cur, h3, _, h4, _⟩
        · rw [h3] at e; cases e
        · rw [h3] at e
          have e : g' = k := by simpa [Value.ownBlock] using e
          rw [e, hk] at h4
          exact h2 _ _ (Option.some.inj h4)
      have hobw : w1.heap.size ≤ ob := by rw [HOb.out]; exact Nat.le_refl _
      go_roundw
      case rel =>
        refine ⟨j + 1, .slice (some ⟨g3, 0, none⟩) (q + j + 1) c3, .slice A5 (j + 1) c5, hlt, by go_num, HE.out _ _ HB4.out (fun e => by have := hcl; omega) (fun _ _ e => by cases e), ?_, hv4, ?_, ?_, ?_, ?_⟩
        · have h1 := HO4.out
          refine ⟨h1.1, ?_⟩
          rcases h1.2 with h2 | ⟨g', cap', cur, h2, h3, h4, h5⟩
          · exact .inl h2
          · exact .inr ⟨g', cap', cur, h2, h3, HE.out _ _ h4 (fun e => by
              rw [e, HX4.out] at h4
              exact absurd (Option.some.inj h4) (by intro e2; injection e2 with _ e3 _; exact absurd e3 (by decide))) (fun _ _ e => by injection e with _ e3 _; exact absurd e3 (by decide)), h5⟩
        · exact heap_setCell_same w5 ob 3 _ _ _ HX5.out
        · show World.ownsRow _ _ _ _ _ _ _
          rw [← ints_snoc]
          exact own_set HN5.out (own_not HN5.out HX5.out (by decide)) _ _
        · refine ⟨HK4.out.below.trans ((HB5.out.mono hzw).setCell (p := ⟨ob, 3, none⟩) (Nat.le_trans hzw hobw) _), fun k o hk hx => ?_⟩
          have h1 := HK4.out.keep k o hk hx
          have h2 := heap_lt hk
          rw [heap_setCell_other w5 ⟨ob, 3, none⟩ k _ (fun e => by have e : k = ob := e; omega)]
          exact (HB5.out.block k h2).trans h1
        · intro k hk
          have h1 := (HBe.out k hk).1
          rw [heap_setCell_other w5 ⟨ob, 3, none⟩ k _ (fun e => by have e : k = ob := e; omega)]
          exact (HB5.out.block k h1).trans (hs4 k hk)
      case measure => simp [intOf]; omega
    · obtain rfl : m = j := by omega
      obtain ⟨A9, c9, rfl⟩ := own_slice HNu.out
      obtain ⟨wo, rfl⟩ : ∃ wo, wo = wr := ⟨wr, rfl⟩
      have HL := Lib.hid (laid HC.out HG.out HGq.out HBe.out HWr.out HBx.out HRo.out HVo.out HOx.out HOb.out HNu.out HKr.out)
      have HKo : Hid (Kp h (XR cb) w1 wo) := HKr.out.mono fun _ _ => .inl
      clear HRo HVo HBx HR2 HB2
      go_upto_region 9 with fail
      go_loopw [9] (fun iv wr => ∃ j : Nat, j ≤ m ∧ iv = .int .i64 (j : Int) ∧ Hid (StR S w0 h cb (fun k => Y k ∨ k = ob ∨ (Value.slice A9 m c9).ownBlock = some k) wr (lazyP (l.take j) q (B ++ List.replicate m []))) ∧ Hid (Kp h (XR cb) w1 wr) ∧ Hid (Stay (fun k => Y k ∨ k = ob ∨ (Value.slice A9 m c9).ownBlock = some k) wo wr)) (fun iv _ => m - (intOf iv).toNat)
      case atStart => exact ⟨0, Nat.zero_le _, rfl, by rw [List.take_zero, lazyP]; exact HL, HKo, Stay.refl _ _⟩
      case round =>
        obtain ⟨j, hj, rfl, HSq, HKq, HYq⟩ := hrel
        have hb2x := HKq.out.keep _ _ HX1.out xr_not
        obtain ⟨n0, n1, n2⟩ := cells_3 hb2x
        by_cases hlt : j < m
        · obtain ⟨x, hx⟩ : ∃ x, l[j]? = some x := ⟨_, List.getElem?_eq_getElem (by have := HM.out; omega)⟩
          have hjm : (j : Int) < (m : Int) := by omega
          have hw6 : IntKind.i64.wrap ((q : Int) + (j : Int)) = (q : Int) + (j : Int) := IntWalk.i64_in _ (by omega)
          have hsq := HSq.out
          rw [HM.out] at hsq
          have HC0 := kidL HKi.out hx HQ.out hsq ho hB
          rw [← HM.out] at HC0
          obtain ⟨k', s', l'⟩ := x
          obtain ⟨bb, oo, A', c', rfl, hbb, hSb, hin, hcw⟩ := HNs.out.at_ hx
          obtain ⟨d0, d1, d2⟩ := hcw wr (HSq.out.1.block hSb hbb)
          have HCk := Lib.hid (HC0 _ hin)
          obtain ⟨q', hq'⟩ : ∃ q', q' = l'.length := ⟨_, rfl⟩
          rw [← hq'] at HCk d2
          clear hcw hin hx hq' HC0 hsq hb2x
          go_wp2_with (go_at_call 24; refine HCk.out.mono ?_; rintro e w4 ⟨rfl, hs4, hk4, hy4⟩; have HS4 := Lib.hid hs4; have HK4 := Lib.hid (HKq.out.trans hk4); have HY4 := Lib.hid (HYq.out.trans hy4); clear hs4 hk4 hy4)
          go_roundw
          case rel => exact ⟨j + 1, hlt, by go_num, HS4, HK4, HY4⟩
          case measure => simp [intOf]; omega
        · obtain rfl : m = j := by omega
          have hs0 := HSq.out
          rw [show l.take m = l by rw [HM.out]; exact List.take_length] at hs0
          have hsx : StR S w0 h cb Y wr (lazyP l q (B ++ List.replicate m [])) := hs0.less fun _ => .inl
          have hml2 := HM.out
          have hq2 := HQ.out
          have hl0 : (B ++ List.replicate m []).length = q + m := by rw [List.length_append, List.length_replicate, hq2]
          have hbx : b < (lazyP l q (B ++ List.replicate m [])).length := by rw [lazy_len]; omega
          have hrx : ∀ r ∈ lazyP l q (B ++ List.replicate m []), r.length ≤ 1000000 := fun r hr => rows_inL l q _ (by omega) (by rw [opsP_nils]; exact ho) r hr
          have HK0 : Hid (Kp h (XR cb) w wr) := HK1.out.trans HKq.out
          have HY0 : Hid (Stay Y w wr) := (HY1.out.trans HSr.out).trans fun k hk => HYq.out k (.inl hk)
          have hnx : wr.ownsRow h 3 1 (.slice A9 m c9) ((List.range' q m).map Int.ofNat).length (((List.range' q m).map Int.ofNat).map (Value.int .i64)) := by
            rw [List.length_map, List.length_range']
            exact own_mono (own_stay HNu.out fun k hk => HYq.out k (.inr (.inr hk))) hzw
          have hox : wr.heap[ob]? = _ := (HYq.out ob (.inr (.inl rfl))).trans HOx.out
          obtain ⟨y0, y1, y2, y3⟩ := cells_four hox
          obtain ⟨ns, hns⟩ : ∃ ns, ns = (List.range' q m).map Int.ofNat := ⟨_, rfl⟩
          rw [← hns] at hnx
          have HNS := Lib.hid hns
          clear hns HNu HSr
          clear hs0 hml2 hq2 hl0 hox hb2x HYq HSq HL HKi HNs HC HG HBe HX1 HX2 HKo
          go_upto_region 12 with fail
          clear n0 n1 n2
          obtain ⟨gB, q, capB, p, cr, Ar, lr, G, hc, hG, hY, hq, hi, hp, hpl, hbq, hgl, hro, hrow⟩ := opened hsx hbx hrx
          have a0 := one_cell hc.box
          have hvi : (G.map (·.1))[b]? = some (.slice Ar p cr) := by rw [List.getElem?_map, hi]; rfl
          have b0 := (hrow.cellAt b (by omega)).trans hvi
          have hbq' : (b : Int) < (q : Int) := by omega
          have hcl := (Array.getElem?_eq_some_iff.1 hc.box).1
          obtain ⟨ob, hob⟩ : ∃ ob, ob = Obj.cells #[.int .i64 6, .int .i64 0, .string (bs s), .slice A9 m c9] 40 := ⟨_, rfl⟩
          have HPE := Lib.hid (put_fin hc hG hY hq hi hp hsx.1.size ⟨6, 0, s, ns⟩ (.slice A9 m c9) hnx ob)
          have A0 : (wr.alloc (.cells #[.int .i64 6, .int .i64 0, .string (bs s), .slice A9 m c9] 40)).cell? ⟨cb, 0, none⟩ = some (.slice (some ⟨gB, 0, none⟩) q capB) := one_cell ((Lib.alloc_old wr _ cb hcl).trans hc.box)
          have B0 : (wr.alloc (.cells #[.int .i64 6, .int .i64 0, .string (bs s), .slice A9 m c9] 40)).cell? ⟨gB, b, none⟩ = some (.slice Ar p cr) := ((hrow.alloc _).cellAt b (by omega)).trans hvi
          have hnB : (Value.slice Ar p cr).ownBlock ≠ some cb := own_not hro hc.box (by decide)
          have hrB : (Value.slice Ar p cr).ownBlock ≠ some gB := (own_type hro hrow (by decide)).elim (fun e1 e2 => by rw [e1] at e2; cases e2) id
          have HBx := Lib.hid hc.box
          have HRo := Lib.hid hro
          have HRow := Lib.hid hrow
          have HnB := Lib.hid hnB
          have HrB := Lib.hid hrB
          have HV := Lib.hid hvi
          have HOB := Lib.hid hob
          have HWr := Lib.hid hsx.1
          have hzz := hsx.1.size
          have HZn := Lib.hid (four_new wr.drew (.int .i64 6) (.int .i64 0) (.string (bs s)) (.slice A9 m c9) 40)
          have hfl := flat4_len lr
          rw [← hp] at hfl
          generalize flat4 lr = fr at *
          generalize G.map (·.1) = vs at *
          clear hsx hc hG hY hq hi hp hro hrow hvi hob hnB hrB hrx
          go_region_law (refine step_append_lies _ rfl _ _ 38 rfl h 40 i0 (.agg #[.int .i64 0, .int .i64 0, .string .empty, .slice none 0 0]) 4 56 Tryd.underlying38 hi0 hz0 hz1 hz2 rfl (by decide) (.slice Ar p cr) p _ (by first | rfl | simp [Act.eval, Act.put]) (HRo.out.drew.alloc _) ⟨wr.heap.size, 0, none⟩ 1 1 [.int .i64 6, .int .i64 0, .string (bs s), .slice A9 m c9] (by first | rfl | simp [Act.eval, Act.put]) rfl HZn.out (by simp [Value.oneCell']) (by decide) (by unfold maxLen; omega) (by omega) (by simp; omega) (wr.heap.size + 1) (World.size_alloc ..) ?_; intro g cap w5 hown5 hgrow5 hat5 hlt5; have hb5 : w5.heap[cb]? = _ := (hgrow5.block cb (by simp; omega) (fun e => HnB.out e.symm)).trans ((Lib.alloc_old wr.drew _ cb hcl).trans HBx.out); have z0 := one_cell hb5; have hr5 := (HRow.out.drew.alloc _).kept hgrow5 (.inr (fun e => HrB.out e.symm)); have z1 := (hr5.cellAt b (by omega)).trans HV.out; have t0 := hr5.frozenAt b; have HFin := Lib.hid (HPE.out g cap w5 hown5 (by rw [HOB.out]; exact ⟨hgrow5.os, hgrow5.tape, hgrow5.output, hgrow5.size, hgrow5.block⟩) hat5); clear hown5 hgrow5 hat5 hb5 hr5)
          all_goals go_wp2
          all_goals exact bodyPost_end (v := .tuple #[]) (by simp [results, Tryd.results36, go_sem]) rfl ⟨rfl, ⟨HWr.out.s (HFin.out.2.1.mono fun _ _ h => .inr h), (by rw [← HNS.out]; exact HFin.out.1)⟩, HK0.out.trans (HFin.out.2.1.mono fun _ _ h => .inr h), HY0.out.trans HFin.out.2.2⟩

end Go.Proofs.YtpphkaolonjjdaaDoor.Cml
