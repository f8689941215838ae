/- The program's table of functions that were asked about: whether they are lazy. -/
import Derived.Test.YtfenlhbkdfmneaaUfind
import Derived.Test.YtfenlhbkdfmneaaCpu
namespace Go.Proofs.Ytfenlhbkdfmneaa.Cla
open Go Go.RowKit Go.Maps Go.Proofs.Ytfenlhbkdfmneaa.Spl Go.Proofs.Ytfenlhbkdfmneaa.Fpl Go.Proofs.Ytfenlhbkdfmneaa.Fmp Go.Proofs.Ytfenlhbkdfmneaa.Cpl Go.Proofs.Ytfenlhbkdfmneaa.Cin Go.Proofs.Ytfenlhbkdfmneaa.Cops Go.Proofs.Ytfenlhbkdfmneaa.Cmc Go.Proofs.Ytfenlhbkdfmneaa.Cmm Go.Proofs.Ytfenlhbkdfmneaa.Cnm Go.Proofs.Ytfenlhbkdfmneaa.Cpu
open Go.Proofs.Ytfenlhbkdfmneaa.Pure (bs)

/-- what a function is, as the map has it -/
def infT (s : T) : Inf := (lookI tab s).getD zero
theorem lazy_inf (s : T) : (infT s).lz = lazyB s := by
  unfold infT lazyB
  cases lookI tab s <;> rfl
/-- at most K were asked about -/
structure Known (kb mb K : Nat) (w : World) : Prop where
  box : w.heap[kb]? = some (.cells #[.map (some mb)] 80)
  map : ∃ D n, w.ownsMap Try.prog 9 infElem mb n D ∧ n ≤ K ∧ ∀ x : List UInt8, Maps.has D (.string x) = true → D.atKey (.string x) (infD zero) = infD (infT x)
/-- what asking writes -/
def XM (mb : Nat) (k : Nat) (o : Obj) : Prop := k = mb ∧ ∃ es n, o = .map es n
theorem xm_not {mb k : Nat} {e : TypeId} {cs : Array Value} {f : Nat × Nat} : ¬ XM mb k (.cells cs e f) := fun ⟨_, _, _, h⟩ => by cases h
theorem notC_xm (cb mb : Nat) : NotC cb (XM mb) := ⟨fun _ => xm_not, fun _ _ => xm_not, fun _ _ => xm_not, fun _ _ => xm_not⟩
theorem owns_block {w W : World} {P : Program} {k : TypeId} {R : Value → Option (DataW U × List MemPlace)} {b n : Nat} {D : DataW U} (h : w.ownsMap P k R b n D) (e : ∀ o, w.heap[b]? = some o → W.heap[b]? = some o) : W.ownsMap P k R b n D := by
  obtain ⟨es, clock, hb, r⟩ := h
  exact ⟨es, clock, e _ hb, r⟩
/-- what may differ, so that the table stays -/
def NotK (kb mb : Nat) (X : Nat → Obj → Prop) : Prop := (∀ cs, ¬ X kb (.cells cs 80 (0, 0))) ∧ ∀ es n, ¬ X mb (.map es n)
theorem Known.kept {h kb mb K : Nat} {X : Nat → Obj → Prop} {w W : World} (c : Known kb mb K w) (a : Kp h X w W) (hx : NotK kb mb X) : Known kb mb K W := by
  obtain ⟨h1, D, n, ⟨es, cl, hb, hr⟩, h3, h4⟩ := c
  exact ⟨a.keep kb _ h1 (hx.1 _), D, n, ⟨es, cl, a.keep mb _ hb (hx.2 _ _), hr⟩, h3, h4⟩
theorem Known.on {kb mb K : Nat} {w W : World} (c : Known kb mb K w) (hb : Below w.heap.size w W) : Known kb mb K W := by
  obtain ⟨h1, D, n, ⟨es, cl, hm, hr⟩, h3, h4⟩ := c
  exact ⟨(hb.block kb (heap_lt h1)).trans h1, D, n, ⟨es, cl, (hb.block mb (heap_lt hm)).trans hm, hr⟩, h3, h4⟩
theorem Known.mono {kb mb K K' : Nat} {w : World} (c : Known kb mb K w) (h : K ≤ K') : Known kb mb K' w := by
  obtain ⟨h1, D, n, h2, h3, h4⟩ := c
  exact ⟨h1, D, n, h2, Nat.le_trans h3 h, h4⟩
theorem Known.look {kb mb K : Nat} {w : World} (c : Known kb mb K w) (x : ByteArray) (hx : x.size ≤ maxLen) :
    ∃ z : Bool, (Instr.lookup 80 (.map (some mb)) (.string x) true).run Try.prog w = .ok (.tuple #[infV (if z then infT x.data.toList else zero), .bool z]) w := by
  obtain ⟨h1, D, n, ho, h3, h4⟩ := c
  obtain ⟨v, ps, hrun, hv⟩ := ho.look_ok KS Try.underlying80 (zeroInf w) (zd := infD zero) (zp := []) rfl (keyS hx)
  refine ⟨Maps.has D (.string x.data.toList), ?_⟩
  rw [hrun]
  cases hc : Maps.has D (.string x.data.toList) with
  | false =>
    rw [atKey_of_not_has hc] at hv
    rw [infElem_inv hv]; rfl
  | true =>
    rw [h4 _ hc] at hv
    rw [infElem_inv hv]; rfl
theorem Known.put {kb mb K : Nat} {w : World} (c : Known kb mb K w) (x : ByteArray) (hx : x.size ≤ maxLen) (hK : K < maxLen) :
    ∃ W', (Instr.mapUpdate 80 (.map (some mb)) (.string x) (infV (infT x.data.toList))).run Try.prog w = .ok () W' ∧ Known kb mb (K + 1) W' ∧ w.grownBy W' (some mb) := by
  obtain ⟨h1, D, n, ho, h3, h4⟩ := c
  obtain ⟨W', hrun, ho2, hg⟩ := ho.update KS Try.underlying80 (Nat.lt_of_le_of_lt h3 hK) (keyS hx) (val := infV (infT x.data.toList)) (infElem_mk _)
  refine ⟨W', hrun, ⟨(hg.block kb (heap_lt h1) fun e => ?_).trans h1, _, n + 1, ho2, by omega, fun y hy => ?_⟩, hg⟩
  · have e : kb = mb := Option.some.inj e
    obtain ⟨es, cl, hb, _⟩ := ho
    rw [← e, h1] at hb
    cases hb
  · by_cases e : x.data.toList = y
    · subst e
      rw [atKey_put_same ho.isMap (isKeyS _)]
    · rw [has_put_other (fun e1 => e (by cases e1; rfl))] at hy
      rw [atKey_put_other (fun e1 => e (by cases e1; rfl)), h4 y hy]
theorem four_far {w W : World} {g : Nat} {a b c d x y z u : Value} {t : TypeId} (h : w.heap[g]? = some (.cells #[a, b, c, d] t)) (hW : (((w.setCell ⟨g, 0, none⟩ x).setCell ⟨g, 1, none⟩ y).setCell ⟨g, 2, none⟩ z).setCell ⟨g, 3, none⟩ u = W) :
    W.heap[g]? = some (.cells #[x, y, z, u] t) ∧ Below g w W ∧ ∀ k, k ≠ g → W.heap[k]? = w.heap[k]? := by
  subst hW
  refine ⟨?_, ((((Below.refl g w).setCell (p := ⟨g, 0, none⟩) (Nat.le_refl _) _).setCell (p := ⟨g, 1, none⟩) (Nat.le_refl _) _).setCell (p := ⟨g, 2, none⟩) (Nat.le_refl _) _).setCell (p := ⟨g, 3, none⟩) (Nat.le_refl _) _, fun k hk => ?_⟩
  · exact heap_setCell_same _ g 3 _ _ _ (heap_setCell_same _ g 2 _ _ _ (heap_setCell_same _ g 1 _ _ _ (heap_setCell_same _ g 0 _ _ _ h)))
  · rw [heap_setCell_other _ ⟨g, 3, none⟩ k _ hk, heap_setCell_other _ ⟨g, 2, none⟩ k _ hk, heap_setCell_other _ ⟨g, 1, none⟩ k _ hk, heap_setCell_other _ ⟨g, 0, none⟩ k _ hk]

set_option maxRecDepth 100000 in
set_option maxHeartbeats 4000000 in
theorem lazy_is (h kb mb K : Nat) (s : T) (w : World) (hc : Known kb mb K w) (hz : h ≤ w.heap.size) (hmb : h ≤ mb) (hs : s.length ≤ maxLen) (hK : K < maxLen) :
    Calls Try.prog 43 #[.string (bs s), .pointer (some ⟨kb, 0, none⟩)] w fun e W' => e = .returned (.bool (lazyB s)) ∧ Known kb mb (K + 1) W' ∧ Kp h (XM mb) w W' := by
  obtain ⟨z, hl⟩ := hc.look (bs s) hs
  have e0 : (bs s).data.toList = s := by simp [bs]
  rw [e0] at hl
  have a0 := one_cell hc.box
  have HC := Lib.hid hc
  rw [← lazy_inf]
  obtain ⟨qf, hqf⟩ : ∃ qf, qf = (if z then infT s else zero) := ⟨_, rfl⟩
  rw [← hqf] at hl
  obtain ⟨W1, hW1⟩ : ∃ W1, w.alloc (.cells #[.int .i64 qf.mn, .int .i64 qf.mx, .bool qf.lz, .bool qf.pu] 82) = W1 := ⟨_, rfl⟩
  have hx1 : W1.heap[w.heap.size]? = some (.cells #[.int .i64 qf.mn, .int .i64 qf.mx, .bool qf.lz, .bool qf.pu] 82) := by rw [← hW1]; exact heap_alloc_new w _
  have hb1 : Below w.heap.size w W1 := by rw [← hW1]; exact (Below.refl _ _).alloc (Nat.le_refl _) _
  have k1 : Kp h (XM mb) w W1 := Kp.of hb1 hz _
  have HX1 := Lib.hid hx1
  have HB1 := Lib.hid hb1
  have HK1 := Lib.hid k1
  have HW1 := Lib.hid hW1
  obtain ⟨y0, y1, y2, y3⟩ := cells_four hx1
  have HC1 := Lib.hid (HC.out.on hb1)
  obtain ⟨qn, hqn⟩ : ∃ qn, qn = infT s := ⟨_, rfl⟩
  obtain ⟨rr, hrr⟩ : ∃ rr, rr = (lookI tab s).isSome := ⟨_, rfl⟩
  have HF : Hid (Calls Try.prog 44 #[.string (bs s)] W1 fun e W' => e = .returned (.tuple #[.agg #[.int .i64 qn.mn, .int .i64 qn.mx, .bool qn.lz, .bool qn.pu], .bool rr]) ∧ Below W1.heap.size W1 W') := by
    have h := Ufind.find_is (bs s) W1 hs
    unfold Ufind.findV infV at h
    rw [e0] at h
    rw [hqn, hrr]
    exact h
  rw [← hqn] at hqf ⊢
  have HQn := Lib.hid hqn
  have HQ := Lib.hid hqf
  have HS := Lib.hid hs
  unfold infV at hl
  clear hc hx1 hb1 k1 hW1 hqf hqn hrr hs
  go_enter Try.func43, Try.ntmps43
  go_upto_region 2 with fail
  rw [HW1.out]
  cases z with
  | true =>
    obtain rfl : qf = qn := HQ.out
    go_wp2
    go_ret
    exact ⟨rfl, HC1.out.mono (Nat.le_succ _), HK1.out⟩
  | false =>
    go_upto_region 4 with (refine HF.out.mono ?_; rintro e W2 ⟨rfl, hb2⟩; have hx2 := (hb2.block w.heap.size (heap_lt HX1.out)).trans HX1.out; have HX2 := Lib.hid hx2; obtain ⟨y0, y1, y2, y3⟩ := cells_four hx2; have f0 := Lib.frozen_of_heap hx2 0; have f1 := Lib.frozen_of_heap hx2 1; have f2 := Lib.frozen_of_heap hx2 2; have f3 := Lib.frozen_of_heap hx2 3; have HB2 := Lib.hid hb2; clear hb2 hx2)
    obtain ⟨W3, hW3⟩ : ∃ W3, (((W2.setCell ⟨w.heap.size, 0, none⟩ (.int .i64 qn.mn)).setCell ⟨w.heap.size, 1, none⟩ (.int .i64 qn.mx)).setCell ⟨w.heap.size, 2, none⟩ (.bool qn.lz)).setCell ⟨w.heap.size, 3, none⟩ (.bool qn.pu) = W3 := ⟨_, rfl⟩
    obtain ⟨hx3, hb3, _⟩ := four_far HX2.out hW3
    rw [hW3]
    have hb13 : Below w.heap.size w W3 := (HB1.out.trans (HB2.out.mono HB1.out.size)).trans hb3
    have hc3 := HC.out.on hb13
    obtain ⟨W4, hrun, hc4, hg4⟩ := hc3.put (bs s) HS.out hK
    rw [e0, ← HQn.out] at hrun
    have k4 : Kp h (XM mb) w W4 := (Kp.of hb13 hz _).trans ⟨(Below.refl h W3).grown hg4 (Nat.le_trans hz hb13.size) (fun k e => by cases e; exact hmb), fun k o hk hx => by
      refine (hg4.block k (heap_lt hk) fun e => ?_).trans hk
      cases e
      obtain ⟨_, D, n', ⟨es', cl, hb, _⟩, _⟩ := hc3
      rw [hb] at hk
      cases hk
      exact hx ⟨rfl, _, _, rfl⟩⟩
    have hx4 : W4.heap[w.heap.size]? = some (.cells #[.int .i64 qn.mn, .int .i64 qn.mx, .bool qn.lz, .bool qn.pu] 82) := by
      refine (hg4.block _ (heap_lt hx3) fun e => ?_).trans hx3
      obtain ⟨_, D, n', ⟨es', cl, hb, _⟩, _⟩ := hc3
      rw [← Option.some.inj e, hx3] at hb
      cases hb
    have HC4 := Lib.hid hc4
    have HK4 := Lib.hid k4
    have a3 := one_cell hc3.box
    obtain ⟨u0, u1, u2, u3⟩ := cells_four hx3
    obtain ⟨v0, v1, v2, v3⟩ := cells_four hx4
    unfold infV at hrun
    clear hW3 hx3 hb3 hb13 hc3 hc4 hg4 k4 hx4 y0 y1 y2 y3 f0 f1 f2 f3 a0 hl
    go_wp2
    go_ret
    exact ⟨rfl, HC4.out, HK4.out⟩

end Go.Proofs.Ytfenlhbkdfmneaa.Cla
