/- The program's row: a thing put behind what was read. -/
import Derived.Deep.RegionLaw
import Derived.Deep.AppendLies
import Derived.Deep.DeepCutAuto
import Derived.Test.YtmcdefkpkpaceaaGreatDoorUcutJ
import Derived.Test.YtmcdefkpkpaceaaGreatDoorUallJ
namespace Go.Proofs.YtmcdefkpkpaceaaGreatDoor.Uput
open Go.RowKit Go.Proofs.YtmcdefkpkpaceaaGreatDoor.Spl Go.Proofs.YtmcdefkpkpaceaaGreatDoor.Nodm Go.Proofs.YtmcdefkpkpaceaaGreatDoor.Unod Go.Proofs.YtmcdefkpkpaceaaGreatDoor.Urow Go.Proofs.YtmcdefkpkpaceaaGreatDoor.Ubld Go.Proofs.YtmcdefkpkpaceaaGreatDoor.Uall
open Go.Proofs.YtmcdefkpkpaceaaGreatDoor.Pure (bs)

/-- what lies from H on stays -/
def Stay (H : Nat) (w W : World) : Prop := ∀ k, H ≤ k → k < w.heap.size → W.heap[k]? = w.heap[k]?
theorem zero_new (W : World) : ∀ (j : Nat) u, ([.int .i64 0, .string ⟨#[]⟩, .slice none 0 0] : List Value)[j]? = some u → (W.alloc (.cells #[.int .i64 0, .string ⟨#[]⟩, .slice none 0 0] 25)).cell? ((⟨W.heap.size, 0, none⟩ : Addr).add j) = some u := fun j u hu => by
  rw [addr_add, Nat.zero_add, Lib.cell_of_heap (heap_alloc_new W _)]
  rw [← hu, ← List.getElem?_toArray]

theorem cell_other1 (w : World) (g b i o : Nat) (v : Value) (h : b ≠ g) : (w.setCell ⟨g, i, none⟩ v).cell? ⟨b, o, none⟩ = w.cell? ⟨b, o, none⟩ :=
  World.cell?_of_block (w := w) (Deep.blk_setCell_other _ _ _ _ h)
theorem cell_other5 (w : World) (g b i j k o : Nat) (x y z : Value) (h : b ≠ g) : (((w.setCell ⟨g, i, none⟩ x).setCell ⟨g, j, none⟩ y).setCell ⟨g, k, none⟩ z).cell? ⟨b, o, none⟩ = w.cell? ⟨b, o, none⟩ := by
  rw [cell_other1 _ _ _ _ _ _ h, cell_other1 _ _ _ _ _ _ h, cell_other1 _ _ _ _ _ _ h]
theorem last3 {vs : List (Value × Value × Value)} {q : Nat} (h : vs.length = q) (x y z : Value) : (cells3 vs ++ [x, y, z])[q * 3]? = some x ∧ (cells3 vs ++ [x, y, z])[q * 3 + 1]? = some y ∧ (cells3 vs ++ [x, y, z])[q * 3 + 2]? = some z := by
  have hl := cells3_len vs
  rw [h] at hl
  refine ⟨?_, ?_, ?_⟩ <;> rw [List.getElem?_append_right (by omega), hl]
  · rw [Nat.sub_self]; rfl
  · rw [Nat.add_sub_cancel_left]; rfl
  · rw [Nat.add_sub_cancel_left]; rfl

theorem own_at {g k q cap : Nat} (h : (Value.slice (some ⟨g, 0, none⟩) q cap).ownBlock = some k) : g = k := by simpa [Value.ownBlock] using h
theorem set3_list {vs : List (Value × Value × Value)} {q : Nat} (h : vs.length = q) (a b c x y z : Value) : (((cells3 vs ++ [a, b, c]).set (q * 3) x).set (q * 3 + 1) y).set (q * 3 + 2) z = cells3 (vs ++ [(x, y, z)]) := by
  have hl := cells3_len vs
  rw [h] at hl
  rw [cells3_app]
  show _ = cells3 vs ++ [x, y, z]
  generalize cells3 vs = L at *
  rw [← hl]
  simp
theorem own_three {w : World} {B q g cap : Nat} {vs : List (Value × Value × Value)} {a b c : Value} (hv : vs.length = q) (h : w.ownsRow B 25 3 (.slice (some ⟨g, 0, none⟩) (q + 1) cap) (q + 1) (cells3 vs ++ [a, b, c])) (x y z : Value) :
    (((w.setCell ⟨g, q * 3, none⟩ x).setCell ⟨g, q * 3 + 1, none⟩ y).setCell ⟨g, q * 3 + 2, none⟩ z).ownsRow B 25 3 (.slice (some ⟨g, 0, none⟩) (q + 1) cap) (q + 1) (cells3 (vs ++ [(x, y, z)])) := by
  have h1 := (h.stored (q * 3) x).1
  have h2 := (h1.stored (q * 3 + 1) y).1
  have h3 := (h2.stored (q * 3 + 2) z).1
  rw [set3_list hv] at h3
  exact h3
theorem set3_far (w : World) (g i j k : Nat) (x y z : Value) (b : Nat) (hb : b ≠ g) : (((w.setCell ⟨g, i, none⟩ x).setCell ⟨g, j, none⟩ y).setCell ⟨g, k, none⟩ z).heap[b]? = w.heap[b]? := by
  rw [Deep.blk_setCell_other _ _ _ _ hb, Deep.blk_setCell_other _ _ _ _ hb, Deep.blk_setCell_other _ _ _ _ hb]
theorem below_set {B : Nat} {w W : World} (h : Below B w W) (g i : Nat) (v : Value) (hg : B ≤ g) : Below B w (W.setCell ⟨g, i, none⟩ v) := h.setCell (p := ⟨g, i, none⟩) hg v

/-- a thing appended to the things: what holds behind it, in either order of the two stores -/
structure Pushed (X : Nat → Prop) (B b g : Nat) (u p v : Value) (acc : List Nod) (w5 W : World) : Prop where
  cell : W.heap[b]? = some (.cells #[u, p, v] 114)
  own : ∃ vs, W.ownsRow B 25 3 u acc.length (cells3 vs) ∧ vs.length = acc.length ∧ ∀ (j : Nat) (x : Value × Value × Value) (m : Nod), vs[j]? = some x → acc[j]? = some m → NodeIn (fun g => (SF B W g ∧ X g) ∧ u.ownBlock ≠ some g) W (.agg #[x.1, x.2.1, x.2.2]) m
  size : W.heap.size = w5.heap.size
  far : ∀ k, k ≠ b → k ≠ g → W.heap[k]? = w5.heap[k]?
  below : Below B w5 W
theorem pushed {X : Nat → Prop} {B b q g cap : Nat} {u p v x y z : Value} {vs : List (Value × Value × Value)} {acc : List Nod} {n : Nod} {w w5 W : World}
    (hBb : B ≤ b) (hBg : B ≤ g) (hg : w.heap[b]? = some (.cells #[u, p, v] 114)) (hu : w.ownsRow B 25 3 u q (cells3 vs)) (hvl : vs.length = q) (hal : acc.length = q)
    (hn : ∀ (j : Nat) (x : Value × Value × Value) (m : Nod), vs[j]? = some x → acc[j]? = some m → NodeIn (fun g => (SF B w g ∧ X g) ∧ u.ownBlock ≠ some g) w (.agg #[x.1, x.2.1, x.2.2]) m)
    (hsame : ∀ (k : Nat) (cs : Array Value) (t : TypeId) (fr : Nat × Nat), w.heap[k]? = some (.cells cs t fr) → t ≠ 5 → u.ownBlock ≠ some k → w5.heap[k]? = w.heap[k]?) (hat : u.ownBlock = some g ∨ w.heap.size ≤ g) (hz : w.heap.size ≤ w5.heap.size)
    (hown5 : w5.ownsRow B 25 3 (.slice (some ⟨g, 0, none⟩) (q + 1) cap) (q + 1) (cells3 vs ++ [.int .i64 0, .string ⟨#[]⟩, .slice none 0 0]))
    (hnew : NodeIn (fun k => (SF B w k ∧ X k) ∧ u.ownBlock ≠ some k) w (.agg #[x, y, z]) n)
    (hW : W = (((w5.setCell ⟨g, q * 3, none⟩ x).setCell ⟨g, q * 3 + 1, none⟩ y).setCell ⟨g, q * 3 + 2, none⟩ z).setCell ⟨b, 0, none⟩ (.slice (some ⟨g, 0, none⟩) (q + 1) cap) ∨ W = (((w5.setCell ⟨b, 0, none⟩ (.slice (some ⟨g, 0, none⟩) (q + 1) cap)).setCell ⟨g, q * 3, none⟩ x).setCell ⟨g, q * 3 + 1, none⟩ y).setCell ⟨g, q * 3 + 2, none⟩ z) :
    Pushed X B b g (.slice (some ⟨g, 0, none⟩) (q + 1) cap) p v (acc ++ [n]) w5 W := by
  have hub := own_ne hu hg (by decide)
  have hb5 : w5.heap[b]? = some (.cells #[u, p, v] 114) := (hsame b _ _ _ hg (by decide) hub).trans hg
  have hgb : b ≠ g := fun e => own_ne hown5 hb5 (by decide) (by rw [e]; rfl)
  have hlt : ∀ {k : Nat} {o : Obj}, w.heap[k]? = some o → k < w.heap.size := fun h => heap_lt h
  have hcell : W.heap[b]? = some (.cells #[.slice (some ⟨g, 0, none⟩) (q + 1) cap, p, v] 114) := by
    rcases hW with rfl | rfl
    · exact heap_setCell_same _ b 0 _ _ _ ((set3_far w5 g _ _ _ x y z b hgb).trans hb5)
    · rw [set3_far _ g _ _ _ x y z b hgb]
      exact heap_setCell_same _ b 0 _ _ _ hb5
  have hown : W.ownsRow B 25 3 (.slice (some ⟨g, 0, none⟩) (q + 1) cap) (q + 1) (cells3 (vs ++ [(x, y, z)])) := by
    rcases hW with rfl | rfl
    · exact ownsRow_setCell_other (own_three hvl hown5 x y z) (a := ⟨b, 0, none⟩) (fun e => hgb (own_at e).symm) _
    · exact own_three hvl (ownsRow_setCell_other hown5 (a := ⟨b, 0, none⟩) (fun e => hgb (own_at e).symm) _) x y z
  have hfar : ∀ k, k ≠ b → k ≠ g → W.heap[k]? = w5.heap[k]? := fun k h1 h2 => by
    rcases hW with rfl | rfl
    · rw [Deep.blk_setCell_other _ _ _ _ h1, set3_far _ g _ _ _ x y z k h2]
    · rw [set3_far _ g _ _ _ x y z k h2, Deep.blk_setCell_other _ _ _ _ h1]
  have hsz : W.heap.size = w5.heap.size := by rcases hW with rfl | rfl <;> simp
  have hbel : Below B w5 W := by
    rcases hW with rfl | rfl
    · exact below_set (below_set (below_set (below_set (Below.refl _ _) g _ _ hBg) g _ _ hBg) g _ _ hBg) b _ _ hBb
    · exact below_set (below_set (below_set (below_set (Below.refl _ _) b _ _ hBb) g _ _ hBg) g _ _ hBg) g _ _ hBg
  have hmv : ∀ {a : Value} {m : Nod}, NodeIn (fun k => (SF B w k ∧ X k) ∧ u.ownBlock ≠ some k) w a m → NodeIn (fun k => (SF B W k ∧ X k) ∧ (Value.slice (some ⟨g, 0, none⟩) (q + 1) cap).ownBlock ≠ some k) W a m := fun h => h.move (fun k hk hkl => by
    obtain ⟨⟨⟨h1, cs, fr, h2⟩, hX⟩, h3⟩ := hk
    have hkb : k ≠ b := fun e => by
      rw [e, hg] at h2
      simp only [Option.some.injEq, Obj.cells.injEq] at h2
      exact absurd h2.2.1 (by decide)
    have hkg : k ≠ g := fun e => by
      rcases hat with h | h
      · exact h3 (by rw [h, e])
      · omega
    have he : W.heap[k]? = w.heap[k]? := (hfar k hkb hkg).trans (hsame k cs _ fr h2 (by decide) h3)
    exact ⟨⟨⟨⟨h1, cs, fr, he.trans h2⟩, hX⟩, fun e => hkg (own_at e).symm⟩, he⟩) (by omega)
  refine ⟨hcell, ⟨vs ++ [(x, y, z)], ?_, by rw [List.length_append, List.length_append, hvl, hal]; rfl, fun j t m hj hm => ?_⟩, hsz, hfar, hbel⟩
  · rw [List.length_append, hal]
    exact hown
  · by_cases hjl : j < vs.length
    · rw [List.getElem?_append_left hjl] at hj
      rw [List.getElem?_append_left (by omega)] at hm
      exact hmv (hn j t m hj hm)
    · have hjv := (List.getElem?_eq_some_iff.1 hj).1
      rw [List.length_append, List.length_singleton] at hjv
      obtain rfl : j = vs.length := by omega
      rw [List.getElem?_append_right (Nat.le_refl _), Nat.sub_self] at hj
      rw [hvl, ← hal, List.getElem?_append_right (Nat.le_refl _), Nat.sub_self] at hm
      cases hj
      cases hm
      exact hmv hnew

set_option maxRecDepth 100000 in
set_option maxHeartbeats 1000000 in
theorem put_is (B b : Nat) (acc : List Nod) (cur : T) (k : Nat) (s : T) (m : List Nod) (A : Option Addr) (c : Nat) (H : Nat) (u : Value) (w : World) (h : RowAt (fun _ => True) B b H u acc cur w) (hn : NodeIn (SF H w) w (.agg #[.int .i64 (k : Int), .string (bs s), .slice A m.length c]) (.mk k s m)) (hl : acc.length ≤ 1000000)
    (HS : ∀ W, RowAt (fun _ => True) B b H u acc cur W → Calls Tryz.prog 65 #[.pointer (some ⟨b, 0, none⟩)] W fun e W' => e = .returned (.tuple #[]) ∧ ∃ u', RowAt (fun _ => True) B b W'.heap.size u' (flushP acc cur) [] W' ∧ Below B W W' ∧ Stay H W W' ∧ (∀ k, u'.ownBlock = some k → k < H ∨ W.heap.size ≤ k)) :
    Calls Tryz.prog 69 #[.pointer (some ⟨b, 0, none⟩), .agg #[.int .i64 (k : Int), .string (bs s), .slice A m.length c]] w fun e W' => e = .returned (.tuple #[]) ∧ ∃ u', RowAt (fun _ => True) B b W'.heap.size u' (flushP acc cur ++ [.mk k s m]) [] W' ∧ Below B w W' := by
  obtain ⟨i0, hi, hz0, hz1, hz2⟩ := info_parts infoNode
  have hBb := h.at_
  have hHz := h.hz
  have hbH := h.lt
  have HR := Lib.hid h
  have HNd := Lib.hid hn
  have HSt := Lib.hid HS
  clear h hn HS
  go_enter Tryz.func69, Tryz.ntmps69
  go_upto_region 1 with fail
  obtain ⟨w1, hw1⟩ : ∃ w1, w1 = w.alloc (.cells #[.int .i64 (k : Int), .string (bs s), .slice A m.length c] 25) := ⟨_, rfl⟩
  rw [← hw1]
  have hb1 : Below w.heap.size w w1 := by rw [hw1]; exact (Below.refl _ _).alloc (Nat.le_refl _) _
  have hx1 : w1.heap[w.heap.size]? = some (.cells #[.int .i64 (k : Int), .string (bs s), .slice A m.length c] 25) := by rw [hw1]; exact heap_alloc_new w _
  have hz1' : w1.heap.size = w.heap.size + 1 := by rw [hw1, World.size_alloc]
  have HC := Lib.hid (HSt.out w1 (HR.out.on hb1))
  have HN1 := Lib.hid (Unod.on HNd.out hb1)
  have HB1 := Lib.hid hb1
  have HX1 := Lib.hid hx1
  clear hw1 hb1 hx1 HNd HR
  go_upto_region 2 with (go_at_call 65; refine HC.out.mono ?_; rintro e w2 ⟨rfl, u2, hr2, hb2, hs2, ho2⟩; have HR2 := Lib.hid hr2; have HB2 := Lib.hid hb2; have HS2 := Lib.hid hs2; have HO2 := Lib.hid ho2; clear hr2 hb2 hs2 ho2)
  obtain ⟨p, v, vs, hg, hp, hu, hvl, hvn, hv, hvH⟩ := HR2.out.st
  obtain ⟨Au, cu, rfl⟩ : ∃ Au cu, u2 = .slice Au (flushP acc cur).length cu := by
    rcases hu.2 with ⟨hv, h0⟩ | ⟨g, cap, cur, hv, _⟩
    · exact ⟨none, 0, by rw [hv, h0]⟩
    · exact ⟨_, _, hv⟩
  have hfl : (flushP acc cur).length ≤ 1000001 := by
    unfold flushP
    split
    · omega
    · rw [List.length_append, List.length_singleton]; omega
  obtain ⟨q, hq⟩ : ∃ q, q = (flushP acc cur).length := ⟨_, rfl⟩
  rw [← hq] at hu hg hfl HO2 hvn
  have HQ := Lib.hid hq
  have HVl : Hid (vs.length = q) := hvl.trans hq.symm
  have hq1 : ((q : Nat) : Int) < ((q : Nat) : Int) + 1 := by omega
  have hx2 : w2.heap[w.heap.size]? = some (.cells #[.int .i64 (k : Int), .string (bs s), .slice A m.length c] 25) := (HS2.out _ (by omega) (by omega)).trans HX1.out
  obtain ⟨c0, c1, c2⟩ := cells_at hg
  obtain ⟨x0, x1, x2⟩ := cells_at hx2
  have HU := Lib.hid hu
  have HG := Lib.hid hg
  have HX2 := Lib.hid hx2
  have hBz : B ≤ w2.heap.size := by have := HB2.out.size; omega
  have HZn := Lib.hid (zero_new w2.drew)
  have hnew : NodeIn (fun k => (SF B w2 k ∧ True) ∧ (Value.slice Au q cu).ownBlock ≠ some k) w2 (.agg #[.int .i64 (k : Int), .string (bs s), .slice A m.length c]) (.mk k s m) := (show NodeIn (SF H w1) w1 _ _ from HN1.out).move (fun j hj hjl => by
    have e := HS2.out j hj.1 hjl
    refine ⟨⟨⟨⟨by have := hj.1; omega, hj.2.of e⟩, trivial⟩, fun e2 => ?_⟩, e⟩
    have := hj.1
    rcases HO2.out _ e2 with h | h <;> omega) HB2.out.size
  have HPE : Hid (∀ g cap w5, w5.ownsRow B 25 3 (.slice (some ⟨g, 0, none⟩) (q + 1) cap) (q + 1) (cells3 vs ++ [.int .i64 0, .string ⟨#[]⟩, .slice none 0 0]) → (w2.drew.alloc (.cells #[.int .i64 0, .string ⟨#[]⟩, .slice none 0 0] 25)).grownBy w5 (Value.slice Au q cu).ownBlock → ((Value.slice Au q cu).ownBlock = some g ∨ g = w2.heap.size + 1) → ∀ W, (W = (((w5.setCell ⟨g, q * 3, none⟩ (.int .i64 (k : Int))).setCell ⟨g, q * 3 + 1, none⟩ (.string (bs s))).setCell ⟨g, q * 3 + 2, none⟩ (.slice A m.length c)).setCell ⟨b, 0, none⟩ (.slice (some ⟨g, 0, none⟩) (q + 1) cap) ∨ W = (((w5.setCell ⟨b, 0, none⟩ (.slice (some ⟨g, 0, none⟩) (q + 1) cap)).setCell ⟨g, q * 3, none⟩ (.int .i64 (k : Int))).setCell ⟨g, q * 3 + 1, none⟩ (.string (bs s))).setCell ⟨g, q * 3 + 2, none⟩ (.slice A m.length c)) → ∃ u', RowAt (fun _ => True) B b W.heap.size u' (flushP acc cur ++ [.mk k s m]) [] W ∧ Below B w W) := fun g cap w5 hown5 hgrow5 hat5 W hW => by
    have hz5 := hgrow5.size
    rw [World.size_alloc] at hz5
    have hzd : w2.drew.heap.size = w2.heap.size := rfl
    have hbel2 : Below B w w2 := (HB1.out.mono (by omega)).trans HB2.out
    have hold : ∀ j, j < w2.heap.size → (Value.slice Au q cu).ownBlock ≠ some j → w5.heap[j]? = w2.heap[j]? := fun j hj hne => (hgrow5.block j (by rw [World.size_alloc]; omega) (fun e => hne e.symm)).trans (Lib.alloc_old w2.drew _ j hj)
    have hBg : B ≤ g := by
      rcases hat5 with h | h
      · exact (hu.lt g h).1
      · have := hbel2.size; omega
    have hP := pushed (g := g) (cap := cap) (w := w2) (w5 := w5) (W := W) hBb hBg hg hu (hvl.trans hq.symm) hq.symm hvn (fun j cs t fr h _ hne => hold j (heap_lt h) hne) (hat5.imp id (fun h => by omega)) (by omega) hown5 hnew hW
    have hb5 : Below B w2 w5 := by
      refine (((Below.refl B w2).drew).alloc (by have := hbel2.size; simp; omega) _).grown hgrow5 (by have := hbel2.size; simp; omega) (fun j e => (hu.lt j e).1)
    have hgl : g < W.heap.size := by
      obtain ⟨vs', ho', _⟩ := hP.own
      exact (ho'.lt g rfl).2
    have hsz := hP.size
    refine ⟨.slice (some ⟨g, 0, none⟩) (q + 1) cap, ⟨hBb, by have := heap_lt hg; omega, Nat.le_refl _, fun j e => by rw [← own_at e]; exact hgl, p, v, ?_⟩, (hbel2.trans hb5).trans hP.below⟩
    obtain ⟨vs', ho', hl', hn'⟩ := hP.own
    refine ⟨vs', hP.cell, hp, ?_, hl', hn', own_same hv fun j cs fr hj => ?_, fun j e => by have := (hv.lt j e).2; omega⟩
    · rw [List.length_append, List.length_singleton, ← hq] at ho' ⊢
      exact ho'
    · have hjl := heap_lt hj
      have hju : (Value.slice Au q cu).ownBlock ≠ some j := own_ne hu hj (by decide)
      have hjb : j ≠ b := fun e => by
        rw [e, hg] at hj
        simp only [Option.some.injEq, Obj.cells.injEq] at hj
        exact absurd hj.2.1 (by decide)
      have hjg : j ≠ g := fun e => by
        rcases hat5 with h | h
        · exact hju (by rw [h, e])
        · omega
      exact (hP.far j hjb hjg).trans (hold j hjl hju)
  clear hnew
  clear hvl hvn hv hvH hp hu hg hx2 hq
  have hbx : b < w2.heap.size ∧ w.heap.size < w2.heap.size := ⟨heap_lt HG.out, heap_lt HX2.out⟩
  have y0 : (w2.drew.alloc (.cells #[.int .i64 0, .string ⟨#[]⟩, .slice none 0 0] 25)).cell? ⟨b, 0, none⟩ = some (.slice Au q cu) := (cells_at ((Lib.alloc_old w2.drew _ b hbx.1).trans HG.out)).1
  have y1 : (w2.drew.alloc (.cells #[.int .i64 0, .string ⟨#[]⟩, .slice none 0 0] 25)).cell? ⟨w.heap.size, 0, none⟩ = some (.int .i64 (k : Int)) := (cells_at ((Lib.alloc_old w2.drew _ _ hbx.2).trans HX2.out)).1
  have y2 : (w2.drew.alloc (.cells #[.int .i64 0, .string ⟨#[]⟩, .slice none 0 0] 25)).cell? ⟨w.heap.size, 1, none⟩ = some (.string (bs s)) := (cells_at ((Lib.alloc_old w2.drew _ _ hbx.2).trans HX2.out)).2.1
  have y3 : (w2.drew.alloc (.cells #[.int .i64 0, .string ⟨#[]⟩, .slice none 0 0] 25)).cell? ⟨w.heap.size, 2, none⟩ = some (.slice A m.length c) := (cells_at ((Lib.alloc_old w2.drew _ _ hbx.2).trans HX2.out)).2.2
  have hou : (Value.slice Au q cu).ownBlock ≠ some b := own_ne HU.out HG.out (by decide)
  have hox : (Value.slice Au q cu).ownBlock ≠ some w.heap.size := fun e => by
    rcases HO2.out _ e with h | h <;> omega
  have HOx := Lib.hid hox
  have HOu := Lib.hid hou
  clear hou hox
  go_region_law (refine step_append_lies _ rfl _ _ 23 rfl B 25 i0 (.agg #[.int .i64 0, .string .empty, .slice none 0 0]) 3 48 Tryz.underlying23 hi hz0 hz1 hz2 rfl (by decide) (.slice Au q cu) q _ (by first | rfl | simp [Act.eval, Act.put]) (HU.out.drew.alloc _) ⟨w2.heap.size, 0, none⟩ 1 1 [.int .i64 0, .string ⟨#[]⟩, .slice none 0 0] (by first | rfl | simp [Act.eval, Act.put]) rfl HZn.out (by simp [Value.oneCell']) (by decide) (by unfold maxLen; omega) (by omega) (by simp; omega) (w2.heap.size + 1) (World.size_alloc ..) ?_; intro g cap w5 hown5 hgrow5 hat5 hlt5; have hb5 : w5.heap[b]? = _ := (hgrow5.block b (by simp; omega) (fun e => HOu.out e.symm)).trans ((Lib.alloc_old w2.drew _ b hbx.1).trans HG.out); have hx5 : w5.heap[w.heap.size]? = _ := (hgrow5.block _ (by simp; omega) (fun e => HOx.out e.symm)).trans ((Lib.alloc_old w2.drew _ _ hbx.2).trans HX2.out); obtain ⟨z0, z1, z2⟩ := cells_at hb5; obtain ⟨z3, z4, z5⟩ := cells_at hx5; have t0 : w5.frozen? ⟨b, 0, none⟩ = false := Lib.frozen_of_heap hb5 0; have r1 := (hown5.cellAt (q * 3) (by omega)).trans (last3 HVl.out _ _ _).1; have r2 := (hown5.cellAt (q * 3 + 1) (by omega)).trans (last3 HVl.out _ _ _).2.1; have r3 := (hown5.cellAt (q * 3 + 2) (by omega)).trans (last3 HVl.out _ _ _).2.2; have t1 := hown5.frozenAt (q * 3); have t2 := hown5.frozenAt (q * 3 + 1); have t3 := hown5.frozenAt (q * 3 + 2); have hgb : b ≠ g := (fun e => own_ne hown5 hb5 (by decide) (by rw [e]; rfl)); have s0 := (cell_other5 w5 g b (q * 3) (q * 3 + 1) (q * 3 + 2) 0 (.int .i64 (k : Int)) (.string (bs s)) (.slice A m.length c) hgb).trans z0; have s1 := (cell_other1 w5 b g 0 (q * 3) (.slice (some ⟨g, 0, none⟩) (q + 1) cap) hgb.symm).trans r1; have s2 := (cell_other1 w5 b g 0 (q * 3 + 1) (.slice (some ⟨g, 0, none⟩) (q + 1) cap) hgb.symm).trans r2; have s3 := (cell_other1 w5 b g 0 (q * 3 + 2) (.slice (some ⟨g, 0, none⟩) (q + 1) cap) hgb.symm).trans r3; have HFin := Lib.hid (HPE.out g cap w5 hown5 hgrow5 hat5); clear hown5 hgrow5 hat5 hb5 hx5)
  all_goals exact bodyPost_end (v := .tuple #[]) (by simp [results, Tryz.results69, go_sem]) rfl ⟨rfl, HFin.out _ (by first | (left; with_reducible rfl) | (right; with_reducible rfl))⟩

end Go.Proofs.YtmcdefkpkpaceaaGreatDoor.Uput
