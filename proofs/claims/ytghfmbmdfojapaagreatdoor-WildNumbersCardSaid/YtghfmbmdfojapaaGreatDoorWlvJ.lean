/- Where a walk has come to: the map of places in memory. -/
import Derived.Test.YtghfmbmdfojapaaGreatDoorWnoJ
namespace Go.Proofs.YtghfmbmdfojapaaGreatDoor.Wlv
open Go.RowKit Go.Maps Go.Proofs.YtghfmbmdfojapaaGreatDoor.Pth Go.Proofs.YtghfmbmdfojapaaGreatDoor.Strs Go.Proofs.YtghfmbmdfojapaaGreatDoor.Vfs Go.Proofs.YtghfmbmdfojapaaGreatDoor.Vmap Go.Proofs.YtghfmbmdfojapaaGreatDoor.Wdp Go.Proofs.YtghfmbmdfojapaaGreatDoor.Wnn

/-- what a path leads to -/
def ptrElem : Value → Option (DataW U × List MemPlace)
  | .pointer (some ⟨b, 0, none⟩) => some (.lit (.int .i64 (b : Int)), [])
  | .pointer none => some (.nil, [])
  | _ => none
theorem ptrElem_inv {v : Value} {b : Nat} {ps : List MemPlace} (h : ptrElem v = some (.lit (.int .i64 (b : Int)), ps)) : v = .pointer (some ⟨b, 0, none⟩) := by
  unfold ptrElem at h
  split at h
  · rename_i b'
    simp at h
    obtain rfl : b' = b := by omega
    rfl
  · cases h
  · cases h
theorem ptrElem_nil {v : Value} {ps : List MemPlace} (h : ptrElem v = some (.nil, ps)) : v = .pointer none := by
  unfold ptrElem at h
  split at h
  · cases h
  · rfl
  · cases h
theorem zeroPtr (w : World) : (zeroValue 83).run Tryz.prog w = .ok (.pointer none) w := by kernel_rfl
/-- a place: its path, its block, whether it is a directory, its ways -/
structure Pl where
  k : T
  b : Nat
  d : Bool
  v : Value
  ws : List Wnn.Way
def fnd (S : List Pl) (x : T) : Option Pl := S.find? fun e => decide (e.k = x)
theorem fnd_mem {S : List Pl} {x : T} {e : Pl} (h : fnd S x = some e) : e ∈ S ∧ e.k = x := ⟨List.mem_of_find?_eq_some h, of_decide_eq_true (List.find?_some (p := fun e : Pl => decide (e.k = x)) h)⟩
theorem fnd_none {S : List Pl} {x : T} : fnd S x = none ↔ ∀ e ∈ S, e.k ≠ x := by
  unfold fnd
  rw [List.find?_eq_none]
  exact ⟨fun h e he hk => h e he (decide_eq_true hk), fun h e he hk => h e he (of_decide_eq_true hk)⟩
structure LevIs (w : World) (lo m : Nat) (S : List Pl) : Prop where
  own : ∃ D n, w.ownsMap Tryz.prog 9 ptrElem m n D ∧ n ≤ S.length ∧ (∀ x : T, Maps.has D (.string x) = (fnd S x).isSome) ∧ ∀ x e, fnd S x = some e → D.atKey (.string x) .nil = .lit (.int .i64 (e.b : Int))
  keys : (S.map (·.k)).Nodup
  pl : ∀ e ∈ S, w.heap[e.b]? = some (.cells #[.bool e.d, e.v] 118 (0, 0)) ∧ w.ownsRow lo 121 2 e.v e.ws.length (wcells e.ws) ∧ lo ≤ e.b
  apart : S.Pairwise fun a b => a.b ≠ b.b ∧ ∀ r, a.v.ownBlock = some r → b.v.ownBlock ≠ some r
theorem LevIs.of_blocks {w W : World} {lo m : Nat} {S : List Pl} (h : LevIs w lo m S) (h1 : W.heap[m]? = w.heap[m]?) (h2 : ∀ e ∈ S, W.heap[e.b]? = w.heap[e.b]?) (h3 : ∀ e ∈ S, ∀ r, e.v.ownBlock = some r → W.heap[r]? = w.heap[r]?) : LevIs W lo m S := by
  obtain ⟨D, n, ho, r⟩ := h.own
  exact ⟨⟨D, n, owns_block ho h1, r⟩, h.keys, fun e he => ⟨(h2 e he).trans (h.pl e he).1, rows_below (h.pl e he).2.1 (h3 e he), (h.pl e he).2.2⟩, h.apart⟩
theorem LevIs.lt {w : World} {lo m : Nat} {S : List Pl} (h : LevIs w lo m S) : m < w.heap.size := by
  obtain ⟨D, n, ho, _⟩ := h.own
  exact ho.lt
theorem LevIs.below {w W : World} {lo m : Nat} {S : List Pl} (h : LevIs w lo m S) (hb : Below w.heap.size w W) : LevIs W lo m S :=
  h.of_blocks (hb.block _ h.lt) (fun e he => hb.block _ (Array.getElem?_eq_some_iff.1 (h.pl e he).1).1) (fun e he r hr => hb.block _ ((h.pl e he).2.1.lt r hr).2)
theorem LevIs.look_some {w : World} {lo m : Nat} {S : List Pl} (h : LevIs w lo m S) {x : T} (hx : x.length ≤ maxLen) {e : Pl} (he : fnd S x = some e) :
    (Instr.lookup 81 (.map (some m)) (.string (bs x)) false).run Tryz.prog w = .ok (.pointer (some ⟨e.b, 0, none⟩)) w := by
  obtain ⟨D, n, ho, _, _, hat⟩ := h.own
  obtain ⟨v, ps, hrun, hv⟩ := ho.lookup KS Tryz.underlying81 (zeroPtr w) (zd := .nil) (zp := []) rfl (keyS (x := bs x) (by rw [size_bs]; exact hx))
  rw [data_bs, hat x e he] at hv
  rw [ptrElem_inv hv] at hrun
  exact hrun
theorem LevIs.look_no {w : World} {lo m : Nat} {S : List Pl} (h : LevIs w lo m S) {x : T} (hx : x.length ≤ maxLen) (he : fnd S x = none) :
    (Instr.lookup 81 (.map (some m)) (.string (bs x)) false).run Tryz.prog w = .ok (.pointer none) w := by
  obtain ⟨D, n, ho, _, hh, _⟩ := h.own
  obtain ⟨v, ps, hrun, hv⟩ := ho.lookup KS Tryz.underlying81 (zeroPtr w) (zd := .nil) (zp := []) rfl (keyS (x := bs x) (by rw [size_bs]; exact hx))
  rw [data_bs] at hv
  have h0 : Maps.has D (.string x) = false := by rw [hh, he]; rfl
  rw [atKey_of_not_has h0] at hv
  rw [ptrElem_nil hv] at hrun
  exact hrun

theorem fnd_snoc_same {S : List Pl} {e : Pl} (h : fnd S e.k = none) : fnd (S ++ [e]) e.k = some e := by
  unfold fnd at *
  rw [List.find?_append, h]
  simp
theorem fnd_snoc_other {S : List Pl} {e : Pl} {x : T} (h : e.k ≠ x) : fnd (S ++ [e]) x = fnd S x := by
  unfold fnd
  rw [List.find?_append]
  cases S.find? (fun e => decide (e.k = x)) with
  | some _ => rfl
  | none => simp [h]

/-- a new place, without ways yet -/
theorem LevIs.add {w : World} {lo m : Nat} {S : List Pl} (h : LevIs w lo m S) {k : T} (hk : k.length ≤ maxLen) (hn : fnd S k = none) {bn : Nat} {d : Bool} (hb : w.heap[bn]? = some (.cells #[.bool d, .slice none 0 0] 118 (0, 0))) (hlo : lo ≤ bn) (hfr : ∀ e ∈ S, e.b ≠ bn) (hS : S.length < maxLen) :
    ∃ W, (Instr.mapUpdate 81 (.map (some m)) (.string (bs k)) (.pointer (some ⟨bn, 0, none⟩))).run Tryz.prog w = .ok () W ∧ LevIs W lo m (S ++ [⟨k, bn, d, .slice none 0 0, []⟩]) ∧ w.grownBy W (some m) := by
  obtain ⟨D, n, ho, hle, hh, hat⟩ := h.own
  obtain ⟨W, hrun, ho2, hg⟩ := ho.update KS Tryz.underlying81 (Nat.lt_of_le_of_lt hle hS) (keyS (x := bs k) (by rw [size_bs]; exact hk)) (val := .pointer (some ⟨bn, 0, none⟩)) (d := .lit (.int .i64 (bn : Int))) (ps := []) rfl
  rw [data_bs] at ho2
  have hmap : ∀ q : Nat, ∀ o, w.heap[q]? = some (.cells o 118 (0, 0)) → q ≠ m := fun q o hq e => by
    obtain ⟨es, clock, hbl, _⟩ := ho
    rw [e] at hq
    rw [hbl] at hq
    cases hq
  have hmap2 : ∀ q : Nat, ∀ o, w.heap[q]? = some (.cells o 121 (0, 0)) → q ≠ m := fun q o hq e => by
    obtain ⟨es, clock, hbl, _⟩ := ho
    rw [e] at hq
    rw [hbl] at hq
    cases hq
  have hold : ∀ e ∈ S, W.heap[e.b]? = some (.cells #[.bool e.d, e.v] 118 (0, 0)) ∧ W.ownsRow lo 121 2 e.v e.ws.length (wcells e.ws) ∧ lo ≤ e.b := fun e he => by
    obtain ⟨p1, p2, p3⟩ := h.pl e he
    have hl := (Array.getElem?_eq_some_iff.1 p1).1
    refine ⟨(hg.block _ hl (fun e1 => hmap _ _ p1 (Option.some.inj e1))).trans p1, rows_below p2 (fun r hr => ?_), p3⟩
    obtain ⟨cur, hc⟩ := own_kind p2 hr
    exact hg.block _ (p2.lt r hr).2 (fun e1 => hmap2 _ _ hc (Option.some.inj e1))
  refine ⟨W, hrun, ⟨⟨_, n + 1, ho2, by rw [List.length_append, List.length_cons, List.length_nil]; omega, fun y => ?_, fun y e hd => ?_⟩, ?_, fun e he => ?_, ?_⟩, hg⟩
  · by_cases hy : y = k
    · subst hy
      rw [has_put_same ho.isMap (isKeyS _), fnd_snoc_same (e := ⟨y, bn, d, .slice none 0 0, []⟩) hn]; rfl
    · rw [has_put_other (fun e1 => hy (by cases e1; rfl)), hh, fnd_snoc_other (fun e1 => hy e1.symm)]
  · by_cases hy : y = k
    · subst hy
      rw [fnd_snoc_same (e := ⟨y, bn, d, .slice none 0 0, []⟩) hn] at hd
      rw [← Option.some.inj hd, atKey_put_same ho.isMap (isKeyS _)]
    · rw [fnd_snoc_other (fun e1 => hy e1.symm)] at hd
      rw [atKey_put_other (fun e1 => hy (by cases e1; rfl)), hat y e hd]
  · rw [List.map_append, List.nodup_append]
    refine ⟨h.keys, by simp, fun a ha c hc e1 => ?_⟩
    obtain ⟨e, he, rfl⟩ := List.mem_map.1 ha
    have hc2 : c = k := by simpa using hc
    exact fnd_none.1 hn e he (e1.trans hc2)
  · rcases List.mem_append.1 he with h1 | h1
    · exact hold e h1
    · rw [List.mem_singleton.1 h1]
      exact ⟨(hg.block _ (Array.getElem?_eq_some_iff.1 hb).1 (fun e1 => hmap _ _ hb (Option.some.inj e1))).trans hb, World.ownsRow_nil _ _ _ _, hlo⟩
  · rw [List.pairwise_append]
    refine ⟨h.apart, List.pairwise_singleton _ _, fun a ha c hc => ?_⟩
    rw [List.mem_singleton.1 hc]
    exact ⟨hfr a ha, fun r _ => by simp [Value.ownBlock]⟩

/-- one more way to a place -/
theorem LevIs.way {w W : World} {lo m : Nat} {S1 S2 : List Pl} {e : Pl} {v' : Value} {y : Wnn.Way} (h : LevIs w lo m (S1 ++ e :: S2))
    (h1 : W.heap[e.b]? = some (.cells #[.bool e.d, v'] 118 (0, 0))) (h2 : W.ownsRow lo 121 2 v' (e.ws.length + 1) (wcells (e.ws ++ [y])))
    (h3 : v'.ownBlock = e.v.ownBlock ∨ ∃ r, v'.ownBlock = some r ∧ w.heap.size ≤ r) (h4 : ∀ k, k < w.heap.size → k ≠ e.b → some k ≠ e.v.ownBlock → W.heap[k]? = w.heap[k]?) :
    LevIs W lo m (S1 ++ ⟨e.k, e.b, e.d, v', e.ws ++ [y]⟩ :: S2) := by
  obtain ⟨D, n, ho, hle, hh, hat⟩ := h.own
  have hmem : e ∈ S1 ++ e :: S2 := List.mem_append_right _ List.mem_cons_self
  obtain ⟨pe1, pe2, pe3⟩ := h.pl e hmem
  have hf : ∀ x, (fnd (S1 ++ ⟨e.k, e.b, e.d, v', e.ws ++ [y]⟩ :: S2) x).map (·.b) = (fnd (S1 ++ e :: S2) x).map (·.b) := fun x => by
    unfold fnd
    rw [List.find?_append, List.find?_append, List.find?_cons, List.find?_cons]
    cases S1.find? (fun e => decide (e.k = x)) with
    | some _ => rfl
    | none =>
      by_cases hx : e.k = x
      · simp [hx]
      · simp [hx]
  have hmb : m ≠ e.b ∧ some m ≠ e.v.ownBlock := by
    obtain ⟨es, clock, hbl, _⟩ := ho
    refine ⟨fun e1 => ?_, fun e1 => ?_⟩
    · rw [← e1, hbl] at pe1; cases pe1
    · obtain ⟨cur, hc⟩ := own_kind pe2 e1.symm
      rw [hbl] at hc; cases hc
  obtain ⟨ap1, ap2, ap3⟩ := List.pairwise_append.1 h.apart
  obtain ⟨ap4, ap5⟩ := List.pairwise_cons.1 ap2
  have hother : ∀ c ∈ S1 ++ S2, c ∈ S1 ++ e :: S2 ∧ c.b ≠ e.b ∧ (∀ r, c.v.ownBlock = some r → e.v.ownBlock ≠ some r) := fun c hc => by
    rcases List.mem_append.1 hc with h5 | h5
    · have := ap3 c h5 e List.mem_cons_self
      exact ⟨List.mem_append_left _ h5, this.1, this.2⟩
    · have := ap4 c h5
      exact ⟨List.mem_append_right _ (List.mem_cons_of_mem _ h5), fun e1 => this.1 e1.symm, fun r hr e1 => this.2 r e1 hr⟩
  have hold : ∀ c ∈ S1 ++ S2, W.heap[c.b]? = some (.cells #[.bool c.d, c.v] 118 (0, 0)) ∧ W.ownsRow lo 121 2 c.v c.ws.length (wcells c.ws) ∧ lo ≤ c.b := fun c hc => by
    obtain ⟨hc1, hc2, hc3⟩ := hother c hc
    obtain ⟨p1, p2, p3⟩ := h.pl c hc1
    have hl := (Array.getElem?_eq_some_iff.1 p1).1
    refine ⟨(h4 _ hl hc2 (fun e1 => ?_)).trans p1, rows_below p2 (fun r hr => h4 r (p2.lt r hr).2 (fun e1 => ?_) (fun e1 => hc3 r hr e1.symm)), p3⟩
    · obtain ⟨cur, hcu⟩ := own_kind pe2 e1.symm
      rw [p1] at hcu
      injection hcu with hcu
      injection hcu with _ hty _
      exact absurd hty (by decide)
    · obtain ⟨cur, hcu⟩ := own_kind p2 hr
      rw [e1, pe1] at hcu
      injection hcu with hcu
      injection hcu with _ hty _
      exact absurd hty (by decide)
  refine ⟨⟨D, n, owns_block ho (h4 m ho.lt hmb.1 hmb.2), by rw [List.length_append, List.length_cons] at hle ⊢; exact hle, fun x => ?_, fun x c hc => ?_⟩, ?_, fun c hc => ?_, ?_⟩
  · rw [hh]
    have := hf x
    cases h5 : fnd (S1 ++ e :: S2) x <;> cases h6 : fnd (S1 ++ ⟨e.k, e.b, e.d, v', e.ws ++ [y]⟩ :: S2) x <;> rw [h5, h6] at this <;> first | rfl | cases this
  · have := hf x
    rw [hc] at this
    cases h5 : fnd (S1 ++ e :: S2) x with
    | none => rw [h5] at this; cases this
    | some c0 =>
      rw [h5] at this
      rw [hat x c0 h5, show c0.b = c.b from (Option.some.inj this).symm]
  · have hk := h.keys
    rw [List.map_append, List.map_cons] at hk ⊢
    exact hk
  · rcases List.mem_append.1 hc with h5 | h5
    · exact hold c (List.mem_append_left _ h5)
    · rcases List.mem_cons.1 h5 with rfl | h6
      · refine ⟨h1, by rw [List.length_append]; exact h2, pe3⟩
      · exact hold c (List.mem_append_right _ h6)
  · have hrow : ∀ c ∈ S1 ++ S2, ∀ r, c.v.ownBlock = some r → v'.ownBlock ≠ some r := fun c hc r hr e1 => by
      obtain ⟨hc1, _, hc3⟩ := hother c hc
      rcases h3 with h5 | ⟨r', h5, h6⟩
      · exact hc3 r hr (h5 ▸ e1)
      · rw [h5] at e1
        cases e1
        have := ((h.pl c hc1).2.1.lt r hr).2
        omega
    refine List.pairwise_append.2 ⟨ap1, List.pairwise_cons.2 ⟨fun c hc => ⟨(ap4 c hc).1, fun r hr e1 => hrow c (List.mem_append_right _ hc) r e1 hr⟩, ap5⟩, fun a ha c hc => ?_⟩
    rcases List.mem_cons.1 hc with rfl | h5
    · exact ⟨(ap3 a ha e List.mem_cons_self).1, fun r hr => hrow a (List.mem_append_left _ ha) r hr⟩
    · exact ap3 a ha c (List.mem_cons_of_mem _ h5)

end Go.Proofs.YtghfmbmdfojapaaGreatDoor.Wlv

/- reach: one way further. -/
namespace Go.Proofs.YtghfmbmdfojapaaGreatDoor.Wrc
open Go.RowKit Go.Maps Go.Proofs.YtghfmbmdfojapaaGreatDoor.Pth Go.Proofs.YtghfmbmdfojapaaGreatDoor.Strs Go.Proofs.YtghfmbmdfojapaaGreatDoor.Vfs Go.Proofs.YtghfmbmdfojapaaGreatDoor.Vmap Go.Proofs.YtghfmbmdfojapaaGreatDoor.Vfind Go.Proofs.YtghfmbmdfojapaaGreatDoor.Vlook Go.Proofs.YtghfmbmdfojapaaGreatDoor.Wdp Go.Proofs.YtghfmbmdfojapaaGreatDoor.Wnn Go.Proofs.YtghfmbmdfojapaaGreatDoor.Wlv

/-- a way is laid down with the place that it leads to -/
def Laid (S : List Pl) (nd : Nd) (y : Wnn.Way) (S' : List Pl) : Prop :=
  (∃ S1 e S2 v', S = S1 ++ e :: S2 ∧ e.k = nd.p.data.toList ∧ S' = S1 ++ ⟨e.k, e.b, e.d, v', e.ws ++ [y]⟩ :: S2) ∨ (fnd S nd.p.data.toList = none ∧ ∃ b v', S' = S ++ [⟨nd.p.data.toList, b, nd.d, v', [y]⟩])
/-- a block that no place of these lies in -/
def Apart (S : List Pl) (g : Nat) : Prop := ∀ e ∈ S, g ≠ e.b ∧ some g ≠ e.v.ownBlock
def Reached (L : List Ent) (s x : T) (S : List Pl) (frm : Nat) (S' : List Pl) : Prop := match lookN L (bs (s ++ 47 :: x)) with
  | none => S' = S
  | some nd => Laid S nd (frm, x) S'

theorem infoWay : (Tryz.prog.info? 121).map (fun i => (i.zero, i.size, i.bytes)) = some (some (.agg #[.pointer none, .string .empty]), 2, 24) := by kernel_rfl
theorem eql_nil (t : TypeId) (q : Option Nat) (h : t = 83) (W : World) : (binOp .eql t (.pointer (q.map fun b => ⟨b, 0, none⟩)) (.pointer none)).run Tryz.prog W = .ok (.bool q.isNone) W := by
  subst h
  cases q <;> kernel_rfl
theorem eq_guard (q : Option Nat) (W : World) : (eqGuard .eql 83 (.tmp 26) (.const (.pointer none)) (.pointer (q.map fun b => ⟨b, 0, none⟩)) (.pointer none)).run Tryz.prog W = .ok () W := by
  cases q <;> kernel_rfl
theorem fnd_split {S : List Pl} {k : T} {e : Pl} (h : fnd S k = some e) : ∃ S1 S2, S = S1 ++ e :: S2 := List.append_of_mem (fnd_mem h).1
theorem fnd_mid {S1 S2 : List Pl} {e : Pl} (h : ((S1 ++ e :: S2).map (·.k)).Nodup) : fnd (S1 ++ e :: S2) e.k = some e := by
  unfold fnd
  rw [List.find?_append]
  have h1 : S1.find? (fun c => decide (c.k = e.k)) = none := by
    rw [List.find?_eq_none]
    intro c hc hk
    rw [List.map_append, List.nodup_append] at h
    exact h.2.2 c.k (List.mem_map_of_mem hc) e.k (by rw [List.map_cons]; exact List.mem_cons_self) (of_decide_eq_true hk)
  rw [h1, List.find?_cons]
  simp
theorem heap_set {w : World} {b : Nat} {d v v' : Value} {t : TypeId} (h : w.heap[b]? = some (.cells #[d, v] t (0, 0))) : (w.setCell ⟨b, 1, none⟩ v').heap[b]? = some (.cells #[d, v'] t (0, 0)) := by
  rw [heap_setCell_same w b 1 #[d, v] t v' h]; rfl
theorem newsW (w : World) (a : Nat) (x : T) (t : TypeId) : ∀ (j : Nat) u, [Value.pointer (some ⟨a, 0, none⟩), Value.string (bs x)][j]? = some u → (w.alloc (.cells #[.pointer (some ⟨a, 0, none⟩), .string (bs x)] t)).cell? ((⟨w.heap.size, 0, none⟩ : Addr).add j) = some u := fun j u hu => by
  rw [addr_add, Nat.zero_add, Lib.cell_of_heap (heap_alloc_new w _)]
  rw [← List.getElem?_toArray] at hu
  exact hu
theorem wcells_app (a b : List Wnn.Way) : wcells (a ++ b) = wcells a ++ wcells b := List.flatMap_append

set_option maxRecDepth 100000 in
set_option maxHeartbeats 8000000 in
theorem reach_is (fa : Addr) (Bm : Nat) (bl : List Nat) (L : List Ent) (w0 w : World) (lo m frm : Nat) (S : List Pl) (s x : T)
    (h0 : FsIs w0 fa Bm bl (dl L) L) (hi : Vfs.Inv L) (hL : L.length ≤ 900000000) (hb : Below w0.heap.size w0 w) (hlo0 : w0.heap.size ≤ lo) (hlo : lo ≤ w.heap.size) (hm : w0.heap.size ≤ m)
    (hl : LevIs w lo m S) (hS : S.length ≤ 1000000000) (hsz : s.length + 1 + x.length ≤ 1000000) (hp : ∀ nd, lookN L (bs (s ++ 47 :: x)) = some nd → nd.p.size ≤ 3000000) (hws : ∀ e ∈ S, e.ws.length ≤ 1000000000000) :
    Calls Tryz.prog 63 #[.pointer (some fa), .map (some m), .string (bs s), .agg #[.pointer (some ⟨frm, 0, none⟩), .string (bs x)]] w fun e W' => e = .returned (.tuple #[]) ∧ ∃ S', Reached L s x S frm S' ∧ LevIs W' lo m S' ∧ Below w0.heap.size w0 W' ∧ w.heap.size ≤ W'.heap.size ∧ ∀ k, k < w.heap.size → k ≠ m → Apart S k → W'.heap[k]? = w.heap[k]? ∧ Apart S' k := by
  obtain ⟨i0, hi0, hz0, hz1, hz2⟩ := info_parts infoWay
  obtain ⟨wA, hwA⟩ : ∃ wA, wA = w.alloc (.cells #[.pointer (some ⟨frm, 0, none⟩), .string (bs x)] 121) := ⟨_, rfl⟩
  have hsA : w.heap.size < wA.heap.size := by rw [hwA, World.size_alloc]; omega
  have hbA : Below w.heap.size w wA := by rw [hwA]; exact (Below.refl _ _).alloc (Nat.le_refl _) _
  have gA : wA.heap[w.heap.size]? = some (.cells #[.pointer (some ⟨frm, 0, none⟩), .string (bs x)] 121 (0, 0)) := by rw [hwA]; exact heap_alloc_new _ _
  have cA : wA.cell? ⟨w.heap.size, 1, none⟩ = some (.string (bs x)) := by rw [Lib.cell_of_heap gA]; rfl
  have hb0A : Below w0.heap.size w0 wA := hb.trans (hbA.mono hb.size)
  have HLook := Lib.hid (look_is fa Bm bl L (bs (s ++ 47 :: x)) wA (h0.below hb0A) hi (by rw [size_bs, List.length_append, List.length_cons]; omega) hL)
  have a1 : ∀ W, (Op.stringOp .add (bs s) ⟨#[47]⟩).run Tryz.prog W = .ok (.string (bs (s ++ [47]))) W := fun W => by rw [run_string_add_sum W _ _ (by rw [size_bs]; show _ + 1 ≤ _; omega)]; exact congrArg (fun z => Result.ok (Value.string z) W) (bs_app s [47])
  have a2 : ∀ W, (Op.stringOp .add (bs (s ++ [47])) (bs x)).run Tryz.prog W = .ok (.string (bs (s ++ 47 :: x))) W := fun W => by rw [run_string_add_sum W _ _ (by rw [size_bs, size_bs, List.length_append]; show _ + 1 + _ ≤ _; omega), ← bs_app, List.append_assoc]; rfl
  have HP := Lib.hid hp
  have HR : Hid (∀ S', Reached L s x S frm S' ↔ (match lookN L (bs (s ++ 47 :: x)) with | none => S' = S | some nd => Laid S nd (frm, x) S')) := fun S' => Iff.rfl
  generalize lookN L (bs (s ++ 47 :: x)) = lk at *
  have HSA := Lib.hid hsA
  have HBA := Lib.hid hbA
  have HGA := Lib.hid gA
  have HB := Lib.hid hb
  have HL := Lib.hid hl
  have HWS := Lib.hid hws
  have HLo := Lib.hid (And.intro hlo0 (And.intro hlo hm))
  clear hsA hbA gA hb0A h0 hi hb hl hp hws hlo0 hlo hm
  go_enter Tryz.func63, Tryz.ntmps63
  go_upto_region 1 with fail
  rw [← hwA]
  clear hwA
  go_wp2_with fail
  refine HLook.out.mono ?_
  rintro e w1 ⟨rfl, hb1⟩
  unfold Nd.e
  have HB1 := Lib.hid (HBA.out.trans (hb1.mono (Nat.le_of_lt HSA.out)))
  have HBA1 := Lib.hid hb1
  clear hb1 HLook a1 a2 cA
  cases lk with
  | none =>
    have HE : Hid (Reached L s x S frm S) := (HR.out S).2 rfl
    have hal : ∀ o, Below w.heap.size w (w1.alloc o) := fun o => HB1.out.alloc HB1.out.size _
    have HAl := Lib.hid hal
    clear hal
    go_wp2_with fail
    (try simp only [Exit.inBlock, Exit.then]); refine bodyPost_ret (results_none rfl _ _ _) rfl ?_
    exact ⟨rfl, S, HE.out, HL.out.below (HAl.out _), HB.out.trans ((HAl.out _).mono HB.out.size), Nat.le_trans HB1.out.size (by rw [World.size_alloc]; exact Nat.le_succ _), fun k hk _ ha => ⟨(HAl.out _).block k hk, ha⟩⟩
  | some nd =>
    have hnp : nd.p.size ≤ 3000000 := HP.out nd rfl
    have hbs : bs nd.p.data.toList = nd.p := by rfl
    have hkl : nd.p.data.toList.length ≤ maxLen := by rw [len_data]; unfold maxLen; omega
    obtain ⟨wE, hwE⟩ : ∃ wE, wE = w1.alloc (.cells #[.string nd.p, .bool nd.d, .string nd.t] 33) := ⟨_, rfl⟩
    have gE : wE.heap[w1.heap.size]? = some (.cells #[.string nd.p, .bool nd.d, .string nd.t] 33 (0, 0)) := by rw [hwE]; exact heap_alloc_new _ _
    have e0 : wE.cell? ⟨w1.heap.size, 0, none⟩ = some (.string nd.p) := by rw [Lib.cell_of_heap gE]; rfl
    have e1 : wE.cell? ⟨w1.heap.size, 1, none⟩ = some (.bool nd.d) := by rw [Lib.cell_of_heap gE]; rfl
    have hwwE : Below w.heap.size w wE := by rw [hwE]; exact HB1.out.alloc HB1.out.size _
    have hAE : Below wA.heap.size wA wE := by rw [hwE]; exact HBA1.out.alloc HBA1.out.size _
    have HWE := Lib.hid hwwE
    have HGe := Lib.hid gE
    have HGE := Lib.hid ((hAE.block w.heap.size HSA.out).trans HGA.out)
    have HLE := Lib.hid (HL.out.below hwwE)
    go_upto_region 3 with fail
    rw [← hwE]
    clear hwE gE hwwE hAE
    obtain ⟨q, hlk, hq⟩ : ∃ q : Option Nat, (Instr.lookup 81 (.map (some m)) (.string nd.p) false).run Tryz.prog wE = .ok (.pointer (q.map fun b => ⟨b, 0, none⟩)) wE ∧ ((q = none ∧ fnd S nd.p.data.toList = none) ∨ ∃ e, q = some e.b ∧ fnd S nd.p.data.toList = some e) := by
      cases hf : fnd S nd.p.data.toList with
      | some e => exact ⟨some e.b, by rw [← hbs]; exact HLE.out.look_some hkl hf, .inr ⟨e, rfl, rfl⟩⟩
      | none => exact ⟨none, by rw [← hbs]; exact HLE.out.look_no hkl hf, .inl ⟨rfl, rfl⟩⟩
    have heq := fun W => eql_nil 83 q rfl W
    have heg := fun W => eq_guard q W
    obtain ⟨pq, hpq⟩ : ∃ pq, pq = Value.pointer (q.map fun b => ⟨b, 0, none⟩) := ⟨_, rfl⟩
    rw [← hpq] at hlk heq heg
    have HQ := Lib.hid hq
    clear hq hpq
    go_upto_if 27 with fail
    clear hlk heq heg
    go_cut [10] (fun v wx => ∃ (W : World) (S1 S2 : List Pl) (e : Pl), v = undef ∧ W = wx ∧ Hid (e.k = nd.p.data.toList) ∧ Hid (LevIs W lo m (S1 ++ e :: S2)) ∧ Hid (S = S1 ++ e :: S2 ∨ (fnd S nd.p.data.toList = none ∧ S1 = S ∧ S2 = [] ∧ e.ws = [] ∧ e.d = nd.d)) ∧ Hid (wE.heap.size ≤ W.heap.size ∧ (∀ k, k < wE.heap.size → k ≠ m → W.heap[k]? = wE.heap[k]?)) ∧ Hid (Below w0.heap.size w0 W) ∧ Hid (∀ k, k < wE.heap.size → Apart S k → Apart (S1 ++ e :: S2) k))
    case first =>
      rcases HQ.out with ⟨rfl, hf⟩ | ⟨e, rfl, hf⟩
      · have HF := Lib.hid hf
        have hml := HL.out.lt
        have hLP : LevIs (wE.alloc (.cells #[.bool nd.d, .slice none 0 0] 118)) lo m S := HLE.out.below ((Below.refl _ _).alloc (Nat.le_refl _) _)
        have hEs : w.heap.size ≤ wE.heap.size := HWE.out.size
        obtain ⟨W3, hrun, hL3, hg3⟩ := hLP.add hkl hf (bn := wE.heap.size) (d := nd.d) (heap_alloc_new _ _) (Nat.le_trans HLo.out.2.1 hEs) (fun c hc e1 => by
          have := (Array.getElem?_eq_some_iff.1 (HLE.out.pl c hc).1).1
          omega) (by unfold maxLen; omega)
        rw [hbs] at hrun
        have HL3 := Lib.hid hL3
        have hs3 := hg3.size
        rw [World.size_alloc] at hs3
        have HKe : Hid (wE.heap.size ≤ W3.heap.size ∧ ∀ k, k < wE.heap.size → k ≠ m → W3.heap[k]? = wE.heap[k]?) := ⟨by omega, fun k hk hne => (hg3.block k (by rw [World.size_alloc]; omega) (fun e1 => hne (Option.some.inj e1))).trans (Below.heap_alloc _ _ _ hk)⟩
        have hbe := HB.out.trans (HWE.out.mono HB.out.size)
        have HB3 : Hid (Below w0.heap.size w0 W3) := (hbe.alloc hbe.size _).grown hg3 (by rw [World.size_alloc]; exact Nat.le_succ_of_le hbe.size) (fun k e1 => by rw [← Option.some.inj e1]; exact HLo.out.2.2)
        clear hf hLP hL3 hg3 hs3 hbe hml hEs
        go_wp2_with fail
        go_meet
        exact ⟨W3, S, [], ⟨nd.p.data.toList, wE.heap.size, nd.d, .slice none 0 0, []⟩, rfl, rfl, rfl, HL3.out, .inr ⟨HF.out, rfl, rfl, rfl, rfl⟩, HKe.out, HB3.out, fun k hk ha e he => by
          rcases List.mem_append.1 he with h1 | h1
          · exact ha e h1
          · rw [List.mem_singleton.1 h1]
            exact ⟨Nat.ne_of_lt hk, by simp [Value.ownBlock]⟩⟩
      · obtain ⟨S1, S2, hsp⟩ := fnd_split hf
        have HF := Lib.hid hf
        have HSp := Lib.hid hsp
        clear hf hsp
        go_wp2_with fail
        go_meet
        exact ⟨_, S1, S2, e, rfl, rfl, (fnd_mem HF.out).2, by rw [← HSp.out]; exact HLE.out, .inl HSp.out, ⟨Nat.le_refl _, fun _ _ _ => rfl⟩, HB.out.trans (HWE.out.mono HB.out.size), fun k _ ha => by rw [← HSp.out]; exact ha⟩
    case rest =>
      obtain ⟨W, S1, S2, e, rfl, rfl, HK, HLW, HSp, HKp, HBW, HAp⟩ := hcut
      have hml := HL.out.lt
      have hw1 : w.heap.size ≤ w1.heap.size := HB1.out.size
      have hEl : w1.heap.size < wE.heap.size := (Array.getElem?_eq_some_iff.1 HGe.out).1
      have hwE : w.heap.size < wE.heap.size := (Array.getElem?_eq_some_iff.1 HGE.out).1
      have g1 : W.heap[w1.heap.size]? = _ := (HKp.out.2 _ hEl (by omega)).trans HGe.out
      have g2 : W.heap[w.heap.size]? = _ := (HKp.out.2 _ hwE (by omega)).trans HGE.out
      have d0 : W.cell? ⟨w1.heap.size, 0, none⟩ = some (.string nd.p) := by rw [Lib.cell_of_heap g1]; rfl
      have b0 : W.cell? ⟨w.heap.size, 0, none⟩ = some (.pointer (some ⟨frm, 0, none⟩)) := by rw [Lib.cell_of_heap g2]; rfl
      have b1 : W.cell? ⟨w.heap.size, 1, none⟩ = some (.string (bs x)) := by rw [Lib.cell_of_heap g2]; rfl
      have hlk := HLW.out.look_some (x := e.k) (by rw [HK.out]; exact hkl) (fnd_mid HLW.out.keys)
      rw [HK.out, hbs] at hlk
      obtain ⟨pe1, pe2, pe3⟩ := HLW.out.pl e (List.mem_append_right _ List.mem_cons_self)
      have c1 : W.cell? ⟨e.b, 1, none⟩ = some e.v := by rw [Lib.cell_of_heap pe1]; rfl
      have HPe1 := Lib.hid pe1
      have HPe3 := Lib.hid pe3
      have HPe2 := Lib.hid pe2
      have hwn : e.ws.length ≤ 1000000000000 := by
        rcases HSp.out with h1 | ⟨_, _, _, h1, _⟩
        · exact HWS.out e (by rw [h1]; exact List.mem_append_right _ List.mem_cons_self)
        · rw [h1]; exact Nat.zero_le _
      have hloW : lo ≤ W.heap.size := Nat.le_trans HLo.out.2.1 (Nat.le_trans (Nat.le_of_lt hwE) HKp.out.1)
      have HNW := Lib.hid (newsW W.drew frm x 121)
      have hz4 : [Value.pointer (some ⟨frm, 0, none⟩), Value.string (bs x)].length = 1 * 2 := rfl
      have HOne : Hid (∀ u ∈ [Value.pointer (some ⟨frm, 0, none⟩), Value.string (bs x)], u.oneCell' = true) := fun u hu => by
        simp at hu
        rcases hu with rfl | rfl <;> rfl
      have HOwd := Lib.hid (show W.drew.ownsRow lo 121 2 e.v e.ws.length (wcells e.ws) from pe2)
      have HNb : Hid (some e.b ≠ e.v.ownBlock) := fun e1 => by
        obtain ⟨cur, hc⟩ := own_kind HPe2.out e1.symm
        rw [HPe1.out] at hc
        injection hc with hc
        injection hc with _ hty _
        exact absurd hty (by decide)
      have HEb : Hid (e.b < W.heap.size) := (Array.getElem?_eq_some_iff.1 pe1).1
      have hEb : e.b < W.heap.size := HEb.out
      clear e0 e1 g1 g2 pe1 pe2 pe3 hEl hwE hw1 hml
      go_upto_region 6 with fail
      clear d0 hlk
      go_region_law (first
        | (refine step_append_lies _ rfl _ _ 116 rfl lo 121 i0 (.agg #[.pointer none, .string .empty]) 2 24 Tryz.underlying116 hi0 hz0 hz1 hz2 rfl (by decide) e.v e.ws.length _ (by simp [Act.eval]) (HOwd.out.alloc _) ⟨W.heap.size, 0, none⟩ 1 1 [Value.pointer (some ⟨frm, 0, none⟩), Value.string (bs x)] (by simp [Act.eval]) hz4 HNW.out HOne.out (by decide) (by unfold maxLen; omega) (by omega) (by simp; omega) (W.heap.size + 1) (World.size_alloc ..) ?_; intro g cap w5 hown5 hgrow5 hat5 hlt5; have hm5 : w5.heap[e.b]? = some (.cells #[.bool e.d, e.v] 118 (0, 0)) := (hgrow5.block e.b (by show e.b < (W.alloc _).heap.size; rw [World.size_alloc]; exact Nat.lt_succ_of_lt HEb.out) HNb.out).trans ((Below.heap_alloc _ _ _ HEb.out).trans HPe1.out); have c5 : w5.cell? ⟨e.b, 1, none⟩ = some e.v := (by rw [Lib.cell_of_heap hm5]; rfl); have f5 : w5.frozen? ⟨e.b, 1, none⟩ = false := frozen_of_row _ _ _ _ _ hm5; have HM5 := Lib.hid hm5; have HO5 := Lib.hid hown5; have HG5 := Lib.hid hgrow5; have HA5 := Lib.hid hat5; clear hm5 hown5 hgrow5 hat5))
      all_goals
        go_wp2
        go_end0
        have hs5 := HG5.out.size
        replace hs5 : (W.alloc (.cells #[.pointer (some ⟨frm, 0, none⟩), .string (bs x)] 121)).heap.size ≤ w5.heap.size := hs5
        rw [World.size_alloc] at hs5
        have hgb : g ≠ e.b := fun e1 => by
          rcases HA5.out with h1 | h1
          · exact HNb.out (e1 ▸ h1.symm)
          · have := HEb.out; omega
        have hkeep : ∀ k, k < W.heap.size → k ≠ e.b → some k ≠ e.v.ownBlock → (w5.setCell ⟨e.b, 1, none⟩ (.slice (some ⟨g, 0, none⟩) (e.ws.length + 1) cap)).heap[k]? = W.heap[k]? := fun k hk h1 h2 =>
          (setCell_heap _ _ _ _ h1).trans ((HG5.out.block k (by show k < (W.alloc _).heap.size; rw [World.size_alloc]; exact Nat.lt_succ_of_lt hk) h2).trans (Below.heap_alloc _ _ _ hk))
        have hrow : (w5.setCell ⟨e.b, 1, none⟩ (.slice (some ⟨g, 0, none⟩) (e.ws.length + 1) cap)).ownsRow lo 121 2 (.slice (some ⟨g, 0, none⟩) (e.ws.length + 1) cap) (e.ws.length + 1) (wcells (e.ws ++ [(frm, x)])) := by
          rw [wcells_app]
          exact rows_below HO5.out (fun r hr => setCell_heap _ _ _ _ (fun e1 => hgb (by
            have : g = r := by simpa [Value.ownBlock] using hr
            rw [this]; exact e1)))
        have hlev := HLW.out.way (y := (frm, x)) (heap_set (v' := .slice (some ⟨g, 0, none⟩) (e.ws.length + 1) cap) HM5.out) hrow (by
          rcases HA5.out with h1 | h1
          · exact .inl h1.symm
          · exact .inr ⟨g, rfl, by omega⟩) hkeep
        refine ⟨rfl, _, (HR.out _).2 ?_, hlev, ?_, ?_, fun k hk hne ha => ?_⟩
        · rcases HSp.out with h1 | ⟨h1, h2, h3, h4, h5⟩
          · exact .inl ⟨S1, e, S2, _, h1, HK.out, rfl⟩
          · refine .inr ⟨h1, e.b, .slice (some ⟨g, 0, none⟩) (e.ws.length + 1) cap, ?_⟩
            rw [h2, h3, h4, h5, HK.out]; rfl
        · have hbs := HBW.out.size
          have hpb : w0.heap.size ≤ e.b := Nat.le_trans HLo.out.1 HPe3.out
          have hrb : ∀ k, e.v.ownBlock = some k → w0.heap.size ≤ k := fun k hk => Nat.le_trans HLo.out.1 (HPe2.out.lt k hk).1
          first
            | exact (((HBW.out.drew).alloc hbs _).grown HG5.out (by show _ ≤ (W.alloc _).heap.size; rw [World.size_alloc]; omega) hrb).setCell (p := ⟨e.b, 1, none⟩) hpb _
            | exact (((HBW.out.alloc hbs _).drew).grown HG5.out (by show _ ≤ (W.alloc _).heap.size; rw [World.size_alloc]; omega) hrb).setCell (p := ⟨e.b, 1, none⟩) hpb _
        · rw [World.size_setCell]
          have := HKp.out.1
          have := HWE.out.size
          omega
        · have hkE : k < wE.heap.size := Nat.lt_of_lt_of_le hk HWE.out.size
          have ha2 := HAp.out k hkE ha
          have hae := ha2 e (List.mem_append_right _ List.mem_cons_self)
          refine ⟨(hkeep k (Nat.lt_of_lt_of_le hkE HKp.out.1) hae.1 hae.2).trans ((HKp.out.2 k hkE hne).trans (HWE.out.block k hk)), fun e' he' => ?_⟩
          rcases List.mem_append.1 he' with h1 | h1
          · exact ha2 e' (List.mem_append_left _ h1)
          · rcases List.mem_cons.1 h1 with rfl | h2
            · refine ⟨hae.1, fun e1 => ?_⟩
              have hkg : k = g := by simpa [Value.ownBlock] using e1
              have hkW := Nat.lt_of_lt_of_le hkE HKp.out.1
              rcases HA5.out with h3 | h3
              · exact hae.2 (by rw [hkg]; exact h3.symm)
              · omega
            · exact ha2 e' (List.mem_append_right _ (List.mem_cons_of_mem _ h2))

end Go.Proofs.YtghfmbmdfojapaaGreatDoor.Wrc
