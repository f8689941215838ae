/- Where a walk has come to: the map of places in memory. -/
import Derived.Test.YtgfpdaaofhanoaaGreatDoorWnn
namespace Go.Proofs.YtgfpdaaofhanoaaGreatDoor.Wlv
open Go.RowKit Go.Maps Go.Proofs.YtgfpdaaofhanoaaGreatDoor.Pth Go.Proofs.YtgfpdaaofhanoaaGreatDoor.Strs Go.Proofs.YtgfpdaaofhanoaaGreatDoor.Vfs Go.Proofs.YtgfpdaaofhanoaaGreatDoor.Vmap Go.Proofs.YtgfpdaaofhanoaaGreatDoor.Wdp Go.Proofs.YtgfpdaaofhanoaaGreatDoor.Wnn

/-- what a path leads to -/
def ptrElem : Value → Option (DataW U × List MemPlace)
  | .pointer (some ⟨b, 0, none⟩) => some (.lit (.int .i64 (b : Int)), [])
  | .pointer none => some (.nil, [])
  | _ => none
theorem ptrElem_inv {v : Value} {b : Nat} {ps : List MemPlace} (h : ptrElem v = some (.lit (.int .i64 (b : Int)), ps)) : v = .pointer (some ⟨b, 0, none⟩) := by
  unfold ptrElem at h
  split at h
  · rename_i b'
    simp at h
    obtain rfl : b' = b := by omega
    rfl
  · cases h
  · cases h
theorem ptrElem_nil {v : Value} {ps : List MemPlace} (h : ptrElem v = some (.nil, ps)) : v = .pointer none := by
  unfold ptrElem at h
  split at h
  · cases h
  · rfl
  · cases h
theorem zeroPtr (w : World) : (zeroValue 90).run Tryz.prog w = .ok (.pointer none) w := by kernel_rfl
/-- a place: its path, its block, whether it is a directory, its ways -/
structure Pl where
  k : T
  b : Nat
  d : Bool
  v : Value
  ws : List Wnn.Way
def fnd (S : List Pl) (x : T) : Option Pl := S.find? fun e => decide (e.k = x)
theorem fnd_mem {S : List Pl} {x : T} {e : Pl} (h : fnd S x = some e) : e ∈ S ∧ e.k = x := ⟨List.mem_of_find?_eq_some h, of_decide_eq_true (List.find?_some (p := fun e : Pl => decide (e.k = x)) h)⟩
theorem fnd_none {S : List Pl} {x : T} : fnd S x = none ↔ ∀ e ∈ S, e.k ≠ x := by
  unfold fnd
  rw [List.find?_eq_none]
  exact ⟨fun h e he hk => h e he (decide_eq_true hk), fun h e he hk => h e he (of_decide_eq_true hk)⟩
structure LevIs (w : World) (lo m : Nat) (S : List Pl) : Prop where
  own : ∃ D n, w.ownsMap Tryz.prog 9 ptrElem m n D ∧ n ≤ S.length ∧ (∀ x : T, Maps.has D (.string x) = (fnd S x).isSome) ∧ ∀ x e, fnd S x = some e → D.atKey (.string x) .nil = .lit (.int .i64 (e.b : Int))
  keys : (S.map (·.k)).Nodup
  pl : ∀ e ∈ S, w.heap[e.b]? = some (.cells #[.bool e.d, e.v] 125 (0, 0)) ∧ w.ownsRow lo 128 2 e.v e.ws.length (wcells e.ws) ∧ lo ≤ e.b
  apart : S.Pairwise fun a b => a.b ≠ b.b ∧ ∀ r, a.v.ownBlock = some r → b.v.ownBlock ≠ some r
theorem LevIs.of_blocks {w W : World} {lo m : Nat} {S : List Pl} (h : LevIs w lo m S) (h1 : W.heap[m]? = w.heap[m]?) (h2 : ∀ e ∈ S, W.heap[e.b]? = w.heap[e.b]?) (h3 : ∀ e ∈ S, ∀ r, e.v.ownBlock = some r → W.heap[r]? = w.heap[r]?) : LevIs W lo m S := by
  obtain ⟨D, n, ho, r⟩ := h.own
  exact ⟨⟨D, n, owns_block ho h1, r⟩, h.keys, fun e he => ⟨(h2 e he).trans (h.pl e he).1, rows_below (h.pl e he).2.1 (h3 e he), (h.pl e he).2.2⟩, h.apart⟩
theorem LevIs.lt {w : World} {lo m : Nat} {S : List Pl} (h : LevIs w lo m S) : m < w.heap.size := by
  obtain ⟨D, n, ho, _⟩ := h.own
  exact ho.lt
theorem LevIs.below {w W : World} {lo m : Nat} {S : List Pl} (h : LevIs w lo m S) (hb : Below w.heap.size w W) : LevIs W lo m S :=
  h.of_blocks (hb.block _ h.lt) (fun e he => hb.block _ (Array.getElem?_eq_some_iff.1 (h.pl e he).1).1) (fun e he r hr => hb.block _ ((h.pl e he).2.1.lt r hr).2)
theorem LevIs.look_some {w : World} {lo m : Nat} {S : List Pl} (h : LevIs w lo m S) {x : T} (hx : x.length ≤ maxLen) {e : Pl} (he : fnd S x = some e) :
    (Instr.lookup 88 (.map (some m)) (.string (bs x)) false).run Tryz.prog w = .ok (.pointer (some ⟨e.b, 0, none⟩)) w := by
  obtain ⟨D, n, ho, _, _, hat⟩ := h.own
  obtain ⟨v, ps, hrun, hv⟩ := ho.lookup KS Tryz.underlying88 (zeroPtr w) (zd := .nil) (zp := []) rfl (keyS (x := bs x) (by rw [size_bs]; exact hx))
  rw [data_bs, hat x e he] at hv
  rw [ptrElem_inv hv] at hrun
  exact hrun
theorem LevIs.look_no {w : World} {lo m : Nat} {S : List Pl} (h : LevIs w lo m S) {x : T} (hx : x.length ≤ maxLen) (he : fnd S x = none) :
    (Instr.lookup 88 (.map (some m)) (.string (bs x)) false).run Tryz.prog w = .ok (.pointer none) w := by
  obtain ⟨D, n, ho, _, hh, _⟩ := h.own
  obtain ⟨v, ps, hrun, hv⟩ := ho.lookup KS Tryz.underlying88 (zeroPtr w) (zd := .nil) (zp := []) rfl (keyS (x := bs x) (by rw [size_bs]; exact hx))
  rw [data_bs] at hv
  have h0 : Maps.has D (.string x) = false := by rw [hh, he]; rfl
  rw [atKey_of_not_has h0] at hv
  rw [ptrElem_nil hv] at hrun
  exact hrun

theorem fnd_snoc_same {S : List Pl} {e : Pl} (h : fnd S e.k = none) : fnd (S ++ [e]) e.k = some e := by
  unfold fnd at *
  rw [List.find?_append, h]
  simp
theorem fnd_snoc_other {S : List Pl} {e : Pl} {x : T} (h : e.k ≠ x) : fnd (S ++ [e]) x = fnd S x := by
  unfold fnd
  rw [List.find?_append]
  cases S.find? (fun e => decide (e.k = x)) with
  | some _ => rfl
  | none => simp [h]

/-- a new place, without ways yet -/
theorem LevIs.add {w : World} {lo m : Nat} {S : List Pl} (h : LevIs w lo m S) {k : T} (hk : k.length ≤ maxLen) (hn : fnd S k = none) {bn : Nat} {d : Bool} (hb : w.heap[bn]? = some (.cells #[.bool d, .slice none 0 0] 125 (0, 0))) (hlo : lo ≤ bn) (hfr : ∀ e ∈ S, e.b ≠ bn) (hS : S.length < maxLen) :
    ∃ W, (Instr.mapUpdate 88 (.map (some m)) (.string (bs k)) (.pointer (some ⟨bn, 0, none⟩))).run Tryz.prog w = .ok () W ∧ LevIs W lo m (S ++ [⟨k, bn, d, .slice none 0 0, []⟩]) ∧ w.grownBy W (some m) := by
  obtain ⟨D, n, ho, hle, hh, hat⟩ := h.own
  obtain ⟨W, hrun, ho2, hg⟩ := ho.update KS Tryz.underlying88 (Nat.lt_of_le_of_lt hle hS) (keyS (x := bs k) (by rw [size_bs]; exact hk)) (val := .pointer (some ⟨bn, 0, none⟩)) (d := .lit (.int .i64 (bn : Int))) (ps := []) rfl
  rw [data_bs] at ho2
  have hmap : ∀ q : Nat, ∀ o, w.heap[q]? = some (.cells o 125 (0, 0)) → q ≠ m := fun q o hq e => by
    obtain ⟨es, clock, hbl, _⟩ := ho
    rw [e] at hq
    rw [hbl] at hq
    cases hq
  have hmap2 : ∀ q : Nat, ∀ o, w.heap[q]? = some (.cells o 128 (0, 0)) → q ≠ m := fun q o hq e => by
    obtain ⟨es, clock, hbl, _⟩ := ho
    rw [e] at hq
    rw [hbl] at hq
    cases hq
  have hold : ∀ e ∈ S, W.heap[e.b]? = some (.cells #[.bool e.d, e.v] 125 (0, 0)) ∧ W.ownsRow lo 128 2 e.v e.ws.length (wcells e.ws) ∧ lo ≤ e.b := fun e he => by
    obtain ⟨p1, p2, p3⟩ := h.pl e he
    have hl := (Array.getElem?_eq_some_iff.1 p1).1
    refine ⟨(hg.block _ hl (fun e1 => hmap _ _ p1 (Option.some.inj e1))).trans p1, rows_below p2 (fun r hr => ?_), p3⟩
    obtain ⟨cur, hc⟩ := own_kind p2 hr
    exact hg.block _ (p2.lt r hr).2 (fun e1 => hmap2 _ _ hc (Option.some.inj e1))
  refine ⟨W, hrun, ⟨⟨_, n + 1, ho2, by rw [List.length_append, List.length_cons, List.length_nil]; omega, fun y => ?_, fun y e hd => ?_⟩, ?_, fun e he => ?_, ?_⟩, hg⟩
  · by_cases hy : y = k
    · subst hy
      rw [has_put_same ho.isMap (isKeyS _), fnd_snoc_same (e := ⟨y, bn, d, .slice none 0 0, []⟩) hn]; rfl
    · rw [has_put_other (fun e1 => hy (by cases e1; rfl)), hh, fnd_snoc_other (fun e1 => hy e1.symm)]
  · by_cases hy : y = k
    · subst hy
      rw [fnd_snoc_same (e := ⟨y, bn, d, .slice none 0 0, []⟩) hn] at hd
      rw [← Option.some.inj hd, atKey_put_same ho.isMap (isKeyS _)]
    · rw [fnd_snoc_other (fun e1 => hy e1.symm)] at hd
      rw [atKey_put_other (fun e1 => hy (by cases e1; rfl)), hat y e hd]
  · rw [List.map_append, List.nodup_append]
    refine ⟨h.keys, by simp, fun a ha c hc e1 => ?_⟩
    obtain ⟨e, he, rfl⟩ := List.mem_map.1 ha
    have hc2 : c = k := by simpa using hc
    exact fnd_none.1 hn e he (e1.trans hc2)
  · rcases List.mem_append.1 he with h1 | h1
    · exact hold e h1
    · rw [List.mem_singleton.1 h1]
      exact ⟨(hg.block _ (Array.getElem?_eq_some_iff.1 hb).1 (fun e1 => hmap _ _ hb (Option.some.inj e1))).trans hb, World.ownsRow_nil _ _ _ _, hlo⟩
  · rw [List.pairwise_append]
    refine ⟨h.apart, List.pairwise_singleton _ _, fun a ha c hc => ?_⟩
    rw [List.mem_singleton.1 hc]
    exact ⟨hfr a ha, fun r _ => by simp [Value.ownBlock]⟩

/-- one more way to a place -/
theorem LevIs.way {w W : World} {lo m : Nat} {S1 S2 : List Pl} {e : Pl} {v' : Value} {y : Wnn.Way} (h : LevIs w lo m (S1 ++ e :: S2))
    (h1 : W.heap[e.b]? = some (.cells #[.bool e.d, v'] 125 (0, 0))) (h2 : W.ownsRow lo 128 2 v' (e.ws.length + 1) (wcells (e.ws ++ [y])))
    (h3 : v'.ownBlock = e.v.ownBlock ∨ ∃ r, v'.ownBlock = some r ∧ w.heap.size ≤ r) (h4 : ∀ k, k < w.heap.size → k ≠ e.b → some k ≠ e.v.ownBlock → W.heap[k]? = w.heap[k]?) :
    LevIs W lo m (S1 ++ ⟨e.k, e.b, e.d, v', e.ws ++ [y]⟩ :: S2) := by
  obtain ⟨D, n, ho, hle, hh, hat⟩ := h.own
  have hmem : e ∈ S1 ++ e :: S2 := List.mem_append_right _ List.mem_cons_self
  obtain ⟨pe1, pe2, pe3⟩ := h.pl e hmem
  have hf : ∀ x, (fnd (S1 ++ ⟨e.k, e.b, e.d, v', e.ws ++ [y]⟩ :: S2) x).map (·.b) = (fnd (S1 ++ e :: S2) x).map (·.b) := fun x => by
    unfold fnd
    rw [List.find?_append, List.find?_append, List.find?_cons, List.find?_cons]
    cases S1.find? (fun e => decide (e.k = x)) with
    | some _ => rfl
    | none =>
      by_cases hx : e.k = x
      · simp [hx]
      · simp [hx]
  have hmb : m ≠ e.b ∧ some m ≠ e.v.ownBlock := by
    obtain ⟨es, clock, hbl, _⟩ := ho
    refine ⟨fun e1 => ?_, fun e1 => ?_⟩
    · rw [← e1, hbl] at pe1; cases pe1
    · obtain ⟨cur, hc⟩ := own_kind pe2 e1.symm
      rw [hbl] at hc; cases hc
  obtain ⟨ap1, ap2, ap3⟩ := List.pairwise_append.1 h.apart
  obtain ⟨ap4, ap5⟩ := List.pairwise_cons.1 ap2
  have hother : ∀ c ∈ S1 ++ S2, c ∈ S1 ++ e :: S2 ∧ c.b ≠ e.b ∧ (∀ r, c.v.ownBlock = some r → e.v.ownBlock ≠ some r) := fun c hc => by
    rcases List.mem_append.1 hc with h5 | h5
    · have := ap3 c h5 e List.mem_cons_self
      exact ⟨List.mem_append_left _ h5, this.1, this.2⟩
    · have := ap4 c h5
      exact ⟨List.mem_append_right _ (List.mem_cons_of_mem _ h5), fun e1 => this.1 e1.symm, fun r hr e1 => this.2 r e1 hr⟩
  have hold : ∀ c ∈ S1 ++ S2, W.heap[c.b]? = some (.cells #[.bool c.d, c.v] 125 (0, 0)) ∧ W.ownsRow lo 128 2 c.v c.ws.length (wcells c.ws) ∧ lo ≤ c.b := fun c hc => by
    obtain ⟨hc1, hc2, hc3⟩ := hother c hc
    obtain ⟨p1, p2, p3⟩ := h.pl c hc1
    have hl := (Array.getElem?_eq_some_iff.1 p1).1
    refine ⟨(h4 _ hl hc2 (fun e1 => ?_)).trans p1, rows_below p2 (fun r hr => h4 r (p2.lt r hr).2 (fun e1 => ?_) (fun e1 => hc3 r hr e1.symm)), p3⟩
    · obtain ⟨cur, hcu⟩ := own_kind pe2 e1.symm
      rw [p1] at hcu
      injection hcu with hcu
      injection hcu with _ hty _
      exact absurd hty (by decide)
    · obtain ⟨cur, hcu⟩ := own_kind p2 hr
      rw [e1, pe1] at hcu
      injection hcu with hcu
      injection hcu with _ hty _
      exact absurd hty (by decide)
  refine ⟨⟨D, n, owns_block ho (h4 m ho.lt hmb.1 hmb.2), by rw [List.length_append, List.length_cons] at hle ⊢; exact hle, fun x => ?_, fun x c hc => ?_⟩, ?_, fun c hc => ?_, ?_⟩
  · rw [hh]
    have := hf x
    cases h5 : fnd (S1 ++ e :: S2) x <;> cases h6 : fnd (S1 ++ ⟨e.k, e.b, e.d, v', e.ws ++ [y]⟩ :: S2) x <;> rw [h5, h6] at this <;> first | rfl | cases this
  · have := hf x
    rw [hc] at this
    cases h5 : fnd (S1 ++ e :: S2) x with
    | none => rw [h5] at this; cases this
    | some c0 =>
      rw [h5] at this
      rw [hat x c0 h5, show c0.b = c.b from (Option.some.inj this).symm]
  · have hk := h.keys
    rw [List.map_append, List.map_cons] at hk ⊢
    exact hk
  · rcases List.mem_append.1 hc with h5 | h5
    · exact hold c (List.mem_append_left _ h5)
    · rcases List.mem_cons.1 h5 with rfl | h6
      · refine ⟨h1, by rw [List.length_append]; exact h2, pe3⟩
      · exact hold c (List.mem_append_right _ h6)
  · have hrow : ∀ c ∈ S1 ++ S2, ∀ r, c.v.ownBlock = some r → v'.ownBlock ≠ some r := fun c hc r hr e1 => by
      obtain ⟨hc1, _, hc3⟩ := hother c hc
      rcases h3 with h5 | ⟨r', h5, h6⟩
      · exact hc3 r hr (h5 ▸ e1)
      · rw [h5] at e1
        cases e1
        have := ((h.pl c hc1).2.1.lt r hr).2
        omega
    refine List.pairwise_append.2 ⟨ap1, List.pairwise_cons.2 ⟨fun c hc => ⟨(ap4 c hc).1, fun r hr e1 => hrow c (List.mem_append_right _ hc) r e1 hr⟩, ap5⟩, fun a ha c hc => ?_⟩
    rcases List.mem_cons.1 hc with rfl | h5
    · exact ⟨(ap3 a ha e List.mem_cons_self).1, fun r hr => hrow a (List.mem_append_left _ ha) r hr⟩
    · exact ap3 a ha c (List.mem_cons_of_mem _ h5)

end Go.Proofs.YtgfpdaaofhanoaaGreatDoor.Wlv
