/- A code under way in memory, as the document makes it (the same as Cmm, in the document's own struct). -/
import Derived.Test.YtpphkaolonjjdaaDoorCmmJ
namespace Go.Proofs.YtpphkaolonjjdaaDoor.Cmr
open Go Go.RowKit Go.Proofs.YtpphkaolonjjdaaDoor.Spl Go.Proofs.YtpphkaolonjjdaaDoor.Nodm Go.Proofs.YtpphkaolonjjdaaDoor.Nz Go.Proofs.YtpphkaolonjjdaaDoor.Cpl Go.Proofs.YtpphkaolonjjdaaDoor.Cin Go.Proofs.YtpphkaolonjjdaaDoor.Cmc Go.Proofs.YtpphkaolonjjdaaDoor.Cmm Go.Proofs.YtpphkaolonjjdaaDoor.Fpl
open Go.Proofs.YtpphkaolonjjdaaDoor.Pure (bs)

structure CodesR (h cb : Nat) (w : World) (vB : Value) (G : List Rw) : Prop where
  ge : h ≤ cb
  box : w.heap[cb]? = some (.cells #[vB] 60)
  row : w.ownsRow h 38 1 vB G.length (G.map (·.1))
  ops : ∀ g ∈ G, w.ownsRow h 40 4 g.1 g.2.length (flat4 g.2)
  nums : ∀ g ∈ G, ∀ y ∈ g.2, w.ownsRow h 3 1 y.2 y.1.l.length (y.1.l.map (Value.int .i64))
  apart : ∀ (i j : Nat) (a b : Rw), i ≠ j → G[i]? = some a → G[j]? = some b → a.1.ownBlock = none ∨ a.1.ownBlock ≠ b.1.ownBlock
/-- what may differ, so that a code under way stays -/
def NotR (cb : Nat) (X : Nat → Obj → Prop) : Prop := (∀ cs, ¬ X cb (.cells cs 60 (0, 0))) ∧ (∀ k cs, ¬ X k (.cells cs 38 (0, 0))) ∧ (∀ k cs, ¬ X k (.cells cs 40 (0, 0))) ∧ ∀ k cs, ¬ X k (.cells cs 3 (0, 0))
theorem CodesR.kept {h cb : Nat} {X : Nat → Obj → Prop} {w W : World} {vB : Value} {G : List Rw} (c : CodesR h cb w vB G) (a : Kp h X w W) (hx : NotR cb X) : CodesR h cb W vB G :=
  ⟨c.ge, a.keep cb _ c.box (hx.1 _), a.own c.row hx.2.1, fun g hg => a.own (c.ops g hg) hx.2.2.1, fun g hg y hy => a.own (c.nums g hg y hy) hx.2.2.2, c.apart⟩
theorem CodesR.on {h cb : Nat} {w W : World} {vB : Value} {G : List Rw} (c : CodesR h cb w vB G) (hb : Below w.heap.size w W) (hz : h ≤ w.heap.size) : CodesR h cb W vB G :=
  c.kept (Kp.of hb hz fun _ _ => False) ⟨fun _ h => h, fun _ _ h => h, fun _ _ h => h, fun _ _ h => h⟩
theorem CodesR.drew {h cb : Nat} {w : World} {vB : Value} {G : List Rw} (c : CodesR h cb w vB G) : CodesR h cb w.drew vB G := ⟨c.ge, c.box, c.row, c.ops, c.nums, c.apart⟩

/-- what a new block writes -/
def XNR (cb : Nat) (k : Nat) (o : Obj) : Prop := (k = cb ∧ isT 60 o) ∨ isT 38 o
theorem xnr_not {cb k : Nat} {e : TypeId} {cs : Array Value} {f : Nat × Nat} (h1 : e ≠ 60) (h2 : e ≠ 38) : ¬ XNR cb k (.cells cs e f) := fun h => h.elim (fun h => isT_ne h1 h.2) (isT_ne h2)
/-- a new block more -/
theorem CodesR.grow {h cb : Nat} {w w2 : World} {vB v' : Value} {G : List Rw} (c : CodesR h cb w vB G) (hz : h ≤ w.heap.size)
    (hown : w2.ownsRow h 38 1 v' (G.length + 1) (G.map (·.1) ++ [.slice none 0 0])) (hg : w.grownBy w2 vB.ownBlock) :
    CodesR h cb (w2.setCell ⟨cb, 0, none⟩ v') v' (G ++ [(.slice none 0 0, [])]) ∧ Kp h (XNR cb) w (w2.setCell ⟨cb, 0, none⟩ v') := by
  have k1 : Kp h (fun _ o => isT 38 o) w w2 := Kp.grown hg c.row (Nat.le_refl _) hz fun _ _ _ => ⟨_, _, rfl⟩
  have hb2 : w2.heap[cb]? = some (.cells #[vB] 60) := k1.keep cb _ c.box (isT_ne (by decide))
  have k2 : Kp h (fun k o => k = cb ∧ isT 60 o) w2 (w2.setCell ⟨cb, 0, none⟩ v') := Kp.set cb 0 v' c.ge fun o ho => by
    rw [hb2] at ho
    cases ho
    exact ⟨rfl, _, _, rfl⟩
  have k : Kp h (XNR cb) w (w2.setCell ⟨cb, 0, none⟩ v') := (k1.mono (fun _ _ => .inr)).trans (k2.mono fun _ _ => .inl)
  have hn : ∀ (t : TypeId) (k : Nat) (cs : Array Value), t ≠ 60 → ¬ (k = cb ∧ isT 60 (.cells cs t (0, 0))) := fun t k cs ht he => isT_ne ht he.2
  refine ⟨⟨c.ge, heap_setCell_same w2 cb 0 _ _ _ hb2, ?_, fun g hg => ?_, fun g hg y hy => ?_, fun i j a b hij ha hb => ?_⟩, k⟩
  · rw [List.length_append, List.map_append]
    exact k2.own hown fun k cs => hn _ k cs (by decide)
  · rcases List.mem_append.1 hg with hg | hg
    · exact k.own (c.ops g hg) fun _ _ => xnr_not (by decide) (by decide)
    · rw [List.mem_singleton] at hg
      subst hg
      exact World.ownsRow_nil ..
  · rcases List.mem_append.1 hg with hg | hg
    · exact k.own (c.nums g hg y hy) fun _ _ => xnr_not (by decide) (by decide)
    · rw [List.mem_singleton] at hg
      subst hg
      cases hy
  · by_cases hi : i < G.length
    · rw [List.getElem?_append_left hi] at ha
      by_cases hj : j < G.length
      · rw [List.getElem?_append_left hj] at hb
        exact c.apart i j a b hij ha hb
      · rw [List.getElem?_append_right (by omega)] at hb
        obtain ⟨_, e⟩ := List.getElem?_eq_some_iff.1 hb
        rw [List.getElem_singleton] at e
        subst e
        cases hab : a.1.ownBlock with
        | none => exact .inl rfl
        | some _ => right; intro e; cases e
    · rw [List.getElem?_append_right (by omega)] at ha
      obtain ⟨_, e⟩ := List.getElem?_eq_some_iff.1 ha
      rw [List.getElem_singleton] at e
      subst e
      exact .inl rfl
/-- an instruction more -/
theorem CodesR.put {h cb : Nat} {w w2 : World} {vB : Value} {G : List Rw} (c : CodesR h cb w vB G) (hz : h ≤ w.heap.size) {i g cap gB capB : Nat} {r : Rw} (hi : G[i]? = some r) (y : Opp × Value)
    (hy : w.ownsRow h 3 1 y.2 y.1.l.length (y.1.l.map (Value.int .i64))) (hB : vB = .slice (some ⟨gB, 0, none⟩) G.length capB)
    (hown : w2.ownsRow h 40 4 (.slice (some ⟨g, 0, none⟩) (r.2.length + 1) cap) (r.2.length + 1) (flat4 r.2 ++ cell4 y)) (hg : w.grownBy w2 r.1.ownBlock) (hat : r.1.ownBlock = some g ∨ w.heap.size ≤ g) :
    CodesR h cb (w2.setCell ⟨gB, i, none⟩ (.slice (some ⟨g, 0, none⟩) (r.2.length + 1) cap)) vB (G.set i (.slice (some ⟨g, 0, none⟩) (r.2.length + 1) cap, r.2 ++ [y])) ∧ Kp h XO w (w2.setCell ⟨gB, i, none⟩ (.slice (some ⟨g, 0, none⟩) (r.2.length + 1) cap)) := by
  have hm := List.mem_of_getElem? hi
  have hil := (List.getElem?_eq_some_iff.1 hi).1
  have k1 : Kp h (fun _ o => isT 40 o) w w2 := Kp.grown hg (c.ops r hm) (Nat.le_refl _) hz fun _ _ _ => ⟨_, _, rfl⟩
  have hrow := k1.own c.row fun _ _ => isT_ne (by decide)
  rw [hB] at hrow
  obtain ⟨hst, _⟩ := hrow.stored i (.slice (some ⟨g, 0, none⟩) (r.2.length + 1) cap)
  have k2 : Kp h (fun _ o => isT 38 o) w2 (w2.setCell ⟨gB, i, none⟩ (.slice (some ⟨g, 0, none⟩) (r.2.length + 1) cap)) := by
    rcases hrow.2 with ⟨h0, _⟩ | ⟨g', cap', cur, h', hb, hg', _⟩
    · cases h0
    · cases h'
      exact Kp.set gB i _ hb fun o ho => by
        rw [hg'] at ho
        cases ho
        exact ⟨_, _, rfl⟩
  have k : Kp h XO w (w2.setCell ⟨gB, i, none⟩ (.slice (some ⟨g, 0, none⟩) (r.2.length + 1) cap)) := (k1.mono (fun _ _ => .inr)).trans (k2.mono fun _ _ => .inl)
  have hkeep : ∀ (j : Nat) (b : Rw), j ≠ i → G[j]? = some b → (w2.setCell ⟨gB, i, none⟩ (.slice (some ⟨g, 0, none⟩) (r.2.length + 1) cap)).ownsRow h 40 4 b.1 b.2.length (flat4 b.2) := fun j b hj hb => by
    refine k2.own ?_ fun _ _ => isT_ne (by decide)
    exact (c.ops b (List.mem_of_getElem? hb)).kept hg (c.apart j i b r hj hb hi)
  refine ⟨⟨c.ge, k.keep cb _ c.box (xo_not (by decide) (by decide)), ?_, fun x hx => ?_, fun x hx z hz2 => ?_, fun a b p q hab hp hq => ?_⟩, k⟩
  · rw [List.length_set, List.map_set]
    rw [hB]
    exact hst
  · obtain ⟨j, hj⟩ := List.getElem?_of_mem hx
    by_cases hji : j = i
    · subst hji
      rw [List.getElem?_set_self hil] at hj
      cases hj
      show World.ownsRow _ _ _ _ _ (r.2 ++ [y]).length (flat4 (r.2 ++ [y]))
      rw [flat4_app, List.length_append]
      refine k2.own ?_ fun _ _ => isT_ne (by decide)
      have : flat4 [y] = cell4 y := by unfold flat4; rw [List.flatMap_cons, List.flatMap_nil, List.append_nil]
      rw [this]
      exact hown
    · rw [List.getElem?_set_ne (fun e => hji e.symm)] at hj
      exact hkeep j x hji hj
  · obtain ⟨j, hj⟩ := List.getElem?_of_mem hx
    by_cases hji : j = i
    · subst hji
      rw [List.getElem?_set_self hil] at hj
      cases hj
      rcases List.mem_append.1 hz2 with hz2 | hz2
      · exact k.own (c.nums r hm z hz2) fun _ _ => xo_not (by decide) (by decide)
      · rw [List.mem_singleton] at hz2
        subst hz2
        exact k.own hy fun _ _ => xo_not (by decide) (by decide)
    · rw [List.getElem?_set_ne (fun e => hji e.symm)] at hj
      exact k.own (c.nums x (List.mem_of_getElem? hj) z hz2) fun _ _ => xo_not (by decide) (by decide)
  · have hnew : ∀ (j : Nat) (x : Rw), j ≠ i → G[j]? = some x → x.1.ownBlock ≠ some g := fun j x hj hx e => by
      rcases hat with hat | hat
      · rcases c.apart j i x r hj hx hi with h1 | h1
        · rw [h1] at e; cases e
        · exact h1 (e.trans hat.symm)
      · have := ((c.ops x (List.mem_of_getElem? hx)).lt g e).2
        omega
    by_cases hai : a = i
    · subst hai
      rw [List.getElem?_set_self hil] at hp
      cases hp
      rw [List.getElem?_set_ne hab] at hq
      right
      intro e
      exact hnew b q (fun e => hab e.symm) hq e.symm
    · rw [List.getElem?_set_ne (fun e => hai e.symm)] at hp
      by_cases hbi : b = i
      · subst hbi
        rw [List.getElem?_set_self hil] at hq
        cases hq
        exact .inr fun e => hnew a p hai hp e
      · rw [List.getElem?_set_ne (fun e => hbi e.symm)] at hq
        exact c.apart a b p q hab hp hq
/-- done: a code in memory -/
theorem CodesR.done {h cb : Nat} {w : World} {vB : Value} {G : List Rw} (c : CodesR h cb w vB G) : ∃ A cap, vB = .slice A (blk G).length cap ∧ CodeIn (fun b => h ≤ b) w (.agg #[.slice A (blk G).length cap]) (blk G) := by
  have form : ∀ {e size n : Nat} {v : Value} {xs : List Value}, w.ownsRow h e size v n xs → ∃ A cap, v = .slice A n cap ∧ n ≤ cap ∧ (n = 0 ∨ ∃ g, A = some ⟨g, 0, none⟩ ∧ g < w.heap.size ∧ h ≤ g ∧ ∀ j, j < n * size → w.cell? ⟨g, j, none⟩ = xs[j]?) := by
    intro e size n v xs ho
    rcases ho.2 with ⟨h1, h2⟩ | ⟨g, cap, cur, h1, h2, h3, h4, _⟩
    · exact ⟨none, 0, by rw [h1, h2], by omega, .inl h2⟩
    · refine ⟨_, cap, h1, h4, .inr ⟨g, rfl, heap_lt h3, h2, fun j hj => ?_⟩⟩
      rw [h1] at ho
      exact ho.cellAt j hj
  obtain ⟨A, cap, hv, hc, hr⟩ := form c.row
  rw [blk_len]
  refine ⟨A, cap, hv, A, cap, by rw [blk_len], by rw [blk_len]; exact hc, ?_⟩
  rcases hr with h0 | ⟨g, rfl, hg, hh, hcells⟩
  · left
    unfold blk
    rw [List.eq_nil_of_length_eq_zero h0]; rfl
  · refine .inr ⟨g, 0, rfl, hg, hh, fun j l hj => ?_⟩
    unfold blk at hj
    rw [List.getElem?_map] at hj
    obtain ⟨r, hr, rfl⟩ := Option.map_eq_some_iff.1 hj
    have hm := List.mem_of_getElem? hr
    have hjl := (List.getElem?_eq_some_iff.1 hr).1
    obtain ⟨A1, c1, hv1, hc1, hr1⟩ := form (c.ops r hm)
    refine ⟨A1, c1, by rw [List.length_map]; exact hc1, ?_, ?_⟩
    · rcases hr1 with h0 | ⟨g1, rfl, hg1, hh1, hcells1⟩
      · left
        rw [List.eq_nil_of_length_eq_zero h0]; rfl
      · refine .inr ⟨g1, 0, rfl, hg1, hh1, fun i x hx => ?_⟩
        rw [List.getElem?_map] at hx
        obtain ⟨y, hy, rfl⟩ := Option.map_eq_some_iff.1 hx
        have hil := (List.getElem?_eq_some_iff.1 hy).1
        obtain ⟨A2, c2, hv2, hc2, hr2⟩ := form (c.nums r hm y (List.mem_of_getElem? hy))
        have hat : ∀ q, q < 4 → w.cell? ⟨g1, i * 4 + q, none⟩ = (cell4 y)[q]? := fun q hq => (hcells1 (i * 4 + q) (by omega)).trans (flat4_at r.2 i y hy q hq)
        refine ⟨A2, c2, hc2, ?_, by rw [Nat.zero_add]; exact hat 0 (by decide), by rw [Nat.zero_add]; exact hat 1 (by decide), by rw [Nat.zero_add]; exact hat 2 (by decide), by rw [Nat.zero_add]; exact (hat 3 (by decide)).trans (by rw [← hv2]; rfl)⟩
        rcases hr2 with h0 | ⟨g2, rfl, hg2, hh2, hcells2⟩
        · left
          exact List.eq_nil_of_length_eq_zero h0
        · refine .inr ⟨g2, 0, rfl, hg2, hh2, fun q z hz => ?_⟩
          have hql := (List.getElem?_eq_some_iff.1 hz).1
          rw [Nat.zero_add]
          exact (hcells2 q (by omega)).trans (by rw [List.getElem?_map, hz]; rfl)
    · rw [Nat.zero_add, List.length_map]
      exact (hcells j (by omega)).trans (by rw [List.getElem?_map, hr, ← hv1]; rfl)

/-- what compiling writes -/
def XR (cb : Nat) (k : Nat) (o : Obj) : Prop := XNR cb k o ∨ XO k o
theorem xr_not {cb k : Nat} {cs : Array Value} {f : Nat × Nat} : ¬ XR cb k (.cells cs 31 f) := fun h => h.elim (xnr_not (by decide) (by decide)) (xo_not (by decide) (by decide))
/-- where the nodes lie, and that they stay -/
structure Wr (S : Nat → Prop) (h cb : Nat) (w0 w : World) : Prop where
  kp : Kp h (XR cb) w0 w
  hz : h ≤ w0.heap.size
  nod : ∀ b, S b → b < w0.heap.size → b < h ∨ ∃ cs f, w0.heap[b]? = some (.cells cs 31 f)
section
variable {S : Nat → Prop} {h cb : Nat} {w0 w W : World}
theorem Wr.size (a : Wr S h cb w0 w) : h ≤ w.heap.size := Nat.le_trans a.hz a.kp.below.size
theorem Wr.block (a : Wr S h cb w0 w) {b : Nat} (hS : S b) (hb : b < w0.heap.size) : w.heap[b]? = w0.heap[b]? := by
  rcases a.nod b hS hb with h | ⟨cs, f, h⟩
  · exact a.kp.below.block b h
  · rw [h]
    exact a.kp.keep b _ h xr_not
theorem Wr.s (a : Wr S h cb w0 w) (k : Kp h (XR cb) w W) : Wr S h cb w0 W := ⟨a.kp.trans k, a.hz, a.nod⟩
theorem Wr.on (a : Wr S h cb w0 w) (hb : Below w.heap.size w W) : Wr S h cb w0 W := a.s (Kp.of hb a.size _)
end
/-- the blocks that a code under way lies in -/
def Own (cb : Nat) (vB : Value) (G : List Rw) (k : Nat) : Prop := k = cb ∨ vB.ownBlock = some k ∨ ∃ g ∈ G, g.1.ownBlock = some k
/-- what lies beside it -/
def Beside (Y : Nat → Prop) (cb : Nat) (vB : Value) (G : List Rw) (w : World) : Prop := ∀ k, Y k → k < w.heap.size ∧ ¬ Own cb vB G k
def Stay (Y : Nat → Prop) (w W : World) : Prop := ∀ k, Y k → W.heap[k]? = w.heap[k]?
theorem Stay.refl (Y : Nat → Prop) (w : World) : Stay Y w w := fun _ _ => rfl
theorem Stay.trans {Y : Nat → Prop} {w W V : World} (a : Stay Y w W) (b : Stay Y W V) : Stay Y w V := fun k hk => (b k hk).trans (a k hk)
/-- all of it -/
def StR (S : Nat → Prop) (w0 : World) (h cb : Nat) (Y : Nat → Prop) (w : World) (B : List (List Opp)) : Prop := Wr S h cb w0 w ∧ ∃ vB G, CodesR h cb w vB G ∧ blk G = B ∧ Beside Y cb vB G w
theorem StR.on {S : Nat → Prop} {w0 w W : World} {h cb : Nat} {Y : Nat → Prop} {B : List (List Opp)} (c : StR S w0 h cb Y w B) (hb : Below w.heap.size w W) : StR S w0 h cb Y W B := by
  obtain ⟨h1, vB, G, h2, h3, h4⟩ := c
  exact ⟨h1.on hb, vB, G, h2.on hb h1.size, h3, fun k hk => ⟨Nat.lt_of_lt_of_le (h4 k hk).1 hb.size, (h4 k hk).2⟩⟩
theorem StR.stay {S : Nat → Prop} {w0 w W : World} {h cb : Nat} {Y : Nat → Prop} {B : List (List Opp)} (c : StR S w0 h cb Y w B) (hb : Below w.heap.size w W) : Stay Y w W := by
  obtain ⟨_, vB, G, _, _, h4⟩ := c
  exact fun k hk => hb.block k (h4 k hk).1
/-- one block more beside it -/
theorem StR.more {S : Nat → Prop} {w0 w : World} {h cb : Nat} {Y : Nat → Prop} {B : List (List Opp)} {x : Nat} (c : StR S w0 h cb Y w B) (hx : x < w.heap.size) (hn : ∀ vB G, CodesR h cb w vB G → ¬ Own cb vB G x) : StR S w0 h cb (fun k => Y k ∨ k = x) w B := by
  obtain ⟨h1, vB, G, h2, h3, h4⟩ := c
  exact ⟨h1, vB, G, h2, h3, fun k hk => hk.elim (h4 k) fun e => by rw [e]; exact ⟨hx, hn vB G h2⟩⟩
theorem StR.less {S : Nat → Prop} {w0 w : World} {h cb : Nat} {Y Y' : Nat → Prop} {B : List (List Opp)} (c : StR S w0 h cb Y w B) (hy : ∀ k, Y' k → Y k) : StR S w0 h cb Y' w B := by
  obtain ⟨h1, vB, G, h2, h3, h4⟩ := c
  exact ⟨h1, vB, G, h2, h3, fun k hk => h4 k (hy k hk)⟩

end Go.Proofs.YtpphkaolonjjdaaDoor.Cmr
