/- A code under way in memory: blocks and parts in rows of the call's own; what stays of the rest. -/
import Derived.Laws.OwnMore
import Derived.WalkSmall
import Derived.Deep.AppendLies
import Derived.Test.YtpphkaolonjjdaaDoorProg
import Derived.Test.YtpphkaolonjjdaaDoorFmpJ
import Derived.Test.YtpphkaolonjjdaaDoorCplJ
import Derived.Test.YtpphkaolonjjdaaDoorCmcJ
import Derived.WalkKit
import Derived.WalkSpells
import Derived.IntWalk
import Derived.OwnWalk
import Derived.StillTailTactics
import Derived.Maps.AppendAt
import Derived.Deep.DeepCutAuto
import Derived.Test.YtpphkaolonjjdaaDoorCopsJ
import Derived.Test.YtpphkaolonjjdaaDoorStrsJ
import Derived.ProofKit
import Derived.Deep.RegionLaw
namespace Go.Proofs.YtpphkaolonjjdaaDoor.Cmm
open Go Go.RowKit Go.Proofs.YtpphkaolonjjdaaDoor.Spl Go.Proofs.YtpphkaolonjjdaaDoor.Nodm Go.Proofs.YtpphkaolonjjdaaDoor.Nz Go.Proofs.YtpphkaolonjjdaaDoor.Cpl Go.Proofs.YtpphkaolonjjdaaDoor.Cin Go.Proofs.YtpphkaolonjjdaaDoor.Cmc Go.Proofs.YtpphkaolonjjdaaDoor.Fpl
open Go.Proofs.YtpphkaolonjjdaaDoor.Pure (bs)

/-- memory of one type -/
def isT (t : TypeId) (o : Obj) : Prop := ∃ cs f, o = .cells cs t f
theorem isT_ne {t e : TypeId} {cs : Array Value} {f : Nat × Nat} (h : e ≠ t) : ¬ isT t (.cells cs e f) := fun ⟨_, _, he⟩ => by
  cases he; exact h rfl
theorem isT_map {t : TypeId} {es : Array MapEntry} {n : Nat} : ¬ isT t (.map es n) := fun ⟨_, _, he⟩ => by cases he
/-- below h nothing differs, and beyond only what X says -/
structure Kp (h : Nat) (X : Nat → Obj → Prop) (w W : World) : Prop where
  below : Below h w W
  keep : ∀ k o, w.heap[k]? = some o → ¬ X k o → W.heap[k]? = some o
section
variable {h : Nat} {X Y : Nat → Obj → Prop} {w W V : World}
theorem Kp.refl (h : Nat) (X : Nat → Obj → Prop) (w : World) : Kp h X w w := ⟨Below.refl _ _, fun _ _ h _ => h⟩
theorem Kp.trans (a : Kp h X w W) (b : Kp h X W V) : Kp h X w V := ⟨a.below.trans b.below, fun k o hk hx => b.keep k o (a.keep k o hk hx) hx⟩
theorem Kp.mono (a : Kp h X w W) (hx : ∀ k o, X k o → Y k o) : Kp h Y w W := ⟨a.below, fun k o hk hy => a.keep k o hk fun e => hy (hx k o e)⟩
theorem heap_lt {k : Nat} {o : Obj} (e : w.heap[k]? = some o) : k < w.heap.size := (Array.getElem?_eq_some_iff.1 e).1
theorem Kp.of (hb : Below w.heap.size w W) (hz : h ≤ w.heap.size) (X : Nat → Obj → Prop) : Kp h X w W := ⟨hb.mono hz, fun k _ hk _ => (hb.block k (heap_lt hk)).trans hk⟩
theorem Kp.alloc (a : Kp h X w W) (hz : h ≤ w.heap.size) (o : Obj) : Kp h X w (W.alloc o) :=
  a.trans (Kp.of (alloc_below' W o) (Nat.le_trans hz a.below.size) X)
where alloc_below' (W : World) (o : Obj) : Below W.heap.size W (W.alloc o) := (Below.refl _ _).alloc (Nat.le_refl _) _
theorem Kp.drew (a : Kp h X w W) : Kp h X w W.drew := ⟨a.below.drew, a.keep⟩
/-- a row of another type stays -/
theorem Kp.own (a : Kp h X w W) {base size n : Nat} {e : TypeId} {v : Value} {xs : List Value} (ho : w.ownsRow base e size v n xs) (hx : ∀ k cs, ¬ X k (.cells cs e (0, 0))) : W.ownsRow base e size v n xs := by
  refine ⟨ho.1, ?_⟩
  rcases ho.2 with h0 | ⟨g, cap, cur, hv, hb, hg, hr⟩
  · exact .inl h0
  · exact .inr ⟨g, cap, cur, hv, hb, a.keep g _ hg (hx g cur), hr⟩
/-- an append to a row of type e -/
theorem Kp.grown {base size n : Nat} {e : TypeId} {v : Value} {xs : List Value} (hg : w.grownBy W v.ownBlock) (ho : w.ownsRow base e size v n xs) (hb : h ≤ base) (hz : h ≤ w.heap.size) (hX : ∀ k cs f, X k (.cells cs e f)) : Kp h X w W := by
  refine ⟨(Below.refl h w).grown hg hz fun k hk => Nat.le_trans hb (ho.lt k hk).1, fun k o hk hx => ?_⟩
  refine (hg.block k (heap_lt hk) fun e1 => ?_).trans hk
  rcases ho.2 with ⟨rfl, _⟩ | ⟨g, cap, cur, rfl, _, hgg, _⟩
  · cases e1
  · obtain rfl : k = g := by simpa [Value.ownBlock] using e1
    rw [hgg] at hk
    cases hk
    exact hx (hX _ _ _)
/-- a store into a cell -/
theorem Kp.set (b j : Nat) (u : Value) (hb : h ≤ b) (hX : ∀ o, w.heap[b]? = some o → X b o) : Kp h X w (w.setCell ⟨b, j, none⟩ u) := by
  refine ⟨(Below.refl h w).setCell (p := ⟨b, j, none⟩) hb u, fun k o hk hx => ?_⟩
  rw [heap_setCell_other w ⟨b, j, none⟩ k u (fun e => hx (by
    have e : k = b := e
    subst e; exact hX o hk))]
  exact hk
end
theorem own_type {w : World} {B B' e e' sz sz' n n' : Nat} {v v' : Value} {xs xs' : List Value} (h : w.ownsRow B e sz v n xs) (h' : w.ownsRow B' e' sz' v' n' xs') (hne : e ≠ e') : v.ownBlock = none ∨ v.ownBlock ≠ v'.ownBlock := by
  rcases h.2 with ⟨rfl, _⟩ | ⟨g, cap, cur, rfl, _, hg, _⟩
  · exact .inl rfl
  · right
    rcases h'.2 with ⟨rfl, _⟩ | ⟨g', cap', cur', rfl, _, hg', _⟩
    · intro e; cases e
    · intro e
      obtain rfl : g = g' := by simpa [Value.ownBlock] using e
      rw [hg] at hg'
      cases hg'
      exact hne rfl
theorem own_not {w : World} {B e sz n b : Nat} {v : Value} {xs : List Value} {cs : Array Value} {t : TypeId} {fr : Nat × Nat} (h : w.ownsRow B e sz v n xs) (hg : w.heap[b]? = some (.cells cs t fr)) (ht : t ≠ e) : v.ownBlock ≠ some b := by
  rcases h.2 with ⟨rfl, _⟩ | ⟨g, cap, cur, rfl, _, hg', _⟩
  · intro h; cases h
  · intro h
    obtain rfl : g = b := by simpa [Value.ownBlock] using h
    rw [hg'] at hg
    cases hg
    exact ht rfl

/-! ### blocks under way -/
/-- a block: its slice, its instructions, each with its own slice of numbers -/
abbrev Rw := Value × List (Opp × Value)
def cell4 (y : Opp × Value) : List Value := [.int .i64 y.1.k, .int .i64 y.1.n, .string (bs y.1.s), y.2]
def flat4 (l : List (Opp × Value)) : List Value := l.flatMap cell4
theorem flat4_app (l r : List (Opp × Value)) : flat4 (l ++ r) = flat4 l ++ flat4 r := List.flatMap_append
theorem flat4_len : ∀ l, (flat4 l).length = l.length * 4
  | [] => rfl
  | x :: r => by
    have := flat4_len r
    unfold flat4 at *
    rw [List.flatMap_cons, List.length_append, this]
    show 4 + r.length * 4 = (r.length + 1) * 4
    omega
theorem flat4_at : ∀ (l : List (Opp × Value)) (j : Nat) (x : Opp × Value), l[j]? = some x → ∀ i, i < 4 → (flat4 l)[j * 4 + i]? = (cell4 x)[i]?
  | [], j, x, h, _, _ => by cases h
  | y :: r, 0, x, h, i, hi => by
    cases h
    unfold flat4
    rw [List.flatMap_cons, Nat.zero_mul, Nat.zero_add, List.getElem?_append_left (by simpa [cell4] using hi)]
  | y :: r, j + 1, x, h, i, hi => by
    have h' : r[j]? = some x := by simpa using h
    have := flat4_at r j x h' i hi
    unfold flat4 at *
    rw [List.flatMap_cons, List.getElem?_append_right (by simp [cell4]; omega), ← this]
    congr 1
    simp [cell4]; omega
structure Codes (h cb : Nat) (w : World) (vB : Value) (G : List Rw) : Prop where
  ge : h ≤ cb
  box : w.heap[cb]? = some (.cells #[vB] 24)
  row : w.ownsRow h 38 1 vB G.length (G.map (·.1))
  ops : ∀ g ∈ G, w.ownsRow h 40 4 g.1 g.2.length (flat4 g.2)
  nums : ∀ g ∈ G, ∀ y ∈ g.2, w.ownsRow h 3 1 y.2 y.1.l.length (y.1.l.map (Value.int .i64))
  apart : ∀ (i j : Nat) (a b : Rw), i ≠ j → G[i]? = some a → G[j]? = some b → a.1.ownBlock = none ∨ a.1.ownBlock ≠ b.1.ownBlock
def blk (G : List Rw) : List (List Opp) := G.map fun g => g.2.map (·.1)
theorem blk_len (G : List Rw) : (blk G).length = G.length := List.length_map ..
theorem blk_at (G : List Rw) (i : Nat) : (blk G).getD i [] = ((G[i]?.map fun g => g.2.map (·.1))).getD [] := by
  unfold blk
  rw [List.getD_eq_getElem?_getD, List.getElem?_map]
/-- what may differ, so that a code under way stays -/
def NotC (cb : Nat) (X : Nat → Obj → Prop) : Prop := (∀ cs, ¬ X cb (.cells cs 24 (0, 0))) ∧ (∀ k cs, ¬ X k (.cells cs 38 (0, 0))) ∧ (∀ k cs, ¬ X k (.cells cs 40 (0, 0))) ∧ ∀ k cs, ¬ X k (.cells cs 3 (0, 0))
theorem Codes.kept {h cb : Nat} {X : Nat → Obj → Prop} {w W : World} {vB : Value} {G : List Rw} (c : Codes h cb w vB G) (a : Kp h X w W) (hx : NotC cb X) : Codes h cb W vB G :=
  ⟨c.ge, a.keep cb _ c.box (hx.1 _), a.own c.row hx.2.1, fun g hg => a.own (c.ops g hg) hx.2.2.1, fun g hg y hy => a.own (c.nums g hg y hy) hx.2.2.2, c.apart⟩
theorem Codes.on {h cb : Nat} {w W : World} {vB : Value} {G : List Rw} (c : Codes h cb w vB G) (hb : Below w.heap.size w W) (hz : h ≤ w.heap.size) : Codes h cb W vB G :=
  c.kept (Kp.of hb hz fun _ _ => False) ⟨fun _ h => h, fun _ _ h => h, fun _ _ h => h, fun _ _ h => h⟩
theorem Codes.drew {h cb : Nat} {w : World} {vB : Value} {G : List Rw} (c : Codes h cb w vB G) : Codes h cb w.drew vB G := ⟨c.ge, c.box, c.row, c.ops, c.nums, c.apart⟩

/-- what a new block writes -/
def XN (cb : Nat) (k : Nat) (o : Obj) : Prop := (k = cb ∧ isT 24 o) ∨ isT 38 o
/-- what an instruction writes -/
def XO (_ : Nat) (o : Obj) : Prop := isT 38 o ∨ isT 40 o
theorem xn_not {cb k : Nat} {e : TypeId} {cs : Array Value} {f : Nat × Nat} (h1 : e ≠ 24) (h2 : e ≠ 38) : ¬ XN cb k (.cells cs e f) := fun h => h.elim (fun h => isT_ne h1 h.2) (isT_ne h2)
theorem xo_not {k : Nat} {e : TypeId} {cs : Array Value} {f : Nat × Nat} (h1 : e ≠ 40) (h2 : e ≠ 38) : ¬ XO k (.cells cs e f) := fun h => h.elim (isT_ne h2) (isT_ne h1)

/-- a new block more -/
theorem Codes.grow {h cb : Nat} {w w2 : World} {vB v' : Value} {G : List Rw} (c : Codes h cb w vB G) (hz : h ≤ w.heap.size)
    (hown : w2.ownsRow h 38 1 v' (G.length + 1) (G.map (·.1) ++ [.slice none 0 0])) (hg : w.grownBy w2 vB.ownBlock) :
    Codes h cb (w2.setCell ⟨cb, 0, none⟩ v') v' (G ++ [(.slice none 0 0, [])]) ∧ Kp h (XN cb) w (w2.setCell ⟨cb, 0, none⟩ v') := by
  have k1 : Kp h (fun _ o => isT 38 o) w w2 := Kp.grown hg c.row (Nat.le_refl _) hz fun _ _ _ => ⟨_, _, rfl⟩
  have hb2 : w2.heap[cb]? = some (.cells #[vB] 24) := k1.keep cb _ c.box (isT_ne (by decide))
  have k2 : Kp h (fun k o => k = cb ∧ isT 24 o) w2 (w2.setCell ⟨cb, 0, none⟩ v') := Kp.set cb 0 v' c.ge fun o ho => by
    rw [hb2] at ho
    cases ho
    exact ⟨rfl, _, _, rfl⟩
  have k : Kp h (XN cb) w (w2.setCell ⟨cb, 0, none⟩ v') := (k1.mono (fun _ _ => .inr)).trans (k2.mono fun _ _ => .inl)
  have hn : ∀ (t : TypeId) (k : Nat) (cs : Array Value), t ≠ 24 → ¬ (k = cb ∧ isT 24 (.cells cs t (0, 0))) := fun t k cs ht he => isT_ne ht he.2
  refine ⟨⟨c.ge, heap_setCell_same w2 cb 0 _ _ _ hb2, ?_, fun g hg => ?_, fun g hg y hy => ?_, fun i j a b hij ha hb => ?_⟩, k⟩
  · rw [List.length_append, List.map_append]
    exact k2.own hown fun k cs => hn _ k cs (by decide)
  · rcases List.mem_append.1 hg with hg | hg
    · exact k.own (c.ops g hg) fun _ _ => xn_not (by decide) (by decide)
    · rw [List.mem_singleton] at hg
      subst hg
      exact World.ownsRow_nil ..
  · rcases List.mem_append.1 hg with hg | hg
    · exact k.own (c.nums g hg y hy) fun _ _ => xn_not (by decide) (by decide)
    · rw [List.mem_singleton] at hg
      subst hg
      cases hy
  · by_cases hi : i < G.length
    · rw [List.getElem?_append_left hi] at ha
      by_cases hj : j < G.length
      · rw [List.getElem?_append_left hj] at hb
        exact c.apart i j a b hij ha hb
      · rw [List.getElem?_append_right (by omega)] at hb
        obtain ⟨_, e⟩ := List.getElem?_eq_some_iff.1 hb
        rw [List.getElem_singleton] at e
        subst e
        cases hab : a.1.ownBlock with
        | none => exact .inl rfl
        | some _ => right; intro e; cases e
    · rw [List.getElem?_append_right (by omega)] at ha
      obtain ⟨_, e⟩ := List.getElem?_eq_some_iff.1 ha
      rw [List.getElem_singleton] at e
      subst e
      exact .inl rfl
theorem blk_grow (G : List Rw) : blk (G ++ [(.slice none 0 0, [])]) = blk G ++ [[]] := by unfold blk; rw [List.map_append]; rfl

/-- an instruction more -/
theorem Codes.put {h cb : Nat} {w w2 : World} {vB : Value} {G : List Rw} (c : Codes h cb w vB G) (hz : h ≤ w.heap.size) {i g cap gB capB : Nat} {r : Rw} (hi : G[i]? = some r) (y : Opp × Value)
    (hy : w.ownsRow h 3 1 y.2 y.1.l.length (y.1.l.map (Value.int .i64))) (hB : vB = .slice (some ⟨gB, 0, none⟩) G.length capB)
    (hown : w2.ownsRow h 40 4 (.slice (some ⟨g, 0, none⟩) (r.2.length + 1) cap) (r.2.length + 1) (flat4 r.2 ++ cell4 y)) (hg : w.grownBy w2 r.1.ownBlock) (hat : r.1.ownBlock = some g ∨ w.heap.size ≤ g) :
    Codes h cb (w2.setCell ⟨gB, i, none⟩ (.slice (some ⟨g, 0, none⟩) (r.2.length + 1) cap)) vB (G.set i (.slice (some ⟨g, 0, none⟩) (r.2.length + 1) cap, r.2 ++ [y])) ∧ Kp h XO w (w2.setCell ⟨gB, i, none⟩ (.slice (some ⟨g, 0, none⟩) (r.2.length + 1) cap)) := by
  have hm := List.mem_of_getElem? hi
  have hil := (List.getElem?_eq_some_iff.1 hi).1
  have k1 : Kp h (fun _ o => isT 40 o) w w2 := Kp.grown hg (c.ops r hm) (Nat.le_refl _) hz fun _ _ _ => ⟨_, _, rfl⟩
  have hrow := k1.own c.row fun _ _ => isT_ne (by decide)
  rw [hB] at hrow
  obtain ⟨hst, _⟩ := hrow.stored i (.slice (some ⟨g, 0, none⟩) (r.2.length + 1) cap)
  have k2 : Kp h (fun _ o => isT 38 o) w2 (w2.setCell ⟨gB, i, none⟩ (.slice (some ⟨g, 0, none⟩) (r.2.length + 1) cap)) := by
    rcases hrow.2 with ⟨h0, _⟩ | ⟨g', cap', cur, h', hb, hg', _⟩
    · cases h0
    · cases h'
      exact Kp.set gB i _ hb fun o ho => by
        rw [hg'] at ho
        cases ho
        exact ⟨_, _, rfl⟩
  have k : Kp h XO w (w2.setCell ⟨gB, i, none⟩ (.slice (some ⟨g, 0, none⟩) (r.2.length + 1) cap)) := (k1.mono (fun _ _ => .inr)).trans (k2.mono fun _ _ => .inl)
  have hkeep : ∀ (j : Nat) (b : Rw), j ≠ i → G[j]? = some b → (w2.setCell ⟨gB, i, none⟩ (.slice (some ⟨g, 0, none⟩) (r.2.length + 1) cap)).ownsRow h 40 4 b.1 b.2.length (flat4 b.2) := fun j b hj hb => by
    refine k2.own ?_ fun _ _ => isT_ne (by decide)
    exact (c.ops b (List.mem_of_getElem? hb)).kept hg (c.apart j i b r hj hb hi)
  refine ⟨⟨c.ge, k.keep cb _ c.box (xo_not (by decide) (by decide)), ?_, fun x hx => ?_, fun x hx z hz2 => ?_, fun a b p q hab hp hq => ?_⟩, k⟩
  · rw [List.length_set, List.map_set]
    rw [hB]
    exact hst
  · obtain ⟨j, hj⟩ := List.getElem?_of_mem hx
    by_cases hji : j = i
    · subst hji
      rw [List.getElem?_set_self hil] at hj
      cases hj
      show World.ownsRow _ _ _ _ _ (r.2 ++ [y]).length (flat4 (r.2 ++ [y]))
      rw [flat4_app, List.length_append]
      refine k2.own ?_ fun _ _ => isT_ne (by decide)
      have : flat4 [y] = cell4 y := by unfold flat4; rw [List.flatMap_cons, List.flatMap_nil, List.append_nil]
      rw [this]
      exact hown
    · rw [List.getElem?_set_ne (fun e => hji e.symm)] at hj
      exact hkeep j x hji hj
  · obtain ⟨j, hj⟩ := List.getElem?_of_mem hx
    by_cases hji : j = i
    · subst hji
      rw [List.getElem?_set_self hil] at hj
      cases hj
      rcases List.mem_append.1 hz2 with hz2 | hz2
      · exact k.own (c.nums r hm z hz2) fun _ _ => xo_not (by decide) (by decide)
      · rw [List.mem_singleton] at hz2
        subst hz2
        exact k.own hy fun _ _ => xo_not (by decide) (by decide)
    · rw [List.getElem?_set_ne (fun e => hji e.symm)] at hj
      exact k.own (c.nums x (List.mem_of_getElem? hj) z hz2) fun _ _ => xo_not (by decide) (by decide)
  · have hnew : ∀ (j : Nat) (x : Rw), j ≠ i → G[j]? = some x → x.1.ownBlock ≠ some g := fun j x hj hx e => by
      rcases hat with hat | hat
      · rcases c.apart j i x r hj hx hi with h1 | h1
        · rw [h1] at e; cases e
        · exact h1 (e.trans hat.symm)
      · have := ((c.ops x (List.mem_of_getElem? hx)).lt g e).2
        omega
    by_cases hai : a = i
    · subst hai
      rw [List.getElem?_set_self hil] at hp
      cases hp
      rw [List.getElem?_set_ne hab] at hq
      right
      intro e
      exact hnew b q (fun e => hab e.symm) hq e.symm
    · rw [List.getElem?_set_ne (fun e => hai e.symm)] at hp
      by_cases hbi : b = i
      · subst hbi
        rw [List.getElem?_set_self hil] at hq
        cases hq
        exact .inr fun e => hnew a p hai hp e
      · rw [List.getElem?_set_ne (fun e => hbi e.symm)] at hq
        exact c.apart a b p q hab hp hq
theorem blk_put {G : List Rw} {i : Nat} {r : Rw} (hi : G[i]? = some r) (v : Value) (y : Opp × Value) : blk (G.set i (v, r.2 ++ [y])) = Cpl.put (blk G) i y.1 := by
  unfold blk Cpl.put
  rw [List.map_set, List.map_append, List.getD_eq_getElem?_getD, List.getElem?_map, hi]
  rfl

/-- done: a code in memory -/
theorem Codes.done {h cb : Nat} {w : World} {vB : Value} {G : List Rw} (c : Codes h cb w vB G) : ∃ A cap, vB = .slice A (blk G).length cap ∧ CodeIn (fun b => h ≤ b) w (.agg #[.slice A (blk G).length cap]) (blk G) := by
  have form : ∀ {e size n : Nat} {v : Value} {xs : List Value}, w.ownsRow h e size v n xs → ∃ A cap, v = .slice A n cap ∧ n ≤ cap ∧ (n = 0 ∨ ∃ g, A = some ⟨g, 0, none⟩ ∧ g < w.heap.size ∧ h ≤ g ∧ ∀ j, j < n * size → w.cell? ⟨g, j, none⟩ = xs[j]?) := by
    intro e size n v xs ho
    rcases ho.2 with ⟨h1, h2⟩ | ⟨g, cap, cur, h1, h2, h3, h4, _⟩
    · exact ⟨none, 0, by rw [h1, h2], by omega, .inl h2⟩
    · refine ⟨_, cap, h1, h4, .inr ⟨g, rfl, heap_lt h3, h2, fun j hj => ?_⟩⟩
      rw [h1] at ho
      exact ho.cellAt j hj
  obtain ⟨A, cap, hv, hc, hr⟩ := form c.row
  rw [blk_len]
  refine ⟨A, cap, hv, A, cap, by rw [blk_len], by rw [blk_len]; exact hc, ?_⟩
  rcases hr with h0 | ⟨g, rfl, hg, hh, hcells⟩
  · left
    unfold blk
    rw [List.eq_nil_of_length_eq_zero h0]; rfl
  · refine .inr ⟨g, 0, rfl, hg, hh, fun j l hj => ?_⟩
    unfold blk at hj
    rw [List.getElem?_map] at hj
    obtain ⟨r, hr, rfl⟩ := Option.map_eq_some_iff.1 hj
    have hm := List.mem_of_getElem? hr
    have hjl := (List.getElem?_eq_some_iff.1 hr).1
    obtain ⟨A1, c1, hv1, hc1, hr1⟩ := form (c.ops r hm)
    refine ⟨A1, c1, by rw [List.length_map]; exact hc1, ?_, ?_⟩
    · rcases hr1 with h0 | ⟨g1, rfl, hg1, hh1, hcells1⟩
      · left
        rw [List.eq_nil_of_length_eq_zero h0]; rfl
      · refine .inr ⟨g1, 0, rfl, hg1, hh1, fun i x hx => ?_⟩
        rw [List.getElem?_map] at hx
        obtain ⟨y, hy, rfl⟩ := Option.map_eq_some_iff.1 hx
        have hil := (List.getElem?_eq_some_iff.1 hy).1
        obtain ⟨A2, c2, hv2, hc2, hr2⟩ := form (c.nums r hm y (List.mem_of_getElem? hy))
        have hat : ∀ q, q < 4 → w.cell? ⟨g1, i * 4 + q, none⟩ = (cell4 y)[q]? := fun q hq => (hcells1 (i * 4 + q) (by omega)).trans (flat4_at r.2 i y hy q hq)
        refine ⟨A2, c2, hc2, ?_, by rw [Nat.zero_add]; exact hat 0 (by decide), by rw [Nat.zero_add]; exact hat 1 (by decide), by rw [Nat.zero_add]; exact hat 2 (by decide), by rw [Nat.zero_add]; exact (hat 3 (by decide)).trans (by rw [← hv2]; rfl)⟩
        rcases hr2 with h0 | ⟨g2, rfl, hg2, hh2, hcells2⟩
        · left
          exact List.eq_nil_of_length_eq_zero h0
        · refine .inr ⟨g2, 0, rfl, hg2, hh2, fun q z hz => ?_⟩
          have hql := (List.getElem?_eq_some_iff.1 hz).1
          rw [Nat.zero_add]
          exact (hcells2 q (by omega)).trans (by rw [List.getElem?_map, hz]; rfl)
    · rw [Nat.zero_add, List.length_map]
      exact (hcells j (by omega)).trans (by rw [List.getElem?_map, hr, ← hv1]; rfl)

end Go.Proofs.YtpphkaolonjjdaaDoor.Cmm

/- The program's numbers of new blocks. -/
namespace Go.Proofs.YtpphkaolonjjdaaDoor.Cnm
open Go Go.RowKit Go.Proofs.YtpphkaolonjjdaaDoor.Spl Go.Proofs.YtpphkaolonjjdaaDoor.Cpl Go.Proofs.YtpphkaolonjjdaaDoor.Cin Go.Proofs.YtpphkaolonjjdaaDoor.Cops Go.Proofs.YtpphkaolonjjdaaDoor.Cmc Go.Proofs.YtpphkaolonjjdaaDoor.Cmm
open Go.Proofs.YtpphkaolonjjdaaDoor.Pure (bs)

theorem infoInt : (Tryd.prog.info? 3).map (fun i => (i.zero, i.size, i.bytes)) = some (some (.int .i64 0), 1, 8) := by kernel_rfl
theorem infoOps : (Tryd.prog.info? 38).map (fun i => (i.zero, i.size, i.bytes)) = some (some (.slice none 0 0), 1, 24) := by kernel_rfl
theorem own_slice {w : World} {B e sz n : Nat} {v : Value} {xs : List Value} (h : w.ownsRow B e sz v n xs) : ∃ A c, v = .slice A n c := by
  rcases h.2 with ⟨h1, h2⟩ | ⟨g, cap, _, h1, _⟩
  · exact ⟨none, 0, by rw [h1, h2]⟩
  · exact ⟨_, cap, h1⟩
theorem own_mono {w : World} {base base' : Nat} {e : TypeId} {size : Nat} {v : Value} {n : Nat} {xs : List Value} (h : w.ownsRow base e size v n xs) (hb : base' ≤ base) : w.ownsRow base' e size v n xs :=
  ⟨h.1, h.2.imp id fun ⟨g, cap, cur, h1, h2, h3⟩ => ⟨g, cap, cur, h1, Nat.le_trans hb h2, h3⟩⟩
theorem Kp.set_new {h : Nat} {X : Nat → Obj → Prop} {w W : World} (a : Kp h X w W) (hz : h ≤ w.heap.size) {b : Nat} (hb : w.heap.size ≤ b) (j : Nat) (u : Value) : Kp h X w (W.setCell ⟨b, j, none⟩ u) :=
  ⟨a.below.setCell (p := ⟨b, j, none⟩) (Nat.le_trans hz hb) u, fun k o hk hx => by
    rw [heap_setCell_other W ⟨b, j, none⟩ k u (fun e => by
      have e : k = b := e
      have := heap_lt hk; omega)]
    exact a.keep k o hk hx⟩
/-- a row whose block no store meets -/
theorem own_set {w : World} {B e sz n b : Nat} {v : Value} {xs : List Value} (h : w.ownsRow B e sz v n xs) (hb : v.ownBlock ≠ some b) (j : Nat) (u : Value) : (w.setCell ⟨b, j, none⟩ u).ownsRow B e sz v n xs := by
  refine ⟨h.1, ?_⟩
  rcases h.2 with h0 | ⟨g, cap, cu, rfl, hB, hg, hr⟩
  · exact .inl h0
  · refine .inr ⟨g, cap, cu, rfl, hB, ?_, hr⟩
    rw [heap_setCell_other w ⟨b, j, none⟩ g u (fun e => hb (by
      have e : g = b := e
      rw [e]; rfl))]
    exact hg
def numbers (q j m : Nat) : List Int := (List.range' q j).map Int.ofNat ++ List.replicate (m - j) 0
theorem numbers_set {q j m : Nat} (h : j < m) : (numbers q j m).set j ((q + j : Nat) : Int) = numbers q (j + 1) m := by
  unfold numbers
  have hl : ((List.range' q j).map Int.ofNat).length = j := by rw [List.length_map, List.length_range']
  obtain ⟨d, hd⟩ : ∃ d, m - j = d + 1 := ⟨m - j - 1, by omega⟩
  have hd' : m - (j + 1) = d := by omega
  rw [hd, hd', List.set_append_right _ _ (by omega), hl, Nat.sub_self, List.replicate_succ, List.set_cons_zero]
  rw [List.range'_concat, List.map_append, List.append_assoc]
  simp
theorem numbers_done (q m : Nat) : numbers q m m = (List.range' q m).map Int.ofNat := by
  unfold numbers
  rw [Nat.sub_self, List.replicate_zero, List.append_nil]

/-- many new blocks -/
theorem codes_many {h cb m : Nat} {w W : World} {vB v' : Value} {G : List Rw} (c : Codes h cb w vB G) (k : Kp h (XN cb) w W) (hbox : W.heap[cb]? = some (.cells #[v'] 24))
    (hrow : W.ownsRow h 38 1 v' (G.length + m) (G.map (·.1) ++ List.replicate m (.slice none 0 0))) : Codes h cb W v' (G ++ List.replicate m (.slice none 0 0, [])) := by
  refine ⟨c.ge, hbox, ?_, fun g hg => ?_, fun g hg y hy => ?_, fun i j a b hij ha hb => ?_⟩
  · rw [List.length_append, List.length_replicate, List.map_append, List.map_replicate]
    exact hrow
  · rcases List.mem_append.1 hg with hg | hg
    · exact k.own (c.ops g hg) fun _ _ => xn_not (by decide) (by decide)
    · rw [(List.mem_replicate.1 hg).2]
      exact World.ownsRow_nil ..
  · rcases List.mem_append.1 hg with hg | hg
    · exact k.own (c.nums g hg y hy) fun _ _ => xn_not (by decide) (by decide)
    · rw [(List.mem_replicate.1 hg).2] at hy
      cases hy
  · by_cases hi : i < G.length
    · rw [List.getElem?_append_left hi] at ha
      by_cases hj : j < G.length
      · rw [List.getElem?_append_left hj] at hb
        exact c.apart i j a b hij ha hb
      · rw [List.getElem?_append_right (by omega)] at hb
        have e := (List.mem_replicate.1 (List.mem_of_getElem? hb)).2
        subst e
        cases hab : a.1.ownBlock with
        | none => exact .inl rfl
        | some _ => right; intro e; cases e
    · rw [List.getElem?_append_right (by omega)] at ha
      have e := (List.mem_replicate.1 (List.mem_of_getElem? ha)).2
      subst e
      exact .inl rfl

end Go.Proofs.YtpphkaolonjjdaaDoor.Cnm

/- Two new blocks (in Cpo's namespace). -/
namespace Go.Proofs.YtpphkaolonjjdaaDoor.Cpo
open Go Go.RowKit

theorem two_boxes (w : World) (a b : Obj) : ∃ W, (w.alloc a).alloc b = W ∧ Below w.heap.size w W ∧ W.heap[w.heap.size]? = some a ∧ W.heap[w.heap.size + 1]? = some b := by
  refine ⟨_, rfl, ((Below.refl _ _).alloc (Nat.le_refl _) _).alloc (by simp) _, ?_, ?_⟩
  · rw [Lib.alloc_old (w.alloc a) b _ (by rw [World.size_alloc]; omega)]
    exact heap_alloc_new w a
  · have := heap_alloc_new (w.alloc a) b
    rw [World.size_alloc] at this
    exact this

end Go.Proofs.YtpphkaolonjjdaaDoor.Cpo

/- A code whose rows are the call's own: a code in memory, in blocks without a mark. -/
namespace Go.Proofs.YtpphkaolonjjdaaDoor.Jcd
open Go Go.RowKit Go.Proofs.YtpphkaolonjjdaaDoor.Spl Go.Proofs.YtpphkaolonjjdaaDoor.Nodm Go.Proofs.YtpphkaolonjjdaaDoor.Nz Go.Proofs.YtpphkaolonjjdaaDoor.Cpl Go.Proofs.YtpphkaolonjjdaaDoor.Cin Go.Proofs.YtpphkaolonjjdaaDoor.Cmc Go.Proofs.YtpphkaolonjjdaaDoor.Cmm Go.Proofs.YtpphkaolonjjdaaDoor.Fpl
open Go.Proofs.YtpphkaolonjjdaaDoor.Pure (bs)

/-- done: a code in memory -/
theorem rows_code {h : Nat} {w : World} {vB : Value} {G : List Rw} (crow : w.ownsRow h 38 1 vB G.length (G.map (·.1))) (cops : ∀ g ∈ G, w.ownsRow h 40 4 g.1 g.2.length (flat4 g.2))
    (cnums : ∀ g ∈ G, ∀ y ∈ g.2, w.ownsRow h 3 1 y.2 y.1.l.length (y.1.l.map (Value.int .i64))) : ∃ A cap, vB = .slice A (blk G).length cap ∧ CodeIn (Unm w) w (.agg #[.slice A (blk G).length cap]) (blk G) := by
  have form : ∀ {e size n : Nat} {v : Value} {xs : List Value}, w.ownsRow h e size v n xs → ∃ A cap, v = .slice A n cap ∧ n ≤ cap ∧ (n = 0 ∨ ∃ g, A = some ⟨g, 0, none⟩ ∧ g < w.heap.size ∧ Unm w g ∧ ∀ j, j < n * size → w.cell? ⟨g, j, none⟩ = xs[j]?) := by
    intro e size n v xs ho
    rcases ho.2 with ⟨h1, h2⟩ | ⟨g, cap, cur, h1, _, h3, h4, _⟩
    · exact ⟨none, 0, by rw [h1, h2], by omega, .inl h2⟩
    · refine ⟨_, cap, h1, h4, .inr ⟨g, rfl, heap_lt h3, ⟨_, _, h3⟩, fun j hj => ?_⟩⟩
      rw [h1] at ho
      exact ho.cellAt j hj
  obtain ⟨A, cap, hv, hc, hr⟩ := form crow
  rw [blk_len]
  refine ⟨A, cap, hv, A, cap, by rw [blk_len], by rw [blk_len]; exact hc, ?_⟩
  rcases hr with h0 | ⟨g, rfl, hg, hh, hcells⟩
  · left
    unfold blk
    rw [List.eq_nil_of_length_eq_zero h0]; rfl
  · refine .inr ⟨g, 0, rfl, hg, hh, fun j l hj => ?_⟩
    unfold blk at hj
    rw [List.getElem?_map] at hj
    obtain ⟨r, hr, rfl⟩ := Option.map_eq_some_iff.1 hj
    have hm := List.mem_of_getElem? hr
    have hjl := (List.getElem?_eq_some_iff.1 hr).1
    obtain ⟨A1, c1, hv1, hc1, hr1⟩ := form (cops r hm)
    refine ⟨A1, c1, by rw [List.length_map]; exact hc1, ?_, ?_⟩
    · rcases hr1 with h0 | ⟨g1, rfl, hg1, hh1, hcells1⟩
      · left
        rw [List.eq_nil_of_length_eq_zero h0]; rfl
      · refine .inr ⟨g1, 0, rfl, hg1, hh1, fun i x hx => ?_⟩
        rw [List.getElem?_map] at hx
        obtain ⟨y, hy, rfl⟩ := Option.map_eq_some_iff.1 hx
        have hil := (List.getElem?_eq_some_iff.1 hy).1
        obtain ⟨A2, c2, hv2, hc2, hr2⟩ := form (cnums r hm y (List.mem_of_getElem? hy))
        have hat : ∀ q, q < 4 → w.cell? ⟨g1, i * 4 + q, none⟩ = (cell4 y)[q]? := fun q hq => (hcells1 (i * 4 + q) (by omega)).trans (flat4_at r.2 i y hy q hq)
        refine ⟨A2, c2, hc2, ?_, by rw [Nat.zero_add]; exact hat 0 (by decide), by rw [Nat.zero_add]; exact hat 1 (by decide), by rw [Nat.zero_add]; exact hat 2 (by decide), by rw [Nat.zero_add]; exact (hat 3 (by decide)).trans (by rw [← hv2]; rfl)⟩
        rcases hr2 with h0 | ⟨g2, rfl, hg2, hh2, hcells2⟩
        · left
          exact List.eq_nil_of_length_eq_zero h0
        · refine .inr ⟨g2, 0, rfl, hg2, hh2, fun q z hz => ?_⟩
          have hql := (List.getElem?_eq_some_iff.1 hz).1
          rw [Nat.zero_add]
          exact (hcells2 q (by omega)).trans (by rw [List.getElem?_map, hz]; rfl)
    · rw [Nat.zero_add, List.length_map]
      exact (hcells j (by omega)).trans (by rw [List.getElem?_map, hr, ← hv1]; rfl)

/-- a code whose rows are the call's own: its blocks, each with its slice, each instruction with its slice of numbers -/
structure RowsG (h : Nat) (W : World) (vB : Value) (G : List Rw) : Prop where
  row : W.ownsRow h 38 1 vB G.length (G.map (·.1))
  ops : ∀ g ∈ G, W.ownsRow h 40 4 g.1 g.2.length (flat4 g.2)
  nums : ∀ g ∈ G, ∀ y ∈ g.2, W.ownsRow h 3 1 y.2 y.1.l.length (y.1.l.map (Value.int .i64))
theorem own_keep {w W : World} {H e sz n : Nat} {v : Value} {xs : List Value} (ho : w.ownsRow H e sz v n xs) (hk : ∀ k, v.ownBlock = some k → W.heap[k]? = w.heap[k]?) : W.ownsRow H e sz v n xs :=
  ⟨ho.1, ho.2.imp id fun ⟨g, cap, cur, h2, h3, h4, h5⟩ => ⟨g, cap, cur, h2, h3, (hk g (by rw [h2]; rfl)).trans h4, h5⟩⟩
theorem own_on {w W : World} {H e sz n : Nat} {v : Value} {xs : List Value} (ho : w.ownsRow H e sz v n xs) (hb : Below w.heap.size w W) : W.ownsRow H e sz v n xs := own_keep ho fun k hk => hb.block k (ho.lt k hk).2
theorem own_form {w : World} {H e sz n : Nat} {v : Value} {xs : List Value} (ho : w.ownsRow H e sz v n xs) : (v = .slice none 0 0 ∧ n = 0) ∨ ∃ g c, v = .slice (some ⟨g, 0, none⟩) n c ∧ n ≤ c := by
  rcases ho.2 with h | ⟨g, cap, cur, h1, _, _, h4, _⟩
  · exact .inl h
  · exact .inr ⟨g, cap, h1, h4⟩
theorem RowsG.on {h : Nat} {W V : World} {vB : Value} {G : List Rw} (r : RowsG h W vB G) (hb : Below W.heap.size W V) : RowsG h V vB G := ⟨own_on r.row hb, fun g hg => own_on (r.ops g hg) hb, fun g hg y hy => own_on (r.nums g hg y hy) hb⟩
theorem RowsG.code {h : Nat} {W : World} {vB : Value} {G : List Rw} (r : RowsG h W vB G) : CodeIn (Unm W) W (.agg #[vB]) (blk G) := by
  obtain ⟨A, cap, hv, hc⟩ := rows_code r.row r.ops r.nums
  rw [hv]; exact hc

end Go.Proofs.YtpphkaolonjjdaaDoor.Jcd

/- The program's instruction put behind a block's. -/
namespace Go.Proofs.YtpphkaolonjjdaaDoor.Cpu
open Go Go.RowKit Go.Proofs.YtpphkaolonjjdaaDoor.Spl Go.Proofs.YtpphkaolonjjdaaDoor.Cpl Go.Proofs.YtpphkaolonjjdaaDoor.Cin Go.Proofs.YtpphkaolonjjdaaDoor.Cops Go.Proofs.YtpphkaolonjjdaaDoor.Cmc Go.Proofs.YtpphkaolonjjdaaDoor.Cmm Go.Proofs.YtpphkaolonjjdaaDoor.Cnm
open Go.Proofs.YtpphkaolonjjdaaDoor.Pure (bs)

theorem infoOp : (Tryd.prog.info? 40).map (fun i => (i.zero, i.size, i.bytes)) = some (some (.agg #[.int .i64 0, .int .i64 0, .string .empty, .slice none 0 0]), 4, 56) := by kernel_rfl
theorem cells_four {W : World} {H : Nat} {x y z u : Value} {ty : TypeId} (h : W.heap[H]? = some (.cells #[x, y, z, u] ty)) : W.cell? ⟨H, 0, none⟩ = some x ∧ W.cell? ⟨H, 1, none⟩ = some y ∧ W.cell? ⟨H, 2, none⟩ = some z ∧ W.cell? ⟨H, 3, none⟩ = some u :=
  ⟨by rw [Lib.cell_of_heap h]; rfl, by rw [Lib.cell_of_heap h]; rfl, by rw [Lib.cell_of_heap h]; rfl, by rw [Lib.cell_of_heap h]; rfl⟩
theorem four_new (w : World) (x y z u : Value) (t : TypeId) : ∀ (j : Nat) (c : Value), [x, y, z, u][j]? = some c → (w.alloc (.cells #[x, y, z, u] t)).cell? ((⟨w.heap.size, 0, none⟩ : Addr).add j) = some c := by
  intro j c hu
  obtain ⟨h0, h1, h2, h3⟩ := cells_four (heap_alloc_new w (.cells #[x, y, z, u] t))
  match j, hu with
  | 0, hu => cases hu; rw [Strs.addr_add]; exact h0
  | 1, hu => cases hu; rw [Strs.addr_add]; exact h1
  | 2, hu => cases hu; rw [Strs.addr_add]; exact h2
  | 3, hu => cases hu; rw [Strs.addr_add]; exact h3

end Go.Proofs.YtpphkaolonjjdaaDoor.Cpu
