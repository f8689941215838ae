/- A code under way in memory: blocks and parts in rows of the call's own; what stays of the rest. -/
import Derived.Laws.OwnMore
import Derived.WalkSmall
import Derived.Deep.AppendLies
import Derived.Test.YtpphkaolonjjdaaDoorProg
import Derived.Test.YtpphkaolonjjdaaDoorFmp
import Derived.Test.YtpphkaolonjjdaaDoorCin
import Derived.Test.YtpphkaolonjjdaaDoorCmc
namespace Go.Proofs.YtpphkaolonjjdaaDoor.Cmm
open Go Go.RowKit Go.Proofs.YtpphkaolonjjdaaDoor.Spl Go.Proofs.YtpphkaolonjjdaaDoor.Nodm Go.Proofs.YtpphkaolonjjdaaDoor.Nz Go.Proofs.YtpphkaolonjjdaaDoor.Cpl Go.Proofs.YtpphkaolonjjdaaDoor.Cin Go.Proofs.YtpphkaolonjjdaaDoor.Cmc Go.Proofs.YtpphkaolonjjdaaDoor.Fpl
open Go.Proofs.YtpphkaolonjjdaaDoor.Pure (bs)

/-- memory of one type -/
def isT (t : TypeId) (o : Obj) : Prop := ∃ cs f, o = .cells cs t f
theorem isT_ne {t e : TypeId} {cs : Array Value} {f : Nat × Nat} (h : e ≠ t) : ¬ isT t (.cells cs e f) := fun ⟨_, _, he⟩ => by
  cases he; exact h rfl
theorem isT_map {t : TypeId} {es : Array MapEntry} {n : Nat} : ¬ isT t (.map es n) := fun ⟨_, _, he⟩ => by cases he
/-- below h nothing differs, and beyond only what X says -/
structure Kp (h : Nat) (X : Nat → Obj → Prop) (w W : World) : Prop where
  below : Below h w W
  keep : ∀ k o, w.heap[k]? = some o → ¬ X k o → W.heap[k]? = some o
section
variable {h : Nat} {X Y : Nat → Obj → Prop} {w W V : World}
theorem Kp.refl (h : Nat) (X : Nat → Obj → Prop) (w : World) : Kp h X w w := ⟨Below.refl _ _, fun _ _ h _ => h⟩
theorem Kp.trans (a : Kp h X w W) (b : Kp h X W V) : Kp h X w V := ⟨a.below.trans b.below, fun k o hk hx => b.keep k o (a.keep k o hk hx) hx⟩
theorem Kp.mono (a : Kp h X w W) (hx : ∀ k o, X k o → Y k o) : Kp h Y w W := ⟨a.below, fun k o hk hy => a.keep k o hk fun e => hy (hx k o e)⟩
theorem heap_lt {k : Nat} {o : Obj} (e : w.heap[k]? = some o) : k < w.heap.size := (Array.getElem?_eq_some_iff.1 e).1
theorem Kp.of (hb : Below w.heap.size w W) (hz : h ≤ w.heap.size) (X : Nat → Obj → Prop) : Kp h X w W := ⟨hb.mono hz, fun k _ hk _ => (hb.block k (heap_lt hk)).trans hk⟩
theorem Kp.alloc (a : Kp h X w W) (hz : h ≤ w.heap.size) (o : Obj) : Kp h X w (W.alloc o) :=
  a.trans (Kp.of (alloc_below' W o) (Nat.le_trans hz a.below.size) X)
where alloc_below' (W : World) (o : Obj) : Below W.heap.size W (W.alloc o) := (Below.refl _ _).alloc (Nat.le_refl _) _
theorem Kp.drew (a : Kp h X w W) : Kp h X w W.drew := ⟨a.below.drew, a.keep⟩
/-- a row of another type stays -/
theorem Kp.own (a : Kp h X w W) {base size n : Nat} {e : TypeId} {v : Value} {xs : List Value} (ho : w.ownsRow base e size v n xs) (hx : ∀ k cs, ¬ X k (.cells cs e (0, 0))) : W.ownsRow base e size v n xs := by
  refine ⟨ho.1, ?_⟩
  rcases ho.2 with h0 | ⟨g, cap, cur, hv, hb, hg, hr⟩
  · exact .inl h0
  · exact .inr ⟨g, cap, cur, hv, hb, a.keep g _ hg (hx g cur), hr⟩
/-- an append to a row of type e -/
theorem Kp.grown {base size n : Nat} {e : TypeId} {v : Value} {xs : List Value} (hg : w.grownBy W v.ownBlock) (ho : w.ownsRow base e size v n xs) (hb : h ≤ base) (hz : h ≤ w.heap.size) (hX : ∀ k cs f, X k (.cells cs e f)) : Kp h X w W := by
  refine ⟨(Below.refl h w).grown hg hz fun k hk => Nat.le_trans hb (ho.lt k hk).1, fun k o hk hx => ?_⟩
  refine (hg.block k (heap_lt hk) fun e1 => ?_).trans hk
  rcases ho.2 with ⟨rfl, _⟩ | ⟨g, cap, cur, rfl, _, hgg, _⟩
  · cases e1
  · obtain rfl : k = g := by simpa [Value.ownBlock] using e1
    rw [hgg] at hk
    cases hk
    exact hx (hX _ _ _)
/-- a store into a cell -/
theorem Kp.set (b j : Nat) (u : Value) (hb : h ≤ b) (hX : ∀ o, w.heap[b]? = some o → X b o) : Kp h X w (w.setCell ⟨b, j, none⟩ u) := by
  refine ⟨(Below.refl h w).setCell (p := ⟨b, j, none⟩) hb u, fun k o hk hx => ?_⟩
  rw [heap_setCell_other w ⟨b, j, none⟩ k u (fun e => hx (by
    have e : k = b := e
    subst e; exact hX o hk))]
  exact hk
end
theorem own_type {w : World} {B B' e e' sz sz' n n' : Nat} {v v' : Value} {xs xs' : List Value} (h : w.ownsRow B e sz v n xs) (h' : w.ownsRow B' e' sz' v' n' xs') (hne : e ≠ e') : v.ownBlock = none ∨ v.ownBlock ≠ v'.ownBlock := by
  rcases h.2 with ⟨rfl, _⟩ | ⟨g, cap, cur, rfl, _, hg, _⟩
  · exact .inl rfl
  · right
    rcases h'.2 with ⟨rfl, _⟩ | ⟨g', cap', cur', rfl, _, hg', _⟩
    · intro e; cases e
    · intro e
      obtain rfl : g = g' := by simpa [Value.ownBlock] using e
      rw [hg] at hg'
      cases hg'
      exact hne rfl
theorem own_not {w : World} {B e sz n b : Nat} {v : Value} {xs : List Value} {cs : Array Value} {t : TypeId} {fr : Nat × Nat} (h : w.ownsRow B e sz v n xs) (hg : w.heap[b]? = some (.cells cs t fr)) (ht : t ≠ e) : v.ownBlock ≠ some b := by
  rcases h.2 with ⟨rfl, _⟩ | ⟨g, cap, cur, rfl, _, hg', _⟩
  · intro h; cases h
  · intro h
    obtain rfl : g = b := by simpa [Value.ownBlock] using h
    rw [hg'] at hg
    cases hg
    exact ht rfl

/-! ### blocks under way -/
/-- a block: its slice, its instructions, each with its own slice of numbers -/
abbrev Rw := Value × List (Opp × Value)
def cell4 (y : Opp × Value) : List Value := [.int .i64 y.1.k, .int .i64 y.1.n, .string (bs y.1.s), y.2]
def flat4 (l : List (Opp × Value)) : List Value := l.flatMap cell4
theorem flat4_app (l r : List (Opp × Value)) : flat4 (l ++ r) = flat4 l ++ flat4 r := List.flatMap_append
theorem flat4_len : ∀ l, (flat4 l).length = l.length * 4
  | [] => rfl
  | x :: r => by
    have := flat4_len r
    unfold flat4 at *
    rw [List.flatMap_cons, List.length_append, this]
    show 4 + r.length * 4 = (r.length + 1) * 4
    omega
theorem flat4_at : ∀ (l : List (Opp × Value)) (j : Nat) (x : Opp × Value), l[j]? = some x → ∀ i, i < 4 → (flat4 l)[j * 4 + i]? = (cell4 x)[i]?
  | [], j, x, h, _, _ => by cases h
  | y :: r, 0, x, h, i, hi => by
    cases h
    unfold flat4
    rw [List.flatMap_cons, Nat.zero_mul, Nat.zero_add, List.getElem?_append_left (by simpa [cell4] using hi)]
  | y :: r, j + 1, x, h, i, hi => by
    have h' : r[j]? = some x := by simpa using h
    have := flat4_at r j x h' i hi
    unfold flat4 at *
    rw [List.flatMap_cons, List.getElem?_append_right (by simp [cell4]; omega), ← this]
    congr 1
    simp [cell4]; omega
structure Codes (h cb : Nat) (w : World) (vB : Value) (G : List Rw) : Prop where
  ge : h ≤ cb
  box : w.heap[cb]? = some (.cells #[vB] 24)
  row : w.ownsRow h 38 1 vB G.length (G.map (·.1))
  ops : ∀ g ∈ G, w.ownsRow h 40 4 g.1 g.2.length (flat4 g.2)
  nums : ∀ g ∈ G, ∀ y ∈ g.2, w.ownsRow h 3 1 y.2 y.1.l.length (y.1.l.map (Value.int .i64))
  apart : ∀ (i j : Nat) (a b : Rw), i ≠ j → G[i]? = some a → G[j]? = some b → a.1.ownBlock = none ∨ a.1.ownBlock ≠ b.1.ownBlock
def blk (G : List Rw) : List (List Opp) := G.map fun g => g.2.map (·.1)
theorem blk_len (G : List Rw) : (blk G).length = G.length := List.length_map ..
theorem blk_at (G : List Rw) (i : Nat) : (blk G).getD i [] = ((G[i]?.map fun g => g.2.map (·.1))).getD [] := by
  unfold blk
  rw [List.getD_eq_getElem?_getD, List.getElem?_map]
/-- what may differ, so that a code under way stays -/
def NotC (cb : Nat) (X : Nat → Obj → Prop) : Prop := (∀ cs, ¬ X cb (.cells cs 24 (0, 0))) ∧ (∀ k cs, ¬ X k (.cells cs 38 (0, 0))) ∧ (∀ k cs, ¬ X k (.cells cs 40 (0, 0))) ∧ ∀ k cs, ¬ X k (.cells cs 3 (0, 0))
theorem Codes.kept {h cb : Nat} {X : Nat → Obj → Prop} {w W : World} {vB : Value} {G : List Rw} (c : Codes h cb w vB G) (a : Kp h X w W) (hx : NotC cb X) : Codes h cb W vB G :=
  ⟨c.ge, a.keep cb _ c.box (hx.1 _), a.own c.row hx.2.1, fun g hg => a.own (c.ops g hg) hx.2.2.1, fun g hg y hy => a.own (c.nums g hg y hy) hx.2.2.2, c.apart⟩
theorem Codes.on {h cb : Nat} {w W : World} {vB : Value} {G : List Rw} (c : Codes h cb w vB G) (hb : Below w.heap.size w W) (hz : h ≤ w.heap.size) : Codes h cb W vB G :=
  c.kept (Kp.of hb hz fun _ _ => False) ⟨fun _ h => h, fun _ _ h => h, fun _ _ h => h, fun _ _ h => h⟩
theorem Codes.drew {h cb : Nat} {w : World} {vB : Value} {G : List Rw} (c : Codes h cb w vB G) : Codes h cb w.drew vB G := ⟨c.ge, c.box, c.row, c.ops, c.nums, c.apart⟩

/-- what a new block writes -/
def XN (cb : Nat) (k : Nat) (o : Obj) : Prop := (k = cb ∧ isT 24 o) ∨ isT 38 o
/-- what an instruction writes -/
def XO (_ : Nat) (o : Obj) : Prop := isT 38 o ∨ isT 40 o
theorem xn_not {cb k : Nat} {e : TypeId} {cs : Array Value} {f : Nat × Nat} (h1 : e ≠ 24) (h2 : e ≠ 38) : ¬ XN cb k (.cells cs e f) := fun h => h.elim (fun h => isT_ne h1 h.2) (isT_ne h2)
theorem xo_not {k : Nat} {e : TypeId} {cs : Array Value} {f : Nat × Nat} (h1 : e ≠ 40) (h2 : e ≠ 38) : ¬ XO k (.cells cs e f) := fun h => h.elim (isT_ne h2) (isT_ne h1)

/-- a new block more -/
theorem Codes.grow {h cb : Nat} {w w2 : World} {vB v' : Value} {G : List Rw} (c : Codes h cb w vB G) (hz : h ≤ w.heap.size)
    (hown : w2.ownsRow h 38 1 v' (G.length + 1) (G.map (·.1) ++ [.slice none 0 0])) (hg : w.grownBy w2 vB.ownBlock) :
    Codes h cb (w2.setCell ⟨cb, 0, none⟩ v') v' (G ++ [(.slice none 0 0, [])]) ∧ Kp h (XN cb) w (w2.setCell ⟨cb, 0, none⟩ v') := by
  have k1 : Kp h (fun _ o => isT 38 o) w w2 := Kp.grown hg c.row (Nat.le_refl _) hz fun _ _ _ => ⟨_, _, rfl⟩
  have hb2 : w2.heap[cb]? = some (.cells #[vB] 24) := k1.keep cb _ c.box (isT_ne (by decide))
  have k2 : Kp h (fun k o => k = cb ∧ isT 24 o) w2 (w2.setCell ⟨cb, 0, none⟩ v') := Kp.set cb 0 v' c.ge fun o ho => by
    rw [hb2] at ho
    cases ho
    exact ⟨rfl, _, _, rfl⟩
  have k : Kp h (XN cb) w (w2.setCell ⟨cb, 0, none⟩ v') := (k1.mono (fun _ _ => .inr)).trans (k2.mono fun _ _ => .inl)
  have hn : ∀ (t : TypeId) (k : Nat) (cs : Array Value), t ≠ 24 → ¬ (k = cb ∧ isT 24 (.cells cs t (0, 0))) := fun t k cs ht he => isT_ne ht he.2
  refine ⟨⟨c.ge, heap_setCell_same w2 cb 0 _ _ _ hb2, ?_, fun g hg => ?_, fun g hg y hy => ?_, fun i j a b hij ha hb => ?_⟩, k⟩
  · rw [List.length_append, List.map_append]
    exact k2.own hown fun k cs => hn _ k cs (by decide)
  · rcases List.mem_append.1 hg with hg | hg
    · exact k.own (c.ops g hg) fun _ _ => xn_not (by decide) (by decide)
    · rw [List.mem_singleton] at hg
      subst hg
      exact World.ownsRow_nil ..
  · rcases List.mem_append.1 hg with hg | hg
    · exact k.own (c.nums g hg y hy) fun _ _ => xn_not (by decide) (by decide)
    · rw [List.mem_singleton] at hg
      subst hg
      cases hy
  · by_cases hi : i < G.length
    · rw [List.getElem?_append_left hi] at ha
      by_cases hj : j < G.length
      · rw [List.getElem?_append_left hj] at hb
        exact c.apart i j a b hij ha hb
      · rw [List.getElem?_append_right (by omega)] at hb
        obtain ⟨_, e⟩ := List.getElem?_eq_some_iff.1 hb
        rw [List.getElem_singleton] at e
        subst e
        cases hab : a.1.ownBlock with
        | none => exact .inl rfl
        | some _ => right; intro e; cases e
    · rw [List.getElem?_append_right (by omega)] at ha
      obtain ⟨_, e⟩ := List.getElem?_eq_some_iff.1 ha
      rw [List.getElem_singleton] at e
      subst e
      exact .inl rfl
theorem blk_grow (G : List Rw) : blk (G ++ [(.slice none 0 0, [])]) = blk G ++ [[]] := by unfold blk; rw [List.map_append]; rfl

/-- an instruction more -/
theorem Codes.put {h cb : Nat} {w w2 : World} {vB : Value} {G : List Rw} (c : Codes h cb w vB G) (hz : h ≤ w.heap.size) {i g cap gB capB : Nat} {r : Rw} (hi : G[i]? = some r) (y : Opp × Value)
    (hy : w.ownsRow h 3 1 y.2 y.1.l.length (y.1.l.map (Value.int .i64))) (hB : vB = .slice (some ⟨gB, 0, none⟩) G.length capB)
    (hown : w2.ownsRow h 40 4 (.slice (some ⟨g, 0, none⟩) (r.2.length + 1) cap) (r.2.length + 1) (flat4 r.2 ++ cell4 y)) (hg : w.grownBy w2 r.1.ownBlock) (hat : r.1.ownBlock = some g ∨ w.heap.size ≤ g) :
    Codes h cb (w2.setCell ⟨gB, i, none⟩ (.slice (some ⟨g, 0, none⟩) (r.2.length + 1) cap)) vB (G.set i (.slice (some ⟨g, 0, none⟩) (r.2.length + 1) cap, r.2 ++ [y])) ∧ Kp h XO w (w2.setCell ⟨gB, i, none⟩ (.slice (some ⟨g, 0, none⟩) (r.2.length + 1) cap)) := by
  have hm := List.mem_of_getElem? hi
  have hil := (List.getElem?_eq_some_iff.1 hi).1
  have k1 : Kp h (fun _ o => isT 40 o) w w2 := Kp.grown hg (c.ops r hm) (Nat.le_refl _) hz fun _ _ _ => ⟨_, _, rfl⟩
  have hrow := k1.own c.row fun _ _ => isT_ne (by decide)
  rw [hB] at hrow
  obtain ⟨hst, _⟩ := hrow.stored i (.slice (some ⟨g, 0, none⟩) (r.2.length + 1) cap)
  have k2 : Kp h (fun _ o => isT 38 o) w2 (w2.setCell ⟨gB, i, none⟩ (.slice (some ⟨g, 0, none⟩) (r.2.length + 1) cap)) := by
    rcases hrow.2 with ⟨h0, _⟩ | ⟨g', cap', cur, h', hb, hg', _⟩
    · cases h0
    · cases h'
      exact Kp.set gB i _ hb fun o ho => by
        rw [hg'] at ho
        cases ho
        exact ⟨_, _, rfl⟩
  have k : Kp h XO w (w2.setCell ⟨gB, i, none⟩ (.slice (some ⟨g, 0, none⟩) (r.2.length + 1) cap)) := (k1.mono (fun _ _ => .inr)).trans (k2.mono fun _ _ => .inl)
  have hkeep : ∀ (j : Nat) (b : Rw), j ≠ i → G[j]? = some b → (w2.setCell ⟨gB, i, none⟩ (.slice (some ⟨g, 0, none⟩) (r.2.length + 1) cap)).ownsRow h 40 4 b.1 b.2.length (flat4 b.2) := fun j b hj hb => by
    refine k2.own ?_ fun _ _ => isT_ne (by decide)
    exact (c.ops b (List.mem_of_getElem? hb)).kept hg (c.apart j i b r hj hb hi)
  refine ⟨⟨c.ge, k.keep cb _ c.box (xo_not (by decide) (by decide)), ?_, fun x hx => ?_, fun x hx z hz2 => ?_, fun a b p q hab hp hq => ?_⟩, k⟩
  · rw [List.length_set, List.map_set]
    rw [hB]
    exact hst
  · obtain ⟨j, hj⟩ := List.getElem?_of_mem hx
    by_cases hji : j = i
    · subst hji
      rw [List.getElem?_set_self hil] at hj
      cases hj
      show World.ownsRow _ _ _ _ _ (r.2 ++ [y]).length (flat4 (r.2 ++ [y]))
      rw [flat4_app, List.length_append]
      refine k2.own ?_ fun _ _ => isT_ne (by decide)
      have : flat4 [y] = cell4 y := by unfold flat4; rw [List.flatMap_cons, List.flatMap_nil, List.append_nil]
      rw [this]
      exact hown
    · rw [List.getElem?_set_ne (fun e => hji e.symm)] at hj
      exact hkeep j x hji hj
  · obtain ⟨j, hj⟩ := List.getElem?_of_mem hx
    by_cases hji : j = i
    · subst hji
      rw [List.getElem?_set_self hil] at hj
      cases hj
      rcases List.mem_append.1 hz2 with hz2 | hz2
      · exact k.own (c.nums r hm z hz2) fun _ _ => xo_not (by decide) (by decide)
      · rw [List.mem_singleton] at hz2
        subst hz2
        exact k.own hy fun _ _ => xo_not (by decide) (by decide)
    · rw [List.getElem?_set_ne (fun e => hji e.symm)] at hj
      exact k.own (c.nums x (List.mem_of_getElem? hj) z hz2) fun _ _ => xo_not (by decide) (by decide)
  · have hnew : ∀ (j : Nat) (x : Rw), j ≠ i → G[j]? = some x → x.1.ownBlock ≠ some g := fun j x hj hx e => by
      rcases hat with hat | hat
      · rcases c.apart j i x r hj hx hi with h1 | h1
        · rw [h1] at e; cases e
        · exact h1 (e.trans hat.symm)
      · have := ((c.ops x (List.mem_of_getElem? hx)).lt g e).2
        omega
    by_cases hai : a = i
    · subst hai
      rw [List.getElem?_set_self hil] at hp
      cases hp
      rw [List.getElem?_set_ne hab] at hq
      right
      intro e
      exact hnew b q (fun e => hab e.symm) hq e.symm
    · rw [List.getElem?_set_ne (fun e => hai e.symm)] at hp
      by_cases hbi : b = i
      · subst hbi
        rw [List.getElem?_set_self hil] at hq
        cases hq
        exact .inr fun e => hnew a p hai hp e
      · rw [List.getElem?_set_ne (fun e => hbi e.symm)] at hq
        exact c.apart a b p q hab hp hq
theorem blk_put {G : List Rw} {i : Nat} {r : Rw} (hi : G[i]? = some r) (v : Value) (y : Opp × Value) : blk (G.set i (v, r.2 ++ [y])) = Cpl.put (blk G) i y.1 := by
  unfold blk Cpl.put
  rw [List.map_set, List.map_append, List.getD_eq_getElem?_getD, List.getElem?_map, hi]
  rfl

/-- done: a code in memory -/
theorem Codes.done {h cb : Nat} {w : World} {vB : Value} {G : List Rw} (c : Codes h cb w vB G) : ∃ A cap, vB = .slice A (blk G).length cap ∧ CodeIn (fun b => h ≤ b) w (.agg #[.slice A (blk G).length cap]) (blk G) := by
  have form : ∀ {e size n : Nat} {v : Value} {xs : List Value}, w.ownsRow h e size v n xs → ∃ A cap, v = .slice A n cap ∧ n ≤ cap ∧ (n = 0 ∨ ∃ g, A = some ⟨g, 0, none⟩ ∧ g < w.heap.size ∧ h ≤ g ∧ ∀ j, j < n * size → w.cell? ⟨g, j, none⟩ = xs[j]?) := by
    intro e size n v xs ho
    rcases ho.2 with ⟨h1, h2⟩ | ⟨g, cap, cur, h1, h2, h3, h4, _⟩
    · exact ⟨none, 0, by rw [h1, h2], by omega, .inl h2⟩
    · refine ⟨_, cap, h1, h4, .inr ⟨g, rfl, heap_lt h3, h2, fun j hj => ?_⟩⟩
      rw [h1] at ho
      exact ho.cellAt j hj
  obtain ⟨A, cap, hv, hc, hr⟩ := form c.row
  rw [blk_len]
  refine ⟨A, cap, hv, A, cap, by rw [blk_len], by rw [blk_len]; exact hc, ?_⟩
  rcases hr with h0 | ⟨g, rfl, hg, hh, hcells⟩
  · left
    unfold blk
    rw [List.eq_nil_of_length_eq_zero h0]; rfl
  · refine .inr ⟨g, 0, rfl, hg, hh, fun j l hj => ?_⟩
    unfold blk at hj
    rw [List.getElem?_map] at hj
    obtain ⟨r, hr, rfl⟩ := Option.map_eq_some_iff.1 hj
    have hm := List.mem_of_getElem? hr
    have hjl := (List.getElem?_eq_some_iff.1 hr).1
    obtain ⟨A1, c1, hv1, hc1, hr1⟩ := form (c.ops r hm)
    refine ⟨A1, c1, by rw [List.length_map]; exact hc1, ?_, ?_⟩
    · rcases hr1 with h0 | ⟨g1, rfl, hg1, hh1, hcells1⟩
      · left
        rw [List.eq_nil_of_length_eq_zero h0]; rfl
      · refine .inr ⟨g1, 0, rfl, hg1, hh1, fun i x hx => ?_⟩
        rw [List.getElem?_map] at hx
        obtain ⟨y, hy, rfl⟩ := Option.map_eq_some_iff.1 hx
        have hil := (List.getElem?_eq_some_iff.1 hy).1
        obtain ⟨A2, c2, hv2, hc2, hr2⟩ := form (c.nums r hm y (List.mem_of_getElem? hy))
        have hat : ∀ q, q < 4 → w.cell? ⟨g1, i * 4 + q, none⟩ = (cell4 y)[q]? := fun q hq => (hcells1 (i * 4 + q) (by omega)).trans (flat4_at r.2 i y hy q hq)
        refine ⟨A2, c2, hc2, ?_, by rw [Nat.zero_add]; exact hat 0 (by decide), by rw [Nat.zero_add]; exact hat 1 (by decide), by rw [Nat.zero_add]; exact hat 2 (by decide), by rw [Nat.zero_add]; exact (hat 3 (by decide)).trans (by rw [← hv2]; rfl)⟩
        rcases hr2 with h0 | ⟨g2, rfl, hg2, hh2, hcells2⟩
        · left
          exact List.eq_nil_of_length_eq_zero h0
        · refine .inr ⟨g2, 0, rfl, hg2, hh2, fun q z hz => ?_⟩
          have hql := (List.getElem?_eq_some_iff.1 hz).1
          rw [Nat.zero_add]
          exact (hcells2 q (by omega)).trans (by rw [List.getElem?_map, hz]; rfl)
    · rw [Nat.zero_add, List.length_map]
      exact (hcells j (by omega)).trans (by rw [List.getElem?_map, hr, ← hv1]; rfl)

end Go.Proofs.YtpphkaolonjjdaaDoor.Cmm
