/- Parts that are still to be made, in memory. -/
import Derived.Test.YtfenlhbkdfmneaaCla
namespace Go.Proofs.Ytfenlhbkdfmneaa.Cpm
open Go Go.RowKit Go.Proofs.Ytfenlhbkdfmneaa.Spl Go.Proofs.Ytfenlhbkdfmneaa.Nodm Go.Proofs.Ytfenlhbkdfmneaa.Nz Go.Proofs.Ytfenlhbkdfmneaa.Cpl Go.Proofs.Ytfenlhbkdfmneaa.Cin Go.Proofs.Ytfenlhbkdfmneaa.Cops Go.Proofs.Ytfenlhbkdfmneaa.Cmc Go.Proofs.Ytfenlhbkdfmneaa.Cmm Go.Proofs.Ytfenlhbkdfmneaa.Cnm Go.Proofs.Ytfenlhbkdfmneaa.Cpu Go.Proofs.Ytfenlhbkdfmneaa.Cla
open Go.Proofs.Ytfenlhbkdfmneaa.Pure (bs)

theorem infoPart : (Try.prog.info? 87).map (fun i => (i.zero, i.size, i.bytes)) = some (some (.agg #[.slice none 0 0, .int .i64 0, .bool false, .int .i64 0, .int .i64 0, .string .empty, .slice none 0 0]), 7, 96) := by kernel_rfl
def cell7 (q : Prt × Value) : List Value := [q.2, .int .i64 (q.1.b : Int), .bool q.1.apart, .int .i64 q.1.o.k, .int .i64 q.1.o.n, .string (bs q.1.o.s), .slice none 0 0]
def flat7 (l : List (Prt × Value)) : List Value := l.flatMap cell7
theorem flat7_app (l r : List (Prt × Value)) : flat7 (l ++ r) = flat7 l ++ flat7 r := List.flatMap_append
theorem flat7_one (q : Prt × Value) : flat7 [q] = cell7 q := by unfold flat7; rw [List.flatMap_cons, List.flatMap_nil, List.append_nil]
theorem flat7_len : ∀ l, (flat7 l).length = l.length * 7
  | [] => rfl
  | x :: r => by
    have := flat7_len r
    unfold flat7 at *
    rw [List.flatMap_cons, List.length_append, this]
    show 7 + r.length * 7 = (r.length + 1) * 7
    omega
/-- the rest of a list of expansions -/
theorem NzsIn.rest {S : Nat → Prop} {w : World} {b o c : Nat} {n : Nz} {l : List Nz} (h : NzsIn S w (some ⟨b, o, none⟩) c (n :: l)) : NzsIn S w (some ⟨b, o + 3, none⟩) (c - 1) l := by
  obtain ⟨h1, vs, h2, h3⟩ := h
  rw [List.length_cons] at h1 h2
  refine ⟨by omega, fun j => vs (j + 1), ?_, fun j m hj => h3 (j + 1) m (by rw [List.getElem?_cons_succ]; exact hj)⟩
  rcases h2 with h0 | ⟨b', o', e, h4, h5, h6, h7⟩
  · omega
  · cases e
    refine .inr ⟨b, o + 3, rfl, h4, h5, h6, fun j hj => ?_⟩
    obtain ⟨x, y, z, e0, e1, e2, e3⟩ := h7 (j + 1) (by omega)
    have e : o + (j + 1) * 3 = o + 3 + j * 3 := by omega
    rw [e] at e1 e2 e3
    exact ⟨x, y, z, e0, e1, e2, e3⟩
structure Parts (S : Nat → Prop) (w0 : World) (h0 : Nat) (wb : Nat) (f1 f2 f3 : Value) (w : World) (vP : Value) (Q : List (Prt × Value)) : Prop where
  ge : h0 ≤ wb
  box : w.heap[wb]? = some (.cells #[vP, f1, f2, f3] 67)
  row : w.ownsRow h0 87 7 vP Q.length (flat7 Q)
  nodes : ∀ q ∈ Q, ∃ A c, q.2 = .slice A q.1.l.length c ∧ NzsIn S w0 A c q.1.l
/-- what laying down a part writes -/
def XP (wb : Nat) (k : Nat) (o : Obj) : Prop := (k = wb ∧ isT 67 o) ∨ isT 87 o
theorem xp_not {wb k : Nat} {e : TypeId} {cs : Array Value} {f : Nat × Nat} (h1 : e ≠ 67) (h2 : e ≠ 87) : ¬ XP wb k (.cells cs e f) := fun h => h.elim (fun h => isT_ne h1 h.2) (isT_ne h2)
theorem notC_xp (cb wb : Nat) : NotC cb (XP wb) := ⟨fun _ => xp_not (by decide) (by decide), fun _ _ => xp_not (by decide) (by decide), fun _ _ => xp_not (by decide) (by decide), fun _ _ => xp_not (by decide) (by decide)⟩
theorem notK_xp (kb mb wb : Nat) : NotK kb mb (XP wb) := ⟨fun _ => xp_not (by decide) (by decide), fun _ _ h => h.elim (fun h => isT_map h.2) isT_map⟩
theorem notK_xn (kb mb cb : Nat) : NotK kb mb (XN cb) := ⟨fun _ => xn_not (by decide) (by decide), fun _ _ h => h.elim (fun h => isT_map h.2) isT_map⟩
theorem notK_xo (kb mb : Nat) : NotK kb mb XO := ⟨fun _ => xo_not (by decide) (by decide), fun _ _ h => h.elim isT_map isT_map⟩
/-- what may differ, so that the parts stay -/
def NotP (wb : Nat) (X : Nat → Obj → Prop) : Prop := (∀ cs, ¬ X wb (.cells cs 67 (0, 0))) ∧ ∀ k cs, ¬ X k (.cells cs 87 (0, 0))
theorem notP_xn (wb cb : Nat) : NotP wb (XN cb) := ⟨fun _ => xn_not (by decide) (by decide), fun _ _ => xn_not (by decide) (by decide)⟩
theorem notP_xo (wb : Nat) : NotP wb XO := ⟨fun _ => xo_not (by decide) (by decide), fun _ _ => xo_not (by decide) (by decide)⟩
theorem notP_xm (wb mb : Nat) : NotP wb (XM mb) := ⟨fun _ => xm_not, fun _ _ => xm_not⟩
section
variable {S : Nat → Prop} {w0 w W w2 : World} {h0 wb h : Nat} {f1 f2 f3 vP v' : Value} {Q : List (Prt × Value)}
theorem Parts.kept {X : Nat → Obj → Prop} (c : Parts S w0 h0 wb f1 f2 f3 w vP Q) (a : Kp h X w W) (hx : NotP wb X) : Parts S w0 h0 wb f1 f2 f3 W vP Q :=
  ⟨c.ge, a.keep wb _ c.box (hx.1 _), a.own c.row hx.2, c.nodes⟩
theorem Parts.on (c : Parts S w0 h0 wb f1 f2 f3 w vP Q) (hb : Below w.heap.size w W) : Parts S w0 h0 wb f1 f2 f3 W vP Q :=
  c.kept (Kp.of hb (Nat.zero_le _) fun _ _ => False) ⟨fun _ h => h, fun _ _ h => h⟩
theorem Parts.push (c : Parts S w0 h0 wb f1 f2 f3 w vP Q) (hz : h0 ≤ w.heap.size) (q : Prt × Value) (hq : ∃ A c, q.2 = .slice A q.1.l.length c ∧ NzsIn S w0 A c q.1.l)
    (hown : w2.ownsRow h0 87 7 v' (Q.length + 1) (flat7 Q ++ cell7 q)) (hg : w.grownBy w2 vP.ownBlock) :
    Parts S w0 h0 wb f1 f2 f3 (w2.setCell ⟨wb, 0, none⟩ v') v' (Q ++ [q]) ∧ Kp h0 (XP wb) w (w2.setCell ⟨wb, 0, none⟩ v') := by
  have k1 : Kp h0 (fun _ o => isT 87 o) w w2 := Kp.grown hg c.row (Nat.le_refl _) hz fun _ _ _ => ⟨_, _, rfl⟩
  have hb2 : w2.heap[wb]? = some (.cells #[vP, f1, f2, f3] 67) := k1.keep wb _ c.box (isT_ne (by decide))
  have k2 : Kp h0 (fun k o => k = wb ∧ isT 67 o) w2 (w2.setCell ⟨wb, 0, none⟩ v') := Kp.set wb 0 v' c.ge fun o ho => by
    rw [hb2] at ho
    cases ho
    exact ⟨rfl, _, _, rfl⟩
  refine ⟨⟨c.ge, heap_setCell_same w2 wb 0 _ _ _ hb2, ?_, fun x hx => ?_⟩, (k1.mono (fun _ _ => .inr)).trans (k2.mono fun _ _ => .inl)⟩
  · rw [List.length_append, flat7_app, flat7_one]
    exact k2.own hown fun k cs h => isT_ne (by decide) h.2
  · rcases List.mem_append.1 hx with hx | hx
    · exact c.nodes x hx
    · rw [List.mem_singleton] at hx
      subst hx
      exact hq
theorem Parts.pop {gP cap : Nat} {q : Prt × Value} (c : Parts S w0 h0 wb f1 f2 f3 w vP (Q ++ [q])) (hv : vP = .slice (some ⟨gP, 0, none⟩) (Q.length + 1) cap) :
    Parts S w0 h0 wb f1 f2 f3 (w.setCell ⟨wb, 0, none⟩ (.slice (some ⟨gP, 0, none⟩) Q.length cap)) (.slice (some ⟨gP, 0, none⟩) Q.length cap) Q ∧ Kp h0 (XP wb) w (w.setCell ⟨wb, 0, none⟩ (.slice (some ⟨gP, 0, none⟩) Q.length cap)) := by
  have k2 : Kp h0 (fun k o => k = wb ∧ isT 67 o) w (w.setCell ⟨wb, 0, none⟩ (.slice (some ⟨gP, 0, none⟩) Q.length cap)) := Kp.set wb 0 _ c.ge fun o ho => by
    rw [c.box] at ho
    cases ho
    exact ⟨rfl, _, _, rfl⟩
  have hr := c.row
  rw [hv, List.length_append, flat7_app, flat7_one] at hr
  exact ⟨⟨c.ge, heap_setCell_same w wb 0 _ _ _ c.box, k2.own (ownsRow_pop (flat7_len Q) hr) fun k cs h => isT_ne (by decide) h.2, fun x hx => c.nodes x (List.mem_append_left _ hx)⟩, k2.mono fun _ _ => .inl⟩
/-- the last part's cells -/
theorem Parts.at_ {gP cap : Nat} {q : Prt × Value} (c : Parts S w0 h0 wb f1 f2 f3 w vP (Q ++ [q])) (hv : vP = .slice (some ⟨gP, 0, none⟩) (Q.length + 1) cap) : (∀ j, j < 7 → w.cell? ⟨gP, Q.length * 7 + j, none⟩ = (cell7 q)[j]?) ∧ ∀ j, w.frozen? ⟨gP, j, none⟩ = false := by
  have hr := c.row
  rw [hv, List.length_append, flat7_app, flat7_one] at hr
  refine ⟨fun j hj => ?_, fun j => hr.frozenAt j⟩
  have hl := flat7_len Q
  rw [hr.cellAt _ (by show _ < (Q.length + 1) * 7; omega), List.getElem?_append_right (by omega)]
  congr 1
  omega
/-- one of its cells is written: the part is another one -/
theorem Parts.turn {gP cap j : Nat} {q q' : Prt × Value} {u : Value} (c : Parts S w0 h0 wb f1 f2 f3 w vP (Q ++ [q])) (hv : vP = .slice (some ⟨gP, 0, none⟩) (Q.length + 1) cap) (hj : (cell7 q).set j u = cell7 q') (hq : ∃ A c, q'.2 = .slice A q'.1.l.length c ∧ NzsIn S w0 A c q'.1.l) :
    Parts S w0 h0 wb f1 f2 f3 (w.setCell ⟨gP, Q.length * 7 + j, none⟩ u) vP (Q ++ [q']) ∧ Kp h0 (XP wb) w (w.setCell ⟨gP, Q.length * 7 + j, none⟩ u) := by
  have hr := c.row
  rw [hv, List.length_append, flat7_app, flat7_one] at hr
  have hl := flat7_len Q
  have h1 := (hr.stored (Q.length * 7 + j) u).1
  rw [← hl, List.set_append_right _ _ (by omega), Nat.add_sub_cancel_left, hj, hl] at h1
  have k : Kp h0 (fun _ o => isT 87 o) w (w.setCell ⟨gP, Q.length * 7 + j, none⟩ u) := by
    rcases hr.2 with ⟨h0, _⟩ | ⟨g', cap', cur, h', hb, hg', _⟩
    · cases h0
    · cases h'
      exact Kp.set gP _ _ hb fun o ho => by
        rw [hg'] at ho
        cases ho
        exact ⟨_, _, rfl⟩
  refine ⟨⟨c.ge, k.keep wb _ c.box (isT_ne (by decide)), ?_, fun x hx => ?_⟩, k.mono fun _ _ => .inr⟩
  · rw [List.length_append, flat7_app, flat7_one, hv]
    exact h1
  · rcases List.mem_append.1 hx with hx | hx
    · exact c.nodes x (List.mem_append_left _ hx)
    · rw [List.mem_singleton] at hx
      subst hx
      exact hq
end

/-- what a step may write -/
def XS (cb wb mb : Nat) (k : Nat) (o : Obj) : Prop := XN cb k o ∨ XO k o ∨ XP wb k o ∨ XM mb k o
theorem xs_not {cb wb mb k : Nat} {cs : Array Value} {f : Nat × Nat} : ¬ XS cb wb mb k (.cells cs 30 f) := fun h => h.elim (xn_not (by decide) (by decide)) fun h => h.elim (xo_not (by decide) (by decide)) fun h => h.elim (xp_not (by decide) (by decide)) xm_not

/-- where the nodes lie, and that they stay -/
structure Wl (S : Nat → Prop) (h0 cb wb mb : Nat) (w0 w : World) : Prop where
  kp : Kp h0 (XS cb wb mb) w0 w
  hz : h0 ≤ w0.heap.size
  nod : ∀ b, S b → b < w0.heap.size → b < h0 ∨ ∃ cs f, w0.heap[b]? = some (.cells cs 30 f)
section
variable {S : Nat → Prop} {h0 cb wb mb : Nat} {w0 w W : World}
theorem Wl.size (a : Wl S h0 cb wb mb w0 w) : h0 ≤ w.heap.size := Nat.le_trans a.hz a.kp.below.size
theorem Wl.block (a : Wl S h0 cb wb mb w0 w) {b : Nat} (hS : S b) (hb : b < w0.heap.size) : w.heap[b]? = w0.heap[b]? := by
  rcases a.nod b hS hb with h | ⟨cs, f, h⟩
  · exact a.kp.below.block b h
  · rw [h]
    exact a.kp.keep b _ h xs_not
theorem Wl.s (a : Wl S h0 cb wb mb w0 w) (k : Kp h0 (XS cb wb mb) w W) : Wl S h0 cb wb mb w0 W := ⟨a.kp.trans k, a.hz, a.nod⟩
theorem Wl.n (a : Wl S h0 cb wb mb w0 w) (k : Kp h0 (XN cb) w W) : Wl S h0 cb wb mb w0 W := a.s (k.mono fun _ _ h => .inl h)
theorem Wl.o (a : Wl S h0 cb wb mb w0 w) (k : Kp h0 XO w W) : Wl S h0 cb wb mb w0 W := a.s (k.mono fun _ _ h => .inr (.inl h))
theorem Wl.p (a : Wl S h0 cb wb mb w0 w) (k : Kp h0 (XP wb) w W) : Wl S h0 cb wb mb w0 W := a.s (k.mono fun _ _ h => .inr (.inr (.inl h)))
theorem Wl.m (a : Wl S h0 cb wb mb w0 w) (k : Kp h0 (XM mb) w W) : Wl S h0 cb wb mb w0 W := a.s (k.mono fun _ _ h => .inr (.inr (.inr h)))
theorem Wl.on (a : Wl S h0 cb wb mb w0 w) (hb : Below w.heap.size w W) : Wl S h0 cb wb mb w0 W := a.s (Kp.of hb a.size _)
end
/-- the work's functions -/
def fNum (cb : Nat) : Value := .func (.func 26) #[] #[.pointer (some ⟨cb, 0, none⟩)]
def fPut (cb : Nat) : Value := .func (.func 27) #[] #[.pointer (some ⟨cb, 0, none⟩)]
def fLazy (kb : Nat) : Value := .func (.func 43) #[] #[.pointer (some ⟨kb, 0, none⟩)]
/-- all of it -/
structure St (S : Nat → Prop) (w0 : World) (h0 : Nat) (cb wb kb mb K : Nat) (w : World) (P : List Prt) (B : List (List Opp)) : Prop where
  below : Wl S h0 cb wb mb w0 w
  codes : ∃ vB G, Codes h0 cb w vB G ∧ blk G = B
  parts : ∃ vP Q, Parts S w0 h0 wb (fNum cb) (fPut cb) (fLazy kb) w vP Q ∧ Q.map (·.1) = P
  known : Known kb mb K w
  mbge : h0 ≤ mb
theorem St.on {S : Nat → Prop} {w0 w W : World} {h0 cb wb kb mb K : Nat} {P : List Prt} {B : List (List Opp)} (c : St S w0 h0 cb wb kb mb K w P B) (hb : Below w.heap.size w W) : St S w0 h0 cb wb kb mb K W P B := by
  obtain ⟨h1, ⟨vB, G, h2, h3⟩, ⟨vP, Q, h4, h5⟩, h6, h7⟩ := c
  exact ⟨h1.on hb, ⟨vB, G, h2.on hb h1.size, h3⟩, ⟨vP, Q, h4.on hb, h5⟩, h6.on hb, h7⟩
theorem St.mono {S : Nat → Prop} {w0 w : World} {h0 cb wb kb mb K K' : Nat} {P : List Prt} {B : List (List Opp)} (c : St S w0 h0 cb wb kb mb K w P B) (h : K ≤ K') : St S w0 h0 cb wb kb mb K' w P B :=
  ⟨c.below, c.codes, c.parts, c.known.mono h, c.mbge⟩
theorem St.asked {S : Nat → Prop} {w0 w W : World} {h0 cb wb kb mb K K' : Nat} {P : List Prt} {B : List (List Opp)} (c : St S w0 h0 cb wb kb mb K w P B) (k : Kp h0 (XM mb) w W) (hk : Known kb mb K' W) : St S w0 h0 cb wb kb mb K' W P B := by
  obtain ⟨h1, ⟨vB, G, h2, h3⟩, ⟨vP, Q, h4, h5⟩, _, h7⟩ := c
  exact ⟨h1.m k, ⟨vB, G, h2.kept k (notC_xm cb mb), h3⟩, ⟨vP, Q, h4.kept k (notP_xm wb mb), h5⟩, hk, h7⟩
/-- the work's functions lie where they lay -/
theorem St.funcs {S : Nat → Prop} {w0 w : World} {h0 cb wb kb mb K : Nat} {P : List Prt} {B : List (List Opp)} (c : St S w0 h0 cb wb kb mb K w P B) : w.cell? ⟨wb, 2, none⟩ = some (fPut cb) ∧ w.cell? ⟨wb, 3, none⟩ = some (fLazy kb) := by
  obtain ⟨_, _, ⟨vP, Q, h4, _⟩, _, _⟩ := c
  exact ⟨(cells_four h4.box).2.2.1, (cells_four h4.box).2.2.2⟩
end Go.Proofs.Ytfenlhbkdfmneaa.Cpm
