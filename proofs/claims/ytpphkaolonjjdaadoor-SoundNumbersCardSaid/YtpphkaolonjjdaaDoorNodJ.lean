/- Expansions in memory: a node is three cells, its list a row of three cells each. -/
import Derived.OwnWalk
import Derived.Below
import Derived.Lib.Hide
import Derived.Lib.Builder
import Derived.Deep.AppendLies
import Derived.Test.YtpphkaolonjjdaaDoorStrsJ
import Derived.Laws.OwnMore
import Derived.StillTailTactics
import Derived.Deep.DeepCutAuto
import Derived.Deep.RegionHeld3
namespace Go.Proofs.YtpphkaolonjjdaaDoor.Nodm
open Go Go.RowKit Go.Proofs.YtpphkaolonjjdaaDoor.Spl
open Go.Proofs.YtpphkaolonjjdaaDoor.Pure (bs)

/-- three cells of a row, from the j-th thing on -/
def Three (w : World) (b o j : Nat) (v : Value) : Prop := ∃ x y z, v = .agg #[x, y, z] ∧ w.cell? ⟨b, o + j * 3, none⟩ = some x ∧ w.cell? ⟨b, o + j * 3 + 1, none⟩ = some y ∧ w.cell? ⟨b, o + j * 3 + 2, none⟩ = some z
/-- a block in which nothing is marked as a string's -/
def Unm (w : World) (b : Nat) : Prop := ∃ cs t, w.heap[b]? = some (.cells cs t (0, 0))
theorem Unm.move {w W : World} {b : Nat} (h : Unm w b) (e : W.heap[b]? = w.heap[b]?) : Unm W b := h.imp fun _ h => h.imp fun _ h => e.trans h
/-- a row of n things of three cells each, in a block of S (one in which nothing is marked, if S is not of all blocks) -/
def RowIn (S : Nat → Prop) (w : World) (A : Option Addr) (n : Nat) (vs : Nat → Value) : Prop := n = 0 ∨ ∃ b o, A = some ⟨b, o, none⟩ ∧ b < w.heap.size ∧ S b ∧ (S 0 ∨ Unm w b) ∧ ∀ j, j < n → Three w b o j (vs j)
theorem Three.move {w W : World} {b o j : Nat} {v : Value} (h : Three w b o j v) (hb : W.heap[b]? = w.heap[b]?) : Three W b o j v := by
  obtain ⟨x, y, z, h0, h1, h2, h3⟩ := h
  exact ⟨x, y, z, h0, (World.cell?_of_block (a := ⟨b, o + j * 3, none⟩) hb).trans h1, (World.cell?_of_block (a := ⟨b, o + j * 3 + 1, none⟩) hb).trans h2, (World.cell?_of_block (a := ⟨b, o + j * 3 + 2, none⟩) hb).trans h3⟩
theorem RowIn.move {S S' : Nat → Prop} {w W : World} {A : Option Addr} {n : Nat} {vs : Nat → Value} (h : RowIn S w A n vs) (hs : ∀ b, S b → b < w.heap.size → S' b ∧ W.heap[b]? = w.heap[b]?) (hsz : w.heap.size ≤ W.heap.size) : RowIn S' W A n vs := by
  rcases h with h0 | ⟨b, o, h1, h2, hS, hU, h3⟩
  · exact .inl h0
  · exact .inr ⟨b, o, h1, Nat.lt_of_lt_of_le h2 hsz, (hs b hS h2).1, hU.imp (fun h => (hs 0 h (by omega)).1) (fun h => h.move (hs b hS h2).2), fun j hj => (h3 j hj).move (hs b hS h2).2⟩

/-- a value that is an expansion, whose rows lie in blocks of S -/
inductive NodeIn (S : Nat → Prop) (w : World) : Value → Nod → Prop
  | mk (k : Nat) (s : T) (l : List Nod) (A : Option Addr) (c : Nat) (vs : Nat → Value) (hc : l.length ≤ c) (hr : RowIn S w A l.length vs) (hn : ∀ j n, l[j]? = some n → NodeIn S w (vs j) n) : NodeIn S w (.agg #[.int .i64 (k : Int), .string (bs s), .slice A l.length c]) (.mk k s l)
abbrev NodeIs (w : World) (v : Value) (n : Nod) : Prop := NodeIn (fun _ => True) w v n
theorem NodeIn.move {S S' : Nat → Prop} {w W : World} {v : Value} {n : Nod} (h : NodeIn S w v n) (hs : ∀ b, S b → b < w.heap.size → S' b ∧ W.heap[b]? = w.heap[b]?) (hsz : w.heap.size ≤ W.heap.size) : NodeIn S' W v n := by
  induction h with
  | mk k s l A c vs hc hr _ ih => exact .mk k s l A c vs hc (hr.move hs hsz) ih
theorem NodeIn.on {S : Nat → Prop} {w W : World} {v : Value} {n : Nod} (h : NodeIn S w v n) (hb : Below w.heap.size w W) : NodeIn S W v n :=
  h.move (fun b hS hl => ⟨hS, hb.block b hl⟩) hb.size
theorem NodeIn.mono {S S' : Nat → Prop} {w : World} {v : Value} {n : Nod} (h : NodeIn S w v n) (hs : ∀ b, S b → b < w.heap.size → S' b) : NodeIn S' w v n :=
  h.move (fun b hS hl => ⟨hs b hS hl, rfl⟩) (Nat.le_refl _)
theorem NodeIn.leaf (S : Nat → Prop) (w : World) (k : Nat) (s : T) (A : Option Addr) (c : Nat) : NodeIn S w (.agg #[.int .i64 (k : Int), .string (bs s), .slice A 0 c]) (.mk k s []) :=
  .mk k s [] A c (fun _ => .nilFunc) (Nat.zero_le _) (.inl rfl) fun j n h => by cases h
/-- a slice of expansions -/
def NodesIn (S : Nat → Prop) (w : World) (A : Option Addr) (c : Nat) (l : List Nod) : Prop := l.length ≤ c ∧ ∃ vs : Nat → Value, RowIn S w A l.length vs ∧ ∀ j n, l[j]? = some n → NodeIn S w (vs j) n
theorem NodesIn.move {S S' : Nat → Prop} {w W : World} {A : Option Addr} {c : Nat} {l : List Nod} (h : NodesIn S w A c l) (hs : ∀ b, S b → b < w.heap.size → S' b ∧ W.heap[b]? = w.heap[b]?) (hsz : w.heap.size ≤ W.heap.size) : NodesIn S' W A c l :=
  ⟨h.1, h.2.imp fun _ h => ⟨h.1.move hs hsz, fun j n hj => (h.2 j n hj).move hs hsz⟩⟩
theorem NodesIn.on {S : Nat → Prop} {w W : World} {A : Option Addr} {c : Nat} {l : List Nod} (h : NodesIn S w A c l) (hb : Below w.heap.size w W) : NodesIn S W A c l :=
  h.move (fun b hS hl => ⟨hS, hb.block b hl⟩) hb.size
theorem NodesIn.node {S : Nat → Prop} {w : World} {A : Option Addr} {c : Nat} {l : List Nod} (h : NodesIn S w A c l) (k : Nat) (s : T) : NodeIn S w (.agg #[.int .i64 (k : Int), .string (bs s), .slice A l.length c]) (.mk k s l) := by
  obtain ⟨h1, vs, h2, h3⟩ := h
  exact .mk k s l A c vs h1 h2 h3
theorem NodeIn.inv {S : Nat → Prop} {w : World} {v : Value} {k : Nat} {s : T} {l : List Nod} (h : NodeIn S w v (.mk k s l)) : ∃ A c, v = .agg #[.int .i64 (k : Int), .string (bs s), .slice A l.length c] ∧ NodesIn S w A c l := by
  cases h with
  | mk _ _ _ A c vs hc hr hn => exact ⟨A, c, rfl, hc, vs, hr, hn⟩
/-- one of a slice: its three cells, also later -/
theorem NodesIn.at_ {S : Nat → Prop} {w : World} {A : Option Addr} {c j : Nat} {l : List Nod} (h : NodesIn S w A c l) {k : Nat} {s : T} {m : List Nod} (hj : l[j]? = some (.mk k s m)) :
    ∃ b o A' c', A = some ⟨b, o, none⟩ ∧ b < w.heap.size ∧ S b ∧ NodesIn S w A' c' m ∧ ∀ W : World, W.heap[b]? = w.heap[b]? → W.cell? ⟨b, o + j * 3, none⟩ = some (.int .i64 (k : Int)) ∧ W.cell? ⟨b, o + j * 3 + 1, none⟩ = some (.string (bs s)) ∧ W.cell? ⟨b, o + j * 3 + 2, none⟩ = some (.slice A' m.length c') := by
  obtain ⟨hc, vs, hr, hn⟩ := h
  have hl := (List.getElem?_eq_some_iff.1 hj).1
  rcases hr with h0 | ⟨b, o, h1, h2, hS, _, h3⟩
  · omega
  · obtain ⟨A', c', hv, hm⟩ := (hn j _ hj).inv
    refine ⟨b, o, A', c', h1, h2, hS, hm, fun W hW => ?_⟩
    obtain ⟨x, y, z, e0, e1, e2, e3⟩ := (h3 j hl).move hW
    rw [hv] at e0
    simp only [Value.agg.injEq, Array.mk.injEq, List.cons.injEq, and_true] at e0
    obtain ⟨rfl, rfl, rfl⟩ := e0
    exact ⟨e1, e2, e3⟩

/-! ### a row of the call's own -/
/-- the cells of things of three cells each -/
def val3 : Option (Value × Value × Value) → Value
  | some x => .agg #[x.1, x.2.1, x.2.2]
  | none => .nilFunc
def cells3 (vs : List (Value × Value × Value)) : List Value := vs.flatMap fun (x : Value × Value × Value) => [x.1, x.2.1, x.2.2]
theorem cells3_len : ∀ vs, (cells3 vs).length = vs.length * 3
  | [] => rfl
  | x :: r => by
    have := cells3_len r
    unfold cells3 at *
    rw [List.flatMap_cons, List.length_append, this]
    show 3 + r.length * 3 = (r.length + 1) * 3
    omega
theorem cells3_app (a b : List (Value × Value × Value)) : cells3 (a ++ b) = cells3 a ++ cells3 b := List.flatMap_append
theorem cells3_at : ∀ (vs : List (Value × Value × Value)) (j : Nat) (x : Value × Value × Value), vs[j]? = some x → (cells3 vs)[j * 3]? = some x.1 ∧ (cells3 vs)[j * 3 + 1]? = some x.2.1 ∧ (cells3 vs)[j * 3 + 2]? = some x.2.2
  | [], j, x, h => by cases h
  | y :: r, 0, x, h => by
    cases h
    exact ⟨rfl, rfl, rfl⟩
  | y :: r, j + 1, x, h => by
    have h' : r[j]? = some x := by simpa using h
    obtain ⟨h1, h2, h3⟩ := cells3_at r j x h'
    unfold cells3 at *
    rw [List.flatMap_cons]
    have e : ∀ i, ([y.1, y.2.1, y.2.2] ++ r.flatMap fun (x : Value × Value × Value) => [x.1, x.2.1, x.2.2])[i + 3]? = (r.flatMap fun (x : Value × Value × Value) => [x.1, x.2.1, x.2.2])[i]? := fun i => rfl
    refine ⟨?_, ?_, ?_⟩
    · rw [show (j + 1) * 3 = j * 3 + 3 by omega, e]; exact h1
    · rw [show (j + 1) * 3 + 1 = (j * 3 + 1) + 3 by omega, e]; exact h2
    · rw [show (j + 1) * 3 + 2 = (j * 3 + 2) + 3 by omega, e]; exact h3
theorem addr_add (b o j : Nat) : (⟨b, o, none⟩ : Addr).add j = ⟨b, o + j, none⟩ := by
  unfold Addr.add
  by_cases h : j = 0 <;> simp [h]
/-- a row of the call's own is a slice of expansions, if each of its things is one -/
theorem nodes_of_own {S : Nat → Prop} {w : World} {base e n : Nat} {v : Value} {vs : List (Value × Value × Value)} {l : List Nod} (h : w.ownsRow base e 3 v n (cells3 vs)) (hl : vs.length = n) (hll : l.length = n) (hS : ∀ g, v.ownBlock = some g → S g) (hn : ∀ (j : Nat) (x : Value × Value × Value) (m : Nod), vs[j]? = some x → l[j]? = some m → NodeIn S w (.agg #[x.1, x.2.1, x.2.2]) m) :
    ∃ A c, v = .slice A n c ∧ NodesIn S w A c l := by
  rcases h.2 with ⟨h1, h0⟩ | ⟨g, cap, cur, h1, hb, hg, hcap, _, _, _⟩
  · subst h1
    have : l = [] := List.eq_nil_of_length_eq_zero (by omega)
    subst this
    exact ⟨none, 0, by rw [h0], Nat.le_refl _, fun _ => .nilFunc, .inl rfl, fun j n h => by cases h⟩
  · subst h1
    have hglt : g < w.heap.size := (Array.getElem?_eq_some_iff.1 hg).1
    refine ⟨_, cap, rfl, by omega, fun j => val3 vs[j]?, .inr ⟨g, 0, rfl, hglt, hS g rfl, .inr ⟨_, _, hg⟩, fun j hj => ?_⟩, fun j m hj => ?_⟩
    · have hjv : vs[j]? = some (vs[j]'(by omega)) := List.getElem?_eq_getElem _
      obtain ⟨a1, a2, a3⟩ := cells3_at vs j _ hjv
      show Three w g 0 j (val3 vs[j]?)
      rw [hjv]
      have hc := fun i u hu => h.cells (g := g) rfl i u hu
      refine ⟨_, _, _, rfl, ?_, ?_, ?_⟩
      · have := hc _ _ a1
        rw [addr_add] at this; exact this
      · have := hc _ _ a2
        rw [addr_add] at this; exact this
      · have := hc _ _ a3
        rw [addr_add] at this; exact this
    · have hjl := (List.getElem?_eq_some_iff.1 hj).1
      have hjv : vs[j]? = some (vs[j]'(by omega)) := List.getElem?_eq_getElem _
      show NodeIn S w (val3 vs[j]?) m
      rw [hjv]
      exact hn j _ m hjv hj
/-- what an append leaves of what lies elsewhere: its row may have moved to a new block -/
theorem grown_away {S : Nat → Prop} {w W : World} {o : Obj} {u : Value} {v : Value} {n : Nod} {g m cap : Nat} (h : NodeIn (fun b => S b ∧ u.ownBlock ≠ some b) w v n) (hg : (w.alloc o).grownBy W u.ownBlock) (hl : u.ownBlock = some g ∨ g = (w.alloc o).heap.size) : NodeIn (fun b => S b ∧ (Value.slice (some ⟨g, 0, none⟩) m cap).ownBlock ≠ some b) W v n := by
  refine h.move (fun b hb hlt => ⟨⟨hb.1, fun e => ?_⟩, ?_⟩) ?_
  · have e2 : g = b := by simpa [Value.ownBlock] using e
    rcases hl with hl | hl
    · exact hb.2 (by rw [hl, e2])
    · rw [World.size_alloc] at hl; omega
  · have h5 : b < (w.alloc o).heap.size := by rw [World.size_alloc]; omega
    exact (hg.block b h5 (fun e => hb.2 e.symm)).trans (((Below.refl _ w).alloc (Nat.le_refl _) o).block b hlt)
  · have h1 := hg.size
    rw [World.size_alloc] at h1
    omega

end Go.Proofs.YtpphkaolonjjdaaDoor.Nodm

/- The document's put: a node behind others (no Cat). -/
namespace Go.Proofs.YtpphkaolonjjdaaDoor.Qput
open Go.RowKit Go.Proofs.YtpphkaolonjjdaaDoor.Spl Go.Proofs.YtpphkaolonjjdaaDoor.Nodm
open Go.Proofs.YtpphkaolonjjdaaDoor.Pure (bs)

theorem infoNode : (Tryd.prog.info? 31).map (fun i => (i.zero, i.size, i.bytes)) = some (some (.agg #[.int .i64 0, .string .empty, .slice none 0 0]), 3, 48) := by kernel_rfl
/-- a row of the call's own whose things are expansions that lie elsewhere -/
structure Row (S : Nat → Prop) (B : Nat) (w : World) (u : Value) (l : List Nod) : Prop where
  row : ∃ vs, w.ownsRow B 31 3 u l.length (cells3 vs) ∧ vs.length = l.length ∧ ∀ (j : Nat) (x : Value × Value × Value) (m : Nod), vs[j]? = some x → l[j]? = some m → NodeIn (fun b => S b ∧ u.ownBlock ≠ some b) w (.agg #[x.1, x.2.1, x.2.2]) m
theorem Row.nil (S : Nat → Prop) (B : Nat) (w : World) : Row S B w (.slice none 0 0) [] := ⟨[], World.ownsRow_nil _ _ _ _, rfl, fun j x m h => by cases h⟩
theorem Row.on {S : Nat → Prop} {B : Nat} {w W : World} {u : Value} {l : List Nod} (h : Row S B w u l) (hb : Below w.heap.size w W) : Row S B W u l := by
  obtain ⟨vs, h1, h2, h3⟩ := h.row
  refine ⟨vs, ?_, h2, fun j x m hx hm => (h3 j x m hx hm).on hb⟩
  rcases h1 with ⟨h4, h5 | ⟨g, cap, cur, e1, e2, e3, e4⟩⟩
  · exact ⟨h4, .inl h5⟩
  · exact ⟨h4, .inr ⟨g, cap, cur, e1, e2, (hb.block g (Array.getElem?_eq_some_iff.1 e3).1).trans e3, e4⟩⟩
/-- one more, behind -/
theorem Row.snoc {S : Nat → Prop} {B : Nat} {w W : World} {o : Obj} {u : Value} {l : List Nod} {n : Nod} {x y z : Value} {g cap : Nat} {vs : List (Value × Value × Value)}
    (hl : vs.length = l.length) (hn : ∀ (j : Nat) (x : Value × Value × Value) (m : Nod), vs[j]? = some x → l[j]? = some m → NodeIn (fun b => S b ∧ u.ownBlock ≠ some b) w (.agg #[x.1, x.2.1, x.2.2]) m) (hv : NodeIn (fun b => S b ∧ u.ownBlock ≠ some b) w (.agg #[x, y, z]) n)
    (hown : W.ownsRow B 31 3 (.slice (some ⟨g, 0, none⟩) (l.length + 1) cap) (l.length + 1) (cells3 vs ++ [x, y, z])) (hg : (w.alloc o).grownBy W u.ownBlock) (hlies : u.ownBlock = some g ∨ g = (w.alloc o).heap.size) : Row S B W (.slice (some ⟨g, 0, none⟩) (l.length + 1) cap) (l ++ [n]) := by
  refine ⟨vs ++ [(x, y, z)], ?_, by rw [List.length_append, List.length_append, hl]; rfl, fun j t m hj hm => ?_⟩
  · rw [cells3_app, List.length_append]
    exact hown
  · by_cases hjl : j < vs.length
    · rw [List.getElem?_append_left hjl] at hj
      rw [List.getElem?_append_left (by omega)] at hm
      exact grown_away (hn j t m hj hm) hg hlies
    · have hjv := (List.getElem?_eq_some_iff.1 hj).1
      rw [List.length_append, List.length_singleton] at hjv
      obtain rfl : j = vs.length := by omega
      rw [List.getElem?_append_right (Nat.le_refl _), Nat.sub_self] at hj
      rw [hl, List.getElem?_append_right (Nat.le_refl _), Nat.sub_self] at hm
      cases hj
      cases hm
      exact grown_away hv hg hlies

theorem Row.snocn {S : Nat → Prop} {B : Nat} {w W : World} {o : Obj} {u : Value} {l : List Nod} {n : Nod} {x y z : Value} {g cap q : Nat} {vs : List (Value × Value × Value)} (hq : l.length = q)
    (hl : vs.length = l.length) (hn : ∀ (j : Nat) (x : Value × Value × Value) (m : Nod), vs[j]? = some x → l[j]? = some m → NodeIn (fun b => S b ∧ u.ownBlock ≠ some b) w (.agg #[x.1, x.2.1, x.2.2]) m) (hv : NodeIn (fun b => S b ∧ u.ownBlock ≠ some b) w (.agg #[x, y, z]) n)
    (hown : W.ownsRow B 31 3 (.slice (some ⟨g, 0, none⟩) (q + 1) cap) (q + 1) (cells3 vs ++ [x, y, z])) (hg : (w.alloc o).grownBy W u.ownBlock) (hlies : u.ownBlock = some g ∨ g = (w.alloc o).heap.size) : Row S B W (.slice (some ⟨g, 0, none⟩) (q + 1) cap) (l ++ [n]) := by
  subst hq
  exact Row.snoc hl hn hv hown hg hlies

theorem below_row {B e n : Nat} {w wr w1 : World} {v : Value} {xs : List Value} {o : Obj} (hB : Below B w wr) (hBs : B ≤ w.heap.size) (hown : wr.ownsRow B e 3 v n xs) (hg : (wr.alloc o).grownBy w1 v.ownBlock) : Below B w w1 :=
  (hB.alloc (Nat.le_trans hBs hB.size) o).grown hg (by have := hB.size; simp; omega) (fun k e => (hown.lt k e).1)
def putP (l : List Nod) : Nod → List Nod
  | .mk k s m => if k = 1 then (if s = [] then l else match l.getLast? with
      | some (.mk 1 t r) => l.dropLast ++ [.mk 1 (t ++ s) r]
      | _ => l ++ [.mk k s m]) else l ++ [.mk k s m]

theorem news3 (w : World) (x y z : Value) (t : TypeId) : ∀ (j : Nat) u, ([x, y, z] : List Value)[j]? = some u → (w.alloc (.cells #[x, y, z] t)).cell? ((⟨w.heap.size, 0, none⟩ : Addr).add j) = some u := fun j u hu => by
  rw [addr_add, Nat.zero_add, Lib.cell_of_heap (heap_alloc_new w _)]
  rw [← hu, ← List.getElem?_toArray]

set_option maxRecDepth 100000 in
set_option maxHeartbeats 4000000 in
/-- no text: behind all others -/
theorem put_other (S : Nat → Prop) (B : Nat) (u : Value) (l : List Nod) (k : Nat) (s : T) (m : List Nod) (A : Option Addr) (c : Nat) (w : World) (hB : B ≤ w.heap.size) (h : Row S B w u l) (hl : l.length ≤ 1000000) (hn : NodeIn (fun b => S b ∧ u.ownBlock ≠ some b) w (.agg #[.int .i64 (k : Int), .string (bs s), .slice A m.length c]) (.mk k s m)) (hk1 : k ≠ 1) (hk5 : k ≠ 5) :
    Calls Tryd.prog 29 #[u, .agg #[.int .i64 (k : Int), .string (bs s), .slice A m.length c]] w fun e W' => ∃ u', e = .returned u' ∧ Row S B W' u' (l ++ [.mk k s m]) ∧ Below B w W' := by
  obtain ⟨i0, hi, hz0, hz1, hz2⟩ := info_parts infoNode
  obtain ⟨vs, hown, hvl, hvn⟩ := h.row
  have HV := Lib.hid (fun (w1 : World) (hb : Below w.heap.size w w1) => (⟨fun j x n hx hn => (hvn j x n hx hn).on hb, hn.on hb⟩ : (∀ (j : Nat) (x : Value × Value × Value) (m : Nod), vs[j]? = some x → l[j]? = some m → NodeIn (fun b => S b ∧ u.ownBlock ≠ some b) w1 (.agg #[x.1, x.2.1, x.2.2]) m) ∧ NodeIn (fun b => S b ∧ u.ownBlock ≠ some b) w1 (.agg #[.int .i64 (k : Int), .string (bs s), .slice A m.length c]) (.mk k s m)))
  have HVl := Lib.hid hvl
  have k1 : (((k : Nat) : Int) == 1) = false := by rw [beq_eq_false_iff_ne]; omega
  have k5 : (((k : Nat) : Int) == 5) = false := by rw [beq_eq_false_iff_ne]; omega
  have hown2 : (w.alloc (.cells #[.int .i64 (k : Int), .string (bs s), .slice A m.length c] 31)).ownsRow B 31 3 u l.length (cells3 vs) := hown.alloc _
  obtain ⟨w1, hw1⟩ : ∃ w1, w1 = w.alloc (.cells #[.int .i64 (k : Int), .string (bs s), .slice A m.length c] 31) := ⟨_, rfl⟩
  have HB1 : Hid (Below B w w1) := by
    show Below _ _ _
    rw [hw1]; exact (Below.refl _ _).alloc hB _
  have HV1 := Lib.hid (HV.out w1 (by rw [hw1]; exact (Below.refl _ _).alloc (Nat.le_refl _) _))
  rw [← hw1] at hown2
  have hs1 : B ≤ w1.heap.size := Nat.le_trans hB HB1.out.size
  have HW := Lib.hid hw1
  have HNw := Lib.hid (news3 w1 (.int .i64 (k : Int)) (.string (bs s)) (.slice A m.length c) 31)
  clear hvl hvn hn h hown hw1 HV
  go_enter Tryd.func29, Tryd.ntmps29
  go_upto_region 16 with fail
  have d0 : w1.cell? ⟨w.heap.size, 0, none⟩ = some (.int .i64 (k : Int)) := by rw [HW.out, Lib.cell_of_heap (heap_alloc_new w _)]; rfl
  have d1 : w1.cell? ⟨w.heap.size, 1, none⟩ = some (.string (bs s)) := by rw [HW.out, Lib.cell_of_heap (heap_alloc_new w _)]; rfl
  have d2 : w1.cell? ⟨w.heap.size, 2, none⟩ = some (.slice A m.length c) := by rw [HW.out, Lib.cell_of_heap (heap_alloc_new w _)]; rfl
  rw [← HW.out]
  clear HW
  go_wp2_with (at_builtin; refine wpList_append_lies _ rfl _ _ 29 rfl B 31 i0 (.agg #[.int .i64 0, .string .empty, .slice none 0 0]) 3 48 Tryd.underlying29 hi hz0 hz1 hz2 rfl (by decide) _ _ _ rfl (hown2.alloc _) ⟨w1.heap.size, 0, none⟩ 1 1 [.int .i64 (k : Int), .string (bs s), .slice A m.length c] rfl rfl HNw.out (by simp [Value.oneCell']) (by omega) (by unfold maxLen; omega) (by omega) (by simp; omega) _ rfl ?_; intro g' cap' wA hown' hgrow hlies _; have HR := Lib.hid (Row.snoc HVl.out HV1.out.1 HV1.out.2 hown' hgrow hlies); have HGA := Lib.hid (below_row HB1.out hB hown2 hgrow); clear hown' hgrow hlies)
  go_ret
  exact ⟨_, rfl, HR.out, HGA.out⟩

/-- the last of a row: its cells -/
theorem Row.last {S : Nat → Prop} {B : Nat} {w : World} {u : Value} {l : List Nod} (h : Row S B w u l) (hne : l ≠ []) : ∃ g cap, u = .slice (some ⟨g, 0, none⟩) l.length cap ∧ B ≤ g ∧ g < w.heap.size := by
  obtain ⟨vs, hown, _⟩ := h.row
  exact hown.form (List.length_pos_iff.2 hne)
theorem last_get (l : List Nod) : l[l.length - 1]? = l.getLast? := by rw [List.getLast?_eq_getElem?]

set_option maxRecDepth 100000 in
set_option maxHeartbeats 4000000 in
/-- no text's bytes: nothing -/
theorem put_none (S : Nat → Prop) (B : Nat) (u : Value) (l : List Nod) (A : Option Addr) (c : Nat) (w : World) (hB : B ≤ w.heap.size) (h : Row S B w u l) :
    Calls Tryd.prog 29 #[u, .agg #[.int .i64 1, .string (bs []), .slice A 0 c]] w fun e W' => ∃ u', e = .returned u' ∧ Row S B W' u' l ∧ Below B w W' := by
  have HR := Lib.hid (h.on ((Below.refl _ w).alloc (Nat.le_refl _) (.cells #[.int .i64 1, .string (bs []), .slice A 0 c] 31)))
  have HB := Lib.hid ((Below.refl B w).alloc hB (.cells #[.int .i64 1, .string (bs []), .slice A 0 c] 31))
  have he : ((bs []).toList == []) = true := by rw [Lib.toList_data]; rfl
  clear h hB
  go_enter Tryd.func29, Tryd.ntmps29
  go_wp2
  go_ret
  exact ⟨_, rfl, HR.out, HB.out⟩

set_option maxRecDepth 100000 in
set_option maxHeartbeats 4000000 in
/-- a text's bytes, with no text ahead -/
theorem put_fresh (S : Nat → Prop) (B : Nat) (u : Value) (l : List Nod) (s : T) (A : Option Addr) (c : Nat) (w : World) (hB : B ≤ w.heap.size) (h : Row S B w u l) (hl : l.length ≤ 1000000) (hs : s ≠ []) (hlast : ∀ t r, l.getLast? ≠ some (.mk 1 t r)) :
    Calls Tryd.prog 29 #[u, .agg #[.int .i64 1, .string (bs s), .slice A 0 c]] w fun e W' => ∃ u', e = .returned u' ∧ Row S B W' u' (l ++ [.mk 1 s []]) ∧ Below B w W' := by
  obtain ⟨i0, hi, hz0, hz1, hz2⟩ := info_parts infoNode
  obtain ⟨vs, hown, hvl, hvn⟩ := h.row
  have HVl := Lib.hid hvl
  have hleaf : NodeIn (fun b => S b ∧ u.ownBlock ≠ some b) w (.agg #[.int .i64 1, .string (bs s), .slice A 0 c]) (.mk 1 s []) := NodeIn.leaf _ w 1 s A c
  have HV := Lib.hid (fun (w1 : World) (hb : Below w.heap.size w w1) => (⟨fun j x n hx hn => (hvn j x n hx hn).on hb, hleaf.on hb⟩ : (∀ (j : Nat) (x : Value × Value × Value) (m : Nod), vs[j]? = some x → l[j]? = some m → NodeIn (fun b => S b ∧ u.ownBlock ≠ some b) w1 (.agg #[x.1, x.2.1, x.2.2]) m) ∧ NodeIn (fun b => S b ∧ u.ownBlock ≠ some b) w1 (.agg #[.int .i64 1, .string (bs s), .slice A 0 c]) (.mk 1 s [])))
  have he : ((bs s).toList == []) = false := by
    rw [Lib.toList_data, show (bs s).data.toList = s from rfl]
    cases s with
    | nil => exact absurd rfl hs
    | cons x r => rfl
  have hown2 : (w.alloc (.cells #[.int .i64 1, .string (bs s), .slice A 0 c] 31)).ownsRow B 31 3 u l.length (cells3 vs) := hown.alloc _
  obtain ⟨w1, hw1⟩ : ∃ w1, w1 = w.alloc (.cells #[.int .i64 1, .string (bs s), .slice A 0 c] 31) := ⟨_, rfl⟩
  have HB1 : Hid (Below B w w1) := by
    show Below _ _ _
    rw [hw1]; exact (Below.refl _ _).alloc hB _
  have HV1 := Lib.hid (HV.out w1 (by rw [hw1]; exact (Below.refl _ _).alloc (Nat.le_refl _) _))
  rw [← hw1] at hown2
  have hs1 : B ≤ w1.heap.size := Nat.le_trans hB HB1.out.size
  have HNw := Lib.hid (news3 w1 (.int .i64 1) (.string (bs s)) (.slice A 0 c) 31)
  have d0 : w1.cell? ⟨w.heap.size, 0, none⟩ = some (.int .i64 1) := by rw [hw1, Lib.cell_of_heap (heap_alloc_new w _)]; rfl
  have d1 : w1.cell? ⟨w.heap.size, 1, none⟩ = some (.string (bs s)) := by rw [hw1, Lib.cell_of_heap (heap_alloc_new w _)]; rfl
  have d2 : w1.cell? ⟨w.heap.size, 2, none⟩ = some (.slice A 0 c) := by rw [hw1, Lib.cell_of_heap (heap_alloc_new w _)]; rfl
  have HW := Lib.hid hw1
  by_cases hl0 : l = []
  · subst hl0
    obtain rfl : vs = [] := List.eq_nil_of_length_eq_zero hvl
    obtain ⟨A0, c0, rfl⟩ : ∃ A0 c0, u = .slice A0 0 c0 := by
      rcases hown.2 with ⟨h1, _⟩ | ⟨g, cap, cur, h1, _⟩
      · exact ⟨none, 0, h1⟩
      · exact ⟨_, cap, h1⟩
    clear hvl hvn hleaf h hown hw1 HV hlast hs
    go_enter Tryd.func29, Tryd.ntmps29
    go_upto_region 9 with fail
    rw [← HW.out]
    clear HW
    go_wp2_with (at_builtin; refine wpList_append_lies _ rfl _ _ 29 rfl B 31 i0 (.agg #[.int .i64 0, .string .empty, .slice none 0 0]) 3 48 Tryd.underlying29 hi hz0 hz1 hz2 rfl (by decide) _ _ _ rfl (hown2.alloc _) ⟨w1.heap.size, 0, none⟩ 1 1 [.int .i64 1, .string (bs s), .slice A 0 c] rfl rfl HNw.out (by simp [Value.oneCell']) (by omega) (by unfold maxLen; omega) (by omega) (by simp; omega) _ rfl ?_; intro g' cap' wA hown' hgrow hlies _; have HR := Lib.hid (Row.snoc HVl.out HV1.out.1 HV1.out.2 hown' hgrow hlies); have HGA := Lib.hid (below_row HB1.out hB hown2 hgrow); clear hown' hgrow hlies)
    go_ret
    exact ⟨_, rfl, HR.out, HGA.out⟩
  · obtain ⟨g, cap, rfl, hBg, hgl⟩ := h.last hl0
    have hpos := List.length_pos_iff.2 hl0
    obtain ⟨q, hq⟩ : ∃ q, l.length = q + 1 := ⟨l.length - 1, by omega⟩
    obtain ⟨⟨k', t', r'⟩, hlq⟩ : ∃ n, l[q]? = some n := ⟨l[q]'(by omega), List.getElem?_eq_getElem _⟩
    have hk' : k' ≠ 1 := fun e => hlast t' r' (by rw [← last_get l, hq, Nat.add_sub_cancel, hlq, e])
    obtain ⟨x, hx⟩ : ∃ x, vs[q]? = some x := ⟨vs[q]'(by omega), List.getElem?_eq_getElem _⟩
    obtain ⟨A', c', hv', _⟩ := (hvn q x _ hx hlq).inv
    have hx1 : x.1 = .int .i64 (k' : Int) := by
      simp only [Value.agg.injEq, Array.mk.injEq, List.cons.injEq, and_true] at hv'
      exact hv'.1
    have e1 : w1.cell? ⟨g, q * 3, none⟩ = some (.int .i64 (k' : Int)) := by
      have := hown2.cells (g := g) rfl _ _ (cells3_at vs q x hx).1
      rw [addr_add, Nat.zero_add, hx1] at this
      exact this
    have hkb : (((k' : Nat) : Int) == 1) = false := by rw [beq_eq_false_iff_ne]; omega
    clear hvl hvn hleaf h hown hw1 HV hlast hs hv' hx1 hx hlq
    have HQ := Lib.hid hq
    rw [hq] at hown2 hl
    rw [hq]
    clear hq hgl hBg hpos hk' hl0
    go_enter Tryd.func29, Tryd.ntmps29
    go_upto_region 9 with fail
    rw [← HW.out]
    clear HW
    go_wp2_with (at_builtin; refine wpList_append_lies _ rfl _ _ 29 rfl B 31 i0 (.agg #[.int .i64 0, .string .empty, .slice none 0 0]) 3 48 Tryd.underlying29 hi hz0 hz1 hz2 rfl (by decide) _ _ _ rfl (hown2.alloc _) ⟨w1.heap.size, 0, none⟩ 1 1 [.int .i64 1, .string (bs s), .slice A 0 c] rfl rfl HNw.out (by simp [Value.oneCell']) (by omega) (by unfold maxLen; omega) (by omega) (by simp; omega) _ rfl ?_; intro g' cap' wA hown' hgrow hlies _; have HR := Lib.hid (Row.snocn HQ.out HVl.out HV1.out.1 HV1.out.2 hown' hgrow hlies); have HGA := Lib.hid (below_row HB1.out hB hown2 hgrow); clear hown' hgrow hlies)
    go_ret
    exact ⟨_, rfl, HR.out, HGA.out⟩

theorem cells3_set : ∀ (vs : List (Value × Value × Value)) (q : Nat) (x : Value × Value × Value) (u : Value), vs[q]? = some x → (cells3 vs).set (q * 3 + 1) u = cells3 (vs.set q (x.1, u, x.2.2))
  | [], q, x, u, h => by cases h
  | y :: r, 0, x, u, h => by cases h; rfl
  | y :: r, q + 1, x, u, h => by
    have h' : r[q]? = some x := by simpa using h
    have := cells3_set r q x u h'
    show ([y.1, y.2.1, y.2.2] ++ cells3 r).set ((q + 1) * 3 + 1) u = [y.1, y.2.1, y.2.2] ++ cells3 (r.set q (x.1, u, x.2.2))
    rw [← this, show (q + 1) * 3 + 1 = (q * 3 + 1) + 3 by omega]
    rfl
theorem cells3_one : ∀ (vs : List (Value × Value × Value)), (∀ x ∈ vs, x.1.oneCell' = true ∧ x.2.1.oneCell' = true ∧ x.2.2.oneCell' = true) → ∀ u ∈ cells3 vs, u.oneCell' = true
  | [], _, u, h => by cases h
  | y :: r, hv, u, h => by
    have h2 : u ∈ [y.1, y.2.1, y.2.2] ++ cells3 r := h
    rcases List.mem_append.1 h2 with h3 | h3
    · obtain ⟨a, b, c⟩ := hv y (List.mem_cons_self ..)
      simp only [List.mem_cons, List.not_mem_nil, or_false] at h3
      rcases h3 with rfl | rfl | rfl <;> assumption
    · exact cells3_one r (fun x hx => hv x (List.mem_cons_of_mem _ hx)) u h3
theorem set_last (l : List Nod) (q : Nat) (n : Nod) (hq : l.length = q + 1) : l.dropLast ++ [n] = l.set q n := by
  obtain rfl | ⟨a, b, rfl⟩ := List.eq_nil_or_concat l
  · simp at hq
  · have : q = a.length := by simp at hq; omega
    subst this
    simp
theorem add_bs (a b : T) (W : World) (h : a.length + b.length ≤ 1099511627776) : (Op.stringOp .add (bs a) (bs b)).run Tryd.prog W = .ok (.string (bs (a ++ b))) W := by
  have e : bs a ++ bs b = bs (a ++ b) := ByteArray.ext (by rw [ByteArray.data_append]; apply Array.ext'; rw [Array.toList_append]; rfl)
  rw [← e]
  refine run_string_add_sum W _ _ ?_
  have ha : (bs a).size = a.length := by rw [Lib.size_eq]; rfl
  have hb : (bs b).size = b.length := by rw [Lib.size_eq]; rfl
  omega

set_option maxRecDepth 100000 in
set_option maxHeartbeats 4000000 in
/-- a text's bytes behind a text: the row anew -/
theorem put_merge (S : Nat → Prop) (B : Nat) (u : Value) (l : List Nod) (s : T) (A : Option Addr) (c : Nat) (w : World) (hB : B ≤ w.heap.size) (h : Row S B w u l) (hl : l.length ≤ 1000000) (hs : s ≠ []) (t : T) (r : List Nod) (hlast : l.getLast? = some (.mk 1 t r)) (hts : t.length + s.length ≤ 1099511627776) :
    Calls Tryd.prog 29 #[u, .agg #[.int .i64 1, .string (bs s), .slice A 0 c]] w fun e W' => ∃ u', e = .returned u' ∧ Row S B W' u' (l.dropLast ++ [.mk 1 (t ++ s) r]) ∧ Below B w W' := by
  obtain ⟨i0, hi, hz0, hz1, hz2⟩ := info_parts infoNode
  obtain ⟨vs, hown, hvl, hvn⟩ := h.row
  have hl0 : l ≠ [] := by rintro rfl; cases hlast
  have he : ((bs s).toList == []) = false := by
    rw [Lib.toList_data, show (bs s).data.toList = s from rfl]
    cases s with
    | nil => exact absurd rfl hs
    | cons x r => rfl
  obtain ⟨w1, hw1⟩ : ∃ w1, w1 = w.alloc (.cells #[.int .i64 1, .string (bs s), .slice A 0 c] 31) := ⟨_, rfl⟩
  have hB0 : Below w.heap.size w w1 := by rw [hw1]; exact (Below.refl _ _).alloc (Nat.le_refl _) _
  have hz1' : w1.heap.size = w.heap.size + 1 := by rw [hw1, World.size_alloc]
  have hown2 : w1.ownsRow B 31 3 u l.length (cells3 vs) := by rw [hw1]; exact hown.alloc _
  have d1 : w1.cell? ⟨w.heap.size, 1, none⟩ = some (.string (bs s)) := by rw [hw1, Lib.cell_of_heap (heap_alloc_new w _)]; rfl
  have d0 : w1.cell? ⟨w.heap.size, 0, none⟩ = some (.int .i64 1) := by rw [hw1, Lib.cell_of_heap (heap_alloc_new w _)]; rfl
  obtain ⟨g, cap, rfl, hBg, hgl⟩ := h.last hl0
  obtain ⟨q, hq⟩ : ∃ q, l.length = q + 1 := ⟨l.length - 1, by have := List.length_pos_iff.2 hl0; omega⟩
  have hlq : l[q]? = some (.mk 1 t r) := by rw [← hlast, ← last_get l, hq, Nat.add_sub_cancel]
  obtain ⟨x, hx⟩ : ∃ x, vs[q]? = some x := ⟨vs[q]'(by omega), List.getElem?_eq_getElem _⟩
  obtain ⟨A', c', hv', hin⟩ := (hvn q x _ hx hlq).inv
  simp only [Value.agg.injEq, Array.mk.injEq, List.cons.injEq, and_true] at hv'
  obtain ⟨hx1, hx2, hx3⟩ := hv'
  have hone : ∀ z ∈ cells3 vs, z.oneCell' = true := cells3_one vs fun y hy => by
    obtain ⟨j, hj, e⟩ := List.getElem_of_mem hy
    have hj' : vs[j]? = some y := by rw [← e]; exact List.getElem?_eq_getElem _
    obtain ⟨⟨k2, t2, r2⟩, hm⟩ : ∃ n, l[j]? = some n := ⟨l[j]'(by omega), List.getElem?_eq_getElem _⟩
    obtain ⟨A2, c2, e2, _⟩ := (hvn j y _ hj' hm).inv
    simp only [Value.agg.injEq, Array.mk.injEq, List.cons.injEq, and_true] at e2
    rw [e2.1, e2.2.1, e2.2.2]
    exact ⟨rfl, rfl, rfl⟩
  have e1 : w1.cell? ⟨g, q * 3, none⟩ = some (.int .i64 1) := by
    have := hown2.cells (g := g) rfl _ _ (cells3_at vs q x hx).1
    rw [addr_add, Nat.zero_add, hx1] at this
    exact this
  have hnews : ∀ j u, (cells3 vs)[j]? = some u → w1.cell? ((⟨g, 0, none⟩ : Addr).add j) = some u := hown2.cells (g := g) rfl
  have hlen : (cells3 vs).length = (q + 1) * 3 := by rw [cells3_len, hvl, hq]
  have HF := Lib.hid (fun (g' cap' : Nat) (wA : World) (e0 : g' = w1.heap.size) (ho : wA.ownsRow B 31 3 (.slice (some ⟨g', 0, none⟩) (q + 1) cap') (q + 1) (cells3 vs)) (hg : w1.grownBy wA none) =>
    (by
        have hst := ho.stored (q * 3 + 1) (.string (bs (t ++ s)))
        have hbA : Below w1.heap.size w1 wA := (Below.refl _ _).grown hg (Nat.le_refl _) (fun k e => by cases e)
        have hbS : Below w1.heap.size w1 (wA.setCell ⟨g', q * 3 + 1, none⟩ (.string (bs (t ++ s)))) := hbA.grown hst.2 hbA.size (fun k e => by cases e; omega)
        have hbW : Below w.heap.size w (wA.setCell ⟨g', q * 3 + 1, none⟩ (.string (bs (t ++ s)))) := hB0.trans (hbS.mono (by omega))
        refine ⟨⟨⟨vs.set q (x.1, .string (bs (t ++ s)), x.2.2), ?_, by rw [List.length_set, set_last l q _ hq, List.length_set, hvl], ?_⟩⟩, hbW.mono hB⟩
        · rw [set_last l q _ hq, List.length_set, hq, ← cells3_set vs q x _ hx]
          exact hst.1
        · intro j y m hj hm
          rw [set_last l q _ hq] at hm
          by_cases hjq : j = q
          · subst hjq
            rw [List.getElem?_set_self (by omega)] at hj hm
            cases hj
            cases hm
            rw [hx1, hx3]
            exact (hin.move (fun b hSb hlt => ⟨⟨hSb.1, fun e => by (have e2 : g' = b := by simpa [Value.ownBlock] using e); omega⟩, hbW.block b hlt⟩) hbW.size).node 1 (t ++ s)
          · rw [List.getElem?_set_ne (fun e => hjq e.symm)] at hj hm
            exact (hvn j y m hj hm).move (fun b hSb hlt => ⟨⟨hSb.1, fun e => by (have e2 : g' = b := by simpa [Value.ownBlock] using e); omega⟩, hbW.block b hlt⟩) hbW.size : Row S B (wA.setCell ⟨g', q * 3 + 1, none⟩ (.string (bs (t ++ s)))) (.slice (some ⟨g', 0, none⟩) (q + 1) cap') (l.dropLast ++ [.mk 1 (t ++ s) r]) ∧ Below B w (wA.setCell ⟨g', q * 3 + 1, none⟩ (.string (bs (t ++ s))))))
  have HC := Lib.hid (fun (g' cap' : Nat) (wA : World) (ho : wA.ownsRow B 31 3 (.slice (some ⟨g', 0, none⟩) (q + 1) cap') (q + 1) (cells3 vs)) (hg : w1.grownBy wA none) =>
    (⟨by
        have := ho.cells (g := g') rfl _ _ (cells3_at vs q x hx).2.1
        rw [addr_add, Nat.zero_add, hx2] at this
        exact this, ho.frozenAt _, by
        rw [World.cell?_of_block (a := ⟨w.heap.size, 1, none⟩) (hg.block w.heap.size (by omega) (fun e => by cases e))]; exact d1⟩ : wA.cell? ⟨g', q * 3 + 1, none⟩ = some (.string (bs t)) ∧ wA.frozen? ⟨g', q * 3 + 1, none⟩ = false ∧ wA.cell? ⟨w.heap.size, 1, none⟩ = some (.string (bs s))))
  have HW := Lib.hid hw1
  rw [hq] at hl
  rw [hq]
  have hbs1 : B ≤ w1.heap.size := by omega
  have hnil : w1.ownsRow B 31 3 (.slice none 0 0) 0 [] := World.ownsRow_nil _ _ _ _
  clear hvl hvn h hown hw1 hlast hs hx1 hx2 hx3 hx hlq hin hown2 hB0 hz1' hq hgl hBg hl0 hB
  go_enter Tryd.func29, Tryd.ntmps29
  go_upto_region 9 with fail
  rw [← HW.out]
  clear HW
  go_upto_region 14 with (at_builtin; refine wpList_append_lies _ rfl _ _ 29 rfl B 31 i0 (.agg #[.int .i64 0, .string .empty, .slice none 0 0]) 3 48 Tryd.underlying29 hi hz0 hz1 hz2 rfl (by decide) _ _ _ rfl hnil ⟨g, 0, none⟩ (q + 1) cap (cells3 vs) rfl hlen hnews hone (by omega) (by unfold maxLen; omega) (by omega) hbs1 _ rfl ?_; intro g' cap' wA hown' hgrow hlies _; have hown2 := (by simpa using hown' : wA.ownsRow B 31 3 (.slice (some ⟨g', 0, none⟩) (q + 1) cap') (q + 1) (cells3 vs)); have hgr : w1.grownBy wA none := hgrow; have HR := Lib.hid (HF.out g' cap' wA (by rcases hlies with h | h; (· cases h); exact h) hown2 hgr); obtain ⟨f0, f1, f2⟩ := HC.out g' cap' wA hown2 hgr; clear hown' hgrow hlies hown2 hgr)
  obtain ⟨W, hW⟩ : ∃ W, W = wA.setCell ⟨g', q * 3 + 1, none⟩ (.string (bs (t ++ s))) := ⟨_, rfl⟩
  rw [← hW] at HR
  have HWs := Lib.hid hW
  clear hW HF HC hnews hone
  have hadd := add_bs t s wA.drew hts
  clear hts he
  go_region
  have hf := HWs.out
  rw [← hf]
  clear hf HWs f0 f1 f2 hadd e1 d0 d1
  go_wp2
  go_ret
  exact ⟨_, rfl, HR.out.1.on ((Below.refl _ _).drew), HR.out.2.drew⟩

end Go.Proofs.YtpphkaolonjjdaaDoor.Qput

/- The document's Whole: expansions one behind the other, as one, where put has nothing to join. -/
namespace Go.Proofs.YtpphkaolonjjdaaDoor.Qwhole
open Go.RowKit Go.Proofs.YtpphkaolonjjdaaDoor.Spl Go.Proofs.YtpphkaolonjjdaaDoor.Nodm Go.Proofs.YtpphkaolonjjdaaDoor.Qput
open Go.Proofs.YtpphkaolonjjdaaDoor.Pure (bs)

/-- what stands in a row that put has made: no Cat, no text without bytes, no two texts side by side -/
structure Flat (l : List Nod) : Prop where
  cat : ∀ (i : Nat) (k : Nat) (s : T) (m : List Nod), l[i]? = some (.mk k s m) → k ≠ 5 ∧ (k = 1 → m = [] ∧ s ≠ [])
  two : ∀ (i : Nat) (s t : T) (m r : List Nod), l[i]? = some (.mk 1 s m) → l[i + 1]? ≠ some (.mk 1 t r)
theorem take_succ {α : Type} (l : List α) (i : Nat) (n : α) (h : l[i]? = some n) : l.take (i + 1) = l.take i ++ [n] := by
  rw [List.take_add_one, h]; rfl
theorem Row.own {S : Nat → Prop} {B : Nat} {w : World} {u : Value} {l : List Nod} (h : Row S B w u l) (b : Nat) (e : u.ownBlock = some b) : B ≤ b := by
  obtain ⟨vs, h1, _⟩ := h.row
  exact (h1.lt b e).1
theorem Row.slice {S : Nat → Prop} {B : Nat} {w : World} {u : Value} {l : List Nod} (h : Row S B w u l) (hS : ∀ b, B ≤ b → S b) : ∃ A c, u = .slice A l.length c ∧ NodesIn S w A c l := by
  have ho := Row.own h
  obtain ⟨vs, h1, h2, h3⟩ := h.row
  exact nodes_of_own h1 h2 rfl (fun g e => hS g (ho g e)) fun j x m hx hm => (h3 j x m hx hm).mono fun _ hb _ => hb.1

/-- the next of such a row, behind those ahead of it -/
theorem put_next (S : Nat → Prop) (B : Nat) (u : Value) (l : List Nod) (i k : Nat) (s : T) (m : List Nod) (A : Option Addr) (c : Nat) (w : World) (hB : B ≤ w.heap.size) (hF : Flat l) (h : Row S B w u (l.take i)) (hi : l[i]? = some (.mk k s m)) (hl : l.length ≤ 1000000) (hn : NodeIn (fun b => S b ∧ b < B) w (.agg #[.int .i64 (k : Int), .string (bs s), .slice A m.length c]) (.mk k s m)) :
    Calls Tryd.prog 29 #[u, .agg #[.int .i64 (k : Int), .string (bs s), .slice A m.length c]] w fun e W' => ∃ u', e = .returned u' ∧ Row S B W' u' (l.take (i + 1)) ∧ Below B w W' := by
  have hl' : (l.take i).length ≤ 1000000 := Nat.le_trans (by rw [List.length_take]; omega) hl
  have hn' : NodeIn (fun b => S b ∧ u.ownBlock ≠ some b) w (.agg #[.int .i64 (k : Int), .string (bs s), .slice A m.length c]) (.mk k s m) := hn.mono fun b hb _ => ⟨hb.1, fun e => by
    have := Row.own h b e
    omega⟩
  rw [take_succ l i _ hi]
  obtain ⟨h5, h1⟩ := hF.cat i k s m hi
  by_cases hk : k = 1
  · subst hk
    obtain ⟨rfl, hs⟩ := h1 rfl
    refine put_fresh S B u (l.take i) s A c w hB h hl' hs ?_
    intro t r e
    have hil := (List.getElem?_eq_some_iff.1 hi).1
    rw [← last_get, List.length_take, Nat.min_eq_left (by omega)] at e
    cases i with
    | zero => simp at e
    | succ q =>
      rw [Nat.add_sub_cancel, List.getElem?_take, if_pos (by omega)] at e
      exact hF.two q t s r [] e hi
  · exact put_other S B u (l.take i) k s m A c w hB h hl' hn' hk h5

/-- three cells put into the block H: all else stays -/
theorem three_far (wr W : World) (H : Nat) (x0 y0 z0 x y z : Value) (ty : TypeId) (hg : wr.heap[H]? = some (.cells #[x0, y0, z0] ty)) (hW : ((wr.setCell ⟨H, 0, none⟩ x).setCell ⟨H, 1, none⟩ y).setCell ⟨H, 2, none⟩ z = W) :
    W.heap[H]? = some (.cells #[x, y, z] ty) ∧ wr.heap.size ≤ W.heap.size ∧ (∀ b, b ≠ H → W.heap[b]? = wr.heap[b]?) ∧ Below H wr W := by
  have g1 := heap_setCell_same wr H 0 _ _ x hg
  have g2 := heap_setCell_same _ H 1 _ _ y g1
  have g3 := heap_setCell_same _ H 2 _ _ z g2
  have hfar : ∀ b, b ≠ H → W.heap[b]? = wr.heap[b]? := by
    rw [← hW]
    exact fun b hb => (heap_setCell_other _ ⟨H, 2, none⟩ b z (fun e => hb e)).trans ((heap_setCell_other _ ⟨H, 1, none⟩ b y (fun e => hb e)).trans (heap_setCell_other _ ⟨H, 0, none⟩ b x (fun e => hb e)))
  have hsz : wr.heap.size ≤ W.heap.size := by rw [← hW]; simp
  refine ⟨by rw [← hW]; exact g3, hsz, hfar, ?_⟩
  refine ⟨by rw [← hW]; rfl, by rw [← hW]; rfl, by rw [← hW]; rfl, hsz, fun b hb => hfar b (by omega)⟩
theorem cells_three {W : World} {H : Nat} {x y z : Value} {ty : TypeId} (h : W.heap[H]? = some (.cells #[x, y, z] ty)) : W.cell? ⟨H, 0, none⟩ = some x ∧ W.cell? ⟨H, 1, none⟩ = some y ∧ W.cell? ⟨H, 2, none⟩ = some z :=
  ⟨by rw [Lib.cell_of_heap h]; rfl, by rw [Lib.cell_of_heap h]; rfl, by rw [Lib.cell_of_heap h]; rfl⟩

set_option maxRecDepth 100000 in
set_option maxHeartbeats 4000000 in
theorem whole_is (S : Nat → Prop) (l : List Nod) (A : Option Addr) (c : Nat) (w : World) (hF : Flat l) (hl : l.length ≤ 1000000) (hS : ∀ b, w.heap.size ≤ b → S b) (h : NodesIn S w A c l) :
    Calls Tryd.prog 32 #[.slice A l.length c] w fun e W' => ∃ v, e = .returned v ∧ NodeIn S W' v (wholeP l) ∧ Below w.heap.size w W' := by
  have hc := h.1
  have HP := Lib.hid (fun (wr : World) (u : Value) (i k : Nat) (s : T) (m : List Nod) (A : Option Addr) (c : Nat) => put_next (fun b => S b ∧ b ≠ w.heap.size) (w.heap.size + 1) u l i k s m A c wr)
  have HN := Lib.hid h
  go_enter Tryd.func32, Tryd.ntmps32
  go_wp2_with fail
  go_loopw [3, 4] (fun u i wr => ∃ k, k ≤ l.length ∧ i = .int .i64 k ∧ Hid (Row (fun b => S b ∧ b ≠ w.heap.size) (w.heap.size + 1) wr u (l.take k)) ∧ Hid (Below (w.heap.size + 1) (w.alloc (.cells #[.int .i64 0, .string .empty, .slice none 0 0] 31)) wr)) (fun _ i _ => l.length - (intOf i).toNat)
  case atStart => exact ⟨0, Nat.zero_le _, rfl, by rw [List.take_zero]; exact Row.nil _ _ _, Below.refl _ _⟩
  case round =>
    obtain ⟨k, hk, rfl, HR, HB⟩ := hrel
    have hsz : w.heap.size + 1 ≤ wr.heap.size := by have := HB.out.size; rw [World.size_alloc] at this; omega
    by_cases hlt : k < l.length
    · obtain ⟨⟨kk, s, m⟩, hkk⟩ : ∃ n, l[k]? = some n := ⟨l[k]'hlt, List.getElem?_eq_getElem hlt⟩
      obtain ⟨b, o, A', c', hA, hb, hSb0, hin, hcell⟩ := HN.out.at_ hkk
      have hbw : wr.heap[b]? = w.heap[b]? := (HB.out.block b (by omega)).trans (((Below.refl _ w).alloc (Nat.le_refl _) _).block b hb)
      obtain ⟨c0, c1, c2⟩ := hcell wr hbw
      have HC := Lib.hid (HP.out wr _ k kk s m A' c' hsz hF HR.out hkk hl (((hin.move (S' := fun b => (S b ∧ b ≠ w.heap.size) ∧ b < w.heap.size + 1) (fun b hSb hlt => ⟨⟨⟨hSb, by omega⟩, by omega⟩, (HB.out.block b (by omega)).trans (((Below.refl _ w).alloc (Nat.le_refl _) _).block b hlt)⟩) (by omega)).node kk s)))
      clear hcell hbw hin hkk HP HN
      subst hA
      go_wp2_with (go_at_call 29; refine HC.out.mono ?_; rintro e W' ⟨u', rfl, hr, hb2⟩; have HR2 := Lib.hid hr; have HB2 := Lib.hid (HB.out.trans hb2); clear hr hb2)
      go_roundw
      case rel => exact ⟨k + 1, by omega, by go_num, HR2.out, HB2.out⟩
      case measure => simp [intOf]; omega
    · obtain rfl : k = l.length := by omega
      obtain ⟨A2, c2, rfl, hin⟩ := Row.slice HR.out (fun b hb => ⟨hS b (by omega), by omega⟩)
      rw [List.take_of_length_le (Nat.le_refl _)] at hin HR ⊢
      have hg0 : wr.heap[w.heap.size]? = some (.cells #[.int .i64 0, .string .empty, .slice none 0 0] 31) := (HB.out.block _ (by omega)).trans (heap_alloc_new w _)
      have e0 : wr.cell? ⟨w.heap.size, 0, none⟩ = some (.int .i64 0) := by rw [Lib.cell_of_heap hg0]; rfl
      have e1 : wr.cell? ⟨w.heap.size, 1, none⟩ = some (.string .empty) := by rw [Lib.cell_of_heap hg0]; rfl
      have e2 : wr.cell? ⟨w.heap.size, 2, none⟩ = some (.slice none 0 0) := by rw [Lib.cell_of_heap hg0]; rfl
      have f0 := frozen_of_row wr w.heap.size 0 _ _ hg0
      have f1 := frozen_of_row wr w.heap.size 1 _ _ hg0
      have f2 := frozen_of_row wr w.heap.size 2 _ _ hg0
      have HBw := Lib.hid (((Below.refl _ w).alloc (Nat.le_refl _) (.cells #[.int .i64 0, .string .empty, .slice none 0 0] 31)).trans (HB.out.mono (by omega)))
      clear HP
      by_cases h0 : l.length = 0
      · obtain rfl := List.eq_nil_of_length_eq_zero h0
        go_wp2_with fail
        obtain ⟨W, hW⟩ : ∃ W, ((wr.setCell ⟨w.heap.size, 0, none⟩ (.int .i64 1)).setCell ⟨w.heap.size, 1, none⟩ (.string ByteArray.empty)).setCell ⟨w.heap.size, 2, none⟩ (.slice none 0 0) = W := ⟨_, rfl⟩
        obtain ⟨z1, z2, z3, z4⟩ := three_far wr W _ _ _ _ _ _ _ _ hg0 hW
        obtain ⟨y0, y1, y2⟩ := cells_three z1
        rw [show (Value.string { data := #[] }) = Value.string ByteArray.empty from rfl, hW]
        refine bodyPost_ret (v := .agg #[.int .i64 1, .string ByteArray.empty, .slice none 0 0]) (by simp [results, Tryd.results32, go_sem, y0, y1, y2]) rfl ?_
        exact ⟨_, rfl, NodeIn.leaf S W 1 [] none 0, HBw.out.trans z4⟩
      · by_cases h1 : l.length = 1
        · obtain ⟨⟨kk, s, m⟩, rfl⟩ : ∃ n, l = [n] := List.length_eq_one_iff.1 h1
          obtain ⟨b, o, A', c', rfl, hb, hbS, hin1, hcell⟩ := hin.at_ (j := 0) rfl
          obtain ⟨d0, d1, d2⟩ := hcell wr rfl
          rw [Nat.zero_mul, Nat.add_zero] at d0 d1 d2
          have HI := Lib.hid hin1
          clear hin hcell h0 h1 HN HR h hin1
          go_wp2_with fail
          obtain ⟨W, hW⟩ : ∃ W, ((wr.setCell ⟨w.heap.size, 0, none⟩ (.int .i64 (kk : Int))).setCell ⟨w.heap.size, 1, none⟩ (.string (bs s))).setCell ⟨w.heap.size, 2, none⟩ (.slice A' m.length c') = W := ⟨_, rfl⟩
          obtain ⟨z1, z2, z3, z4⟩ := three_far wr W _ _ _ _ _ _ _ _ hg0 hW
          obtain ⟨y0, y1, y2⟩ := cells_three z1
          rw [hW]
          refine bodyPost_ret (v := .agg #[.int .i64 (kk : Int), .string (bs s), .slice A' m.length c']) (by simp [results, Tryd.results32, go_sem, y0, y1, y2]) rfl ?_
          exact ⟨_, rfl, ((HI.out.move (S' := S) (fun b hb _ => ⟨hb.1, z3 b hb.2⟩) z2).node kk s), HBw.out.trans z4⟩
        · have hb0 : (((l.length : Nat) : Int) == 0) = false := by rw [beq_eq_false_iff_ne]; omega
          have hb1 : (((l.length : Nat) : Int) == 1) = false := by rw [beq_eq_false_iff_ne]; omega
          have HW : Hid (wholeP l = .mk 5 [] l) := by
            show _ = _
            match l, h0, h1 with
            | [], h0, _ => exact absurd rfl h0
            | [n], _, h1 => exact absurd rfl h1
            | _ :: _ :: _, _, _ => rfl
          have HI := Lib.hid hin
          clear hin h0 h1 HN HR h
          go_wp2_with fail
          obtain ⟨W, hW⟩ : ∃ W, ((wr.setCell ⟨w.heap.size, 0, none⟩ (.int .i64 5)).setCell ⟨w.heap.size, 1, none⟩ (.string ByteArray.empty)).setCell ⟨w.heap.size, 2, none⟩ (.slice A2 l.length c2) = W := ⟨_, rfl⟩
          obtain ⟨z1, z2, z3, z4⟩ := three_far wr W _ _ _ _ _ _ _ _ hg0 hW
          obtain ⟨y0, y1, y2⟩ := cells_three z1
          first | rw [hW] | rw [show (Value.string { data := #[] }) = Value.string ByteArray.empty from rfl, hW]
          refine bodyPost_ret (v := .agg #[.int .i64 5, .string ByteArray.empty, .slice A2 l.length c2]) (by simp [results, Tryd.results32, go_sem, y0, y1, y2]) rfl ?_
          rw [HW.out]
          exact ⟨_, rfl, ((HI.out.move (S' := S) (fun b hb _ => ⟨hb.1, z3 b hb.2⟩) z2).node 5 []), HBw.out.trans z4⟩

end Go.Proofs.YtpphkaolonjjdaaDoor.Qwhole

/- The document's list: texts, each read (by what parse says one level lower). -/
namespace Go.Proofs.YtpphkaolonjjdaaDoor.Qlist
open Go.RowKit Go.Proofs.YtpphkaolonjjdaaDoor.Strs Go.Proofs.YtpphkaolonjjdaaDoor.Spl Go.Proofs.YtpphkaolonjjdaaDoor.Nodm Go.Proofs.YtpphkaolonjjdaaDoor.Qput Go.Proofs.YtpphkaolonjjdaaDoor.Qwhole
open Go.Proofs.YtpphkaolonjjdaaDoor.Pure (bs)

def errNo {α : Type} : Rd α → Nat
  | .ok _ => 0
  | .bad .form => 2
  | .bad .few => 5
  | .bad .deep => 8
def NodeOf (S : Nat → Prop) (W : World) (v : Value) : Rd Nod → Prop
  | .ok n => NodeIn S W v n
  | .bad _ => v = .agg #[.int .i64 0, .string .empty, .slice none 0 0]
def RowOf (S : Nat → Prop) (W : World) (v : Value) : Rd (List Nod) → Prop
  | .ok l => ∃ A c, v = .slice A l.length c ∧ NodesIn S W A c l
  | .bad _ => v = .slice none 0 0
/-- what parse answers of texts of at most M bytes -/
def ReadIs (N : Nat) (p : T → Rd Nod) (M : Nat) : Prop := ∀ (s : T) (w : World), s.length ≤ M → Calls Tryd.prog 22 #[.string (bs s), .int .i64 (N : Int)] w fun e W' => ∃ v, e = .returned (.tuple #[v, .int .i64 (errNo (p s) : Int)]) ∧ NodeOf (fun b => w.heap.size ≤ b) W' v (p s) ∧ Below w.heap.size w W'
theorem NodeOf.agg {S : Nat → Prop} {W : World} {v : Value} : ∀ {x : Rd Nod}, NodeOf S W v x → ∃ (k : Nat) (s : T) (A : Option Addr) (n c : Nat), v = .agg #[.int .i64 (k : Int), .string (bs s), .slice A n c]
  | .ok (.mk k s l), h => by
    obtain ⟨A, c, hv, _⟩ := NodeIn.inv h
    exact ⟨k, s, A, _, c, hv⟩
  | .bad _, h => ⟨0, [], none, 0, 0, h⟩
theorem listP_step (p : T → Rd Nod) (ts : List T) (k : Nat) (t : T) (h : ts[k]? = some t) : listP p (ts.drop k) = match p t with | .bad e => .bad e | .ok n => (listP p (ts.drop (k + 1))).map (n :: ·) := by
  obtain ⟨hk, e⟩ := List.getElem?_eq_some_iff.1 h
  rw [List.drop_eq_getElem_cons hk, e]
  rfl
theorem Rd.map_map {α β γ : Type} (f : α → β) (g : β → γ) : ∀ x : Rd α, (x.map f).map g = x.map fun a => g (f a)
  | .bad _ => rfl
  | .ok _ => rfl

set_option maxRecDepth 100000 in
set_option maxHeartbeats 4000000 in
theorem list_is (N : Nat) (p : T → Rd Nod) (M : Nat) (HP0 : ReadIs N p M) (ts : List T) (A : Option Addr) (c : Nat) (w : World) (hl : ts.length ≤ 1000000) (hM : ∀ t ∈ ts, t.length ≤ M) (h : SlIs w A c (ts.map bs)) :
    Calls Tryd.prog 43 #[.slice A ts.length c, .int .i64 (N : Int)] w fun e W' => ∃ v, e = .returned (.tuple #[v, .int .i64 (errNo (listP p ts) : Int)]) ∧ RowOf (fun b => w.heap.size ≤ b) W' v (listP p ts) ∧ Below w.heap.size w W' := by
  obtain ⟨i0, hi, hz0, hz1, hz2⟩ := info_parts infoNode
  have hc : ts.length ≤ c := by have := h.1; rwa [List.length_map] at this
  have HP := Lib.hid HP0
  have HN := Lib.hid h
  clear h
  go_enter Tryd.func43, Tryd.ntmps43
  go_wp2_with fail
  go_loopw [6, 7] (fun u i wr => ∃ (k : Nat) (acc : List Nod), k ≤ ts.length ∧ acc.length = k ∧ i = .int .i64 k ∧ Hid (Row (fun b => w.heap.size ≤ b) w.heap.size wr u acc) ∧ Hid (Below w.heap.size w wr) ∧ Hid (listP p ts = (listP p (ts.drop k)).map (acc ++ ·))) (fun _ i _ => ts.length - (intOf i).toNat)
  case atStart =>
    refine ⟨0, [], Nat.zero_le _, rfl, rfl, Row.nil _ _ _, Below.refl _ _, ?_⟩
    show _ = _
    rw [List.drop_zero]
    cases listP p ts <;> rfl
  case round =>
    obtain ⟨k, acc, hk, hka, rfl, HR, HB, HL⟩ := hrel
    have hsz : w.heap.size ≤ wr.heap.size := HB.out.size
    by_cases hlt : k < ts.length
    · obtain ⟨t, ht⟩ : ∃ t, ts[k]? = some t := ⟨ts[k]'hlt, List.getElem?_eq_getElem hlt⟩
      obtain ⟨b, o, rfl, hb, hcell⟩ := HN.out.at_ (x := bs t) (by rw [List.getElem?_map, ht]; rfl)
      have d0 := hcell wr HB.out
      have HC := Lib.hid (HP.out t wr (hM t (List.mem_of_getElem? ht)))
      have HS := Lib.hid (listP_step p ts k t ht)
      clear hcell HN HP
      go_upto_region 6 with (go_at_call 22; refine HC.out.mono ?_; rintro e W' ⟨v, rfl, hv, hb2⟩; obtain ⟨k1, s1, A1, n1, c1, rfl⟩ := NodeOf.agg hv; have HV := Lib.hid hv; have HB2 := Lib.hid hb2; clear hv hb2)
      obtain ⟨W2, hW2⟩ : ∃ W2, W2 = W'.alloc (.cells #[.int .i64 (k1 : Int), .string (bs s1), .slice A1 n1 c1] 31) := ⟨_, rfl⟩
      have hcW : W2.heap[W'.heap.size]? = some (.cells #[.int .i64 (k1 : Int), .string (bs s1), .slice A1 n1 c1] 31) := by rw [hW2]; exact heap_alloc_new W' _
      obtain ⟨y0, y1, y2⟩ := cells_three hcW
      have hbW : Below W'.heap.size W' W2 := by rw [hW2]; exact (Below.refl _ _).alloc (Nat.le_refl _) _
      have hbr : Below wr.heap.size wr W2 := HB2.out.trans (hbW.mono HB2.out.size)
      have HB3 := Lib.hid (HB.out.trans (hbr.mono hsz))
      have hs2 : w.heap.size ≤ W2.heap.size := HB3.out.size
      have hs3 : w.heap.size ≤ W'.heap.size := Nat.le_trans hsz HB2.out.size
      rw [← hW2]
      clear hW2 HC
      generalize p t = x at HV HS ⊢
      cases x with
      | bad e =>
        have hne : (((errNo (Rd.bad e : Rd Nod) : Nat) : Int) == 0) = false := by cases e <;> rfl
        have HE : Hid (listP p ts = .bad e) := by
          show _ = _
          rw [HL.out, HS.out]; rfl
        have hee : errNo (Rd.bad e : Rd Nod) = errNo (Rd.bad e : Rd (List Nod)) := by cases e <;> rfl
        clear HV HS HL
        go_wp2_with fail
        go_ret2
        rw [HE.out, hee]
        exact ⟨_, rfl, rfl, HB3.out⟩
      | ok n =>
        rw [show ((errNo (Rd.ok n) : Nat) : Int) = 0 from rfl]
        have hown0 := HR.out.on hbr
        obtain ⟨vs, hown, hvl, hvn⟩ := hown0.row
        have HVl := Lib.hid hvl
        have HVn := Lib.hid hvn
        have HV2 : Hid (NodeIn (fun b => w.heap.size ≤ b ∧ u6.ownBlock ≠ some b) W2 (.agg #[.int .i64 (k1 : Int), .string (bs s1), .slice A1 n1 c1]) n) := by
          obtain ⟨vs0, ho0, _⟩ := HR.out.row
          exact (show NodeIn (fun b => wr.heap.size ≤ b) W' _ n from HV.out).move (fun b hb hlt => ⟨⟨Nat.le_trans hsz hb, fun e => by have := (ho0.lt b e).2; omega⟩, hbW.block b hlt⟩) hbW.size
        have HNw := Lib.hid (news3 W2 (.int .i64 (k1 : Int)) (.string (bs s1)) (.slice A1 n1 c1) 31)
        have HQ := Lib.hid hka
        have HL2 : Hid (listP p ts = (listP p (ts.drop (k + 1))).map ((acc ++ [n]) ++ ·)) := by
          show _ = _
          rw [HL.out, HS.out]
          show ((listP p (ts.drop (k + 1))).map (n :: ·)).map (acc ++ ·) = _
          rw [Rd.map_map]
          congr 1
          funext a
          rw [List.append_assoc]; rfl
        rw [hka] at hown
        clear hvl hvn hown0 HV HS HL HR HB2 hbW hbr hcW hlt
        go_upto_region 8 with fail
        go_wp2_with (at_builtin; refine wpList_append_lies _ rfl _ _ 29 rfl w.heap.size 31 i0 (.agg #[.int .i64 0, .string .empty, .slice none 0 0]) 3 48 Tryd.underlying29 hi hz0 hz1 hz2 rfl (by decide) _ _ _ rfl (hown.alloc _) ⟨W2.heap.size, 0, none⟩ 1 1 [.int .i64 (k1 : Int), .string (bs s1), .slice A1 n1 c1] rfl rfl HNw.out (by simp [Value.oneCell']) (by omega) (by unfold maxLen; omega) (by omega) (by simp; omega) _ rfl ?_; intro g' cap' wA hown' hgrow hlies _; have HR2 := Lib.hid (Row.snocn HQ.out HVl.out HVn.out HV2.out hown' hgrow hlies); have HGA := Lib.hid (below_row HB3.out (Nat.le_refl _) hown hgrow); clear hown' hgrow hlies)
        go_roundw
        case rel => exact ⟨k + 1, acc ++ [n], by have := (List.getElem?_eq_some_iff.1 ht).1; omega, by rw [List.length_append, hka]; rfl, by go_num, HR2.out, HGA.out, HL2⟩
        case measure => (have := (List.getElem?_eq_some_iff.1 ht).1); simp [intOf]; omega
    · obtain rfl : k = ts.length := by omega
      have HE : Hid (listP p ts = .ok acc) := by
        show _ = _
        rw [HL.out, List.drop_of_length_le (Nat.le_refl _)]
        show Rd.ok (acc ++ []) = _
        rw [List.append_nil]
      obtain ⟨A2, c2, rfl, hin⟩ := Row.slice HR.out (fun b hb => hb)
      go_wp2_with fail
      go_ret2
      rw [HE.out]
      exact ⟨_, rfl, ⟨A2, c2, by rw [hka]; rfl, hin⟩, HB.out⟩

end Go.Proofs.YtpphkaolonjjdaaDoor.Qlist

/- What parse's row holds: references and texts that never stand side by side; a text's bytes put behind it, a reference put behind it. -/
namespace Go.Proofs.YtpphkaolonjjdaaDoor.Qtext
open Go.RowKit Go.Proofs.YtpphkaolonjjdaaDoor.Spl Go.Proofs.YtpphkaolonjjdaaDoor.Nodm Go.Proofs.YtpphkaolonjjdaaDoor.Qput Go.Proofs.YtpphkaolonjjdaaDoor.Qwhole
open Go.Proofs.YtpphkaolonjjdaaDoor.Pure (bs)

/-- its last is no text -/
def NoText (l : List Nod) : Prop := ∀ t r, l.getLast? ≠ some (.mk 1 t r)
theorem flush_nil (acc : List Nod) : flushP acc [] = acc := rfl
theorem flush_some (acc : List Nod) {cur : T} (h : cur ≠ []) : flushP acc cur = acc ++ [.mk 1 cur []] := by
  unfold flushP
  cases cur with
  | nil => exact absurd rfl h
  | cons x r => rfl
theorem flush_len (acc : List Nod) (cur : T) : (flushP acc cur).length ≤ acc.length + 1 := by
  unfold flushP
  split
  · omega
  · rw [List.length_append, List.length_singleton]; exact Nat.le_refl _

theorem put_text (S : Nat → Prop) (B : Nat) (u : Value) (acc : List Nod) (cur t : T) (A : Option Addr) (c : Nat) (w : World) (hB : B ≤ w.heap.size) (h : Row S B w u (flushP acc cur)) (hl : acc.length + 1 ≤ 1000000) (ht : t ≠ []) (hn : NoText acc) (hz : cur.length + t.length ≤ 1099511627776) :
    Calls Tryd.prog 29 #[u, .agg #[.int .i64 1, .string (bs t), .slice A 0 c]] w fun e W' => ∃ u', e = .returned u' ∧ Row S B W' u' (flushP acc (cur ++ t)) ∧ Below B w W' := by
  have hct : cur ++ t ≠ [] := by cases cur <;> simp [ht]
  rw [flush_some acc hct]
  by_cases hc : cur = []
  · subst hc
    exact put_fresh S B u acc t A c w hB h (by omega) ht hn
  · rw [flush_some acc hc] at h
    have := put_merge S B u (acc ++ [.mk 1 cur []]) t A c w hB h (by rw [List.length_append, List.length_singleton]; omega) ht cur [] (by rw [List.getLast?_append]; rfl) hz
    rw [List.dropLast_concat] at this
    exact this

theorem flat_nil : Flat [] := ⟨fun i k s m h => (by cases h), fun i s t m r h => (by cases h)⟩
theorem flat_snoc {l : List Nod} {k : Nat} {s : T} {m : List Nod} (h : Flat l) (hk : k ≠ 5) (h1 : k = 1 → m = [] ∧ s ≠ [] ∧ NoText l) : Flat (l ++ [.mk k s m]) := by
  have hat : ∀ (i k' : Nat) (s' : T) (m' : List Nod), (l ++ [Nod.mk k s m])[i]? = some (.mk k' s' m') → (i < l.length ∧ l[i]? = some (.mk k' s' m')) ∨ (i = l.length ∧ k' = k ∧ s' = s ∧ m' = m) := by
    intro i k' s' m' hi
    by_cases hil : i < l.length
    · rw [List.getElem?_append_left hil] at hi
      exact .inl ⟨hil, hi⟩
    · have := (List.getElem?_eq_some_iff.1 hi).1
      rw [List.length_append, List.length_singleton] at this
      obtain rfl : i = l.length := by omega
      rw [List.getElem?_append_right (Nat.le_refl _), Nat.sub_self] at hi
      cases hi
      exact .inr ⟨rfl, rfl, rfl, rfl⟩
  refine ⟨fun i k' s' m' hi => ?_, fun i s' t' m' r' hi hj => ?_⟩
  · rcases hat i k' s' m' hi with ⟨_, hi⟩ | ⟨_, rfl, rfl, rfl⟩
    · exact h.cat i k' s' m' hi
    · exact ⟨hk, fun e => ⟨(h1 e).1, (h1 e).2.1⟩⟩
  · rcases hat i 1 s' m' hi with ⟨hl1, hi1⟩ | ⟨e, _⟩
    · rcases hat (i + 1) 1 t' r' hj with ⟨_, hj1⟩ | ⟨e2, e3, _, _⟩
      · exact h.two i s' t' m' r' hi1 hj1
      · refine (h1 e3.symm).2.2 s' m' ?_
        rw [← last_get, ← e2, Nat.add_sub_cancel]
        exact hi1
    · have := (List.getElem?_eq_some_iff.1 hj).1
      rw [List.length_append, List.length_singleton] at this
      omega
theorem flat_flush {acc : List Nod} {cur : T} (h : Flat acc) (hn : NoText acc) : Flat (flushP acc cur) := by
  by_cases hc : cur = []
  · rw [hc]; exact h
  · rw [flush_some acc hc]
    exact flat_snoc h (by decide) fun _ => ⟨rfl, hc, hn⟩
theorem noText_snoc (l : List Nod) {k : Nat} (s : T) (m : List Nod) (hk : k ≠ 1) : NoText (l ++ [.mk k s m]) := by
  intro t r e
  rw [List.getLast?_append] at e
  cases e
  exact hk rfl

end Go.Proofs.YtpphkaolonjjdaaDoor.Qtext
