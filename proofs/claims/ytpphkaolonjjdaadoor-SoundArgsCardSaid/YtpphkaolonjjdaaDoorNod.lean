/- Expansions in memory: a node is three cells, its list a row of three cells each. -/
import Derived.OwnWalk
import Derived.Below
import Derived.Lib.Hide
import Derived.Lib.Builder
import Derived.Deep.AppendLies
import Derived.Test.YtpphkaolonjjdaaDoorPure
import Derived.Test.YtpphkaolonjjdaaDoorSpl
namespace Go.Proofs.YtpphkaolonjjdaaDoor.Nodm
open Go Go.RowKit Go.Proofs.YtpphkaolonjjdaaDoor.Spl
open Go.Proofs.YtpphkaolonjjdaaDoor.Pure (bs)

/-- three cells of a row, from the j-th thing on -/
def Three (w : World) (b o j : Nat) (v : Value) : Prop := ∃ x y z, v = .agg #[x, y, z] ∧ w.cell? ⟨b, o + j * 3, none⟩ = some x ∧ w.cell? ⟨b, o + j * 3 + 1, none⟩ = some y ∧ w.cell? ⟨b, o + j * 3 + 2, none⟩ = some z
/-- a block in which nothing is marked as a string's -/
def Unm (w : World) (b : Nat) : Prop := ∃ cs t, w.heap[b]? = some (.cells cs t (0, 0))
theorem Unm.move {w W : World} {b : Nat} (h : Unm w b) (e : W.heap[b]? = w.heap[b]?) : Unm W b := h.imp fun _ h => h.imp fun _ h => e.trans h
/-- a row of n things of three cells each, in a block of S (one in which nothing is marked, if S is not of all blocks) -/
def RowIn (S : Nat → Prop) (w : World) (A : Option Addr) (n : Nat) (vs : Nat → Value) : Prop := n = 0 ∨ ∃ b o, A = some ⟨b, o, none⟩ ∧ b < w.heap.size ∧ S b ∧ (S 0 ∨ Unm w b) ∧ ∀ j, j < n → Three w b o j (vs j)
theorem Three.move {w W : World} {b o j : Nat} {v : Value} (h : Three w b o j v) (hb : W.heap[b]? = w.heap[b]?) : Three W b o j v := by
  obtain ⟨x, y, z, h0, h1, h2, h3⟩ := h
  exact ⟨x, y, z, h0, (World.cell?_of_block (a := ⟨b, o + j * 3, none⟩) hb).trans h1, (World.cell?_of_block (a := ⟨b, o + j * 3 + 1, none⟩) hb).trans h2, (World.cell?_of_block (a := ⟨b, o + j * 3 + 2, none⟩) hb).trans h3⟩
theorem RowIn.move {S S' : Nat → Prop} {w W : World} {A : Option Addr} {n : Nat} {vs : Nat → Value} (h : RowIn S w A n vs) (hs : ∀ b, S b → b < w.heap.size → S' b ∧ W.heap[b]? = w.heap[b]?) (hsz : w.heap.size ≤ W.heap.size) : RowIn S' W A n vs := by
  rcases h with h0 | ⟨b, o, h1, h2, hS, hU, h3⟩
  · exact .inl h0
  · exact .inr ⟨b, o, h1, Nat.lt_of_lt_of_le h2 hsz, (hs b hS h2).1, hU.imp (fun h => (hs 0 h (by omega)).1) (fun h => h.move (hs b hS h2).2), fun j hj => (h3 j hj).move (hs b hS h2).2⟩

/-- a value that is an expansion, whose rows lie in blocks of S -/
inductive NodeIn (S : Nat → Prop) (w : World) : Value → Nod → Prop
  | mk (k : Nat) (s : T) (l : List Nod) (A : Option Addr) (c : Nat) (vs : Nat → Value) (hc : l.length ≤ c) (hr : RowIn S w A l.length vs) (hn : ∀ j n, l[j]? = some n → NodeIn S w (vs j) n) : NodeIn S w (.agg #[.int .i64 (k : Int), .string (bs s), .slice A l.length c]) (.mk k s l)
abbrev NodeIs (w : World) (v : Value) (n : Nod) : Prop := NodeIn (fun _ => True) w v n
theorem NodeIn.move {S S' : Nat → Prop} {w W : World} {v : Value} {n : Nod} (h : NodeIn S w v n) (hs : ∀ b, S b → b < w.heap.size → S' b ∧ W.heap[b]? = w.heap[b]?) (hsz : w.heap.size ≤ W.heap.size) : NodeIn S' W v n := by
  induction h with
  | mk k s l A c vs hc hr _ ih => exact .mk k s l A c vs hc (hr.move hs hsz) ih
theorem NodeIn.on {S : Nat → Prop} {w W : World} {v : Value} {n : Nod} (h : NodeIn S w v n) (hb : Below w.heap.size w W) : NodeIn S W v n :=
  h.move (fun b hS hl => ⟨hS, hb.block b hl⟩) hb.size
theorem NodeIn.mono {S S' : Nat → Prop} {w : World} {v : Value} {n : Nod} (h : NodeIn S w v n) (hs : ∀ b, S b → b < w.heap.size → S' b) : NodeIn S' w v n :=
  h.move (fun b hS hl => ⟨hs b hS hl, rfl⟩) (Nat.le_refl _)
theorem NodeIn.leaf (S : Nat → Prop) (w : World) (k : Nat) (s : T) (A : Option Addr) (c : Nat) : NodeIn S w (.agg #[.int .i64 (k : Int), .string (bs s), .slice A 0 c]) (.mk k s []) :=
  .mk k s [] A c (fun _ => .nilFunc) (Nat.zero_le _) (.inl rfl) fun j n h => by cases h
/-- a slice of expansions -/
def NodesIn (S : Nat → Prop) (w : World) (A : Option Addr) (c : Nat) (l : List Nod) : Prop := l.length ≤ c ∧ ∃ vs : Nat → Value, RowIn S w A l.length vs ∧ ∀ j n, l[j]? = some n → NodeIn S w (vs j) n
theorem NodesIn.move {S S' : Nat → Prop} {w W : World} {A : Option Addr} {c : Nat} {l : List Nod} (h : NodesIn S w A c l) (hs : ∀ b, S b → b < w.heap.size → S' b ∧ W.heap[b]? = w.heap[b]?) (hsz : w.heap.size ≤ W.heap.size) : NodesIn S' W A c l :=
  ⟨h.1, h.2.imp fun _ h => ⟨h.1.move hs hsz, fun j n hj => (h.2 j n hj).move hs hsz⟩⟩
theorem NodesIn.on {S : Nat → Prop} {w W : World} {A : Option Addr} {c : Nat} {l : List Nod} (h : NodesIn S w A c l) (hb : Below w.heap.size w W) : NodesIn S W A c l :=
  h.move (fun b hS hl => ⟨hS, hb.block b hl⟩) hb.size
theorem NodesIn.node {S : Nat → Prop} {w : World} {A : Option Addr} {c : Nat} {l : List Nod} (h : NodesIn S w A c l) (k : Nat) (s : T) : NodeIn S w (.agg #[.int .i64 (k : Int), .string (bs s), .slice A l.length c]) (.mk k s l) := by
  obtain ⟨h1, vs, h2, h3⟩ := h
  exact .mk k s l A c vs h1 h2 h3
theorem NodeIn.inv {S : Nat → Prop} {w : World} {v : Value} {k : Nat} {s : T} {l : List Nod} (h : NodeIn S w v (.mk k s l)) : ∃ A c, v = .agg #[.int .i64 (k : Int), .string (bs s), .slice A l.length c] ∧ NodesIn S w A c l := by
  cases h with
  | mk _ _ _ A c vs hc hr hn => exact ⟨A, c, rfl, hc, vs, hr, hn⟩
/-- one of a slice: its three cells, also later -/
theorem NodesIn.at_ {S : Nat → Prop} {w : World} {A : Option Addr} {c j : Nat} {l : List Nod} (h : NodesIn S w A c l) {k : Nat} {s : T} {m : List Nod} (hj : l[j]? = some (.mk k s m)) :
    ∃ b o A' c', A = some ⟨b, o, none⟩ ∧ b < w.heap.size ∧ S b ∧ NodesIn S w A' c' m ∧ ∀ W : World, W.heap[b]? = w.heap[b]? → W.cell? ⟨b, o + j * 3, none⟩ = some (.int .i64 (k : Int)) ∧ W.cell? ⟨b, o + j * 3 + 1, none⟩ = some (.string (bs s)) ∧ W.cell? ⟨b, o + j * 3 + 2, none⟩ = some (.slice A' m.length c') := by
  obtain ⟨hc, vs, hr, hn⟩ := h
  have hl := (List.getElem?_eq_some_iff.1 hj).1
  rcases hr with h0 | ⟨b, o, h1, h2, hS, _, h3⟩
  · omega
  · obtain ⟨A', c', hv, hm⟩ := (hn j _ hj).inv
    refine ⟨b, o, A', c', h1, h2, hS, hm, fun W hW => ?_⟩
    obtain ⟨x, y, z, e0, e1, e2, e3⟩ := (h3 j hl).move hW
    rw [hv] at e0
    simp only [Value.agg.injEq, Array.mk.injEq, List.cons.injEq, and_true] at e0
    obtain ⟨rfl, rfl, rfl⟩ := e0
    exact ⟨e1, e2, e3⟩

/-! ### a row of the call's own -/
/-- the cells of things of three cells each -/
def val3 : Option (Value × Value × Value) → Value
  | some x => .agg #[x.1, x.2.1, x.2.2]
  | none => .nilFunc
def cells3 (vs : List (Value × Value × Value)) : List Value := vs.flatMap fun (x : Value × Value × Value) => [x.1, x.2.1, x.2.2]
theorem cells3_len : ∀ vs, (cells3 vs).length = vs.length * 3
  | [] => rfl
  | x :: r => by
    have := cells3_len r
    unfold cells3 at *
    rw [List.flatMap_cons, List.length_append, this]
    show 3 + r.length * 3 = (r.length + 1) * 3
    omega
theorem cells3_app (a b : List (Value × Value × Value)) : cells3 (a ++ b) = cells3 a ++ cells3 b := List.flatMap_append
theorem cells3_at : ∀ (vs : List (Value × Value × Value)) (j : Nat) (x : Value × Value × Value), vs[j]? = some x → (cells3 vs)[j * 3]? = some x.1 ∧ (cells3 vs)[j * 3 + 1]? = some x.2.1 ∧ (cells3 vs)[j * 3 + 2]? = some x.2.2
  | [], j, x, h => by cases h
  | y :: r, 0, x, h => by
    cases h
    exact ⟨rfl, rfl, rfl⟩
  | y :: r, j + 1, x, h => by
    have h' : r[j]? = some x := by simpa using h
    obtain ⟨h1, h2, h3⟩ := cells3_at r j x h'
    unfold cells3 at *
    rw [List.flatMap_cons]
    have e : ∀ i, ([y.1, y.2.1, y.2.2] ++ r.flatMap fun (x : Value × Value × Value) => [x.1, x.2.1, x.2.2])[i + 3]? = (r.flatMap fun (x : Value × Value × Value) => [x.1, x.2.1, x.2.2])[i]? := fun i => rfl
    refine ⟨?_, ?_, ?_⟩
    · rw [show (j + 1) * 3 = j * 3 + 3 by omega, e]; exact h1
    · rw [show (j + 1) * 3 + 1 = (j * 3 + 1) + 3 by omega, e]; exact h2
    · rw [show (j + 1) * 3 + 2 = (j * 3 + 2) + 3 by omega, e]; exact h3
theorem addr_add (b o j : Nat) : (⟨b, o, none⟩ : Addr).add j = ⟨b, o + j, none⟩ := by
  unfold Addr.add
  by_cases h : j = 0 <;> simp [h]
/-- a row of the call's own is a slice of expansions, if each of its things is one -/
theorem nodes_of_own {S : Nat → Prop} {w : World} {base e n : Nat} {v : Value} {vs : List (Value × Value × Value)} {l : List Nod} (h : w.ownsRow base e 3 v n (cells3 vs)) (hl : vs.length = n) (hll : l.length = n) (hS : ∀ g, v.ownBlock = some g → S g) (hn : ∀ (j : Nat) (x : Value × Value × Value) (m : Nod), vs[j]? = some x → l[j]? = some m → NodeIn S w (.agg #[x.1, x.2.1, x.2.2]) m) :
    ∃ A c, v = .slice A n c ∧ NodesIn S w A c l := by
  rcases h.2 with ⟨h1, h0⟩ | ⟨g, cap, cur, h1, hb, hg, hcap, _, _, _⟩
  · subst h1
    have : l = [] := List.eq_nil_of_length_eq_zero (by omega)
    subst this
    exact ⟨none, 0, by rw [h0], Nat.le_refl _, fun _ => .nilFunc, .inl rfl, fun j n h => by cases h⟩
  · subst h1
    have hglt : g < w.heap.size := (Array.getElem?_eq_some_iff.1 hg).1
    refine ⟨_, cap, rfl, by omega, fun j => val3 vs[j]?, .inr ⟨g, 0, rfl, hglt, hS g rfl, .inr ⟨_, _, hg⟩, fun j hj => ?_⟩, fun j m hj => ?_⟩
    · have hjv : vs[j]? = some (vs[j]'(by omega)) := List.getElem?_eq_getElem _
      obtain ⟨a1, a2, a3⟩ := cells3_at vs j _ hjv
      show Three w g 0 j (val3 vs[j]?)
      rw [hjv]
      have hc := fun i u hu => h.cells (g := g) rfl i u hu
      refine ⟨_, _, _, rfl, ?_, ?_, ?_⟩
      · have := hc _ _ a1
        rw [addr_add] at this; exact this
      · have := hc _ _ a2
        rw [addr_add] at this; exact this
      · have := hc _ _ a3
        rw [addr_add] at this; exact this
    · have hjl := (List.getElem?_eq_some_iff.1 hj).1
      have hjv : vs[j]? = some (vs[j]'(by omega)) := List.getElem?_eq_getElem _
      show NodeIn S w (val3 vs[j]?) m
      rw [hjv]
      exact hn j _ m hjv hj
/-- what an append leaves of what lies elsewhere: its row may have moved to a new block -/
theorem grown_away {S : Nat → Prop} {w W : World} {o : Obj} {u : Value} {v : Value} {n : Nod} {g m cap : Nat} (h : NodeIn (fun b => S b ∧ u.ownBlock ≠ some b) w v n) (hg : (w.alloc o).grownBy W u.ownBlock) (hl : u.ownBlock = some g ∨ g = (w.alloc o).heap.size) : NodeIn (fun b => S b ∧ (Value.slice (some ⟨g, 0, none⟩) m cap).ownBlock ≠ some b) W v n := by
  refine h.move (fun b hb hlt => ⟨⟨hb.1, fun e => ?_⟩, ?_⟩) ?_
  · have e2 : g = b := by simpa [Value.ownBlock] using e
    rcases hl with hl | hl
    · exact hb.2 (by rw [hl, e2])
    · rw [World.size_alloc] at hl; omega
  · have h5 : b < (w.alloc o).heap.size := by rw [World.size_alloc]; omega
    exact (hg.block b h5 (fun e => hb.2 e.symm)).trans (((Below.refl _ w).alloc (Nat.le_refl _) o).block b hlt)
  · have h1 := hg.size
    rw [World.size_alloc] at h1
    omega

end Go.Proofs.YtpphkaolonjjdaaDoor.Nodm
