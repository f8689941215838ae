/- The document's file system, appended to. -/
import Derived.Deep.AppendLies
import Derived.Deep.RegionLaw
import Derived.Test.YtghfmbmdfojapaaGreatDoorVcellJ
import Derived.Test.YtghfmbmdfojapaaGreatDoorPrabsJ
namespace Go.Proofs.YtghfmbmdfojapaaGreatDoor.Wown
open Go.RowKit Go.Proofs.YtghfmbmdfojapaaGreatDoor.Pth Go.Proofs.YtghfmbmdfojapaaGreatDoor.Strs Go.Proofs.YtghfmbmdfojapaaGreatDoor.Vfs Go.Proofs.YtghfmbmdfojapaaGreatDoor.Vmap Go.Proofs.YtghfmbmdfojapaaGreatDoor.Vnew Go.Proofs.YtghfmbmdfojapaaGreatDoor.Vsort Go.Proofs.YtghfmbmdfojapaaGreatDoor.Vall Go.Proofs.YtghfmbmdfojapaaGreatDoor.Wfind

def FOwn (w : World) (base f : Nat) (R : List Raw) : Prop := base ≤ f ∧ ∃ v, w.heap[f]? = some (.cells #[v] 50 (0, 0)) ∧ some f ≠ v.ownBlock ∧ w.ownsRow base 33 3 v R.length (cells R)
theorem FOwn.lt {w : World} {base f : Nat} {R : List Raw} (h : FOwn w base f R) : f < w.heap.size := by
  obtain ⟨_, v, h1, _⟩ := h
  exact (Array.getElem?_eq_some_iff.1 h1).1
theorem FOwn.fat {w : World} {base f : Nat} {R : List Raw} (h : FOwn w base f R) : FAt w f R := by
  refine ⟨h.lt, ?_⟩
  obtain ⟨_, v, h1, _, h3⟩ := h
  obtain ⟨A, c, rfl, hE, _⟩ := enIs_of_own rfl h3
  exact ⟨A, c, by rw [Lib.cell_of_heap h1]; rfl, hE⟩
theorem FOwn.below {w W : World} {base f : Nat} {R : List Raw} (h : FOwn w base f R) (hb : Below w.heap.size w W) : FOwn W base f R := by
  have hl := h.lt
  obtain ⟨h0, v, h1, h2, h3⟩ := h
  exact ⟨h0, v, (hb.block f hl).trans h1, h2, rows_below h3 fun g hg => hb.block g (h3.lt g hg).2⟩

/-- F, and what was made since w0: the blocks from w0's end to w2's end stay -/
structure FB (w0 w2 : World) (base f : Nat) (R : List Raw) (w : World) (v : Value) : Prop where
  fb : base ≤ f
  fl : f < w0.heap.size
  cell : w.heap[f]? = some (.cells #[v] 50 (0, 0))
  own : w.ownsRow base 33 3 v R.length (cells R)
  fv : some f ≠ v.ownBlock
  out : ∀ g, v.ownBlock = some g → g < w0.heap.size ∨ w2.heap.size ≤ g
  keep : ∀ b, w0.heap.size ≤ b → b < w2.heap.size → w.heap[b]? = w2.heap[b]?
  size : w2.heap.size ≤ w.heap.size
  hlo : w0.heap.size ≤ w2.heap.size
  base0 : base ≤ w0.heap.size
  below : Below base w0 w
theorem FOwn.start {w0 w2 : World} {base f : Nat} {R : List Raw} (h : FOwn w0 base f R) (hb : Below w0.heap.size w0 w2) (hbase : base ≤ w0.heap.size) : ∃ v, FB w0 w2 base f R w2 v := by
  have hl := h.lt
  obtain ⟨h0, v, h1, h2, h3⟩ := h
  exact ⟨v, h0, hl, (hb.block f hl).trans h1, rows_below h3 fun g hg => hb.block g (h3.lt g hg).2, h2, fun g hg => .inl (h3.lt g hg).2, fun _ _ _ => rfl, Nat.le_refl _, hb.size, hbase, hb.mono hbase⟩
theorem FB.fown {w0 w2 w : World} {base f : Nat} {R : List Raw} {v : Value} (h : FB w0 w2 base f R w v) : FOwn w base f R := ⟨h.fb, v, h.cell, h.fv, h.own⟩
theorem FB.drew {w0 w2 w : World} {base f : Nat} {R : List Raw} {v : Value} (h : FB w0 w2 base f R w v) : FB w0 w2 base f R w.drew v :=
  ⟨h.fb, h.fl, h.cell, h.own, h.fv, h.out, h.keep, h.size, h.hlo, h.base0, below_drewN h.below 1⟩
theorem FB.step {w0 w2 w w1 : World} {base f g cap : Nat} {R : List Raw} {v : Value} (h : FB w0 w2 base f R w v) (x : Raw) {o : Obj}
    (hown : w1.ownsRow base 33 3 (.slice (some ⟨g, 0, none⟩) (R.length + 1) cap) (R.length + 1) (cells R ++ encR x)) (hgrow : (w.alloc o).grownBy w1 v.ownBlock) (hat : v.ownBlock = some g ∨ g = w.heap.size + 1) :
    FB w0 w2 base f (R ++ [x]) (w1.setCell ⟨f, 0, none⟩ (.slice (some ⟨g, 0, none⟩) (R.length + 1) cap)) (.slice (some ⟨g, 0, none⟩) (R.length + 1) cap) := by
  have hl := h.fl
  have hs := h.size
  have hlo := h.hlo
  have hsz := hgrow.size
  rw [World.size_alloc] at hsz
  have hgf : g ≠ f := by
    rcases hat with h1 | h1
    · intro e; rw [e] at h1; exact h.fv h1.symm
    · omega
  have old : ∀ b, b < w.heap.size → some b ≠ v.ownBlock → w1.heap[b]? = w.heap[b]? := fun b hb hv =>
    (hgrow.block b (by rw [World.size_alloc]; omega) hv).trans (Below.heap_alloc _ _ _ hb)
  refine ⟨h.fb, hl, ?_, ?_, ?_, ?_, fun b h1 h2 => ?_, by rw [World.size_setCell]; omega, hlo, h.base0, ?_⟩
  · have h1 := (old f (by omega) h.fv).trans h.cell
    rw [heap_setCell_same _ _ _ _ _ _ h1]; rfl
  · have hc : cells R ++ encR x = cells (R ++ [x]) := by rw [cells_app]; rfl
    rw [List.length_append, List.length_singleton, ← hc]
    exact rows_below hown fun b hb => by
      have : g = b := Option.some.inj hb
      subst this
      exact heap_setCell_other _ _ _ _ hgf
  · intro e
    exact hgf (Option.some.inj e).symm
  · intro b hb
    have : g = b := Option.some.inj hb
    subst this
    rcases hat with h1 | h1
    · exact h.out g h1
    · right; omega
  · rw [heap_setCell_other _ _ _ _ (by show b ≠ f; omega), old b (by omega) (fun e => by rcases h.out b e.symm with h3 | h3 <;> omega)]
    exact h.keep b h1 h2
  · exact ((h.below.alloc (by have := h.base0; omega) o).grown hgrow (by rw [World.size_alloc]; have := h.base0; omega) (fun k e => (h.own.lt k e).1)).setCell (p := ⟨f, 0, none⟩) h.fb _

theorem FB.mid {w0 w2 w w1 : World} {base f : Nat} {R : List Raw} {v : Value} (h : FB w0 w2 base f R w v) {o : Obj} (hgrow : (w.alloc o).grownBy w1 v.ownBlock) : w1.heap[f]? = some (.cells #[v] 50 (0, 0)) := by
  have hl := h.fl
  have hs := h.size
  have hlo := h.hlo
  exact ((hgrow.block f (by rw [World.size_alloc]; omega) h.fv).trans (Below.heap_alloc _ _ _ (by omega))).trans h.cell
theorem FB.weak {w0 w2 w : World} {base f : Nat} {R : List Raw} {v : Value} (h : FB w0 w2 base f R w v) : FB w0 w0 base f R w v :=
  ⟨h.fb, h.fl, h.cell, h.own, h.fv, fun g _ => Nat.lt_or_ge g _, fun b h1 h2 => by omega, Nat.le_trans h.hlo h.size, Nat.le_refl _, h.base0, h.below⟩
theorem FB.box {w0 w2 w : World} {base f q i : Nat} {R : List Raw} {v u : Value} (h : FB w0 w2 base f R w v) (h1 : w0.heap.size ≤ q) (h2 : q < w2.heap.size) : FB w0 w0 base f R (w.setCell ⟨q, i, none⟩ u) v := by
  have hl := h.fl
  have hqv : ∀ g, v.ownBlock = some g → g ≠ q := fun g hg e => by rcases h.out g hg with h3 | h3 <;> omega
  refine ⟨h.fb, hl, (heap_setCell_other _ _ _ _ (by show f ≠ q; omega)).trans h.cell, rows_below h.own fun g hg => heap_setCell_other _ _ _ _ (hqv g hg), h.fv, fun g _ => Nat.lt_or_ge g _, fun b h3 h4 => by omega, by rw [World.size_setCell]; exact Nat.le_trans h.hlo h.size, Nat.le_refl _, h.base0, h.below.setCell (p := ⟨q, i, none⟩) (by show base ≤ q; have := h.base0; omega) _⟩
theorem FB.form {w0 w2 w : World} {base f : Nat} {R : List Raw} {v : Value} (h : FB w0 w2 base f R w v) (hr : 0 < R.length) : ∃ g c, v = .slice (some ⟨g, 0, none⟩) R.length c := by
  obtain ⟨g, c, h1, _⟩ := h.own.form hr
  exact ⟨g, c, h1⟩

/-- the parts of what Abs answered -/
theorem ne_flat (p : Wy) (hp : ∀ x ∈ p, Pth.Good x) (h0 : p ≠ []) : Prabs.ne (splitL (flatL p)) = p := by
  rw [split_flat0 p (fun x hx => (hp x hx).2.2.2) h0, Prabs.ne_nil]
  unfold Prabs.ne
  rw [List.filter_eq_self]
  intro x hx
  have := (hp x hx).1
  cases x with
  | nil => exact absurd rfl this
  | cons a b => rfl

end Go.Proofs.YtghfmbmdfojapaaGreatDoor.Wown
