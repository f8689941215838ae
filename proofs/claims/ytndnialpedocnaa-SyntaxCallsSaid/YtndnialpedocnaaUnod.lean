/- Expansions whose rows lie in rows of expansions, from a block on. -/
import Derived.Test.YtndnialpedocnaaNod
namespace Go.Proofs.Ytndnialpedocnaa.Unod
open Go.RowKit Go.Proofs.Ytndnialpedocnaa.Spl Go.Proofs.Ytndnialpedocnaa.Nodm

/-- a block that is a row of expansions -/
def NB (W : World) (g : Nat) : Prop := ∃ cs fr, W.heap[g]? = some (.cells cs 25 fr)
def SF (H : Nat) (W : World) (g : Nat) : Prop := H ≤ g ∧ NB W g
theorem NB.of {w W : World} {g : Nat} (h : NB w g) (e : W.heap[g]? = w.heap[g]?) : NB W g := by
  obtain ⟨cs, fr, h⟩ := h
  exact ⟨cs, fr, e.trans h⟩
theorem SF.of {H : Nat} {w W : World} {g : Nat} (h : SF H w g) (e : W.heap[g]? = w.heap[g]?) : SF H W g := ⟨h.1, h.2.of e⟩
theorem on {H : Nat} {w W : World} {v : Value} {n : Nod} (h : NodeIn (SF H w) w v n) (hb : Below w.heap.size w W) : NodeIn (SF H W) W v n :=
  h.move (fun b hS hl => ⟨hS.of (hb.block b hl), hb.block b hl⟩) hb.size
theorem lower {H H' : Nat} {w : World} {v : Value} {n : Nod} (h : NodeIn (SF H w) w v n) (hH : H' ≤ H) : NodeIn (SF H' w) w v n :=
  h.mono fun _ hS _ => ⟨Nat.le_trans hH hS.1, hS.2⟩

end Go.Proofs.Ytndnialpedocnaa.Unod
