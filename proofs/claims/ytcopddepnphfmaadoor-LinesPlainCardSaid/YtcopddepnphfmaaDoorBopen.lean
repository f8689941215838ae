/- How a list of truths comes in: what is read of it lies in memory as said. -/
import Derived.Deep.Grids
import Derived.Test.YtcopddepnphfmaaDoorNums
namespace Go.Proofs.YtcopddepnphfmaaDoor.Bopen
open Go.ChangeShapes Go.WideShapes Go.ChangeAt Go.RowKit Go.Deep

set_option maxRecDepth 100000 in
theorem cellsBool : Tryd.prog.cellsOf 4 = 1 := by kernel_rfl

/-- a slice of the truths B -/
def BoolIs (w : World) (A : Option Addr) (n c : Nat) (B : Nat → Bool) : Prop :=
  n ≤ c ∧ (n = 0 ∨ ∃ b o, A = some ⟨b, o, none⟩ ∧ b < w.heap.size ∧ ∀ j, j < n → w.cell? ⟨b, o + j, none⟩ = some (.bool (B j)))
theorem BoolIs.at_ {w : World} {A : Option Addr} {n c k : Nat} {B : Nat → Bool} (h : BoolIs w A n c B) (hk : k < n) :
    ∃ b o, A = some ⟨b, o, none⟩ ∧ ∀ W, Below w.heap.size w W → W.cell? ⟨b, o + k, none⟩ = some (.bool (B k)) := by
  rcases h.2 with h0 | ⟨b, o, rfl, hb, hc⟩
  · omega
  · exact ⟨b, o, rfl, fun W hW => (hW.cell (p := ⟨b, o + k, none⟩) hb).trans (hc k hk)⟩

section
variable {H : Type} {enc : TypeId × Value → H} {W : World}
set_option maxRecDepth 100000 in
theorem open_truths {r : Reach} {base : Nat} {v : Value} {d : DataW H} {p : List MemPlace} (hval : Value.okWide Tryd.prog W r base 38 v) (h : DataW.Trod enc Tryd.prog W 0 (fun _ => true) true 38 v d p) (hlt : ∀ x ∈ p, x.block < W.heap.size) :
    ∃ A n c B, v = .slice A n c ∧ BoolIs W A n c B ∧ n ≤ maxLen := by
  obtain ⟨a0, len, cap, rfl⟩ := okWide_slice Tryd.underlying38 hval
  obtain ⟨fuel, hf⟩ := h
  rcases open_bools Tryd.underlying38 Tryd.underlying4 cellsBool hf with ⟨hcs, hx⟩ | ⟨a, len', cap', B, hcs, _, hl, hm, hx, hcell⟩
  · simp [Value.cells] at hcs
    obtain ⟨rfl, rfl, rfl⟩ := hcs
    exact ⟨none, 0, 0, fun _ => false, rfl, ⟨Nat.le_refl _, .inl rfl⟩, by unfold maxLen; omega⟩
  · simp [Value.cells] at hcs
    obtain ⟨rfl, rfl, rfl⟩ := hcs
    simp only [Prod.mk.injEq] at hx
    obtain ⟨rfl, rfl⟩ := hx
    refine ⟨some a, len, cap, B, rfl, ⟨hl, ?_⟩, Nat.le_trans hl hm⟩
    by_cases hl0 : len = 0
    · exact .inl hl0
    · obtain ⟨b, off, spot⟩ := a
      have hspot : spot = none := by simpa [Addr.add] using World.cell?_spot (hcell 0 (by omega))
      subst hspot
      have hbW : b < W.heap.size := hlt (.cell b off) (MemPlace.mem_row.2 ⟨0, by omega, by simp⟩)
      refine .inr ⟨b, off, rfl, hbW, fun j hj => ?_⟩
      rw [← add_plain, hcell j (by omega)]
end

end Go.Proofs.YtcopddepnphfmaaDoor.Bopen
