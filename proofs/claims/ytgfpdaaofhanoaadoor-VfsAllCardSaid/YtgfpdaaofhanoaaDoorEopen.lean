/- How a list of entries comes in: what is read of it lies in memory as said. -/
import Derived.ProofKit
import Derived.OpenShut
import Derived.Deep.Slices
import Derived.Deep.Strs
import Derived.Test.YtgfpdaaofhanoaaDoorVnew
namespace Go.Proofs.YtgfpdaaofhanoaaDoor.Eopen
open Go.ChangeShapes Go.WideShapes Go.ChangeAt Go.RowKit Go.Deep Go.Proofs.YtgfpdaaofhanoaaDoor.Strs Go.Proofs.YtgfpdaaofhanoaaDoor.Vfs Go.Proofs.YtgfpdaaofhanoaaDoor.Vnew

theorem laidOut : laidOutB Tryd.prog = true := by kernel_rfl
theorem cellsEnt : Tryd.prog.cellsOf 30 = 3 := by kernel_rfl
theorem cellsStr : Tryd.prog.cellsOf 9 = 1 := by kernel_rfl
theorem cellsBool : Tryd.prog.cellsOf 4 = 1 := by kernel_rfl

section
variable {H : Type} {enc : TypeId × Value → H} {W : World}

instance : Inhabited Raw := ⟨⟨⟨#[]⟩, false, ⟨#[]⟩⟩⟩

theorem lone3 {a b c : Value} {s0 s2 : ByteArray} {b1 : Bool} (h0 : [a] = [Value.string s0]) (h1 : [b] = [Value.bool b1]) (h2 : [c] = [Value.string s2]) : [a, b, c] = [.string s0, .bool b1, .string s2] := by
  cases h0; cases h1; cases h2; rfl

set_option maxRecDepth 100000 in
theorem ent_cells {fuel : Nat} {cs : List Value} {x : DataW H × List MemPlace} {base : Nat} {sp : Nat → Bool} {hd : Bool} (h : DataW.trod enc Tryd.prog W base sp hd fuel 30 cs = some x) : ∃ y : Raw, cs = [.string y.path, .bool y.dir, .string y.text] := by
  obtain ⟨y0, y1, y2, n, _, hl, h0, h1, h2⟩ := trod_struct3 Tryd.underlying30 h
  rw [cellsEnt] at hl
  obtain ⟨c0, c1, c2, rfl⟩ : ∃ c0 c1 c2, cs = [c0, c1, c2] := by
    match cs, hl with
    | [c0, c1, c2], _ => exact ⟨c0, c1, c2, rfl⟩
  have k0 : DataW.trod enc Tryd.prog W base sp hd n 9 [c0] = some y0 := by rw [cellsStr] at h0; exact h0
  have k1 : DataW.trod enc Tryd.prog W base sp hd n 4 [c1] = some y1 := by rw [cellsBool] at h1; exact h1
  have k2 : DataW.trod enc Tryd.prog W base sp hd n 9 [c2] = some y2 := by rw [cellsStr] at h2; exact h2
  clear h h0 h1 h2
  obtain ⟨s0, e0, _⟩ := DataW.trod_string Tryd.underlying9 k0
  obtain ⟨b1, e1, _⟩ := DataW.trod_bool Tryd.underlying4 k1
  obtain ⟨s2, e2, _⟩ := DataW.trod_string Tryd.underlying9 k2
  exact ⟨⟨s0, b1, s2⟩, lone3 e0 e1 e2⟩

set_option maxRecDepth 100000 in
theorem open_ents {r : Reach} {base : Nat} {v : Value} {d : DataW H} {p : List MemPlace} (hval : Value.okWide Tryd.prog W r base 22 v) (h : DataW.Trod enc Tryd.prog W 0 (fun _ => true) true 22 v d p) (hlt : ∀ x ∈ p, x.block < W.heap.size) :
    ∃ A n c l, v = .slice A n c ∧ l.length = n ∧ EnIs W A c l ∧ n ≤ maxLen ∧ (A = none → n = 0 ∧ c = 0) := by
  obtain ⟨a0, len, cap, rfl⟩ := okWide_slice Tryd.underlying22 hval
  obtain ⟨fuel, hf⟩ := h
  rcases open_slice Tryd.underlying22 hf with ⟨hcs, hx⟩ | ⟨a, len', cap', m, n, D, Pl, hcs, _, hl, hm, hmm, hx, hel⟩
  · simp [Value.cells] at hcs
    obtain ⟨rfl, rfl, rfl⟩ := hcs
    exact ⟨none, 0, 0, [], rfl, rfl, ⟨Nat.le_refl _, .inl rfl⟩, by unfold maxLen; omega, fun _ => ⟨rfl, rfl⟩⟩
  · simp [Value.cells] at hcs
    obtain ⟨rfl, rfl, rfl⟩ := hcs
    simp only [if_true] at hmm
    rw [cellsEnt] at hel hx
    have each : ∀ i, i < len → ∃ y : Raw, W.cell? (a.add (i * 3)) = some (.string y.path) ∧ W.cell? ((a.add (i * 3)).add 1) = some (.bool y.dir) ∧ W.cell? ((a.add (i * 3)).add 2) = some (.string y.text) := fun i hi => by
      obtain ⟨cs', h1, h2⟩ := hel i (by omega)
      obtain ⟨_, hlen, hcell⟩ := World.cells?_some h1
      obtain ⟨y, rfl⟩ := ent_cells h2
      refine ⟨y, ?_, ?_, ?_⟩
      · have := hcell 0 (by omega)
        rw [Deep.add_add] at this
        exact this
      · exact hcell 1 (by omega)
      · exact hcell 2 (by omega)
    obtain ⟨f, hf2⟩ := choose_lt each
    refine ⟨some a, len, cap, (List.range len).map f, rfl, by simp, ⟨by simpa using hl, ?_⟩, Nat.le_trans hl hm, fun h => by cases h⟩
    by_cases hl0 : len = 0
    · exact .inl (by rw [hl0]; rfl)
    · obtain ⟨b, off, spot⟩ := a
      have hspot : spot = none := by
        have h0 := (hf2 0 (by omega)).1
        simpa [Addr.add] using World.cell?_spot h0
      subst hspot
      have hbW : b < W.heap.size := by
        refine hlt (.cell b off) ?_
        have e1 := (Prod.mk.inj hx).2
        rw [e1]
        exact List.mem_append_left _ (MemPlace.mem_row.2 ⟨0, by omega, by simp⟩)
      refine .inr ⟨b, off, rfl, hbW, fun j x hj => ?_⟩
      rw [List.getElem?_map] at hj
      obtain ⟨i, hi, rfl⟩ := Option.map_eq_some_iff.1 hj
      have hjl := (List.getElem?_eq_some_iff.1 hi).1
      have hij : i = j := by
        have := (List.getElem?_eq_some_iff.1 hi).2
        simpa using this.symm
      subst hij
      rw [List.length_range] at hjl
      obtain ⟨d0, d1, d2⟩ := hf2 i hjl
      rw [addr_add] at d0 d1 d2
      rw [addr_add] at d1 d2
      exact ⟨d0, d1, d2⟩
end

end Go.Proofs.YtgfpdaaofhanoaaDoor.Eopen
