/- How a list of numbers comes in, with what bounds its length. -/
import Derived.SizedLaws
import Derived.Test.YtcopddepnphfmaaDoorNums
namespace Go.Proofs.YtcopddepnphfmaaDoor.Nsize
open Go.ChangeShapes Go.WideShapes Go.ChangeAt Go.RowKit Go.Proofs.YtcopddepnphfmaaDoor.Nums

set_option maxRecDepth 100000 in
theorem bytesInt : Tryd.prog.bytesOf 3 = 8 := by kernel_rfl

section
variable {H : Type} {enc : TypeId × Value → H} {W : World}
set_option maxRecDepth 100000 in
theorem open_nums_sized {r : Reach} {base : Nat} {v : Value} {d : DataW H} {p : List MemPlace} (hval : Value.okWide Tryd.prog W r base 34 v) (h : DataW.Trod enc Tryd.prog W 0 (fun _ => true) true 34 v d p) (hlt : ∀ x ∈ p, x.block < W.heap.size) :
    ∃ A n c zs, v = .slice A n c ∧ IntIs W A n c zs ∧ n ≤ maxLen ∧ (n = 0 ∨ ∃ es sp, d = .slice es sp ∧ n ≤ es.length) := by
  obtain ⟨A, n, c, zs, rfl, h1, h2⟩ := open_nums hval h hlt
  refine ⟨A, n, c, zs, rfl, h1, h2, ?_⟩
  obtain ⟨fuel, hf⟩ := h
  rcases open_ints Tryd.underlying34 Tryd.underlying3 cellsInt hf with ⟨hcs, hx⟩ | ⟨a, len', cap', zs', hcs, _, hl, hm, hz, hx, hcell, hws⟩
  · simp [Value.cells] at hcs
    exact .inl hcs.2.1
  · simp [Value.cells] at hcs
    obtain ⟨rfl, rfl, rfl⟩ := hcs
    simp only [Prod.mk.injEq] at hx
    simp only [if_true] at hz
    exact .inr ⟨_, _, hx.1, by simp [lits]; omega⟩
set_option maxRecDepth 100000 in
theorem nums_bound {ts : List TypeId} {ds : List (DataW H)} (h : (DataW.weightsEach Tryd.prog ts ds).all (· ≤ reachBytes) = true) {j n : Nat} {d : DataW H} (ht : ts[j]? = some 34) (hd : ds[j]? = some d) (hq : n = 0 ∨ ∃ es sp, d = .slice es sp ∧ n ≤ es.length) : n ≤ 17592186044416 := by
  rcases hq with h0 | ⟨es, sp, rfl, hle⟩
  · omega
  · have h1 := sized_slice h ht hd Tryd.underlying34
    rw [bytesInt] at h1
    have h2 : reachBytes ≤ 140737488355328 := by decide
    omega
end

end Go.Proofs.YtcopddepnphfmaaDoor.Nsize
