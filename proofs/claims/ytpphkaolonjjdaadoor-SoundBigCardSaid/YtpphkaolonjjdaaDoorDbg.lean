/- A row of instructions by make, filled one by one. -/
import Derived.Deep.OwnRows
import Derived.Laws.MakeOwn
import Derived.Test.YtpphkaolonjjdaaDoorDpr
namespace Go.Proofs.YtpphkaolonjjdaaDoor.Dbg
open Go Go.RowKit Go.Proofs.YtpphkaolonjjdaaDoor.Spl Go.Proofs.YtpphkaolonjjdaaDoor.Cpl Go.Proofs.YtpphkaolonjjdaaDoor.Cin Go.Proofs.YtpphkaolonjjdaaDoor.Dpl Go.Proofs.YtpphkaolonjjdaaDoor.Dpr
open Go.Proofs.YtpphkaolonjjdaaDoor.Pure (bs)

def zs4 : Array Value := #[.int .i64 0, .int .i64 0, .string .empty, .slice none 0 0]
theorem make_ops (n : Nat) (h : n ≤ 1000000) (w : World) :
    (Instr.makeSlice 38 (.int .i64 (n : Int)) (.int .i64 (n : Int))).run Tryd.prog w = .ok (.slice (some ⟨w.heap.size, 0, none⟩) n n) (w.alloc (.cells (madeCells zs4 (n * 4)) 40)) := by
  obtain ⟨i0, hi, hz0, hz1, hz2⟩ := infoOp_at
  have := run_make (P := Tryd.prog) w 38 40 i0 _ Tryd.underlying38 hi hz0 .i64 .i64 (n : Int) (n : Int) (by omega) (Int.le_refl _) (by rw [hz2]; omega) (by omega)
  rw [hz1] at this
  simpa [Value.cells, zs4] using this

abbrev Quad := Value × Value × Value × Value
def rowQ (u : Nat → Quad) (i : Nat) : Value := if i % 4 = 0 then (u (i / 4)).1 else if i % 4 = 1 then (u (i / 4)).2.1 else if i % 4 = 2 then (u (i / 4)).2.2.1 else (u (i / 4)).2.2.2
def put4 (u : Nat → Quad) (k : Nat) (x : Quad) (j : Nat) : Quad := if j = k then x else u j
theorem rowQ_start (w : World) (n : Nat) : (w.alloc (.cells (madeCells zs4 (n * 4)) 40)).rowIs w.heap.size 40 (n * 4) (rowQ fun _ => (.int .i64 0, .int .i64 0, .string .empty, .slice none 0 0)) := by
  refine ⟨_, heap_alloc_new w _, size_madeCells _ _, fun i hi => ?_⟩
  have h3 : i % 4 = 0 ∨ i % 4 = 1 ∨ i % 4 = 2 ∨ i % 4 = 3 := by omega
  rcases h3 with h | h | h | h <;> simp [madeCells, rowQ, hi, zs4, h]
theorem rowQ_step {w : World} {g n k : Nat} {u : Nat → Quad} (h : w.rowIs g 40 (n * 4) (rowQ u)) (x y z v : Value) :
    ((((w.setCell ⟨g, k * 4, none⟩ x).setCell ⟨g, k * 4 + 1, none⟩ y).setCell ⟨g, k * 4 + 2, none⟩ z).setCell ⟨g, k * 4 + 3, none⟩ v).rowIs g 40 (n * 4) (rowQ (put4 u k (x, y, z, v))) := by
  refine ((((h.set (k * 4) _).set (k * 4 + 1) _).set (k * 4 + 2) _).set (k * 4 + 3) _).congr (fun j hj => ?_)
  by_cases h3 : j = k * 4 + 3
  · subst h3
    simp [rowQ, put4, show (k * 4 + 3) / 4 = k by omega, show (k * 4 + 3) % 4 = 3 by omega]
  · by_cases h2 : j = k * 4 + 2
    · subst h2
      simp [rowQ, put4, show (k * 4 + 2) / 4 = k by omega, show (k * 4 + 2) % 4 = 2 by omega]
    · by_cases h1 : j = k * 4 + 1
      · subst h1
        simp [rowQ, put4, show (k * 4 + 1) / 4 = k by omega, show (k * 4 + 1) % 4 = 1 by omega]
      · by_cases h0 : j = k * 4
        · subst h0
          simp [rowQ, put4, show (k * 4) / 4 = k by omega, show (k * 4) % 4 = 0 by omega]
        · have : j / 4 ≠ k := by omega
          simp only [if_neg h3, if_neg h2, if_neg h1, if_neg h0, rowQ, put4, if_neg this]
theorem rowQ_at {w : World} {g n : Nat} {u : Nat → Quad} (h : w.rowIs g 40 (n * 4) (rowQ u)) {j : Nat} (hj : j < n) : w.cell? ⟨g, j * 4, none⟩ = some (u j).1 ∧ w.cell? ⟨g, j * 4 + 1, none⟩ = some (u j).2.1 ∧ w.cell? ⟨g, j * 4 + 2, none⟩ = some (u j).2.2.1 ∧ w.cell? ⟨g, j * 4 + 3, none⟩ = some (u j).2.2.2 := by
  refine ⟨(h.cell (i := j * 4) (by omega)).trans ?_, (h.cell (i := j * 4 + 1) (by omega)).trans ?_, (h.cell (i := j * 4 + 2) (by omega)).trans ?_, (h.cell (i := j * 4 + 3) (by omega)).trans ?_⟩
  · simp [rowQ, show j * 4 / 4 = j by omega]
  · simp [rowQ, show (j * 4 + 1) / 4 = j by omega, show (j * 4 + 1) % 4 = 1 by omega]
  · simp [rowQ, show (j * 4 + 2) / 4 = j by omega, show (j * 4 + 2) % 4 = 2 by omega]
  · simp [rowQ, show (j * 4 + 3) / 4 = j by omega, show (j * 4 + 3) % 4 = 3 by omega]
/-- an instruction without blocks, as four cells -/
def quad (o : Opp) : Quad := (.int .i64 o.k, .int .i64 o.n, .string (bs o.s), .slice none 0 0)
/-- a row that is filled -/
theorem ops_row {w : World} {g n : Nat} {u : Nat → Quad} (h : w.rowIs g 40 (n * 4) (rowQ u)) {l : List Opp} (hl : l.length = n) (hu : ∀ j o, l[j]? = some o → u j = quad o) (hp : ∀ o ∈ l, o.l = []) : OpsRow (Nodm.Unm w) w (some ⟨g, 0, none⟩) l := by
  have hh := h
  obtain ⟨cs, hcs, _⟩ := h
  refine .inr ⟨g, 0, rfl, (Array.getElem?_eq_some_iff.1 hcs).1, ⟨_, _, hcs⟩, fun j x hj => ?_⟩
  have hjl := (List.getElem?_eq_some_iff.1 hj).1
  obtain ⟨e0, e1, e2, e3⟩ := rowQ_at hh (show j < n by omega)
  rw [hu j x hj] at e0 e1 e2 e3
  have h0 := hp x (List.mem_of_getElem? hj)
  refine ⟨none, 0, by rw [h0]; exact Nat.le_refl _, .inl h0, ?_, ?_, ?_, ?_⟩
  · rw [Nat.zero_add]; exact e0
  · rw [Nat.zero_add]; exact e1
  · rw [Nat.zero_add]; exact e2
  · rw [Nat.zero_add, h0]; exact e3

end Go.Proofs.YtpphkaolonjjdaaDoor.Dbg
