/- The document's pieces, structs with a table of 256 truths: how one is made, built, put into a list of one, as laws of the walk. -/
import Derived.Laws.Tables
import Derived.Deep.MidRow
import Derived.Test.YtegagjclkmomcaaGmatch
namespace Go.Proofs.Ytegagjclkmomcaa.Rlaws
open Go.RowKit Go.Proofs.Ytegagjclkmomcaa.Glb Go.Proofs.Ytegagjclkmomcaa.Gops Go.Proofs.Ytegagjclkmomcaa.Gread

/-- the cells of a piece of the document's: its kind, its byte, its table -/
def tC (k b : Int) (p : Nat → Bool) : Array Value := (.int .i64 k :: .int .u8 b :: (List.range 256).map fun i => .bool (p i)).toArray
theorem tC_size (k b : Int) (p : Nat → Bool) : (tC k b p).size = 258 := by simp [tC]
theorem tC_kind (k b : Int) (p : Nat → Bool) : (tC k b p)[0]? = some (.int .i64 k) := rfl
theorem tC_byte (k b : Int) (p : Nat → Bool) : (tC k b p)[1]? = some (.int .u8 b) := rfl
theorem tC_tab (k b : Int) (p : Nat → Bool) (i : Nat) (h : i < 256) : (tC k b p)[2 + i]? = some (.bool (p i)) := by
  have e : (tC k b p)[2 + i]? = ((List.range 256).map fun i => Value.bool (p i))[i]? := by
    unfold tC
    rw [List.getElem?_toArray, show 2 + i = i + 1 + 1 by omega, List.getElem?_cons_succ, List.getElem?_cons_succ]
  rw [e, List.getElem?_map, List.getElem?_range h]
  rfl
theorem tC_one (k b : Int) (p : Nat → Bool) : (tC k b p).all (·.oneCell') = true := by
  rw [Array.all_eq_true_iff_forall_mem]
  intro v hv
  simp [tC] at hv
  rcases hv with rfl | rfl | ⟨i, _, rfl⟩ <;> rfl
theorem infoT : (Try.prog.info? 51).map (fun i => (i.zero, i.size, i.bytes)) = some (some (.agg (tC 0 0 none_)), 258, 272) := by kernel_rfl
theorem sizeT : (Try.prog.info? 51).map (·.size) = some 258 := by kernel_rfl

theorem run_alloc (w : World) : (Instr.alloc 51 true (.tuple #[])).run Try.prog w = .ok (.pointer (some ⟨w.heap.size, 0, none⟩)) (w.alloc (.cells (tC 0 0 none_) 51)) := by
  obtain ⟨i0, hi, hz0, hz1, hz2⟩ := info_parts infoT
  simp [Instr.alloc, zeroValue, typeInfo, hi, hz0, newVar, newRow, Value.cells]
theorem wpList_alloc {ops : Array Oper} {rest : List Oper} {o : Oper} {a : Act} {w : World} {Q : Exit → Act → World → Prop} (hgd : o.guard = none) (ho : o.op = .alloc 51)
    (h : wpList Try.prog ops Q rest (a.put o.dst (.pointer (some ⟨w.heap.size, 0, none⟩))) (w.alloc (.cells (tC 0 0 none_) 51))) : wpList Try.prog ops Q (o :: rest) a w :=
  wpList_plain hgd fun _ hK => by
    unfold Oper.wp execOp
    simp only [ho, Sem.run_bind, run_alloc w, Result.andThen_ok]
    exact hK _ _ h
theorem built_kind (k : Int) : Try.prog.built 51 [(0, .int .i64 k)] = some (tC k 0 none_) := by kernel_rfl
theorem built_byte (b : Int) : Try.prog.built 51 [(1, .int .u8 b)] = some (tC 0 b none_) := by kernel_rfl
theorem built_none : Try.prog.built 51 [] = some (tC 0 0 none_) := by kernel_rfl
theorem wpList_built {ops : Array Oper} {rest : List Oper} {o : Oper} {a : Act} {w : World} {Q : Exit → Act → World → Prop} (hgd : o.guard = none) (j : Nat) (x : Operand) (ho : o.op = .build 51 #[(j, x)]) (v : Value) (hx : a.eval x = v) (cells : Array Value)
    (hc : Try.prog.built 51 [(j, v)] = some cells)
    (h : wpList Try.prog ops Q rest (a.put o.dst (.agg cells)) w) : wpList Try.prog ops Q (o :: rest) a w :=
  wpList_plain hgd fun _ hK => by
    unfold Oper.wp execOp
    have e : (#[(j, x)] : Array (Nat × Operand)).map (fun (i, x) => (i, a.eval x)) = #[(j, v)] := by simp [hx]
    simp only [ho, e, Sem.run_bind, run_build w _ #[(j, v)] cells hc, Result.andThen_ok]
    exact hK _ _ h
theorem wpList_empty {ops : Array Oper} {rest : List Oper} {o : Oper} {a : Act} {w : World} {Q : Exit → Act → World → Prop} (hgd : o.guard = none) (ho : o.op = .build 51 #[])
    (h : wpList Try.prog ops Q rest (a.put o.dst (.agg (tC 0 0 none_))) w) : wpList Try.prog ops Q (o :: rest) a w :=
  wpList_plain hgd fun _ hK => by
    unfold Oper.wp execOp
    have e : (#[] : Array (Nat × Operand)).map (fun (i, x) => (i, a.eval x)) = #[] := by simp
    simp only [ho, e, Sem.run_bind, run_build w _ #[] _ built_none, Result.andThen_ok]
    exact hK _ _ h

/-! ### a list of one -/
theorem fold_set (vs : List Value) : ∀ (off : Nat) (cs : Array Value) (n : Nat), off + vs.length ≤ cs.size → n < cs.size →
    ((vs.zipIdx 0).foldl (fun cs x => cs.setIfInBounds (off + x.2) x.1) cs)[n]? = if off ≤ n ∧ n < off + vs.length then vs[n - off]? else cs[n]? := by
  suffices H : ∀ (vs : List Value) (k off : Nat) (cs : Array Value) (n : Nat), off + k + vs.length ≤ cs.size → n < cs.size →
      ((vs.zipIdx k).foldl (fun cs x => cs.setIfInBounds (off + x.2) x.1) cs)[n]? = if off + k ≤ n ∧ n < off + k + vs.length then vs[n - (off + k)]? else cs[n]? by
    intro off cs n h1 h2
    exact H vs 0 off cs n h1 h2
  intro vs
  induction vs with
  | nil =>
    intro k off cs n h1 h2
    rw [if_neg (by simp)]; rfl
  | cons v vs ih =>
    intro k off cs n h1 h2
    simp only [List.zipIdx_cons, List.foldl_cons, List.length_cons] at h1 ⊢
    rw [ih (k + 1) off _ n (by simp; omega) (by simpa using h2), Array.getElem?_setIfInBounds]
    by_cases hn : off + k = n
    · subst hn
      rw [if_neg (by omega), if_pos rfl, if_pos (by omega), if_pos (by omega)]
      simp
    · rw [if_neg hn]
      by_cases hr : off + k ≤ n ∧ n < off + k + (vs.length + 1)
      · rw [if_pos hr, if_pos (by omega), show n - (off + k) = (n - (off + (k + 1))) + 1 by omega, List.getElem?_cons_succ]
      · rw [if_neg hr, if_neg (by omega)]
theorem fold_size (vs : List (Value × Nat)) (off : Nat) : ∀ cs : Array Value, (vs.foldl (fun cs x => cs.setIfInBounds (off + x.2) x.1) cs).size = cs.size := by
  induction vs with
  | nil => intro cs; rfl
  | cons v vs ih => intro cs; rw [List.foldl_cons, ih]; simp
theorem fold_all (cs zs : Array Value) (h : zs.size = cs.size) : cs.zipIdx.foldl (fun (cs : Array Value) (x : Value × Nat) => cs.setIfInBounds (0 + x.2) x.1) zs = cs := by
  rw [← Array.foldl_toList, Array.toList_zipIdx]
  apply Array.ext_getElem?
  intro n
  by_cases hn : n < cs.size
  · rw [fold_set cs.toList 0 zs n (by simp; omega) (by omega), if_pos (by simp; omega)]
    simp
  · rw [Array.getElem?_eq_none (by rw [fold_size]; omega), Array.getElem?_eq_none (by omega)]
theorem run_buildSlice (cs : Array Value) (hs : cs.size = 258) (w : World) : (Instr.buildSlice 47 1 #[(0, .agg cs)]).run Try.prog w = .ok (.slice (some ⟨w.heap.size, 0, none⟩) 1 1) (w.alloc (.cells cs 51)) := by
  obtain ⟨i0, hi, hz0, hz1, hz2⟩ := info_parts infoT
  have hf : Instr.fill (fun i => some (i * 258, 258)) ((Array.range 258).map fun x => (tC 0 0 none_)[x % (tC 0 0 none_).size]!) [(0, .agg cs)] = some cs := by
    simp only [Instr.fill, Value.cells, Nat.zero_mul]
    rw [if_neg (by simp [hs]), fold_all cs _ (by simp [hs])]
  simp [Instr.buildSlice, run_underlying Try.underlying47, sizeOf, zeroValue, typeInfo, hi, hz0, hz1, newRow, Value.cells, hf]
theorem wpList_single {ops : Array Oper} {rest : List Oper} {o : Oper} {a : Act} {w : World} {Q : Exit → Act → World → Prop} (hgd : o.guard = none) (x : Operand) (ho : o.op = .buildSlice 47 1 #[(0, x)]) (cs : Array Value) (hx : a.eval x = .agg cs) (hs : cs.size = 258)
    (h : wpList Try.prog ops Q rest (a.put o.dst (.slice (some ⟨w.heap.size, 0, none⟩) 1 1)) (w.alloc (.cells cs 51))) : wpList Try.prog ops Q (o :: rest) a w :=
  wpList_plain hgd fun _ hK => by
    unfold Oper.wp execOp
    have e : (#[(0, x)] : Array (Nat × Operand)).map (fun (i, x) => (i, a.eval x)) = #[(0, .agg cs)] := by simp [hx]
    simp only [ho, e, Sem.run_bind, run_buildSlice cs hs w, Result.andThen_ok]
    exact hK _ _ h
end Go.Proofs.Ytegagjclkmomcaa.Rlaws
