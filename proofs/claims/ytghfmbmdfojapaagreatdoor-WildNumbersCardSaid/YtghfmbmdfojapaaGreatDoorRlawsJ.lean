/- The document's pieces, structs with a table of 256 truths: how one is made, built, put into a list of one, as laws of the walk. -/
import Derived.Laws.Tables
import Derived.Deep.MidRow
import Derived.Test.YtghfmbmdfojapaaGreatDoorGmatchJ
namespace Go.Proofs.YtghfmbmdfojapaaGreatDoor.Rlaws
open Go.RowKit Go.Proofs.YtghfmbmdfojapaaGreatDoor.Glb Go.Proofs.YtghfmbmdfojapaaGreatDoor.Gops Go.Proofs.YtghfmbmdfojapaaGreatDoor.Gread

/-- the cells of a piece of the document's: its kind, its byte, its table -/
def tC (k b : Int) (p : Nat → Bool) : Array Value := (.int .i64 k :: .int .u8 b :: (List.range 256).map fun i => .bool (p i)).toArray
theorem tC_size (k b : Int) (p : Nat → Bool) : (tC k b p).size = 258 := by simp [tC]
theorem tC_kind (k b : Int) (p : Nat → Bool) : (tC k b p)[0]? = some (.int .i64 k) := rfl
theorem tC_byte (k b : Int) (p : Nat → Bool) : (tC k b p)[1]? = some (.int .u8 b) := rfl
theorem tC_tab (k b : Int) (p : Nat → Bool) (i : Nat) (h : i < 256) : (tC k b p)[2 + i]? = some (.bool (p i)) := by
  have e : (tC k b p)[2 + i]? = ((List.range 256).map fun i => Value.bool (p i))[i]? := by
    unfold tC
    rw [List.getElem?_toArray, show 2 + i = i + 1 + 1 by omega, List.getElem?_cons_succ, List.getElem?_cons_succ]
  rw [e, List.getElem?_map, List.getElem?_range h]
  rfl
theorem tC_one (k b : Int) (p : Nat → Bool) : (tC k b p).all (·.oneCell') = true := by
  rw [Array.all_eq_true_iff_forall_mem]
  intro v hv
  simp [tC] at hv
  rcases hv with rfl | rfl | ⟨i, _, rfl⟩ <;> rfl
theorem infoT : (Tryz.prog.info? 91).map (fun i => (i.zero, i.size, i.bytes)) = some (some (.agg (tC 0 0 none_)), 258, 272) := by kernel_rfl
theorem sizeT : (Tryz.prog.info? 91).map (·.size) = some 258 := by kernel_rfl

theorem run_alloc (w : World) : (Instr.alloc 91 true (.tuple #[])).run Tryz.prog w = .ok (.pointer (some ⟨w.heap.size, 0, none⟩)) (w.alloc (.cells (tC 0 0 none_) 91)) := by
  obtain ⟨i0, hi, hz0, hz1, hz2⟩ := info_parts infoT
  simp [Instr.alloc, zeroValue, typeInfo, hi, hz0, newVar, newRow, Value.cells]
theorem wpList_alloc {ops : Array Oper} {rest : List Oper} {o : Oper} {a : Act} {w : World} {Q : Exit → Act → World → Prop} (hgd : o.guard = none) (ho : o.op = .alloc 91)
    (h : wpList Tryz.prog ops Q rest (a.put o.dst (.pointer (some ⟨w.heap.size, 0, none⟩))) (w.alloc (.cells (tC 0 0 none_) 91))) : wpList Tryz.prog ops Q (o :: rest) a w :=
  wpList_plain hgd fun _ hK => by
    unfold Oper.wp execOp
    simp only [ho, Sem.run_bind, run_alloc w, Result.andThen_ok]
    exact hK _ _ h
theorem built_kind (k : Int) : Tryz.prog.built 91 [(0, .int .i64 k)] = some (tC k 0 none_) := by kernel_rfl
theorem built_byte (b : Int) : Tryz.prog.built 91 [(1, .int .u8 b)] = some (tC 0 b none_) := by kernel_rfl
theorem built_none : Tryz.prog.built 91 [] = some (tC 0 0 none_) := by kernel_rfl
theorem wpList_built {ops : Array Oper} {rest : List Oper} {o : Oper} {a : Act} {w : World} {Q : Exit → Act → World → Prop} (hgd : o.guard = none) (j : Nat) (x : Operand) (ho : o.op = .build 91 #[(j, x)]) (v : Value) (hx : a.eval x = v) (cells : Array Value)
    (hc : Tryz.prog.built 91 [(j, v)] = some cells)
    (h : wpList Tryz.prog ops Q rest (a.put o.dst (.agg cells)) w) : wpList Tryz.prog ops Q (o :: rest) a w :=
  wpList_plain hgd fun _ hK => by
    unfold Oper.wp execOp
    have e : (#[(j, x)] : Array (Nat × Operand)).map (fun (i, x) => (i, a.eval x)) = #[(j, v)] := by simp [hx]
    simp only [ho, e, Sem.run_bind, run_build w _ #[(j, v)] cells hc, Result.andThen_ok]
    exact hK _ _ h
theorem wpList_empty {ops : Array Oper} {rest : List Oper} {o : Oper} {a : Act} {w : World} {Q : Exit → Act → World → Prop} (hgd : o.guard = none) (ho : o.op = .build 91 #[])
    (h : wpList Tryz.prog ops Q rest (a.put o.dst (.agg (tC 0 0 none_))) w) : wpList Tryz.prog ops Q (o :: rest) a w :=
  wpList_plain hgd fun _ hK => by
    unfold Oper.wp execOp
    have e : (#[] : Array (Nat × Operand)).map (fun (i, x) => (i, a.eval x)) = #[] := by simp
    simp only [ho, e, Sem.run_bind, run_build w _ #[] _ built_none, Result.andThen_ok]
    exact hK _ _ h

/-! ### a list of one -/
theorem fold_set (vs : List Value) : ∀ (off : Nat) (cs : Array Value) (n : Nat), off + vs.length ≤ cs.size → n < cs.size →
    ((vs.zipIdx 0).foldl (fun cs x => cs.setIfInBounds (off + x.2) x.1) cs)[n]? = if off ≤ n ∧ n < off + vs.length then vs[n - off]? else cs[n]? := by
  suffices H : ∀ (vs : List Value) (k off : Nat) (cs : Array Value) (n : Nat), off + k + vs.length ≤ cs.size → n < cs.size →
      ((vs.zipIdx k).foldl (fun cs x => cs.setIfInBounds (off + x.2) x.1) cs)[n]? = if off + k ≤ n ∧ n < off + k + vs.length then vs[n - (off + k)]? else cs[n]? by
    intro off cs n h1 h2
    exact H vs 0 off cs n h1 h2
  intro vs
  induction vs with
  | nil =>
    intro k off cs n h1 h2
    rw [if_neg (by simp)]; rfl
  | cons v vs ih =>
    intro k off cs n h1 h2
    simp only [List.zipIdx_cons, List.foldl_cons, List.length_cons] at h1 ⊢
    rw [ih (k + 1) off _ n (by simp; omega) (by simpa using h2), Array.getElem?_setIfInBounds]
    by_cases hn : off + k = n
    · subst hn
      rw [if_neg (by omega), if_pos rfl, if_pos (by omega), if_pos (by omega)]
      simp
    · rw [if_neg hn]
      by_cases hr : off + k ≤ n ∧ n < off + k + (vs.length + 1)
      · rw [if_pos hr, if_pos (by omega), show n - (off + k) = (n - (off + (k + 1))) + 1 by omega, List.getElem?_cons_succ]
      · rw [if_neg hr, if_neg (by omega)]
theorem fold_size (vs : List (Value × Nat)) (off : Nat) : ∀ cs : Array Value, (vs.foldl (fun cs x => cs.setIfInBounds (off + x.2) x.1) cs).size = cs.size := by
  induction vs with
  | nil => intro cs; rfl
  | cons v vs ih => intro cs; rw [List.foldl_cons, ih]; simp
theorem fold_all (cs zs : Array Value) (h : zs.size = cs.size) : cs.zipIdx.foldl (fun (cs : Array Value) (x : Value × Nat) => cs.setIfInBounds (0 + x.2) x.1) zs = cs := by
  rw [← Array.foldl_toList, Array.toList_zipIdx]
  apply Array.ext_getElem?
  intro n
  by_cases hn : n < cs.size
  · rw [fold_set cs.toList 0 zs n (by simp; omega) (by omega), if_pos (by simp; omega)]
    simp
  · rw [Array.getElem?_eq_none (by rw [fold_size]; omega), Array.getElem?_eq_none (by omega)]
theorem run_buildSlice (cs : Array Value) (hs : cs.size = 258) (w : World) : (Instr.buildSlice 87 1 #[(0, .agg cs)]).run Tryz.prog w = .ok (.slice (some ⟨w.heap.size, 0, none⟩) 1 1) (w.alloc (.cells cs 91)) := by
  obtain ⟨i0, hi, hz0, hz1, hz2⟩ := info_parts infoT
  have hf : Instr.fill (fun i => some (i * 258, 258)) ((Array.range 258).map fun x => (tC 0 0 none_)[x % (tC 0 0 none_).size]!) [(0, .agg cs)] = some cs := by
    simp only [Instr.fill, Value.cells, Nat.zero_mul]
    rw [if_neg (by simp [hs]), fold_all cs _ (by simp [hs])]
  simp [Instr.buildSlice, run_underlying Tryz.underlying87, sizeOf, zeroValue, typeInfo, hi, hz0, hz1, newRow, Value.cells, hf]
theorem wpList_single {ops : Array Oper} {rest : List Oper} {o : Oper} {a : Act} {w : World} {Q : Exit → Act → World → Prop} (hgd : o.guard = none) (x : Operand) (ho : o.op = .buildSlice 87 1 #[(0, x)]) (cs : Array Value) (hx : a.eval x = .agg cs) (hs : cs.size = 258)
    (h : wpList Tryz.prog ops Q rest (a.put o.dst (.slice (some ⟨w.heap.size, 0, none⟩) 1 1)) (w.alloc (.cells cs 91))) : wpList Tryz.prog ops Q (o :: rest) a w :=
  wpList_plain hgd fun _ hK => by
    unfold Oper.wp execOp
    have e : (#[(0, x)] : Array (Nat × Operand)).map (fun (i, x) => (i, a.eval x)) = #[(0, .agg cs)] := by simp [hx]
    simp only [ho, e, Sem.run_bind, run_buildSlice cs hs w, Result.andThen_ok]
    exact hK _ _ h
end Go.Proofs.YtghfmbmdfojapaaGreatDoor.Rlaws

/- What the document's fits and one answer. -/
namespace Go.Proofs.YtghfmbmdfojapaaGreatDoor.Rfits
open Go.RowKit Go.Proofs.YtghfmbmdfojapaaGreatDoor.Glb Go.Proofs.YtghfmbmdfojapaaGreatDoor.Gops Go.Proofs.YtghfmbmdfojapaaGreatDoor.Gread Go.Proofs.YtghfmbmdfojapaaGreatDoor.Gfit Go.Proofs.YtghfmbmdfojapaaGreatDoor.Rlaws

set_option maxHeartbeats 400000 in
theorem fits_byte (b : Int) (c : UInt8) (p : Nat → Bool) (w : World) :
    Calls Tryz.prog 97 #[.agg (tC 0 b p), .int .u8 (c.toNat : Nat)] w fun e W' => e = .returned (.bool (b == ((c.toNat : Nat) : Int))) ∧ Below w.heap.size w W' := by
  have h0 := tC_kind 0 b p
  have h1 := tC_byte 0 b p
  generalize tC 0 b p = cs at h0 h1
  go_enter Tryz.func97, Tryz.ntmps97
  go_wp2
  go_ret
  exact ⟨rfl, (Below.refl _ _).alloc (Nat.le_refl _) _⟩
set_option maxHeartbeats 400000 in
theorem fits_any (b : Int) (c : UInt8) (p : Nat → Bool) (w : World) :
    Calls Tryz.prog 97 #[.agg (tC 1 b p), .int .u8 (c.toNat : Nat)] w fun e W' => e = .returned (.bool true) ∧ Below w.heap.size w W' := by
  have h0 := tC_kind 1 b p
  generalize tC 1 b p = cs at h0
  go_enter Tryz.func97, Tryz.ntmps97
  go_wp2
  go_ret
  exact ⟨rfl, (Below.refl _ _).alloc (Nat.le_refl _) _⟩
set_option maxHeartbeats 400000 in
theorem fits_tab (b : Int) (c : UInt8) (p : Nat → Bool) (w : World) :
    Calls Tryz.prog 97 #[.agg (tC 2 b p), .int .u8 (c.toNat : Nat)] w fun e W' => e = .returned (.bool (p c.toNat)) ∧ Below w.heap.size w W' := by
  have hc : c.toNat < 256 := c.toNat_lt
  have h0 := tC_kind 2 b p
  have h1 := tC_tab 2 b p c.toNat hc
  generalize tC 2 b p = cs at h0 h1
  generalize c.toNat = n at hc h1
  go_enter Tryz.func97, Tryz.ntmps97
  go_wp2
  go_ret
  exact ⟨rfl, (Below.refl _ _).alloc (Nat.le_refl _) _⟩

/-! ### one -/
/-- where the next byte stands -/
def oneN (l : List UInt8) (i : Nat) : Nat := if l[i]? = some 92 ∧ i + 1 < l.length then i + 2 else i + 1
theorem oneN_gt (l : List UInt8) (i : Nat) : i < oneN l i := by unfold oneN; split <;> omega
theorem oneN_le (l : List UInt8) (i : Nat) (h : i < l.length) : oneN l i ≤ l.length := by unfold oneN; split <;> omega
theorem oneN_drop (l : List UInt8) (i : Nat) (h : i < l.length) : l.drop (oneN l i) = unqR (l.drop i) := by
  rw [List.drop_eq_getElem_cons h]
  unfold oneN
  rw [List.getElem?_eq_getElem h]
  by_cases h1 : i + 1 < l.length
  · rw [List.drop_eq_getElem_cons h1]
    by_cases h92 : l[i] = 92
    · rw [if_pos ⟨by rw [h92], h1⟩, unqR, if_pos h92]
    · rw [if_neg (by intro e; exact h92 (Option.some.inj e.1)), unqR, if_neg h92, ← List.drop_eq_getElem_cons h1]
  · rw [if_neg (by intro e; exact h1 e.2), List.drop_eq_nil_of_le (by omega)]
    rfl
theorem drop_head {l : List UInt8} {i : Nat} (h : i < l.length) : ∃ r, l.drop i = l[i] :: r := ⟨_, List.drop_eq_getElem_cons h⟩
theorem data_get (u : ByteArray) (i : Nat) (h : i < u.size) : u.data.toList[i]? = some u[i] := byte_at u i h
theorem one_c (u : ByteArray) (i : Nat) (h1 : i + 1 < u.size) (h92 : u[i] = 92) : unqC (u.data.toList.drop i) = u[i + 1] ∧ oneN u.data.toList i = i + 2 := by
  have hl : u.data.toList.length = u.size := len_data u
  have a0 := byte_at u i (by omega)
  have a1 := byte_at u (i + 1) h1
  constructor
  · rw [List.drop_eq_getElem_cons (by omega), List.drop_eq_getElem_cons (by omega)]
    have e0 : u.data.toList[i] = u[i] := Option.some.inj ((List.getElem?_eq_getElem (by omega)).symm.trans a0)
    have e1 : u.data.toList[i + 1] = u[i + 1] := Option.some.inj ((List.getElem?_eq_getElem (by omega)).symm.trans a1)
    rw [e0, e1, unqC, if_pos h92]
  · unfold oneN
    rw [a0, h92, if_pos ⟨rfl, by omega⟩]
theorem one_p (u : ByteArray) (i : Nat) (h : i < u.size) (hn : ¬ (u[i] = 92 ∧ i + 1 < u.size)) : unqC (u.data.toList.drop i) = u[i] ∧ oneN u.data.toList i = i + 1 := by
  have hl : u.data.toList.length = u.size := len_data u
  have a0 := byte_at u i h
  have e0 : u.data.toList[i] = u[i] := Option.some.inj ((List.getElem?_eq_getElem (by omega)).symm.trans a0)
  constructor
  · rw [List.drop_eq_getElem_cons (by omega), e0]
    by_cases h1 : i + 1 < u.size
    · rw [List.drop_eq_getElem_cons (by omega), unqC, if_neg (fun e => hn ⟨e, h1⟩)]
    · rw [List.drop_eq_nil_of_le (by omega)]; rfl
  · unfold oneN
    rw [a0, if_neg (by intro e; exact hn ⟨Option.some.inj e.1, by omega⟩)]
theorem lit92 (c : UInt8) : (((c.toNat : Nat) : Int) == 92) = (c == 92) := u8_eq c 92
theorem ret_one {a b : UInt8} {i j : Nat} (h1 : a = b) (h2 : i = j) : Ending.returned (.tuple #[.int .u8 (a.toNat : Nat), .int .i64 (i : Int)]) = .returned (.tuple #[.int .u8 (b.toNat : Nat), .int .i64 (j : Int)]) := by rw [h1, h2]

set_option maxHeartbeats 800000 in
/-- the document's one -/
theorem one_is (u : ByteArray) (i : Nat) (w : World) (h : i < u.size) (hs : u.size ≤ 1000000) :
    Calls Tryz.prog 51 #[.string u, .int .i64 i] w fun e W' => e = .returned (.tuple #[.int .u8 ((unqC (u.data.toList.drop i)).toNat : Nat), .int .i64 (oneN u.data.toList i : Nat)]) ∧ w = W' := by
  by_cases h92 : u[i] = 92
  · have e92 : ((u[i].toNat : Nat) : Int) = 92 := by rw [h92]; rfl
    by_cases h1 : i + 1 < u.size
    · obtain ⟨H1, H2⟩ := one_c u i h1 h92
      have HA := Lib.hid H1
      have HB := Lib.hid H2
      clear H1 H2 h92
      go_enter Tryz.func51, Tryz.ntmps51
      go_wp2
      go_ret2
      exact ⟨ret_one HA.out.symm HB.out.symm, rfl⟩
    · obtain ⟨H1, H2⟩ := one_p u i h (by omega)
      have HA := Lib.hid H1
      have HB := Lib.hid H2
      have HC := Lib.hid e92
      clear H1 H2 h92
      go_enter Tryz.func51, Tryz.ntmps51
      go_wp2
      go_ret2
      exact ⟨(show _ = Ending.returned (.tuple #[.int .u8 (u[i].toNat : Nat), .int .i64 ((i + 1 : Nat) : Int)]) by rw [HC.out]; rfl).trans (ret_one HA.out.symm HB.out.symm), rfl⟩
  · obtain ⟨H1, H2⟩ := one_p u i h (by intro e; exact h92 e.1)
    have e92 : (((u[i].toNat : Nat) : Int) == 92) = false := by rw [lit92]; simpa using h92
    have HA := Lib.hid H1
    have HB := Lib.hid H2
    clear H1 H2 h92
    go_enter Tryz.func51, Tryz.ntmps51
    go_wp2
    go_ret2
    exact ⟨ret_one HA.out.symm HB.out.symm, rfl⟩
end Go.Proofs.YtghfmbmdfojapaaGreatDoor.Rfits
