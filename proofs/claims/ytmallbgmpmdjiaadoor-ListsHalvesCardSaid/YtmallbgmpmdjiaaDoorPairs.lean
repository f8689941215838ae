/- What the program's Pairs answers: two lists' words side by side. -/
import Derived.Laws.CopyOwn
import Derived.Test.YtmallbgmpmdjiaaDoorEach
namespace Go.Proofs.YtmallbgmpmdjiaaDoor.Pairs
open Go.RowKit Go.Proofs.YtmallbgmpmdjiaaDoor.Strs Go.Proofs.YtmallbgmpmdjiaaDoor.Each

/-- the i-th of both side by side -/
def pairAt (xs ys : List ByteArray) (j : Nat) : ByteArray := xs.getD j .empty ++ ys.getD j .empty
def pairB (xs ys : List ByteArray) : List ByteArray := (List.range (max xs.length ys.length)).map (pairAt xs ys)
theorem pairB_len (xs ys : List ByteArray) : (pairB xs ys).length = max xs.length ys.length := by rw [pairB, List.length_map, List.length_range]
theorem pairB_at (xs ys : List ByteArray) (j : Nat) (x : ByteArray) (h : (pairB xs ys)[j]? = some x) : x = pairAt xs ys j := by
  rw [pairB, List.getElem?_map] at h
  obtain ⟨y, hy, rfl⟩ := Option.map_eq_some_iff.1 h
  have := List.getElem?_range (n := max xs.length ys.length) (i := j)
  have hj := (List.getElem?_eq_some_iff.1 hy).1
  rw [List.length_range] at hj
  rw [this hj] at hy
  cases hy
  rfl

/-- what is there behind k rounds -/
def rowP (xs ys : List ByteArray) (k j : Nat) : Value := .string (if j < k then pairAt xs ys j else xs.getD j .empty)

theorem nil_app (x : ByteArray) : x ++ ByteArray.empty = x := ByteArray.append_empty

theorem info_size : (Tryd.prog.info? 9).map (·.size) = some 1 := by kernel_rfl
theorem made_list (N : Nat) : madeCells #[Value.string .empty] N = (List.replicate N (Value.string .empty)).toArray := by
  simp [madeCells, Array.ext_iff]
  intro i _
  rw [Nat.mod_one]
  rfl

theorem row_start {W : World} {g N : Nat} {xs ys : List ByteArray} (hn : xs.length ≤ N)
    (h : W.heap[g]? = some (.cells (splice (List.replicate N (Value.string .empty)) 0 (xs.map Value.string)).toArray 9 (0, 0))) : W.rowIs g 9 N (rowP xs ys 0) := by
  refine ⟨_, h, by rw [List.size_toArray, length_splice _ _ _ (by simpa using hn), List.length_replicate], fun j hj => ?_⟩
  rw [List.getElem?_toArray, splice, List.take_zero, List.nil_append, List.getElem?_append]
  simp only [rowP, Nat.not_lt_zero, if_false]
  split
  · next hl =>
    rw [List.length_map] at hl
    rw [List.getElem?_map, List.getElem?_eq_getElem hl, List.getD_eq_getElem?_getD, List.getElem?_eq_getElem hl]; rfl
  · next hl =>
    rw [List.length_map] at hl
    rw [List.getElem?_drop, List.getElem?_replicate, if_pos (by rw [List.length_map]; omega), List.getD_eq_getElem?_getD, List.getElem?_eq_none (by omega)]; rfl

/-- what the copy leaves: the first list's words, and empty ones behind them -/
theorem copy_start (A : Option Addr) (n c N : Nat) (xs ys : List ByteArray) (w : World) (hn : xs.length = n) (h : SlIs w A c xs) (hN : n ≤ N) :
    ∃ w1, (Builtin.copy_ #[22, 22] 3 #[.slice (some ⟨w.heap.size, 0, none⟩) N N, .slice A n c]).run Tryd.prog (w.alloc (.cells (madeCells #[.string .empty] N) 9)) = .ok (.int .i64 (n : Int)) w1 ∧ Hid (w1.rowIs w.heap.size 9 N (rowP xs ys 0) ∧ Below w.heap.size w w1) := by
  have hb : Below w.heap.size w (w.alloc (.cells (madeCells #[.string .empty] N) 9)) := (Below.refl _ _).alloc (Nat.le_refl _) _
  have hg : (w.alloc (.cells (madeCells #[.string .empty] N) 9)).heap[w.heap.size]? = some (.cells (madeCells #[.string .empty] N) 9 (0, 0)) := heap_alloc_new w _
  subst hn
  rcases h.2 with h1 | ⟨b, o, rfl, hlt, hc⟩
  · subst h1
    refine ⟨_, run_copy_none _ 22 22 3 9 _ _ N N 0 c Tryd.underlying22 info_size (Nat.zero_min _), ?_, hb⟩
    refine row_start (xs := []) (Nat.zero_le _) ?_
    rw [hg, made_list]
    simp [splice]
  · have hr := run_copy_row Tryd.prog (w.alloc (.cells (madeCells #[.string .empty] N) 9)) 22 22 3 9 w.heap.size 0 N N ⟨b, o, none⟩ xs.length c (madeCells #[.string .empty] N) 9 (xs.map Value.string) Tryd.underlying22 info_size hg
      (by rw [List.length_map]; show _ = min _ _; omega)
      (fun j v hv => by
        rw [List.getElem?_map] at hv
        obtain ⟨x, hx, rfl⟩ := Option.map_eq_some_iff.1 hv
        rw [addr_add]
        exact (hb.cell (p := ⟨b, o + j, none⟩) hlt).trans (hc j x hx))
      (by rw [List.length_map, size_madeCells]; omega)
      (fun v hv => by
        obtain ⟨x, _, rfl⟩ := List.mem_map.1 hv
        rfl)
    refine ⟨_, hr.trans (by rw [List.length_map]; rfl), ?_, below_setRow hb (Nat.le_refl _) _⟩
    refine row_start hN ?_
    rw [setRow_heap _ _ _ _ _ _ hg, made_list]
    simp [splice]

set_option maxRecDepth 100000 in
set_option maxHeartbeats 1000000 in
theorem pairs_is (A B : Option Addr) (n m c d : Nat) (xs ys : List ByteArray) (w : World) (hn : xs.length = n) (hm : ys.length = m) (h : SlIs w A c xs) (k : SlIs w B d ys) (hn2 : n ≤ 1000000) (hm2 : m ≤ 1000000) (hx : ∀ x ∈ xs, x.size ≤ 1000000) (hy : ∀ x ∈ ys, x.size ≤ 1000000) :
    Calls Tryd.prog 14 #[.slice A n c, .slice B m d] w fun e W' => ∃ A' c', e = .returned (.slice A' (pairB xs ys).length c') ∧ SlIs W' A' c' (pairB xs ys) ∧ Below w.heap.size w W' := by
  have HN := Lib.hid hn
  have HM := Lib.hid hm
  have HL := Lib.hid h
  have HK := Lib.hid k
  have HX := Lib.hid hx
  have HY := Lib.hid hy
  clear hn hm h k hx hy
  obtain ⟨N, hN⟩ : ∃ N : Nat, max n m = N := ⟨_, rfl⟩
  have hmk := make_strs N (by omega)
  have HLn : Hid (xs.length ≤ N) := by show _ ≤ _; rw [HN.out]; omega
  have HNN := Lib.hid hN
  clear hN
  rcases (show (n < m ∧ m = N) ∨ (¬ n < m ∧ n = N) by have := HNN.out; omega) with ⟨hnm, rfl⟩ | ⟨hnm, rfl⟩
  · obtain ⟨w1, hcp, HR⟩ := copy_start A n c m xs ys w HN.out HL.out (by omega)
    go_enter Tryd.func14, Tryd.ntmps14
    go_wp2
    go_loopw [19] (fun i wr => ∃ k : Nat, k ≤ m ∧ i = .int .i64 k ∧ Hid (wr.rowIs w.heap.size 9 m (rowP xs ys k) ∧ Below w.heap.size w wr)) (fun i _ => m - (intOf i).toNat)
    case atStart => exact ⟨0, Nat.zero_le _, rfl, HR⟩
    case round =>
      obtain ⟨k, hk, rfl, H⟩ := hrel
      by_cases hlt : k < m
      · have hl : k < ys.length := by have := HM.out; omega
        have hxk : ys[k]? = some ys[k] := List.getElem?_eq_getElem hl
        obtain ⟨bb, o, rfl, hbb, hc⟩ := HK.out.at_ hxk
        have c1 := hc wr H.out.2
        have zy := HY.out _ (List.getElem_mem hl)
        have zx : (xs.getD k .empty).size ≤ 1000000 := by
          rw [List.getD_eq_getElem?_getD]
          cases hq : xs[k]? with
          | none => decide
          | some x => exact HX.out x (List.mem_of_getElem? hq)
        have hkN : k < m := by omega
        have c2 : wr.cell? ⟨w.heap.size, k, none⟩ = some (.string (xs.getD k .empty)) := (H.out.1.cell hkN).trans (by simp [rowP])
        have f2 := H.out.1.frozen k
        have HS : Hid ((wr.setCell ⟨w.heap.size, k, none⟩ (.string (xs.getD k .empty ++ ys[k]))).rowIs w.heap.size 9 m (rowP xs ys (k + 1)) ∧ Below w.heap.size w (wr.setCell ⟨w.heap.size, k, none⟩ (.string (xs.getD k .empty ++ ys[k])))) := by
          refine ⟨(H.out.1.set k _).congr (fun j hj => ?_), H.out.2.setCell (p := ⟨w.heap.size, k, none⟩) (Nat.le_refl _) _⟩
          by_cases e : j = k
          · subst e
            simp [rowP, pairAt, List.getD_eq_getElem?_getD, hxk]
          · simp only [if_neg e, rowP]
            have : (j < k + 1) = (j < k) := by simp; omega
            simp only [this]
        clear hc hxk H
        generalize ys[k] = y at *
        generalize xs.getD k .empty = x at *
        have a1 : ∀ W, (Op.stringOp .add x y).run Tryd.prog W = .ok (.string (x ++ y)) W := fun W => run_string_add_sum W _ _ (by omega)
        generalize x ++ y = z at *
        go_wp2
        go_roundw
        case rel => exact ⟨k + 1, by omega, by go_num, HS⟩
        case measure => simp [intOf]; omega
      · obtain rfl : m = k := by omega
        go_wp2
        go_ret
        have hE : (pairB xs ys).length = m := by rw [pairB_len, HN.out, HM.out]; exact HNN.out
        rw [hE]
        refine ⟨_, _, rfl, slIs_of_row hE H.out.1 (fun j x hj => ?_), H.out.2⟩
        rw [pairB_at _ _ _ _ hj]
        simp only [rowP]
        split
        · rfl
        · next hjk =>
          unfold pairAt
          rw [List.getD_eq_getElem?_getD (l := ys), List.getElem?_eq_none (by rw [HM.out]; omega)]
          exact congrArg Value.string (nil_app _).symm
  · obtain ⟨w1, hcp, HR⟩ := copy_start A n c n xs ys w HN.out HL.out (by omega)
    go_enter Tryd.func14, Tryd.ntmps14
    go_wp2
    go_loopw [19] (fun i wr => ∃ k : Nat, k ≤ m ∧ i = .int .i64 k ∧ Hid (wr.rowIs w.heap.size 9 n (rowP xs ys k) ∧ Below w.heap.size w wr)) (fun i _ => m - (intOf i).toNat)
    case atStart => exact ⟨0, Nat.zero_le _, rfl, HR⟩
    case round =>
      obtain ⟨k, hk, rfl, H⟩ := hrel
      by_cases hlt : k < m
      · have hl : k < ys.length := by have := HM.out; omega
        have hxk : ys[k]? = some ys[k] := List.getElem?_eq_getElem hl
        obtain ⟨bb, o, rfl, hbb, hc⟩ := HK.out.at_ hxk
        have c1 := hc wr H.out.2
        have zy := HY.out _ (List.getElem_mem hl)
        have zx : (xs.getD k .empty).size ≤ 1000000 := by
          rw [List.getD_eq_getElem?_getD]
          cases hq : xs[k]? with
          | none => decide
          | some x => exact HX.out x (List.mem_of_getElem? hq)
        have hkN : k < n := by omega
        have c2 : wr.cell? ⟨w.heap.size, k, none⟩ = some (.string (xs.getD k .empty)) := (H.out.1.cell hkN).trans (by simp [rowP])
        have f2 := H.out.1.frozen k
        have HS : Hid ((wr.setCell ⟨w.heap.size, k, none⟩ (.string (xs.getD k .empty ++ ys[k]))).rowIs w.heap.size 9 n (rowP xs ys (k + 1)) ∧ Below w.heap.size w (wr.setCell ⟨w.heap.size, k, none⟩ (.string (xs.getD k .empty ++ ys[k])))) := by
          refine ⟨(H.out.1.set k _).congr (fun j hj => ?_), H.out.2.setCell (p := ⟨w.heap.size, k, none⟩) (Nat.le_refl _) _⟩
          by_cases e : j = k
          · subst e
            simp [rowP, pairAt, List.getD_eq_getElem?_getD, hxk]
          · simp only [if_neg e, rowP]
            have : (j < k + 1) = (j < k) := by simp; omega
            simp only [this]
        clear hc hxk H
        generalize ys[k] = y at *
        generalize xs.getD k .empty = x at *
        have a1 : ∀ W, (Op.stringOp .add x y).run Tryd.prog W = .ok (.string (x ++ y)) W := fun W => run_string_add_sum W _ _ (by omega)
        generalize x ++ y = z at *
        go_wp2
        go_roundw
        case rel => exact ⟨k + 1, by omega, by go_num, HS⟩
        case measure => simp [intOf]; omega
      · obtain rfl : m = k := by omega
        go_wp2
        go_ret
        have hE : (pairB xs ys).length = n := by rw [pairB_len, HN.out, HM.out]; exact HNN.out
        rw [hE]
        refine ⟨_, _, rfl, slIs_of_row hE H.out.1 (fun j x hj => ?_), H.out.2⟩
        rw [pairB_at _ _ _ _ hj]
        simp only [rowP]
        split
        · rfl
        · next hjk =>
          unfold pairAt
          rw [List.getD_eq_getElem?_getD (l := ys), List.getElem?_eq_none (by rw [HM.out]; omega)]
          exact congrArg Value.string (nil_app _).symm

end Go.Proofs.YtmallbgmpmdjiaaDoor.Pairs
