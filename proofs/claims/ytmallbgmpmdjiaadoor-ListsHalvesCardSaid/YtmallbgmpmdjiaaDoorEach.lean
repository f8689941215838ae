/- What the program's Each answers. -/
import Derived.Test.YtmallbgmpmdjiaaDoorStrs
namespace Go.Proofs.YtmallbgmpmdjiaaDoor.Each
open Go.RowKit Go.Proofs.YtmallbgmpmdjiaaDoor.Strs

/-- what is there behind k rounds -/
def rowE (xs : List ByteArray) (a b : ByteArray) (k j : Nat) : Value := .string (if j < k then a ++ (xs.getD j .empty) ++ b else .empty)

theorem make_strs (n : Nat) (h : n ≤ 1000000) (w : World) :
    (Instr.makeSlice 22 (.int .i64 (n : Int)) (.int .i64 (n : Int))).run Tryd.prog w = .ok (.slice (some ⟨w.heap.size, 0, none⟩) n n) (w.alloc (.cells (madeCells #[.string .empty] n) 9)) :=
  run_make_row' 22 9 _ 16 Tryd.underlying22 infoString rfl .i64 .i64 n (by omega) (by omega) w

set_option maxHeartbeats 1000000 in
theorem each_is (A : Option Addr) (n c : Nat) (xs : List ByteArray) (a b : ByteArray) (w : World) (hn : xs.length = n) (h : SlIs w A c xs) (hm : n ≤ 1000000) (hx : ∀ x ∈ xs, x.size ≤ 1000000) (ha : a.size ≤ 1000000) (hb : b.size ≤ 1000000) :
    Calls Tryd.prog 18 #[.slice A n c, .string a, .string b] w fun e W' => ∃ A' c', e = .returned (.slice A' n c') ∧ SlIs W' A' c' (xs.map fun x => a ++ x ++ b) ∧ Below w.heap.size w W' := by
  have HN := Lib.hid hn
  have HL := Lib.hid h
  have HX := Lib.hid hx
  clear hn h hx
  have hmk := make_strs n hm
  go_enter Tryd.func18, Tryd.ntmps18
  go_wp2
  go_loopw [15] (fun i wr => ∃ k : Nat, k ≤ n ∧ i = .int .i64 k ∧ Hid (wr.rowIs w.heap.size 9 n (rowE xs a b k) ∧ Below w.heap.size w wr)) (fun i _ => n - (intOf i).toNat)
  case atStart => exact ⟨0, Nat.zero_le _, rfl, (World.rowIs_made w _ n _).congr (fun j _ => rfl), (Below.refl _ _).alloc (Nat.le_refl _) _⟩
  case round =>
    obtain ⟨k, hk, rfl, H⟩ := hrel
    by_cases hlt : k < n
    · have hl : k < xs.length := by have := HN.out; omega
      have hxk : xs[k]? = some xs[k] := List.getElem?_eq_getElem hl
      obtain ⟨bb, o, rfl, hbb, hc⟩ := HL.out.at_ hxk
      have c1 := hc wr H.out.2
      have zx := HX.out _ (List.getElem_mem hl)
      have c2 : wr.cell? ⟨w.heap.size, k, none⟩ = some (.string .empty) := (H.out.1.cell hlt).trans (by simp [rowE])
      have f2 := H.out.1.frozen k
      have HS : Hid ((wr.setCell ⟨w.heap.size, k, none⟩ (.string (a ++ xs[k] ++ b))).rowIs w.heap.size 9 n (rowE xs a b (k + 1)) ∧ Below w.heap.size w (wr.setCell ⟨w.heap.size, k, none⟩ (.string (a ++ xs[k] ++ b)))) := by
        refine ⟨(H.out.1.set k _).congr (fun j hj => ?_), H.out.2.setCell (p := ⟨w.heap.size, k, none⟩) (Nat.le_refl _) _⟩
        by_cases e : j = k
        · subst e
          simp [rowE, List.getD_eq_getElem?_getD, hxk]
        · simp only [if_neg e, rowE]
          have : (j < k + 1) = (j < k) := by simp; omega
          simp only [this]
      clear hc hxk H
      generalize xs[k] = x at *
      have z2 : (a ++ x).size ≤ 2000000 := by rw [ByteArray.size_append]; omega
      have a1 : ∀ W, (Op.stringOp .add a x).run Tryd.prog W = .ok (.string (a ++ x)) W := fun W => run_string_add_sum W _ _ (by omega)
      have a2 : ∀ W, (Op.stringOp .add (a ++ x) b).run Tryd.prog W = .ok (.string (a ++ x ++ b)) W := fun W => run_string_add_sum W _ _ (by omega)
      generalize a ++ x ++ b = y at *
      generalize a ++ x = z at *
      go_wp2
      go_roundw
      case rel => exact ⟨k + 1, by omega, by go_num, HS⟩
      case measure => simp [intOf]; omega
    · obtain rfl : k = n := by omega
      go_wp2
      go_ret
      refine ⟨_, _, rfl, slIs_of_row (by rw [List.length_map]; exact HN.out) H.out.1 (fun j x hj => ?_), H.out.2⟩
      rw [List.getElem?_map] at hj
      obtain ⟨y, hy, rfl⟩ := Option.map_eq_some_iff.1 hj
      have hjl := (List.getElem?_eq_some_iff.1 hy).1
      have := HN.out
      simp [rowE, List.getD_eq_getElem?_getD, hy, show j < k by omega]

end Go.Proofs.YtmallbgmpmdjiaaDoor.Each
