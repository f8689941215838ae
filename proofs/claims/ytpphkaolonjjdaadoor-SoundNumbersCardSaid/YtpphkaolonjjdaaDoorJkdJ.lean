/- The constant table of kinds, as the program's text lays it; an instruction held against it, on plain data. -/
import Derived.IntWalk
import Derived.Test.YtpphkaolonjjdaaDoorCplJ
namespace Go.Proofs.YtpphkaolonjjdaaDoor.Jkd
open Go Go.RowKit Go.Proofs.YtpphkaolonjjdaaDoor.Spl Go.Proofs.YtpphkaolonjjdaaDoor.Fpl Go.Proofs.YtpphkaolonjjdaaDoor.Cpl Go.Proofs.YtpphkaolonjjdaaDoor.Cin Go.Proofs.YtpphkaolonjjdaaDoor.Dpl
open Go.Proofs.YtpphkaolonjjdaaDoor.Pure (bs)

/-- the table's cells: how many are taken, has it a number, a text, a list -/
def kindL : List Value := [.int .i64 0, .bool false, .bool false, .bool false, .int .i64 0, .bool false, .bool true, .bool false, .int .i64 1, .bool false, .bool false, .bool false, .int .i64 3, .bool false, .bool false, .bool false,
  .int .i64 0, .bool true, .bool false, .bool false, .int .i64 0, .bool true, .bool true, .bool false, .int .i64 0, .bool false, .bool true, .bool true]
/-- the table stands in block 0 -/
def Knd (w : World) : Prop := 0 < w.heap.size ∧ ∀ j, j < 28 → w.cell? ⟨0, j, none⟩ = kindL[j]?
theorem Knd.on {w W : World} (h : Knd w) (hb : Below w.heap.size w W) : Knd W :=
  ⟨Nat.lt_of_lt_of_le h.1 hb.size, fun j hj => (hb.cell (p := ⟨0, j, none⟩) h.1).trans (h.2 j hj)⟩

theorem below_drewN {B : Nat} {w W : World} (h : Below B w W) (n : Nat) : Below B w (W.drewN n) := ⟨h.os, h.tape, h.output, h.size, h.block⟩
theorem cells_four {W : World} {H : Nat} {x y z u : Value} {ty : TypeId} (h : W.heap[H]? = some (.cells #[x, y, z, u] ty)) : W.cell? ⟨H, 0, none⟩ = some x ∧ W.cell? ⟨H, 1, none⟩ = some y ∧ W.cell? ⟨H, 2, none⟩ = some z ∧ W.cell? ⟨H, 3, none⟩ = some u :=
  ⟨by rw [Lib.cell_of_heap h]; rfl, by rw [Lib.cell_of_heap h]; rfl, by rw [Lib.cell_of_heap h]; rfl, by rw [Lib.cell_of_heap h]; rfl⟩
theorem text_nil : (bs []).toList = [] := by rw [Lib.toList_data]; rfl
theorem text_not {s : T} (h : s ≠ []) : ¬ (bs s).toList = [] ∧ (bs s).toList.isEmpty = false := by
  have h1 : ¬ (bs s).toList = [] := by rw [Lib.toList_data]; exact h
  exact ⟨h1, by rw [List.isEmpty_eq_false_iff]; exact h1⟩

/-- is it of a kind, and has it nothing that its kind has not? -/
def formB (o : Opp) : Bool := decide (1 ≤ o.k ∧ o.k ≤ 6) && !badB o
/-- may what it has be in its block? -/
def fitO (b q : Nat) (o : Opp) : Bool := if o.k = 4 then decide (0 ≤ o.n) else if o.k = 5 then fitsB o.s o.n false else if o.k = 6 then fitsB o.s (o.l.length : Int) true && !farB b q o.l else true
/-- how many it takes, if it is formed -/
def takenZ (o : Opp) : Int := if o.k = 2 then 1 else if o.k = 3 then 3 else o.n
theorem form_n {o : Opp} (h : formB o = true) : (1 ≤ o.k ∧ o.k ≤ 6) ∧ ((o.k ≠ 4 ∧ o.k ≠ 5) → o.n = 0) := by
  unfold formB at h
  rw [Bool.and_eq_true, decide_eq_true_eq] at h
  refine ⟨h.1, fun hk => ?_⟩
  have h2 := h.2
  unfold badB at h2
  rw [Bool.not_eq_true', Bool.or_eq_false_iff, Bool.or_eq_false_iff] at h2
  have h3 := of_decide_eq_false h2.2.1
  omega
theorem tab_mn : tab.all (fun p => decide (1 ≤ p.2.mn)) = true := by kernel_rfl
theorem look_in : ∀ {l : List (T × Inf)} {x : T} {i : Inf}, lookI l x = some i → (x, i) ∈ l
  | (y, j) :: l, x, i, h => by
    rw [lookI] at h
    split at h
    · rename_i e
      cases h
      rw [e]; exact List.mem_cons_self ..
    · exact List.mem_cons_of_mem _ (look_in h)
theorem fits_pos {s : T} {n : Int} {z : Bool} (h : fitsB s n z = true) : 1 ≤ n := by
  unfold fitsB at h
  split at h
  · cases h
  · rename_i i hi
    have := of_decide_eq_true (List.all_eq_true.1 tab_mn _ (look_in hi))
    unfold fitI at h
    rw [Bool.and_eq_true, Bool.and_eq_true, decide_eq_true_eq] at h
    dsimp only at this
    omega
/-- what is not formed, or does not fit, may not be; else it takes so many -/
theorem takes_form {b q : Nat} {o : Opp} (h : formB o = false) : takesP b q o = -1 := by
  unfold formB at h
  rw [Bool.and_eq_false_iff, Bool.not_eq_false', decide_eq_false_iff_not] at h
  unfold takesP
  rcases h with h | h
  · split
    · rfl
    · rw [if_neg (by omega), if_neg (by omega), if_neg (by omega), if_neg (by omega), if_neg (by omega), if_neg (by omega)]
  · rw [if_pos h]
theorem takes_fit {b q : Nat} {o : Opp} (h : formB o = true) : takesP b q o < 0 ↔ fitO b q o = false := by
  obtain ⟨hk, hn⟩ := form_n h
  unfold formB at h
  rw [Bool.and_eq_true, Bool.not_eq_true'] at h
  unfold takesP fitO
  rw [if_neg (by rw [h.2]; decide)]
  by_cases k1 : o.k = 1
  · rw [if_pos k1, if_neg (by omega), if_neg (by omega), if_neg (by omega)]; simp
  rw [if_neg k1]
  by_cases k2 : o.k = 2
  · rw [if_pos k2, if_neg (by omega), if_neg (by omega), if_neg (by omega)]; simp
  rw [if_neg k2]
  by_cases k3 : o.k = 3
  · rw [if_pos k3, if_neg (by omega), if_neg (by omega), if_neg (by omega)]; simp
  rw [if_neg k3]
  by_cases k4 : o.k = 4
  · rw [if_pos k4, if_pos k4, decide_eq_false_iff_not]; omega
  rw [if_neg k4, if_neg k4]
  by_cases k5 : o.k = 5
  · rw [if_pos k5, if_pos k5]
    cases hf : fitsB o.s o.n false
    · rw [if_neg (by decide)]; simp
    · rw [if_pos rfl]
      have := fits_pos hf
      simp; omega
  have k6 : o.k = 6 := by omega
  rw [if_neg k5, if_neg k5, if_pos k6, if_pos k6]
  cases farB b q o.l
  · rw [if_neg (by decide)]
    cases fitsB o.s (o.l.length : Int) true <;> simp
  · rw [if_pos rfl]; simp
theorem takes_taken {b q : Nat} {o : Opp} (h : formB o = true) (hf : fitO b q o = true) : takesP b q o = takenZ o := by
  have h0 : ¬ takesP b q o < 0 := fun h1 => by rw [(takes_fit h).1 h1] at hf; cases hf
  obtain ⟨hk, hn⟩ := form_n h
  unfold takesP at h0 ⊢
  unfold takenZ
  split
  · rename_i hb; rw [if_pos hb] at h0; omega
  rename_i hb
  rw [if_neg hb] at h0
  by_cases k1 : o.k = 1
  · rw [if_pos k1, if_neg (by omega), if_neg (by omega)]; exact (hn (by omega)).symm
  rw [if_neg k1] at h0 ⊢
  by_cases k2 : o.k = 2
  · rw [if_pos k2, if_pos k2]
  rw [if_neg k2] at h0 ⊢
  by_cases k3 : o.k = 3
  · rw [if_pos k3, if_neg k2, if_pos k3]
  rw [if_neg k3] at h0 ⊢
  rw [if_neg k2, if_neg k3]
  by_cases k4 : o.k = 4
  · rw [if_pos k4]
  rw [if_neg k4] at h0 ⊢
  by_cases k5 : o.k = 5
  · rw [if_pos k5] at h0 ⊢
    split
    · rfl
    · rename_i hc; rw [if_neg hc] at h0; omega
  have k6 : o.k = 6 := by omega
  rw [if_neg k5, if_pos k6] at h0 ⊢
  split
  · rename_i hc; rw [if_pos hc] at h0; omega
  · rename_i hc
    rw [if_neg hc] at h0
    split
    · exact (hn (by omega)).symm
    · rename_i hd; rw [if_neg hd] at h0; omega

end Go.Proofs.YtpphkaolonjjdaaDoor.Jkd
