/- The document's file system in memory, and its find. -/
import Derived.Deep.DeepCutAuto
import Derived.Laws.OwnMore
import Derived.Test.YtgfpdaaofhanoaaDoorVawake
namespace Go.Proofs.YtgfpdaaofhanoaaDoor.Wfind
open Go.RowKit Go.Proofs.YtgfpdaaofhanoaaDoor.Pth Go.Proofs.YtgfpdaaofhanoaaDoor.Strs Go.Proofs.YtgfpdaaofhanoaaDoor.Vfs Go.Proofs.YtgfpdaaofhanoaaDoor.Vmap Go.Proofs.YtgfpdaaofhanoaaDoor.Vnew Go.Proofs.YtgfpdaaofhanoaaDoor.Vsort Go.Proofs.YtgfpdaaofhanoaaDoor.Vall

def FAt (w : World) (f : Nat) (R : List Raw) : Prop := f < w.heap.size ∧ ∃ A c, w.cell? ⟨f, 0, none⟩ = some (.slice A R.length c) ∧ EnIs w A c R
theorem FAt.below {w w' : World} {f : Nat} {R : List Raw} (h : FAt w f R) (hb : Below w.heap.size w w') : FAt w' f R := by
  obtain ⟨h1, A, c, h2, h3⟩ := h
  exact ⟨Nat.lt_of_lt_of_le h1 hb.size, A, c, (hb.cell (p := ⟨f, 0, none⟩) h1).trans h2, h3.below hb⟩

def ix (R : List Raw) (t : ByteArray) : Int := match R.findIdx? (fun x => decide (x.path = t)) with
  | some i => (i : Int)
  | none => -1
theorem ix_at {R : List Raw} {t : ByteArray} {k : Nat} {x : Raw} (hx : R[k]? = some x) (hp : x.path = t) (hn : ∀ j, j < k → ∀ y, R[j]? = some y → y.path ≠ t) : ix R t = k := by
  obtain ⟨hk, rfl⟩ := List.getElem?_eq_some_iff.1 hx
  have e : R.findIdx? (fun x => decide (x.path = t)) = some k := by
    rw [List.findIdx?_eq_some_iff_getElem]
    refine ⟨hk, by simpa using hp, fun j hj => ?_⟩
    have := hn j hj _ (List.getElem?_eq_getElem (by omega))
    simpa using this
  unfold ix
  rw [e]
theorem ix_none {R : List Raw} {t : ByteArray} (hn : ∀ x ∈ R, x.path ≠ t) : ix R t = -1 := by
  have e : R.findIdx? (fun x => decide (x.path = t)) = none := by
    rw [List.findIdx?_eq_none_iff]
    intro x hx
    simpa using hn x hx
  unfold ix
  rw [e]
theorem bool_arr (a b : ByteArray) : (a.toList == b.toList) = decide (a = b) := by
  rw [Lib.toList_data, Lib.toList_data]
  by_cases h : a = b
  · subst h; simp
  · rw [decide_eq_false h, beq_eq_false_iff_ne]
    intro e
    exact h (by cases a; cases b; simp at e; rw [e])

theorem ret_i {a b : Int} (h : a = b) : Ending.returned (.int .i64 a) = .returned (.int .i64 b) := by rw [h]

set_option maxRecDepth 100000 in
set_option maxHeartbeats 2000000 in
/-- the document's find -/
theorem find_is (f : Nat) (R : List Raw) (t : ByteArray) (w : World) (h : FAt w f R) (hm : R.length ≤ 1000000000) :
    Calls Tryd.prog 24 #[.pointer (some ⟨f, 0, none⟩), .string t] w fun e W' => e = .returned (.int .i64 (ix R t)) ∧ w = W' := by
  obtain ⟨hf, A, c, hc, hE⟩ := h
  obtain ⟨n, hn⟩ : ∃ n, n = R.length := ⟨_, rfl⟩
  have HN := Lib.hid hn
  have HE := Lib.hid hE
  rw [← hn] at hc hm
  clear hn hE
  go_enter Tryd.func24, Tryd.ntmps24
  go_wp2
  go_loopw [5] (fun i wr => ∃ k : Nat, k ≤ n ∧ i = .int .i64 k ∧ Hid (∀ j, j < k → ∀ y, R[j]? = some y → y.path ≠ t) ∧ w = wr) (fun i _ => n - (intOf i).toNat)
  case atStart => exact ⟨0, Nat.zero_le _, rfl, fun j hj => absurd hj (Nat.not_lt_zero _), rfl⟩
  case round =>
    obtain ⟨k, hk, rfl, HJ, rfl⟩ := hrel
    by_cases hlt : k < n
    · have hl : k < R.length := by have := HN.out; omega
      have hx : R[k]? = some R[k] := List.getElem?_eq_getElem hl
      obtain ⟨b, o, rfl, hb, hcc⟩ := HE.out.at_ hx
      obtain ⟨c1, _, _⟩ := hcc w (Below.refl _ _)
      have hbe := bool_arr R[k].path t
      by_cases ht : R[k].path = t
      · have HX := Lib.hid (ix_at hx ht HJ.out)
        rw [decide_eq_true ht] at hbe
        clear hx hcc ht
        generalize R[k].path = p at *
        go_wp2
        go_ret
        exact ⟨ret_i HX.out.symm, rfl⟩
      · have HX : Hid (∀ j, j < k + 1 → ∀ y, R[j]? = some y → y.path ≠ t) := fun j hj y hy => by
          by_cases h1 : j < k
          · exact HJ.out j h1 y hy
          · obtain rfl : j = k := by omega
            rw [hx] at hy
            rw [← Option.some.inj hy]
            exact ht
        rw [decide_eq_false ht] at hbe
        clear hx hcc ht HJ
        generalize R[k].path = p at *
        go_wp2
        go_roundw
        case rel => exact ⟨k + 1, by omega, by go_num, HX, trivial⟩
        case measure => simp [intOf]; omega
    · have HX : Hid (ix R t = -1) := ix_none (fun x hx => by
        obtain ⟨j, hj⟩ := List.mem_iff_getElem?.1 hx
        have := (List.getElem?_eq_some_iff.1 hj).1
        exact HJ.out j (by have := HN.out; omega) x hj)
      clear HJ
      go_wp2
      go_ret
      exact ⟨ret_i HX.out.symm, rfl⟩

end Go.Proofs.YtgfpdaaofhanoaaDoor.Wfind
