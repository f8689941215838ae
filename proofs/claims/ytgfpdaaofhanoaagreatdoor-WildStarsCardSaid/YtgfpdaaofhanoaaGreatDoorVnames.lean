/- The program's names and upTo. -/
import Derived.Test.YtgfpdaaofhanoaaGreatDoorPabs
import Derived.Test.YtgfpdaaofhanoaaGreatDoorVmap
namespace Go.Proofs.YtgfpdaaofhanoaaGreatDoor.Vnames
open Go.RowKit Go.Proofs.YtgfpdaaofhanoaaGreatDoor.Pth Go.Proofs.YtgfpdaaofhanoaaGreatDoor.Pabs Go.Proofs.YtgfpdaaofhanoaaGreatDoor.Strs Go.Proofs.YtgfpdaaofhanoaaGreatDoor.Vfs Go.Proofs.YtgfpdaaofhanoaaGreatDoor.Vmap

theorem lits_is (w : World) (l : List ByteArray) : SlIs (w.alloc (.cells (l.map Value.string).toArray 9)) (some ⟨w.heap.size, 0, none⟩) l.length l := by
  refine ⟨Nat.le_refl _, .inr ⟨w.heap.size, 0, rfl, by simp, fun j x hx => ?_⟩⟩
  rw [Nat.zero_add, Lib.cell_of_heap (heap_alloc_new w _)]
  rw [List.getElem?_toArray, List.getElem?_map, hx]
  rfl
theorem alloc_below (w : World) (o : Obj) : Below w.heap.size w (w.alloc o) := (Below.refl _ _).alloc (Nat.le_refl _) _

/-- a whole path's text -/
def absT (p : Wy) : ByteArray := bs (orSlash (flatL p))
theorem absT_cons (x : List UInt8) (r : Wy) : absT (x :: r) = pathB (x :: r) := rfl
theorem absT_ne {p : Wy} (h : p ≠ []) : absT p = pathB p := by
  cases p with
  | nil => exact absurd rfl h
  | cons x r => rfl
theorem cut_one (x : List UInt8) (r : Wy) : (absT (x :: r)).extract 1 (absT (x :: r)).size = bs (x ++ flatL r) := by
  apply eq_of_data
  rw [drop_data]
  rfl
theorem partsB_cut (x : List UInt8) (r : Wy) (h : ∀ y ∈ x :: r, Pth.Good y) : partsB (bs (x ++ flatL r)) = (x :: r).map bs := by
  unfold partsB
  rw [data_bs, split_flat r x (h x List.mem_cons_self).2.2.2 (fun y hy => (h y (List.mem_cons_of_mem _ hy)).2.2.2)]

set_option maxRecDepth 100000 in
set_option maxHeartbeats 1000000 in
theorem names_none (s : ByteArray) (w : World) (hs : s.size ≤ 1) :
    Calls Tryz.prog 42 #[.string s] w fun e W' => e = .returned (.slice none 0 0) ∧ W' = w := by
  go_enter Tryz.func42, Tryz.ntmps42
  go_wp2
  go_ret
  exact ⟨rfl, rfl⟩
set_option maxRecDepth 100000 in
set_option maxHeartbeats 1000000 in
theorem names_some (x : List UInt8) (r : Wy) (w : World) (h : ∀ y ∈ x :: r, Pth.Good y) (hz : (flatL (x :: r)).length ≤ 3000000) :
    Calls Tryz.prog 42 #[.string (absT (x :: r))] w fun e W' => ∃ A, e = .returned (.slice A (x :: r).length (x :: r).length) ∧ SlIs W' A (x :: r).length ((x :: r).map bs) ∧ (x :: r ≠ [] → A = some ⟨w.heap.size, 0, none⟩) ∧ Below w.heap.size w W' := by
  have h2 : 2 ≤ (absT (x :: r)).size := by
    have hx := (h x List.mem_cons_self).1
    show 2 ≤ (flatL (x :: r)).length
    rw [flatL_cons, List.length_cons, List.length_append]
    have : 0 < x.length := List.length_pos_iff.2 hx
    omega
  have hle : (absT (x :: r)).size ≤ 3000000 := hz
  have hc := cut_one x r
  have hsz : (bs (x ++ flatL r)).size ≤ 3000000 := by
    rw [size_bs]
    have : (flatL (x :: r)).length = (x ++ flatL r).length + 1 := by rw [flatL_cons]; rfl
    omega
  have hsp := fun W => split_is (bs (x ++ flatL r)) W (by omega)
  rw [partsB_cut x r h] at hsp
  have HSP := Lib.hid hsp
  clear h hz hsz hsp
  generalize absT (x :: r) = s at *
  generalize bs (x ++ flatL r) = s' at *
  go_enter Tryz.func42, Tryz.ntmps42
  go_wp2_with fail
  refine (HSP.out _).mono ?_
  rintro e w' ⟨rfl, rfl⟩
  go_wp2
  go_ret
  refine ⟨some ⟨w.heap.size, 0, none⟩, by simp, ?_, fun _ => rfl, alloc_below _ _⟩
  have := lits_is w ((x :: r).map bs)
  simp only [List.length_map, List.map_cons, List.length_cons, List.map_map] at this ⊢
  exact this
theorem names_is (p : Wy) (s : ByteArray) (w : World) (hs : s = absT p ∨ (s = ⟨#[]⟩ ∧ p = [])) (h : ∀ y ∈ p, Pth.Good y) (hz : (flatL p).length ≤ 3000000) :
    Calls Tryz.prog 42 #[.string s] w fun e W' => ∃ A, e = .returned (.slice A p.length p.length) ∧ SlIs W' A p.length (p.map bs) ∧ (p ≠ [] → A = some ⟨w.heap.size, 0, none⟩) ∧ Below w.heap.size w W' := by
  cases p with
  | nil =>
    refine (names_none s w ?_).mono ?_
    · rcases hs with rfl | ⟨rfl, _⟩
      · exact Nat.le_refl _
      · exact Nat.zero_le _
    · rintro e W' ⟨rfl, rfl⟩
      exact ⟨none, rfl, ⟨Nat.le_refl _, .inl rfl⟩, fun h0 => absurd rfl h0, Below.refl _ _⟩
  | cons x r =>
    rcases hs with rfl | ⟨_, h0⟩
    · exact names_some x r w h hz
    · cases h0

set_option maxRecDepth 100000 in
set_option maxHeartbeats 1000000 in
theorem upTo_last (p t : ByteArray) (d : Bool) (k : Int) (w : World) (hk : k = p.size) (_ : p.size ≤ 3000003) :
    Calls Tryz.prog 44 #[.agg #[.string p, .bool d, .string t], .int .i64 k] w fun e W' => e = .returned (.agg #[.string p, .bool d, .string t]) ∧ Below w.heap.size w W' := by
  subst hk
  go_enter Tryz.func44, Tryz.ntmps44
  go_wp2
  exact bodyPost_ret (v := .agg #[.string p, .bool d, .string t]) (by simp [results, Tryz.results44, go_sem]) rfl ⟨rfl, ((Below.refl _ _).alloc (Nat.le_refl _) _).alloc (by simp) _⟩
set_option maxRecDepth 100000 in
set_option maxHeartbeats 1000000 in
theorem upTo_way (p t q : ByteArray) (d : Bool) (k : Nat) (w : World) (hk : k < p.size) (_ : p.size ≤ 3000003) (hq : p.extract 0 k = q) :
    Calls Tryz.prog 44 #[.agg #[.string p, .bool d, .string t], .int .i64 k] w fun e W' => e = .returned (.agg #[.string q, .bool true, .string ⟨#[]⟩]) ∧ Below w.heap.size w W' := by
  have hne : ¬ ((k : Int) = p.size) := by omega
  go_enter Tryz.func44, Tryz.ntmps44
  go_wp2
  exact bodyPost_ret (v := .agg #[.string q, .bool true, .string ⟨#[]⟩]) (by simp [results, Tryz.results44, go_sem]) rfl ⟨rfl, ((Below.refl _ _).alloc (Nat.le_refl _) _).alloc (by simp) _⟩

theorem path_cut (a b : Wy) : (pathB (a ++ b)).extract 0 (flatL a).length = pathB a := by
  apply eq_of_data
  rw [take_data]
  show (flatL (a ++ b)).take _ = flatL a
  rw [flatL_app, List.take_left']
  rfl
theorem upTo_is (pt pre r : Wy) (x : List UInt8) (dir : Bool) (text : ByteArray) (w : World) (hpt : pt = pre ++ x :: r) (hz : (flatL pt).length ≤ 3000000) :
    Calls Tryz.prog 44 #[.agg #[.string (pathB pt), .bool dir, .string text], .int .i64 ((flatL (pre ++ [x])).length : Nat)] w fun e W' => e = .returned (.agg #[.string (pathB (pre ++ [x])), .bool (nextE dir text pre x r).dir, .string (nextE dir text pre x r).text]) ∧ Below w.heap.size w W' := by
  have hpt2 : pt = (pre ++ [x]) ++ r := by rw [hpt]; simp
  by_cases hr : r = []
  · subst hr
    rw [List.append_nil] at hpt2
    rw [← hpt2]
    refine (upTo_last (pathB pt) text dir _ w rfl (by show (flatL pt).length ≤ _; omega)).mono ?_
    rintro e W' ⟨rfl, hb⟩
    rw [nextE, if_pos rfl]
    exact ⟨rfl, hb⟩
  · have hlt : (flatL (pre ++ [x])).length < (flatL pt).length := by
      rw [hpt2, flatL_app (pre ++ [x]) r, List.length_append]
      cases r with
      | nil => exact absurd rfl hr
      | cons y s => rw [flatL_cons, List.length_cons]; omega
    refine (upTo_way (pathB pt) text (pathB (pre ++ [x])) dir _ w hlt (by show (flatL pt).length ≤ _; omega) (by rw [hpt2]; exact path_cut _ _)).mono ?_
    rintro e W' ⟨rfl, hb⟩
    rw [nextE, if_neg hr]
    exact ⟨rfl, hb⟩

end Go.Proofs.YtgfpdaaofhanoaaGreatDoor.Vnames
