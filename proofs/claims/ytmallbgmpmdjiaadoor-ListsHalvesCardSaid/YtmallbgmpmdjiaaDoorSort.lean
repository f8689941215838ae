/- What the program's Sort answers: cloned, sorted, compacted. -/
import Derived.Sort.OwnSorted
import Derived.Sort.Grow
import Derived.Lib.OwnBridge
import Derived.Test.YtmallbgmpmdjiaaDoorShelf2
import Derived.Test.YtmallbgmpmdjiaaDoorSrt
import Derived.Test.YtmallbgmpmdjiaaDoorStrs
import Derived.Test.YtmallbgmpmdjiaaDoorPat
namespace Go.Proofs.YtmallbgmpmdjiaaDoor.Sort
open Go.RowKit Go.Sort Go.Proofs.YtmallbgmpmdjiaaDoor.Strs Go.Proofs.YtmallbgmpmdjiaaDoor.Srt
open Go.Proofs.YtmallbgmpmdjiaaDoor.Pat (bs)

/-- the library's Clone, of any slice of texts -/
theorem clone_is (A : Option Addr) (n c : Nat) (xs : List ByteArray) (w : World) (hn : xs.length = n) (h : SlIs w A c xs) (hm : n ≤ 1000000) :
    Calls Tryd.prog 23 #[.slice A n c] w fun e w' => ∃ v', e = .returned v' ∧ w'.ownsRow w.heap.size 9 1 v' n (xs.map Value.string) ∧ Below w.heap.size w w' := by
  subst hn
  rcases h.2 with h0 | ⟨b, o, rfl, hlt, hc⟩
  · subst h0
    cases A with
    | none =>
      refine (Tryd.slices_Clone_string_nil 0 c w).mono ?_
      rintro e w' ⟨rfl, rfl⟩
      exact ⟨_, rfl, World.ownsRow_nil _ _ _ _, Below.refl _ _⟩
    | some a =>
      refine (Tryd.slices_Clone_string_zero a c w).mono ?_
      rintro e w' ⟨v', rfl, ho, _, hb⟩
      exact ⟨_, rfl, ho, hb⟩
  · refine (Tryd.slices_Clone_string b o xs.length c xs w (Nat.le_refl _) (by omega) (fun j hj => ?_)).mono ?_
    · rw [hc j xs[j] (List.getElem?_eq_getElem hj), List.getD_eq_getElem?_getD, List.getElem?_eq_getElem hj]; rfl
    · rintro e w' ⟨v', rfl, ho, _, hb⟩
      rw [List.take_length] at ho
      exact ⟨_, rfl, ho, hb⟩

/-- what Sort leaves -/
def Left (w : World) (ss : List T) (e : Ending) (w' : World) : Prop :=
  ∃ v, e = .returned v ∧ w'.ownsRow w.heap.size 9 1 v (sortT ss).length ((sortT ss).map encStr) ∧ Below w.heap.size w w'

theorem left_of {w w1 : World} {g cap nn q : Nat} {os : Array Obj} {ss : List T} (hown : w1.ownsRow w.heap.size 9 1 (.slice (some ⟨g, 0, none⟩) ss.length cap) ss.length (ss.map encStr)) (hbel : Below w.heap.size w w1) (hbg : w.heap.size ≤ g) :
    Left w ss (.returned (.slice (some ⟨g, 0, none⟩) (Lib.compact (ss.mergeSort fun x y => decide (x ≤ y))).length cap))
      (putRow encStr (Sort.ahead (grow (putRow encStr (Sort.ahead w1 nn) g 0 (ss.mergeSort fun x y => decide (x ≤ y)).toArray) os) q) g 0 (Lib.compact (ss.mergeSort fun x y => decide (x ≤ y)) ++ List.replicate (ss.length - (Lib.compact (ss.mergeSort fun x y => decide (x ≤ y))).length) []).toArray) := by
  have hl2 : (ss.mergeSort fun x y => decide (x ≤ y)).length = ss.length := List.length_mergeSort ss
  have hle := Lib.compact_length_le (ss.mergeSort fun x y => decide (x ≤ y))
  rcases hown.2 with ⟨h0, _⟩ | ⟨g', cap', cur, hv, hbase, hb, h1, h2, h3, h4⟩
  · cases h0
  cases hv
  have hs := ownsRow_sorted (n := nn) (os := os) (ts := ss.mergeSort fun x y => decide (x ≤ y)) hl2 hbase hb h1 h2 h3
  have hc := Lib.ownsRow_putRow (q := q) (k := (Lib.compact (ss.mergeSort fun x y => decide (x ≤ y))).length) (ys := Lib.compact (ss.mergeSort fun x y => decide (x ≤ y)) ++ List.replicate (ss.length - (Lib.compact (ss.mergeSort fun x y => decide (x ≤ y))).length) []) hs (by simp; omega) (by omega)
  rw [List.take_left] at hc
  exact ⟨_, rfl, hc, Lib.below_putRow (hbel.grown (grownBy_sorted _) hbel.size (fun j hj => by cases hj; exact hbase)) hbg⟩

theorem left_nil {w w1 : World} (hbel : Below w.heap.size w w1) : Left w [] (.returned (.slice none 0 0)) w1 := by
  have e : sortT [] = [] := (sortT_nil []).2 rfl
  refine ⟨_, rfl, ?_, hbel⟩
  rw [e]
  exact World.ownsRow_nil _ _ _ _

set_option maxHeartbeats 2000000 in
set_option maxRecDepth 100000 in
theorem sort_tail (n : Nat) (arg : Value) (ss : List T) (w : World) (hn : n ≤ 1000000) (hlen : ss.length = n)
    (hclone : Calls Tryd.prog 23 #[arg] w fun e w' => ∃ v', e = .returned v' ∧ w'.ownsRow w.heap.size 9 1 v' n (ss.map encStr) ∧ Below w.heap.size w w') :
    Calls Tryd.prog 10 #[arg] w (Left w ss) := by
  have HLen := Lib.hid hlen
  clear hlen
  go_enter Tryd.func10, Tryd.ntmps10
  go_wp2_with fail
  refine hclone.mono ?_
  rintro e w1 ⟨v1, rfl, hown, hbel⟩
  clear hclone
  by_cases hnn : v1 = .slice none 0 0
  · subst hnn
    have h0 : ss = [] := by
      rcases hown.2 with ⟨_, h0⟩ | ⟨g', cap', cur, hv, _⟩
      · exact List.eq_nil_of_length_eq_zero (by rw [HLen.out]; exact h0)
      · cases hv
    have HB := Lib.hid hbel
    have H0 := Lib.hid h0
    clear hown hbel h0
    go_wp2_with fail
    refine (Tryd.slices_Sort_string_none none 0 _).mono ?_
    rintro e w' ⟨rfl, rfl⟩
    go_wp2_with fail
    refine (Tryd.slices_Compact_string_empty none 0 _).mono ?_
    rintro e w' ⟨rfl, rfl⟩
    go_wp2
    go_ret
    rw [H0.out]
    exact left_nil HB.out
  · obtain ⟨g, cap, rfl, hbg, hgl, hncap, hcm, hl1, hH⟩ := Lib.holds_of_ownsRow hown hnn
    have X := Lib.hid (And.intro hown (And.intro hbel (And.intro hbg hgl)))
    have hsort := Tryd.slices_Sort_string g 0 cap ss w1 hH hgl (by omega)
    rw [hl1] at hsort
    have HH := Lib.hid hH
    clear hown hbel hH hnn
    go_wp2_with fail
    refine hsort.mono ?_
    rintro e w2 ⟨rfl, nn, os, rfl⟩
    have hl2 : (ss.mergeSort fun x y => decide (x ≤ y)).length = n := by rw [List.length_mergeSort]; exact HLen.out
    have hH2 : Holds encStr (grow (putRow encStr (Sort.ahead w1 nn) g 0 (ss.mergeSort fun x y => decide (x ≤ y)).toArray) os) g 0 (ss.mergeSort fun x y => decide (x ≤ y)).toArray :=
      holds_grow encStr _ os g 0 _ (by simpa [putRow, mapBlock, Sort.ahead] using X.out.2.2.2) (holds_putRow encStr _ g 0 _ _ (holds_ahead encStr w1 nn g 0 _ HH.out) (by simp))
    have hcomp := Tryd.slices_Compact_string g 0 cap (ss.mergeSort fun x y => decide (x ≤ y)) _ hH2 (by omega) (by omega)
    rw [hl2] at hcomp
    clear hH2 hsort
    go_wp2_with fail
    refine hcomp.mono ?_
    rintro e w3 ⟨rfl, q, rfl⟩
    go_wp2
    go_ret
    have hE := HLen.out
    subst hE
    exact left_of X.out.1 X.out.2.1 X.out.2.2.1

/-- sorted, each once, as texts -/
def sortB (xs : List ByteArray) : List ByteArray := (sortT (xs.map (·.data.toList))).map bs
theorem sortB_cells (xs : List ByteArray) : (sortT (xs.map (·.data.toList))).map encStr = (sortB xs).map Value.string := by
  rw [sortB, List.map_map]; rfl

/-- the program's Sort -/
theorem sort_is (A : Option Addr) (n c : Nat) (xs : List ByteArray) (w : World) (hn : xs.length = n) (h : SlIs w A c xs) (hm : n ≤ 1000000) :
    Calls Tryd.prog 10 #[.slice A n c] w fun e W' => ∃ A' c', e = .returned (.slice A' (sortB xs).length c') ∧ SlIs W' A' c' (sortB xs) ∧ Below w.heap.size w W' := by
  refine (sort_tail n _ (xs.map (·.data.toList)) w hm (by rw [List.length_map]; exact hn) ((clone_is A n c xs w hn h hm).mono ?_)).mono ?_
  · rintro e w' ⟨v', he, ho, hb⟩
    exact ⟨v', he, by rw [Lib.map_encStr]; exact ho, hb⟩
  · rintro e w' ⟨v, rfl, ho, hb⟩
    rw [sortB_cells] at ho
    obtain ⟨A', c', rfl, hs⟩ := slIs_of_own (xs := sortB xs) (by rw [sortB, List.length_map]) ho
    exact ⟨A', c', by rw [sortB, List.length_map], hs, hb⟩

end Go.Proofs.YtmallbgmpmdjiaaDoor.Sort
