/- What the program's Split answers: a new list that holds the text's words. -/
import Derived.RangeFuncBox
import Derived.RangeFuncLeaves
import Derived.Shelf.Abstract
import Derived.WalkKit
import Derived.OwnWalkIn
import Derived.TacticsInMore
import Derived.LoopNIn
import Derived.LoopIn
import Derived.Maps.AppendAt
import Derived.Lib.Hide
import Derived.Test.YtaadhkfhjcaglaaEnds
namespace Go.Proofs.Ytaadhkfhjcaglaa.Cut
open Go.RowKit Go.Shelf Go.Proofs.Ytaadhkfhjcaglaa.Pure Go.Proofs.Ytaadhkfhjcaglaa.Ends

attribute [local go_sem] Oper.semAt_some

theorem prefix_mk {α : Type} {all pre : List α} {x : α} {r : List α} (h : all = pre ++ x :: r) : pre ++ [x] <+: all := ⟨r, by simp [h]⟩

set_option maxRecDepth 100000 in
set_option maxHeartbeats 2000000 in
/-- the words of a text, one by one -/
theorem each1_in (n : Nat) (hn : 1 ≤ n) (l Bn n₀ : Nat) (s : ByteArray) (hs : s.size ≤ maxLen) (J Jx : List ByteArray → World → Prop)
    (hY : ∀ pre x W, J pre W → pre.length < (wordsB s).length → YieldAt Fence.wide (n - 1) Try.prog l #[.string x] W fun e W' =>
      (e = .returned (.bool true) ∧ J (pre ++ [x]) W' ∧ Below n₀ W W') ∨ (e = .returned (.bool false) ∧ Jx (pre ++ [x]) W'))
    (W : World) (hBn : W.cell? ⟨Bn, 0, none⟩ = some (.string s)) (h0 : J [] W) :
    CallsIn Fence.wide n Try.prog 26 #[.func (.yield l) #[] #[], .pointer (some ⟨Bn, 0, none⟩)] W fun e W' => (∃ v, e = .returned v) ∧
      ((∃ ys, ys = wordsB s ∧ J ys W') ∨ (∃ pre, pre <+: wordsB s ∧ Jx pre W')) := by
  have hs' := hs
  unfold maxLen at hs'
  have f1 : Fence.wide.fn 26 := trivial
  have f2 : Fence.wide.fn 17 := trivial
  have f3 : Fence.wide.fn 27 := trivial
  refine callsIn_of_wp Try.func26 rfl f1 ?_ rfl
  simp only [Try.ntmps26, List.size_toArray, List.length_cons, List.length_nil, Nat.reduceAdd, Nat.reduceSub, Array.replicate_succ, Array.replicate_zero, List.push_toArray, List.append_toArray, List.nil_append, List.cons_append]
  gi_wp2_with (gi_at_call 17; refine (callsIn_wide.2 (left_any _ _ hs)).mono ?_; rintro e w' ⟨rfl, rfl⟩)
  have hz := leftB_size s
  have HE := Lib.hid (wordsB_left s)
  gi_loopw [3] (fun r wr => ∃ (pre : List ByteArray) (t rest : ByteArray), r = .string rest ∧ rest.size ≤ s.size ∧ Hid (rest = leftB t) ∧ Hid (wordsB s = pre ++ wordsB rest) ∧ J pre wr)
    (fun r _ => strLen r)
  case atStart => exact ⟨[], s, leftB s, rfl, hz, rfl, by show _ = _; rw [HE.out]; rfl, h0⟩
  case round =>
    obtain ⟨pre, t, rest, rfl, hsz, ht, hx, hJs⟩ := hrel
    clear hBn h0 HE hz
    rcases Nat.eq_zero_or_pos rest.size with hz | hz
    · have HX : Hid (wordsB s = pre) := by show _ = _; rw [hx.out, wordsB_empty rest hz, List.append_nil]
      have e1 : rest.toList = [] := by rw [Lib.toList_data]; exact List.eq_nil_of_length_eq_zero (by rw [← Lib.size_eq]; exact hz)
      clear hz
      gi_wp2
      go_end0
      exact ⟨⟨_, rfl⟩, .inl ⟨pre, HX.out.symm, hJs⟩⟩
    · obtain ⟨hw1, hw2⟩ := wordsB_head rest t ht.out (by omega)
      have HX : Hid (wordsB s = pre ++ rest.extract 0 (wlen rest) :: wordsB (leftB (rest.extract (wlen rest) rest.size))) := by show _ = _; rw [← hw1]; exact hx.out
      clear hw1
      have e1 : (rest.toList == []) = false := by
        rw [Lib.toList_data]
        have : rest.data.toList.length ≠ 0 := by rw [← Lib.size_eq]; omega
        cases hd : rest.data.toList with
        | nil => rw [hd] at this; exact absurd rfl this
        | cons a b => rfl
      have e2 : rest.toList.isEmpty = false := by
        rw [Lib.toList_data]
        have : rest.data.toList.length ≠ 0 := by rw [← Lib.size_eq]; omega
        cases hd : rest.data.toList with
        | nil => rw [hd] at this; exact absurd rfl this
        | cons a b => rfl
      have hwl := wlen_le rest
      have hm : rest.size ≤ maxLen := Nat.le_trans hsz hs
      have hm2 : (rest.extract (wlen rest) rest.size).size ≤ maxLen := by rw [ByteArray.size_extract]; omega
      have HZ : Hid ((leftB (rest.extract (wlen rest) rest.size)).size ≤ rest.size - wlen rest) := by
        have := leftB_size (rest.extract (wlen rest) rest.size)
        rw [ByteArray.size_extract] at this
        show _ ≤ _
        omega
      obtain ⟨fn, tmps, assign, body, hy, hR⟩ := hY pre (rest.extract 0 (wlen rest)) wr hJs (by rw [HX.out]; simp)
      gi_wp2_with (first | (gi_at_call 27; refine (callsIn_wide.2 (wordEnd_any _ _ hm)).mono ?_; rintro e w' ⟨rfl, rfl⟩) | (gi_at_call 17; refine (callsIn_wide.2 (left_any _ _ hm2)).mono ?_; rintro e w' ⟨rfl, rfl⟩))
      refine hR.mono ?_
      rintro e W3 (⟨rfl, hJ3, hk3⟩ | ⟨rfl, hJx3⟩)
      · gi_wp2_with (first | (gi_at_call 27; refine (callsIn_wide.2 (wordEnd_any _ _ hm)).mono ?_; rintro e w' ⟨rfl, rfl⟩) | (gi_at_call 17; refine (callsIn_wide.2 (left_any _ _ hm2)).mono ?_; rintro e w' ⟨rfl, rfl⟩))
        go_roundw
        case rel => exact ⟨pre ++ [rest.extract 0 (wlen rest)], _, _, rfl, by have := HZ.out; omega, rfl, by show _ = _; rw [HX.out]; simp, hJ3⟩
        case measure => have := HZ.out; simp [strLen]; omega
      · gi_wp2
        refine bodyPost_ret (results_none rfl _ _ _) rfl ?_
        exact ⟨⟨_, rfl⟩, .inr ⟨_, prefix_mk HX.out, hJx3⟩⟩

set_option maxHeartbeats 1000000 in
/-- the iterator is made: the text is boxed -/
theorem each_in (n : Nat) (s : ByteArray) (w : World) :
    CallsIn Fence.wide n Try.prog 21 #[.string s] w fun e w' => e = .returned (.func (.func 26) #[] #[.pointer (some ⟨w.heap.size, 0, none⟩)]) ∧ w' = w.alloc (.cells #[.string s] 9) := by
  have f1 : Fence.wide.fn 21 := trivial
  refine callsIn_of_wp Try.func21 rfl f1 ?_ rfl
  simp only [Try.ntmps21, List.size_toArray, List.length_cons, List.length_nil, Nat.reduceAdd, Nat.reduceSub, Array.replicate_succ, Array.replicate_zero, List.push_toArray, List.append_toArray, List.nil_append, List.cons_append]
  gi_wp2
  go_ret
  exact ⟨rfl, rfl⟩

/-- what the iterator hands out, whatever is done with it -/
theorem each_stops (n : Nat) (hn : 1 ≤ n) (Bn n₀ : Nat) (s : ByteArray) (hs : s.size ≤ maxLen) (w : World) (hBn : Bn < w.heap.size) (hc : w.cell? ⟨Bn, 0, none⟩ = some (.string s)) :
    SeqStopsK Fence.wide n Try.prog 26 #[.pointer (some ⟨Bn, 0, none⟩)] (fun x : ByteArray => #[Value.string x]) (Below n₀) (fun ys => ys = wordsB s) (fun pre => pre <+: wordsB s) (wordsB s).length w := fun l J Jx W hW _ _ hY h0 =>
  each1_in n hn l Bn n₀ s hs J Jx hY W ((hW.cell (p := ⟨Bn, 0, none⟩) hBn).trans hc) h0

theorem infoString : (Try.prog.info? 9).map (fun i => (i.zero, i.size, i.bytes)) = some (some (.string .empty), 1, 16) := by kernel_rfl

set_option maxRecDepth 100000 in
set_option maxHeartbeats 2000000 in
/-- the program's Split -/
theorem split_any (s : ByteArray) (w : World) (hs : s.size ≤ 1099511627776) :
    Calls Try.prog 9 #[.string s] w fun e W' => ∃ v, e = .returned v ∧ W'.ownsRow w.heap.size 9 1 v (wordsB s).length ((wordsB s).map Value.string) ∧ Below w.heap.size w W' := by
  have hs1 : s.size ≤ maxLen := Nat.le_trans hs (by unfold maxLen; omega)
  have hlen := wordsB_length s
  obtain ⟨i0, hi, hz0, hz1, hz2⟩ := info_parts infoString
  refine (callsIn_wide (n := 6)).1 ?_
  have f1 : Fence.wide.fn 9 := trivial
  have f2 : Fence.wide.fn 21 := trivial
  have f3 : Fence.wide.fn 26 := trivial
  refine callsIn_of_wp_marks Try.func9 rfl f1 ?_ rfl
  simp only [Try.ntmps9, List.size_toArray, List.length_cons, List.length_nil, Nat.reduceAdd, Nat.reduceSub, Array.replicate_succ, Array.replicate_zero, List.push_toArray, List.append_toArray, List.nil_append, List.cons_append]
  gi_wp2_with (gi_at_call 21; refine (each_in _ _ _).mono ?_; rintro e w' ⟨rfl, rfl⟩)
  have bO := Boxed.new w 22 (.slice none 0 0)
  have bN := Boxed.new (w.alloc (.cells #[.slice none 0 0] 22)) 9 (.string s)
  rw [World.size_alloc] at bN
  have hB0 : Below w.heap.size w ((w.alloc (.cells #[.slice none 0 0] 22)).alloc (.cells #[.string s] 9)) := ((Below.refl _ w).alloc (Nat.le_refl _) _).alloc (by simp) _
  refine wpIn_rangeFunc_ownG rfl (by omega) (gf := 26) (lb := #[.pointer (some ⟨w.heap.size + 1, 0, none⟩)]) rfl f3 (enters_of Try.func26 (by kernel_rfl) rfl)
    (each_stops _ (by omega) (w.heap.size + 1) w.heap.size s hs1 _ (by simp) bN.cell) belowK_t (belowK_b (by simp; omega)) (Below.refl _ _) (fun _ => rfl)
    (fun pre W => (∃ v, Boxed W w.heap.size 22 v ∧ W.ownsRow w.heap.size 9 1 v pre.length (pre.map Value.string) ∧ True) ∧ Below w.heap.size w W)
    (fun _ _ _ => False)
    (OwnFrom.and (Own.from (holdsRow_own w.heap.size w.heap.size 22 9 1 (fun pre : List ByteArray => pre.length) (fun pre : List ByteArray => pre.map Value.string) (fun _ _ => True)) _) (ownFrom_below (Nat.le_refl _) (by simp; omega)))
    (fun _ _ _ _ _ hs _ _ => hs)
    ⟨⟨_, bO.alloc _, World.ownsRow_nil _ _ _ _, trivial⟩, hB0⟩
    (fun x => { tmps := #[.string s, undef, .slice none 0 0, .pointer (some ⟨w.heap.size, 0, none⟩), .string x, .string s, .func (.func 26) #[] #[.pointer (some ⟨w.heap.size + 1, 0, none⟩)], .string x, undef, undef, undef, undef, undef], defers := [] }) ?assign ?body ?done ?stop
  case assign =>
    intro l x W K hK
    gi_wp2
    exact hK
  case body =>
    rintro l pre x W ⟨⟨v, hv, hrow, _⟩, hB⟩ hlt
    have hc := hv.cell
    gi_wp2_with (gi_at_builtin; refine wpListIn_append_own _ rfl _ _ 22 rfl w.heap.size 9 i0 (.string .empty) 1 16 Try.underlying22 hi hz0 hz1 hz2 rfl (by decide) _ _ _ rfl (hrow.alloc _) ⟨W.heap.size, 0, none⟩ 1 1 [.string x] rfl rfl (cell_one_new _ _ _) (by simp [Value.oneCell']) (by unfold maxLen; omega) (by omega) (by have := hB.size; simp; omega) ?_; intro v' w1 hown' hgrow _; obtain ⟨g', cap', rfl⟩ := ownsRow_succ hown'; obtain ⟨hv1, hv2, hr2, hk2, hb2⟩ := hv.appended (by decide) hrow hB.size (Nat.le_refl _) hown' hgrow; have hc1 := hv1.cell; have hf1 := hv1.frozen)
    exact ⟨hk2.from _, hb2, ⟨_, hv2, by simpa using hr2, trivial⟩, hB.trans hb2⟩
  case done =>
    rintro D ys W hD rfl ⟨⟨v, hv, hrow, _⟩, hB⟩ hK
    have hc := hv.cell
    gi_wp2
    refine ⟨by simp, .inl ⟨_, _, rfl, run_takeDeferred hK, ?_⟩⟩
    exact ⟨_, results_tmp rfl _ _ _, v, rfl, ownsRow_putObj hrow _ hK rfl, hB.trans (belowK_b (w := w) (Nat.le_refl _) W D _ _ (by simp at hD; omega) hK rfl rfl)⟩
  case stop =>
    rintro D c pre W _ _ h _
    exact h.elim

end Go.Proofs.Ytaadhkfhjcaglaa.Cut
