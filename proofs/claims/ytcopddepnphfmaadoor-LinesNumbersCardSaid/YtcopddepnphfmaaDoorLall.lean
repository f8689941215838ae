/- What the program's All answers: a text's logical lines. -/
import Derived.Test.YtcopddepnphfmaaDoorRange
import Derived.Test.YtcopddepnphfmaaDoorLnext
namespace Go.Proofs.YtcopddepnphfmaaDoor.Lall
open Go.RowKit Go.Shelf Go.Proofs.YtcopddepnphfmaaDoor.Pure Go.Proofs.YtcopddepnphfmaaDoor.Ends Go.Proofs.YtcopddepnphfmaaDoor.Ln Go.Proofs.YtcopddepnphfmaaDoor.Lcut Go.Proofs.YtcopddepnphfmaaDoor.Lfn Go.Proofs.YtcopddepnphfmaaDoor.Lraw Go.Proofs.YtcopddepnphfmaaDoor.Ltext Go.Proofs.YtcopddepnphfmaaDoor.Leach Go.Proofs.YtcopddepnphfmaaDoor.Lnext Go.Proofs.YtcopddepnphfmaaDoor.Range

attribute [local go_sem] Oper.semAt_some

theorem pieces_left (n : Nat) : ∀ l : List UInt8, l.length ≤ n → (pieces l).length + (leftL l).length ≤ l.length := by
  induction n with
  | zero =>
    intro l h
    have : l = [] := List.eq_nil_of_length_eq_zero (Nat.le_zero.1 h)
    subst this
    simp [pieces, lines2_nil, upto, leftL]
  | succ n ih =>
    intro l h
    by_cases hl : l = []
    · subst hl; simp [pieces, lines2_nil, upto, leftL]
    · have h1 := rest_length hl
      have hc := pieces_cons hl
      by_cases ho : odd (lineOf l) = true
      · rw [if_pos ho] at hc
        by_cases hr : restOf l = []
        · have hp0 : pieces ([] : List UInt8) = [] := by simp [pieces, lines2_nil, upto]
          rw [hr, hp0] at hc
          rw [leftL_of [] (lineOf l, []) (by rw [hc]; rfl), hc]
          have := List.length_pos_iff.2 hl
          simp; omega
        · have h2 := ih (restOf l) (by omega)
          obtain ⟨P, x, hP⟩ := pieces_last hr
          rw [leftL_of P x hP] at h2
          rw [leftL_of ((lineOf l, restOf l) :: P) x (by rw [hc, hP]; rfl), hc]
          simp at h2 ⊢
          omega
      · rw [if_neg ho] at hc
        rw [leftL_of [] (lineOf l, restOf l) (by rw [hc]; rfl), hc]
        simp; omega

/-- a logical line: its text, its number, is it a recipe's -/
abbrev LL := List UInt8 × Nat × Bool
def llV (x : LL) : Value := .agg #[.string (bs x.1), .int .i64 (x.2.1 : Int), .bool x.2.2]
def llE (x : LL) : Array Value := #[llV x]
/-- what Next answers at a place up to the end -/
def Curr (s : ByteArray) (k : Nat) (n : Nat) (t : List UInt8) (N : Nat) (r : Bool) (a m : Nat) (ok : Bool) : Prop :=
  (k < s.size ∧ t = textL (dropT s k) ∧ N = n ∧ r = isTab (lineOf (dropT s k)) ∧ a = s.size - (leftL (dropT s k)).length ∧ m = n + (pieces (dropT s k)).length ∧ ok = true) ∨ (s.size ≤ k ∧ ok = false)

theorem none_eq : Ending.returned (.tuple #[noneV, .int .i64 0, .int .i64 0, .bool false]) = .returned (.tuple #[.agg #[.string (bs []), .int .i64 ((0 : Nat) : Int), .bool false], .int .i64 ((0 : Nat) : Int), .int .i64 ((0 : Nat) : Int), .bool false]) := rfl
theorem next_any (s : ByteArray) (k n : Nat) (w : World) (hk : k ≤ s.size) (hs : s.size ≤ 1000000) (hn : n ≤ 4000000) :
    Calls Tryd.prog 11 #[.string s, .int .i64 (k : Int), .int .i64 (n : Int)] w fun e W' => ∃ (t : List UInt8) (N : Nat) (r : Bool) (a m : Nat) (ok : Bool),
      e = .returned (.tuple #[.agg #[.string (bs t), .int .i64 (N : Int), .bool r], .int .i64 (a : Int), .int .i64 (m : Int), .bool ok]) ∧ Below w.heap.size w W' ∧ Hid (Curr s k n t N r a m ok) := by
  by_cases h : k < s.size
  · refine (next_is s k (n : Int) w h hs (by omega) (by omega)).mono ?_
    rintro e W' ⟨rfl, hb⟩
    exact ⟨textL (dropT s k), n, isTab (lineOf (dropT s k)), s.size - (leftL (dropT s k)).length, n + (pieces (dropT s k)).length, true, by simp only [lineV, Int.natCast_add], hb, .inl ⟨h, rfl, rfl, rfl, rfl, rfl, rfl⟩⟩
  · refine (next_no s (k : Int) (n : Int) w (.inr (by omega))).mono ?_
    rintro e W' ⟨rfl, hb⟩
    exact ⟨[], 0, false, 0, 0, false, none_eq, hb, .inr ⟨by omega, rfl⟩⟩

theorem dropT_ne {s : ByteArray} {k : Nat} (hk : k < s.size) : dropT s k ≠ [] := by
  intro e
  have := dropT_len s k
  rw [e] at this
  simp at this
  omega
theorem curr_step {s : ByteArray} {k n : Nat} {t : List UInt8} {N : Nat} {r : Bool} {a m : Nat} (h : Curr s k n t N r a m true) :
    allL (dropT s k) n = (t, N, r) :: allL (dropT s a) m ∧ k < a ∧ a ≤ s.size ∧ m + k ≤ n + a := by
  rcases h with ⟨hk, rfl, rfl, rfl, rfl, rfl, _⟩ | ⟨_, h⟩
  · have hne := dropT_ne hk
    obtain ⟨h1, h2⟩ := leftL_suffix hne
    have h3 := dropT_len s k
    have h4 := pieces_left _ (dropT s k) (Nat.le_refl _)
    refine ⟨?_, by omega, by omega, by omega⟩
    rw [allL_cons hne, dropT_of s (h1.trans (dropT_suffix s k))]
  · cases h
theorem curr_end {s : ByteArray} {k n : Nat} {t : List UInt8} {N : Nat} {r : Bool} {a m : Nat} (h : Curr s k n t N r a m false) : allL (dropT s k) n = [] := by
  rcases h with ⟨_, _, _, _, _, _, h⟩ | ⟨h, _⟩
  · cases h
  · have : dropT s k = [] := List.eq_nil_of_length_eq_zero (by rw [dropT_len]; omega)
    rw [this, allL_nil]

theorem set1_same {W : World} {c T k : Nat} {cs : Array Value} (h : W.heap[c]? = some (.cells cs T (0, 0))) (x : Value) :
    (W.setCell ⟨c, k, none⟩ x).heap[c]? = some (.cells (cs.setIfInBounds k x) T (0, 0)) := by
  obtain ⟨hlt, hk⟩ := Array.getElem?_eq_some_iff.1 h
  show (W.heap.modify c _)[c]? = _
  rw [Array.getElem?_eq_getElem (by rw [Array.size_modify]; exact hlt), Array.getElem_modify_self, hk]
  rfl
/-- three cells, all stored -/
theorem set3_same {W : World} {c T : Nat} {a b d : Value} (h : W.heap[c]? = some (.cells #[a, b, d] T (0, 0))) (x y z : Value) :
    (((W.setCell ⟨c, 0, none⟩ x).setCell ⟨c, 1, none⟩ y).setCell ⟨c, 2, none⟩ z).heap[c]? = some (.cells #[x, y, z] T (0, 0)) :=
  set1_same (set1_same (set1_same h x) y) z
theorem out3 {X : List Nat} (W : World) {c : Nat} (h : c ∈ X) (x y z : Value) : Out X W (((W.setCell ⟨c, 0, none⟩ x).setCell ⟨c, 1, none⟩ y).setCell ⟨c, 2, none⟩ z) :=
  ((Out.setCell W (p := ⟨c, 0, none⟩) h x).trans (Out.setCell _ (p := ⟨c, 1, none⟩) h y)).trans (Out.setCell _ (p := ⟨c, 2, none⟩) h z)
def okN : Value → Nat → Nat
  | .bool true, k => k + 1
  | _, _ => 0

set_option maxRecDepth 100000 in
set_option maxHeartbeats 4000000 in
/-- the logical lines, one by one -/
theorem all1_in (n : Nat) (hn : 1 ≤ n) (l Bt : Nat) (s : ByteArray) (hs : s.size ≤ 1000000) (J : List LL → List Nat → World → Prop) (W : World) (hJ : ∀ s X A B, J s X A → Out X A B → J s X B) (hN : ∀ s X A o, J s X A → J s (A.heap.size :: X) (A.alloc o))
    (hY : ∀ pre X x W1, J pre X W1 → pre.length < (allL s.data.toList 1).length → YieldAt Fence.wide (n - 1) Tryd.prog l (llE x) W1 fun e W' => e = .returned (.bool true) ∧ J (pre ++ [x]) X W' ∧ Kp Bt W1 W' ∧ ∀ k ∈ X, W'.heap[k]? = W1.heap[k]?)
    (hBt : Boxed W Bt 9 (.string s)) (h0 : J [] [] W) :
    CallsIn Fence.wide n Tryd.prog 49 #[.func (.yield l) #[] #[], .pointer (some ⟨Bt, 0, none⟩)] W fun e W' => (∃ v, e = .returned v) ∧ ∃ xs X, xs = allL s.data.toList 1 ∧ J xs X W' := by
  have f1 : Fence.wide.fn 49 := trivial
  have f2 : Fence.wide.fn 11 := trivial
  refine callsIn_of_wp Tryd.func49 rfl f1 ?_ rfl
  simp only [Tryd.ntmps49, List.size_toArray, List.length_cons, List.length_nil, Nat.reduceAdd, Nat.reduceSub, Array.replicate_succ, Array.replicate_zero, List.push_toArray, List.append_toArray, List.nil_append, List.cons_append]
  have hc0 := hBt.cell
  have HN0 := Lib.hid (fun W => next_any s 0 1 W (Nat.zero_le _) hs (by omega))
  gi_wp2_with fail
  refine (callsIn_wide.2 (HN0.out _)).mono ?_
  rintro e w1 ⟨t0, N0, r0, a0, m0, ok0, rfl, hb1, hcur⟩
  have HC0 := Lib.hid hcur
  have HB1 : Hid (Boxed w1 Bt 9 (.string s)) := (hb1.block Bt hBt.lt).trans hBt
  have HJ1 := Lib.hid (hJ _ _ _ _ h0 (Out.of_below hb1))
  clear hc0 hcur hb1 HN0
  gi_wp2_with fail
  obtain ⟨W2, hW2⟩ : ∃ W2, W2 = w1.alloc (.cells #[.string (bs t0), .int .i64 (N0 : Int), .bool r0] 26) := ⟨_, rfl⟩
  rw [← hW2]
  obtain ⟨c, hc⟩ : ∃ c, c = w1.heap.size := ⟨_, rfl⟩
  rw [← hc]
  have hL2 : W2.heap[c]? = some (.cells #[.string (bs t0), .int .i64 (N0 : Int), .bool r0] 26 (0, 0)) := by rw [hW2, hc]; exact World.alloc_heap_new w1 _
  have hJ2 : J [] [c] W2 := by rw [hW2, hc]; exact hN _ _ _ _ HJ1.out
  have hB2 : Boxed W2 Bt 9 (.string s) := by rw [hW2]; exact HB1.out.alloc _
  have hne : Bt ≠ c := by have := HB1.out.lt; omega
  clear hW2 hc HJ1 HB1
  gi_loopw [4, 5, 6] (fun va vm vo wr => ∃ (pre : List LL) (k m : Nat) (t : List UInt8) (N : Nat) (r : Bool) (a m' : Nat) (ok : Bool), va = .int .i64 (a : Int) ∧ vm = .int .i64 (m' : Int) ∧ vo = .bool ok ∧ k ≤ s.size ∧ m ≤ k + 1 ∧ Hid (Curr s k m t N r a m' ok) ∧ Hid (allL s.data.toList 1 = pre ++ allL (dropT s k) m) ∧
      Hid (J pre [c] wr) ∧ Hid (Boxed wr Bt 9 (.string s)) ∧ Hid (wr.heap[c]? = some (.cells #[.string (bs t), .int .i64 (N : Int), .bool r] 26 (0, 0))))
    (fun va _ vo _ => okN vo (s.size - (intOf va).toNat))
  case atStart => exact ⟨[], 0, 1, t0, N0, r0, a0, m0, ok0, rfl, rfl, rfl, Nat.zero_le _, Nat.le_refl _, HC0.out, rfl, hJ2, hB2, hL2⟩
  case round =>
    obtain ⟨pre, k, m, t, N, r, a, m', ok, rfl, rfl, rfl, hk, hm, HC, HX, HJ, HB, HL⟩ := hrel
    clear hL2 hJ2 hB2 HC0
    cases ok with
    | false =>
      have HE : Hid (pre = allL s.data.toList 1) := by show _ = _; rw [HX.out, curr_end HC.out, List.append_nil]
      gi_wp2
      refine ⟨fun _ h => (by cases h), ?_⟩
      gi_wp2
      go_end0
      exact ⟨⟨_, rfl⟩, _, _, HE.out, HJ.out⟩
    | true =>
      obtain ⟨h1, h2, h3, h4⟩ := curr_step HC.out
      have HX2 : Hid (allL s.data.toList 1 = pre ++ (t, N, r) :: allL (dropT s a) m') := by show _ = _; rw [HX.out, h1]
      have hm' : m' ≤ a + 1 := by omega
      have hL := HL.out
      have l0 : wr.cell? ⟨c, 0, none⟩ = some (.string (bs t)) := by rw [Lib.cell_of_heap hL]; rfl
      have l1 : wr.cell? ⟨c, 1, none⟩ = some (.int .i64 (N : Int)) := by rw [Lib.cell_of_heap hL]; rfl
      have l2 : wr.cell? ⟨c, 2, none⟩ = some (.bool r) := by rw [Lib.cell_of_heap hL]; rfl
      obtain ⟨fn, tmps, assign, body, hy, hR⟩ := hY pre [c] (t, N, r) wr HJ.out (by rw [HX2.out]; simp)
      unfold llE llV at hy
      dsimp only at hy
      have HN1 := Lib.hid (fun W => next_any s a m' W h3 hs (by omega))
      clear hL h1 h2
      gi_wp2
      refine hR.mono ?_
      rintro e W3 ⟨rfl, hJ3, hb3, hx3⟩
      have HB3 : Hid (Boxed W3 Bt 9 (.string s)) := hb3.trans HB.out
      have HL3 : Hid (W3.heap[c]? = some (.cells #[.string (bs t), .int .i64 (N : Int), .bool r] 26 (0, 0))) := (hx3 c (by simp)).trans HL.out
      have HJ3 := Lib.hid hJ3
      have hc3 := HB3.out.cell
      clear hb3 hx3 hJ3 l0 l1 l2 HB HL HJ hR hy
      gi_wp2_with fail
      refine (callsIn_wide.2 (HN1.out _)).mono ?_
      rintro e W4 ⟨t4, N4, r4, a4, m4, ok4, rfl, hb4, hcur4⟩
      have HC4 := Lib.hid hcur4
      have HB4 : Hid (Boxed W4 Bt 9 (.string s)) := (hb4.block Bt HB3.out.lt).trans HB3.out
      have hL4 := (hb4.block c (Array.getElem?_eq_some_iff.1 HL3.out).1).trans HL3.out
      have HL4 := Lib.hid hL4
      have HJ4 := Lib.hid (hJ _ _ _ _ HJ3.out (Out.of_below hb4))
      have l0 : W4.cell? ⟨c, 0, none⟩ = some (.string (bs t)) := by rw [Lib.cell_of_heap hL4]; rfl
      have l1 : W4.cell? ⟨c, 1, none⟩ = some (.int .i64 (N : Int)) := by rw [Lib.cell_of_heap hL4]; rfl
      have l2 : W4.cell? ⟨c, 2, none⟩ = some (.bool r) := by rw [Lib.cell_of_heap hL4]; rfl
      have g0 : W4.frozen? ⟨c, 0, none⟩ = false := Lib.frozen_of_heap hL4 0
      have g1 : W4.frozen? ⟨c, 1, none⟩ = false := Lib.frozen_of_heap hL4 1
      have g2 : W4.frozen? ⟨c, 2, none⟩ = false := Lib.frozen_of_heap hL4 2
      have HEnd : Hid (Boxed (((W4.setCell ⟨c, 0, none⟩ (.string (bs t4))).setCell ⟨c, 1, none⟩ (.int .i64 (N4 : Int))).setCell ⟨c, 2, none⟩ (.bool r4)) Bt 9 (.string s)) := by
        show _ = _
        rw [Below.heap_setCell _ _ _ _ hne, Below.heap_setCell _ _ _ _ hne, Below.heap_setCell _ _ _ _ hne]; exact HB4.out
      clear hL4 hb4 hcur4 hc3 HB3 HL3 HJ3 HN1
      gi_wp2
      go_roundw
      case rel => exact ⟨pre ++ [(t, N, r)], a, m', t4, N4, r4, a4, m4, ok4, rfl, rfl, rfl, h3, hm', HC4.out, by show _ = _; rw [HX2.out]; simp, hJ _ _ _ _ HJ4.out (out3 W4 (by simp) _ _ _), HEnd.out, set3_same HL4.out _ _ _⟩
      case measure =>
        cases ok4 with
        | false => simp [okN]
        | true =>
          obtain ⟨_, q2, q3, _⟩ := curr_step HC4.out
          simp [okN, intOf]
          omega

theorem lines_stops (n : Nat) (hn : 1 ≤ n) (Bt : Nat) (s : ByteArray) (hs : s.size ≤ 1000000) (w : World) (hBt : Boxed w Bt 9 (.string s)) :
    SeqOwn Fence.wide n Tryd.prog 49 #[.pointer (some ⟨Bt, 0, none⟩)] llE (Kp Bt) (fun xs => xs = allL s.data.toList 1) (allL s.data.toList 1).length w := fun l J W hW hJ hN hY h0 =>
  all1_in n hn l Bt s hs J W hJ hN hY ((hW.block Bt hBt.lt).trans hBt) h0

set_option maxHeartbeats 1000000 in
/-- the iterator is made -/
theorem each_in (n : Nat) (s : ByteArray) (w : World) :
    CallsIn Fence.wide n Tryd.prog 33 #[.string s] w fun e w' => e = .returned (.func (.func 49) #[] #[.pointer (some ⟨w.heap.size, 0, none⟩)]) ∧ w' = w.alloc (.cells #[.string s] 9) := by
  have f1 : Fence.wide.fn 33 := trivial
  refine callsIn_of_wp Tryd.func33 rfl f1 ?_ rfl
  simp only [Tryd.ntmps33, List.size_toArray, List.length_cons, List.length_nil, Nat.reduceAdd, Nat.reduceSub, Array.replicate_succ, Array.replicate_zero, List.push_toArray, List.append_toArray, List.nil_append, List.cons_append]
  gi_wp2
  go_ret
  exact ⟨rfl, rfl⟩

theorem infoLine : (Tryd.prog.info? 26).map (fun i => (i.zero, i.size, i.bytes)) = some (some (.agg #[.string .empty, .int .i64 0, .bool false]), 3, 32) := by kernel_rfl

end Go.Proofs.YtcopddepnphfmaaDoor.Lall
