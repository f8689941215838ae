/- The program's iterator over the physical lines from a place on. -/
import Derived.RangeFuncBox
import Derived.RangeFuncLeaves
import Derived.RangeFuncNested
import Derived.RangeFuncBound
import Derived.RangeFuncCalls
import Derived.Shelf.Abstract
import Derived.OwnWalkIn
import Derived.TacticsInMore
import Derived.LoopNIn
import Derived.LoopIn
import Derived.Maps.AppendAt
import Derived.Deep.Onto
import Derived.Test.YtcopddepnphfmaaDoorLtext
namespace Go.Proofs.YtcopddepnphfmaaDoor.Leach
open Go.RowKit Go.Shelf Go.Proofs.YtcopddepnphfmaaDoor.Pure Go.Proofs.YtcopddepnphfmaaDoor.Ends Go.Proofs.YtcopddepnphfmaaDoor.Ln Go.Proofs.YtcopddepnphfmaaDoor.Lcut Go.Proofs.YtcopddepnphfmaaDoor.Lfn Go.Proofs.YtcopddepnphfmaaDoor.Lraw Go.Proofs.YtcopddepnphfmaaDoor.Ltext

attribute [local go_sem] Oper.semAt_some

theorem prefix_mk {α : Type} {all pre : List α} {x : α} {r : List α} (h : all = pre ++ x :: r) : pre ++ [x] <+: all := ⟨r, by simp [h]⟩
abbrev Ls := List UInt8 × List UInt8
/-- a line, if it may be one of the text -/
def cl (s : ByteArray) (a : List UInt8) : List UInt8 := if a.length ≤ s.size then a else []
theorem cl_of {s : ByteArray} {a : List UInt8} (h : a.length ≤ s.size) : cl s a = a := if_pos h
theorem cl_len (s : ByteArray) (a : List UInt8) : (cl s a).length ≤ s.size := by unfold cl; split; assumption; simp
def encs (s : ByteArray) (x : Ls) : Array Value := #[.string (bs (cl s x.1)), .int .i64 ((s.size - x.2.length : Nat) : Int)]
/-- what a round must leave as it is: the text's box -/
def Kp (b : Nat) (W W' : World) : Prop := W'.heap[b]? = W.heap[b]?
theorem grown_of_below {w W : World} (h : Below w.heap.size w W) : w.grownBy W none := ⟨h.os, h.tape, h.output, h.size, fun k hk _ => h.block k hk⟩
def dropT (s : ByteArray) (k : Nat) : List UInt8 := s.data.toList.drop k
theorem dropT_len (s : ByteArray) (k : Nat) : (dropT s k).length = s.size - k := by unfold dropT; rw [List.length_drop, ← Lib.size_eq]
theorem dropT_of (s : ByteArray) {l : List UInt8} (h : l <:+ s.data.toList) : dropT s (s.size - l.length) = l := by
  unfold dropT; rw [Lib.size_eq]; exact suffix_drop h
theorem dropT_suffix (s : ByteArray) (k : Nat) : dropT s k <:+ s.data.toList := List.drop_suffix _ _

theorem raw_at (s : ByteArray) (k : Nat) (w : World) (hs : s.size ≤ 1099511627776) (hk : k ≤ s.size) :
    Calls Tryd.prog 9 #[.string s, .int .i64 (k : Int)] w fun e W' => e = .returned (.tuple #[.string (bs (lineOf (dropT s k))), .int .i64 ((s.size - (restOf (dropT s k)).length : Nat) : Int)]) ∧ Below w.heap.size w W' := by
  have := raw_is s (k : Int) w hs
  rw [clamp_nat k s.size hk] at this
  exact this

set_option maxRecDepth 100000 in
set_option maxHeartbeats 2000000 in
/-- the lines from a place on, one by one -/
theorem raws1_in (n : Nat) (hn : 1 ≤ n) (l Bf Bt k0 : Nat) (s : ByteArray) (hs : s.size ≤ 1099511627776) (hk0 : k0 ≤ s.size) (J Jx : List Ls → World → Prop) (W : World) (hJ : AbidesFrom W.heap.size J)
    (hY : ∀ pre x W, J pre W → pre.length < (lines2 (dropT s k0)).length → YieldAt Fence.wide (n - 1) Tryd.prog l (encs s x) W fun e W' =>
      (e = .returned (.bool true) ∧ J (pre ++ [x]) W' ∧ Kp Bt W W') ∨ (e = .returned (.bool false) ∧ Jx (pre ++ [x]) W'))
    (hBf : W.cell? ⟨Bf, 0, none⟩ = some (.int .i64 (k0 : Int))) (hBt : Boxed W Bt 9 (.string s)) (h0 : J [] W) :
    CallsIn Fence.wide n Tryd.prog 40 #[.func (.yield l) #[] #[], .pointer (some ⟨Bf, 0, none⟩), .pointer (some ⟨Bt, 0, none⟩)] W fun e W' => (∃ v, e = .returned v) ∧
      ((∃ ys, ys = lines2 (dropT s k0) ∧ J ys W') ∨ (∃ pre, pre <+: lines2 (dropT s k0) ∧ Jx pre W')) := by
  have f1 : Fence.wide.fn 40 := trivial
  have f2 : Fence.wide.fn 9 := trivial
  refine callsIn_of_wp Tryd.func40 rfl f1 ?_ rfl
  simp only [Tryd.ntmps40, List.size_toArray, List.length_cons, List.length_nil, Nat.reduceAdd, Nat.reduceSub, Array.replicate_succ, Array.replicate_zero, List.push_toArray, List.append_toArray, List.nil_append, List.cons_append]
  gi_wp2
  gi_loopw [4] (fun r wr => ∃ (pre : List Ls) (j : Nat), r = .int .i64 (j : Int) ∧ j ≤ s.size ∧ Hid (lines2 (dropT s k0) = pre ++ lines2 (dropT s j)) ∧ Hid (J pre wr) ∧ Hid (Boxed wr Bt 9 (.string s)))
    (fun r _ => s.size - (intOf r).toNat)
  case atStart => exact ⟨[], k0, rfl, hk0, rfl, h0, hBt⟩
  case round =>
    obtain ⟨pre, j, rfl, hj, hx, hJs, hBx⟩ := hrel
    clear hBf h0 hBt
    have hc := hBx.out.cell
    by_cases hlt : j < s.size
    · have hne : dropT s j ≠ [] := by
        intro e
        have := dropT_len s j
        rw [e] at this
        simp at this
        omega
      have hl2 := lines2_cons hne
      have hrl := rest_length hne
      rw [dropT_len] at hrl
      have HX : Hid (lines2 (dropT s k0) = pre ++ (lineOf (dropT s j), restOf (dropT s j)) :: lines2 (dropT s (s.size - (restOf (dropT s j)).length))) := by
        show _ = _
        rw [dropT_of s ((rest_is_suffix _).trans (dropT_suffix s j)), ← hl2]
        exact hx.out
      have HR := Lib.hid (fun W => raw_at s j W hs hj)
      have HY : Hid (∀ W, J pre W → YieldAt Fence.wide (n - 1) Tryd.prog l (encs s (lineOf (dropT s j), restOf (dropT s j))) W fun e W' =>
          (e = .returned (.bool true) ∧ J (pre ++ [(lineOf (dropT s j), restOf (dropT s j))]) W' ∧ Kp Bt W W') ∨ (e = .returned (.bool false) ∧ Jx (pre ++ [(lineOf (dropT s j), restOf (dropT s j))]) W')) :=
        fun W hJp => hY pre _ W hJp (by rw [HX.out]; simp)
      clear hne hl2
      unfold encs at HY
      have hcl : cl s (lineOf (dropT s j)) = lineOf (dropT s j) := cl_of (by have h1 := line_le (dropT s j); have h2 := dropT_len s j; omega)
      dsimp only at HY
      rw [hcl] at HY
      clear hcl
      generalize lineOf (dropT s j) = a at *
      generalize restOf (dropT s j) = r at *
      have hm : s.size - r.length ≤ s.size := Nat.sub_le _ _
      have hgt : j < s.size - r.length := by omega
      obtain ⟨m, hmm⟩ : ∃ m, m = s.size - r.length := ⟨_, rfl⟩
      have HM := Lib.hid hmm
      simp only [← hmm] at HX HR HY hm hgt
      clear hmm hrl
      gi_wp2_with fail
      refine (callsIn_wide.2 (HR.out _)).mono ?_
      rintro e w1 ⟨rfl, hb1⟩
      have HJ1 := Lib.hid (hJ pre wr w1 none hJs.out (grown_of_below hb1) (fun r e => by cases e))
      have HB1 : Hid (Boxed w1 Bt 9 (.string s)) := (hb1.block Bt hBx.out.lt).trans hBx.out
      clear hb1 HR hc hBx hJs
      obtain ⟨fn, tmps, assign, body, hy, hR⟩ := HY.out w1 HJ1.out
      gi_wp2
      refine hR.mono ?_
      rintro e W3 (⟨rfl, hJ3, hk3⟩ | ⟨rfl, hJx3⟩)
      · gi_wp2
        go_roundw
        case rel => exact ⟨pre ++ [(a, r)], m, rfl, hm, by show _ = _; rw [HX.out]; simp, hJ3, hk3.trans HB1.out⟩
        case measure => simp [intOf]; omega
      · gi_wp2
        refine bodyPost_ret (results_none rfl _ _ _) rfl ?_
        exact ⟨⟨_, rfl⟩, .inr ⟨pre ++ [(a, r)], prefix_mk HX.out, hJx3⟩⟩
    · have HX : Hid (lines2 (dropT s k0) = pre) := by
        show _ = _
        have : dropT s j = [] := List.eq_nil_of_length_eq_zero (by rw [dropT_len]; omega)
        rw [hx.out, this, lines2_nil, List.append_nil]
      gi_wp2
      go_end0
      exact ⟨⟨_, rfl⟩, .inl ⟨pre, HX.out.symm, hJs.out⟩⟩

set_option maxHeartbeats 1000000 in
/-- the iterator is made: the text and the place are boxed -/
theorem eachRaw_in (n : Nat) (s : ByteArray) (k : Int) (w : World) :
    CallsIn Fence.wide n Tryd.prog 24 #[.string s, .int .i64 k] w fun e w' => e = .returned (.func (.func 40) #[] #[.pointer (some ⟨w.heap.size + 1, 0, none⟩), .pointer (some ⟨w.heap.size, 0, none⟩)]) ∧ w' = (w.alloc (.cells #[.string s] 9)).alloc (.cells #[.int .i64 k] 3) := by
  have f1 : Fence.wide.fn 24 := trivial
  refine callsIn_of_wp Tryd.func24 rfl f1 ?_ rfl
  simp only [Tryd.ntmps24, List.size_toArray, List.length_cons, List.length_nil, Nat.reduceAdd, Nat.reduceSub, Array.replicate_succ, Array.replicate_zero, List.push_toArray, List.append_toArray, List.nil_append, List.cons_append]
  gi_wp2
  go_ret
  exact ⟨rfl, rfl⟩

/-- what the iterator hands out, whatever is done with it -/
theorem raws_stops (n : Nat) (hn : 1 ≤ n) (Bf Bt k0 : Nat) (s : ByteArray) (hs : s.size ≤ 1099511627776) (hk0 : k0 ≤ s.size) (w : World) (hBf : Bf < w.heap.size) (hcf : w.cell? ⟨Bf, 0, none⟩ = some (.int .i64 (k0 : Int))) (hBt : Boxed w Bt 9 (.string s)) :
    SeqStopsK Fence.wide n Tryd.prog 40 #[.pointer (some ⟨Bf, 0, none⟩), .pointer (some ⟨Bt, 0, none⟩)] (encs s) (Kp Bt) (fun ys => ys = lines2 (dropT s k0)) (fun pre => pre <+: lines2 (dropT s k0)) (lines2 (dropT s k0)).length w := fun l J Jx W hW hJ _ hY h0 =>
  raws1_in n hn l Bf Bt k0 s hs hk0 J Jx W hJ hY ((hW.cell (p := ⟨Bf, 0, none⟩) hBf).trans hcf) ((hW.block Bt hBt.lt).trans hBt) h0

end Go.Proofs.YtcopddepnphfmaaDoor.Leach
