/- The walk of the law SyntaxCalls (written by wip/tools/gencalls.py). -/
import Derived.Test.YtndnialpedocnaaSyntaxPlainWalk
import Derived.Test.YtndnialpedocnaaUdig
import Derived.Test.YtndnialpedocnaaPlace
namespace Go.Proofs.Ytndnialpedocnaa.SyntaxCalls
open Go Go.RowKit Go.Proofs.Ytndnialpedocnaa.Spl Go.Proofs.Ytndnialpedocnaa.Spf Go.Proofs.Ytndnialpedocnaa.Nodm Go.Proofs.Ytndnialpedocnaa.Unod Go.Proofs.Ytndnialpedocnaa.Uargs Go.Proofs.Ytndnialpedocnaa.Uref Go.Proofs.Ytndnialpedocnaa.Urow Go.Proofs.Ytndnialpedocnaa.Uparse Go.Proofs.Ytndnialpedocnaa.Usam Go.Proofs.Ytndnialpedocnaa.Ucalls Go.Proofs.Ytndnialpedocnaa.Udig Go.Proofs.Ytndnialpedocnaa.Place
open Go.Proofs.Ytndnialpedocnaa.Pure (bs)
open Go.Proofs.Ytndnialpedocnaa.SyntaxPlain (add_bs)

set_option maxRecDepth 100000 in
set_option maxHeartbeats 2000000 in
theorem walk_false (a0 a1 : Int) (w : World) (w0 : (Lit.int .i64 a0).wf = true) (w1 : (Lit.int .i64 a1).wf = true) :
    Calls Try.prog 4 #[.int .i64 a0, .int .i64 a1, .bool false] w fun e W' => e = .returned (.bool true) ∧ Below w.heap.size w W' := by
  obtain ⟨p, hp⟩ : ∃ p, p = place a0 8 := ⟨_, rfl⟩
  have hp8 : p < 8 := by rw [hp]; exact place_lt a0 8 (by decide)
  have HPp := Lib.hid (fun W => place_is a0 8 W (by decide) (by decide) w0)
  rw [← hp] at HPp
  obtain ⟨j, hj⟩ : ∃ j, j = place a1 8 := ⟨_, rfl⟩
  have hj8 : j < 8 := by rw [hj]; exact place_lt a1 8 (by decide)
  have HPj := Lib.hid (fun W => place_is a1 8 W (by decide) (by decide) w1)
  rw [← hj] at HPj
  clear hp hj w0 w1
  have hnm := @name_run p hp8
  have hlo := @low_run p hp8
  have hhi := @high_run p hp8
  obtain ⟨hi1, hi99, hlo3, hf10⟩ := hi_pos hp8
  have HCA := Lib.hid (call_facts false hp8 hj8)
  generalize nmF p = f at *
  generalize loF p = lo at *
  generalize hiF p = hi at *
  clear hp8
  go_enter Try.func4, Try.ntmps4
  go_upto_region 2 with (go_at_call 6; refine (HPp.out _).mono ?_; rintro e W' ⟨rfl, rfl⟩)
  go_upto_region 3 with (go_at_call 6; refine (HPp.out _).mono ?_; rintro e W' ⟨rfl, rfl⟩)
  go_upto_region 4 with (go_at_call 6; refine (HPp.out _).mono ?_; rintro e W' ⟨rfl, rfl⟩)
  go_wp2_with (go_at_call 6; refine (HPj.out _).mono ?_; rintro e W' ⟨rfl, rfl⟩)
  clear HPp HPj hnm hlo hhi
  go_loop [11, 12] (fun sv i => ∃ q : Nat, q ≤ j + 1 ∧ sv = .string (bs (argsT false q)) ∧ i = .int .i64 q) (fun _ i => j + 1 - (intOf i).toNat)
  case atStart => exact ⟨0, Nat.zero_le _, rfl, rfl⟩
  case round =>
    obtain ⟨q, hq, rfl, rfl⟩ := hrel
    by_cases hlt : q < j + 1
    · have h1 : (q : Int) < 1 + (j : Int) := by omega
      have HD := Lib.hid (fun W => dig_one q (by omega) W)
      have hal := args_len false q
      by_cases hq0 : 0 < q
      · have hq1 : (0 : Int) < (q : Int) := by omega
        have HE : Hid (argsT false q ++ [44] ++ [40] ++ digT q ++ [44, 120, 41] = argsT false (q + 1)) := args_put false hq0
        have hz : (digT q).length = 1 := rfl
        have hal2 : (argsT false q).length ≤ 48 := by omega
        generalize digT q = d at *
        generalize argsT false q = X at *
        have a1 : ∀ W, (Op.stringOp .add (bs X) ⟨#[44]⟩).run Try.prog W = .ok (.string (bs (X ++ [44]))) W := fun W => add_bs X [44] W (by rw [List.length_append]; show _ + 1 ≤ _; omega)
        have a2 : ∀ W, (Op.stringOp .add (bs (X ++ [44])) ⟨#[40]⟩).run Try.prog W = .ok (.string (bs (X ++ [44] ++ [40]))) W := fun W => add_bs (X ++ [44]) [40] W (by rw [List.length_append, List.length_append]; show _ + 1 + 1 ≤ _; omega)
        have a3 : ∀ W, (Op.stringOp .add (bs (X ++ [44] ++ [40])) (bs d)).run Try.prog W = .ok (.string (bs (X ++ [44] ++ [40] ++ d))) W := fun W => add_bs _ _ W (by rw [List.length_append, List.length_append, List.length_append, hz]; show _ + 1 + 1 + _ ≤ _; omega)
        have a4 : ∀ W, (Op.stringOp .add (bs (X ++ [44] ++ [40] ++ d)) ⟨#[44, 120, 41]⟩).run Try.prog W = .ok (.string (bs (X ++ [44] ++ [40] ++ d ++ [44, 120, 41]))) W := fun W => add_bs _ [44, 120, 41] W (by rw [List.length_append, List.length_append, List.length_append, List.length_append, hz]; show _ + 1 + 1 + _ + 3 ≤ _; omega)
        clear hal hal2 hz hq1
        generalize X ++ [44] ++ [40] ++ d ++ [44, 120, 41] = X4 at *
        generalize X ++ [44] ++ [40] ++ d = X3 at *
        generalize X ++ [44] ++ [40] = X2 at *
        generalize X ++ [44] = X1 at *
        go_wp2_with (go_at_call 9; refine (HD.out _).mono ?_; rintro e W' ⟨rfl, rfl⟩)
        go_round
        case rel => exact ⟨q + 1, by omega, congrArg (fun x => Value.string (bs x)) HE.out, by go_num⟩
        case measure => simp [intOf]; omega
      · have hq1 : ¬ (0 : Int) < (q : Int) := by omega
        have HE : Hid ([40] ++ digT q ++ [44, 120, 41] = argsT false (q + 1)) := args_zero false hq0
        rw [args_none false hq0]
        have hz : (digT q).length = 1 := rfl
        generalize digT q = d at *
        have a2 : ∀ W, (Op.stringOp .add (bs []) ⟨#[40]⟩).run Try.prog W = .ok (.string (bs [40])) W := fun W => add_bs [] [40] W (by decide)
        have a3 : ∀ W, (Op.stringOp .add (bs [40]) (bs d)).run Try.prog W = .ok (.string (bs ([40] ++ d))) W := fun W => add_bs _ _ W (by rw [List.length_append, hz]; decide)
        have a4 : ∀ W, (Op.stringOp .add (bs ([40] ++ d)) ⟨#[44, 120, 41]⟩).run Try.prog W = .ok (.string (bs ([40] ++ d ++ [44, 120, 41]))) W := fun W => add_bs _ [44, 120, 41] W (by rw [List.length_append, List.length_append, hz]; decide)
        clear hal hz hq1
        generalize [40] ++ d ++ [44, 120, 41] = X4 at *
        generalize [40] ++ d = X3 at *
        go_wp2_with (go_at_call 9; refine (HD.out _).mono ?_; rintro e W' ⟨rfl, rfl⟩)
        go_round
        case rel => exact ⟨q + 1, by omega, congrArg (fun x => Value.string (bs x)) HE.out, by go_num⟩
        case measure => simp [intOf]; omega
    · obtain rfl : q = j + 1 := by omega
      have h1 : ¬ ((j + 1 : Nat) : Int) < 1 + (j : Int) := by omega
      have hal := args_len false (j + 1)
      have hcl := call_len false f (j + 1)
      obtain ⟨t, ht⟩ : ∃ t, t = callT false f (j + 1) := ⟨_, rfl⟩
      have hx : t = openT false ++ f ++ [32, 32] ++ argsT false (j + 1) ++ shutT false := ht
      rw [← ht] at HCA hcl
      clear ht
      generalize argsT false (j + 1) = X at *
      have b1 : ∀ W, (Op.stringOp .add ⟨#[36, 40]⟩ (bs f)).run Try.prog W = .ok (.string (bs (openT false ++ f))) W := fun W => add_bs (openT false) f W (by rw [List.length_append]; show 2 + _ ≤ _; omega)
      have b2 : ∀ W, (Op.stringOp .add (bs (openT false ++ f)) ⟨#[32, 32]⟩).run Try.prog W = .ok (.string (bs (openT false ++ f ++ [32, 32]))) W := fun W => add_bs _ [32, 32] W (by rw [List.length_append, List.length_append]; show 2 + _ + 2 ≤ _; omega)
      have b3 : ∀ W, (Op.stringOp .add (bs (openT false ++ f ++ [32, 32])) (bs X)).run Try.prog W = .ok (.string (bs (openT false ++ f ++ [32, 32] ++ X))) W := fun W => add_bs _ _ W (by rw [List.length_append, List.length_append, List.length_append]; show 2 + _ + 2 + _ ≤ _; omega)
      have b4 : ∀ W, (Op.stringOp .add (bs (openT false ++ f ++ [32, 32] ++ X)) ⟨#[41]⟩).run Try.prog W = .ok (.string (bs t)) W := fun W => by rw [hx]; exact add_bs _ (shutT false) W (by rw [← hx]; omega)
      have htl : t.length ≤ 999999 := by omega
      clear hx hcl hal
      generalize openT false ++ f ++ [32, 32] ++ X = Y3 at *
      generalize openT false ++ f ++ [32, 32] = Y2 at *
      generalize openT false ++ f = Y1 at *
      rcases HCA.out with ⟨hb, hk⟩ | ⟨l, hok, hci⟩
      · have hk2 : 1 + (j : Int) < (lo : Int) := by omega
        have H := Lib.hid (fun W => parse_bad t .few 5 hb rfl W htl)
        clear HCA hb hk htl
        go_wp2_with (first | (go_at_call 7; refine (H.out _).mono ?_; rintro e W1 ⟨rfl, hb1⟩; have HB1 := Lib.hid hb1; clear hb1) | (go_at_call 8; refine (awake_is _).mono ?_; rintro e W4 ⟨rfl, hb4⟩; have HB4 := Lib.hid hb4; clear hb4))
        go_ret
        have hb1 := HB1.out
        have hb4 := HB4.out
        have s1 := hb1.size
        exact ⟨rfl, (hb1.alloc s1 (.cells #[.int .i64 0, .string .empty, .slice none 0 0] 25)).trans (hb4.mono (by rw [World.size_alloc]; omega))⟩
      · obtain ⟨c1, c2, ⟨sf, c3⟩, c4⟩ := hci
        have hk2 : ¬ 1 + (j : Int) < (lo : Int) := by omega
        have H := Lib.hid (fun W => parse_ok t _ hok W htl)
        have HC4 := Lib.hid c4
        have HC2 := Lib.hid c2
        clear HCA hok htl c4 c1
        have hmin : min (1 + (j : Int)) (hi : Int) = (l.length : Int) := by omega
        have hl1 : 0 < l.length := by omega
        clear c2
        obtain ⟨m, hm⟩ : ∃ m, m = l.length := ⟨_, rfl⟩
        rw [← hm] at hmin hl1
        have HM := Lib.hid hm
        clear hm
        go_upto_region 23 with (go_at_call 7; refine (H.out _).mono ?_; rintro e W1 ⟨⟨v, rfl, hv⟩, hb1⟩; obtain ⟨A1, cc1, rfl, hn1⟩ := hv.inv; have HB1 := Lib.hid hb1; have HN1 := Lib.hid hn1; clear hv hn1 hb1)
        rw [← HM.out]
        obtain ⟨W2, hW2⟩ : ∃ W2, W1.alloc (.cells #[.int .i64 4, .string (bs f), .slice A1 m cc1] 25) = W2 := ⟨_, rfl⟩
        have hx1 := heap_alloc_new W1 (.cells #[.int .i64 4, .string (bs f), .slice A1 m cc1] 25)
        have hz2 : W2.heap.size = W1.heap.size + 1 := by rw [← hW2]; exact World.size_alloc _ _
        have hb12 : Below W1.heap.size W1 W2 := by rw [← hW2]; exact (Below.refl _ _).alloc (Nat.le_refl _) _
        rw [hW2] at hx1
        first | rw [hW2] | (show Code.wp _ _ _ _ (W1.alloc (.cells #[.int .i64 4, .string (bs f), .slice A1 m cc1] 25)); rw [hW2])
        obtain ⟨d0, d1, d2⟩ := cells_three hx1
        have hn2 : NodesIn (fun _ => True) W2 A1 cc1 l := HN1.out.move (fun b _ hl => ⟨trivial, hb12.block b hl⟩) hb12.size
        have hb2 : Below w.heap.size w W2 := HB1.out.trans (hb12.mono HB1.out.size)
        have hs2 : w.heap.size ≤ W2.heap.size := hb2.size
        have HBf := Lib.hid hb2
        obtain ⟨b, o, A', c', rfl, hbl, _, _, hcell⟩ := hn2.at_ (j := 0) c3
        obtain ⟨e0, e1, e2⟩ := hcell W2 rfl
        rw [Nat.zero_mul, Nat.add_zero] at e0 e1 e2
        clear hcell hb12 hb2 hx1 hW2 H HN1 HB1 hbl c3
        have hq : ((bs f).toList == (bs f).toList) = true := beq_self_eq_true _
        by_cases hkh : j + 1 ≤ hi
        · have hkh2 : 1 + (j : Int) ≤ (hi : Int) := by omega
          clear HC4 HC2 hkh hn2
          go_wp2_with (go_at_call 8; refine (awake_is _).mono ?_; rintro e W4 ⟨rfl, hb4⟩; have HB4 := Lib.hid hb4; clear hb4)
          go_ret
          exact ⟨rfl, HBf.out.trans (HB4.out.mono hs2)⟩
        · have hkh2 : ¬ 1 + (j : Int) ≤ (hi : Int) := by omega
          obtain ⟨sl, c5, hsl⟩ := HC4.out.resolve_left hkh
          obtain ⟨i, rfl⟩ : ∃ i, hi = i + 1 := ⟨hi - 1, by omega⟩
          have him : i < m := by rw [HM.out, HC2.out]; omega
          obtain ⟨b', o', A2, c2', hA', hbl', _, _, hcell'⟩ := hn2.at_ (j := i) c5
          cases hA'
          obtain ⟨f0, f1, f2⟩ := hcell' W2 rfl
          have hls : (bs sl).size = sl.length := Pure.size_bs sl
          have hls5 : (5 : Int) < (sl.length : Int) := by omega
          clear HC4 HC2 hkh hn2 hcell' c5 hsl
          go_wp2_with (go_at_call 8; refine (awake_is _).mono ?_; rintro e W4 ⟨rfl, hb4⟩; have HB4 := Lib.hid hb4; clear hb4)
          go_ret
          exact ⟨rfl, HBf.out.trans (HB4.out.mono hs2)⟩

set_option maxRecDepth 100000 in
set_option maxHeartbeats 2000000 in
theorem walk_true (a0 a1 : Int) (w : World) (w0 : (Lit.int .i64 a0).wf = true) (w1 : (Lit.int .i64 a1).wf = true) :
    Calls Try.prog 4 #[.int .i64 a0, .int .i64 a1, .bool true] w fun e W' => e = .returned (.bool true) ∧ Below w.heap.size w W' := by
  obtain ⟨p, hp⟩ : ∃ p, p = place a0 8 := ⟨_, rfl⟩
  have hp8 : p < 8 := by rw [hp]; exact place_lt a0 8 (by decide)
  have HPp := Lib.hid (fun W => place_is a0 8 W (by decide) (by decide) w0)
  rw [← hp] at HPp
  obtain ⟨j, hj⟩ : ∃ j, j = place a1 8 := ⟨_, rfl⟩
  have hj8 : j < 8 := by rw [hj]; exact place_lt a1 8 (by decide)
  have HPj := Lib.hid (fun W => place_is a1 8 W (by decide) (by decide) w1)
  rw [← hj] at HPj
  clear hp hj w0 w1
  have hnm := @name_run p hp8
  have hlo := @low_run p hp8
  have hhi := @high_run p hp8
  obtain ⟨hi1, hi99, hlo3, hf10⟩ := hi_pos hp8
  have HCA := Lib.hid (call_facts true hp8 hj8)
  generalize nmF p = f at *
  generalize loF p = lo at *
  generalize hiF p = hi at *
  clear hp8
  go_enter Try.func4, Try.ntmps4
  go_upto_region 2 with (go_at_call 6; refine (HPp.out _).mono ?_; rintro e W' ⟨rfl, rfl⟩)
  go_upto_region 3 with (go_at_call 6; refine (HPp.out _).mono ?_; rintro e W' ⟨rfl, rfl⟩)
  go_upto_region 4 with (go_at_call 6; refine (HPp.out _).mono ?_; rintro e W' ⟨rfl, rfl⟩)
  go_wp2_with (go_at_call 6; refine (HPj.out _).mono ?_; rintro e W' ⟨rfl, rfl⟩)
  clear HPp HPj hnm hlo hhi
  go_loop [11, 12] (fun sv i => ∃ q : Nat, q ≤ j + 1 ∧ sv = .string (bs (argsT false q)) ∧ i = .int .i64 q) (fun _ i => j + 1 - (intOf i).toNat)
  case atStart => exact ⟨0, Nat.zero_le _, rfl, rfl⟩
  case round =>
    obtain ⟨q, hq, rfl, rfl⟩ := hrel
    by_cases hlt : q < j + 1
    · have h1 : (q : Int) < 1 + (j : Int) := by omega
      have HD := Lib.hid (fun W => dig_one q (by omega) W)
      have hal := args_len false q
      by_cases hq0 : 0 < q
      · have hq1 : (0 : Int) < (q : Int) := by omega
        have HE : Hid (argsT false q ++ [44] ++ [40] ++ digT q ++ [44, 120, 41] = argsT false (q + 1)) := args_put false hq0
        have hz : (digT q).length = 1 := rfl
        have hal2 : (argsT false q).length ≤ 48 := by omega
        generalize digT q = d at *
        generalize argsT false q = X at *
        have a1 : ∀ W, (Op.stringOp .add (bs X) ⟨#[44]⟩).run Try.prog W = .ok (.string (bs (X ++ [44]))) W := fun W => add_bs X [44] W (by rw [List.length_append]; show _ + 1 ≤ _; omega)
        have a2 : ∀ W, (Op.stringOp .add (bs (X ++ [44])) ⟨#[40]⟩).run Try.prog W = .ok (.string (bs (X ++ [44] ++ [40]))) W := fun W => add_bs (X ++ [44]) [40] W (by rw [List.length_append, List.length_append]; show _ + 1 + 1 ≤ _; omega)
        have a3 : ∀ W, (Op.stringOp .add (bs (X ++ [44] ++ [40])) (bs d)).run Try.prog W = .ok (.string (bs (X ++ [44] ++ [40] ++ d))) W := fun W => add_bs _ _ W (by rw [List.length_append, List.length_append, List.length_append, hz]; show _ + 1 + 1 + _ ≤ _; omega)
        have a4 : ∀ W, (Op.stringOp .add (bs (X ++ [44] ++ [40] ++ d)) ⟨#[44, 120, 41]⟩).run Try.prog W = .ok (.string (bs (X ++ [44] ++ [40] ++ d ++ [44, 120, 41]))) W := fun W => add_bs _ [44, 120, 41] W (by rw [List.length_append, List.length_append, List.length_append, List.length_append, hz]; show _ + 1 + 1 + _ + 3 ≤ _; omega)
        clear hal hal2 hz hq1
        generalize X ++ [44] ++ [40] ++ d ++ [44, 120, 41] = X4 at *
        generalize X ++ [44] ++ [40] ++ d = X3 at *
        generalize X ++ [44] ++ [40] = X2 at *
        generalize X ++ [44] = X1 at *
        go_wp2_with (go_at_call 9; refine (HD.out _).mono ?_; rintro e W' ⟨rfl, rfl⟩)
        go_round
        case rel => exact ⟨q + 1, by omega, congrArg (fun x => Value.string (bs x)) HE.out, by go_num⟩
        case measure => simp [intOf]; omega
      · have hq1 : ¬ (0 : Int) < (q : Int) := by omega
        have HE : Hid ([40] ++ digT q ++ [44, 120, 41] = argsT false (q + 1)) := args_zero false hq0
        rw [args_none false hq0]
        have hz : (digT q).length = 1 := rfl
        generalize digT q = d at *
        have a2 : ∀ W, (Op.stringOp .add (bs []) ⟨#[40]⟩).run Try.prog W = .ok (.string (bs [40])) W := fun W => add_bs [] [40] W (by decide)
        have a3 : ∀ W, (Op.stringOp .add (bs [40]) (bs d)).run Try.prog W = .ok (.string (bs ([40] ++ d))) W := fun W => add_bs _ _ W (by rw [List.length_append, hz]; decide)
        have a4 : ∀ W, (Op.stringOp .add (bs ([40] ++ d)) ⟨#[44, 120, 41]⟩).run Try.prog W = .ok (.string (bs ([40] ++ d ++ [44, 120, 41]))) W := fun W => add_bs _ [44, 120, 41] W (by rw [List.length_append, List.length_append, hz]; decide)
        clear hal hz hq1
        generalize [40] ++ d ++ [44, 120, 41] = X4 at *
        generalize [40] ++ d = X3 at *
        go_wp2_with (go_at_call 9; refine (HD.out _).mono ?_; rintro e W' ⟨rfl, rfl⟩)
        go_round
        case rel => exact ⟨q + 1, by omega, congrArg (fun x => Value.string (bs x)) HE.out, by go_num⟩
        case measure => simp [intOf]; omega
    · obtain rfl : q = j + 1 := by omega
      have h1 : ¬ ((j + 1 : Nat) : Int) < 1 + (j : Int) := by omega
      go_wp2_with fail
      go_loop [11, 13] (fun sv i => ∃ q : Nat, q ≤ j + 1 ∧ sv = .string (bs (argsT true q)) ∧ i = .int .i64 q) (fun _ i => j + 1 - (intOf i).toNat)
      case atStart => exact ⟨0, Nat.zero_le _, rfl, rfl⟩
      case round =>
        obtain ⟨q, hq, rfl, rfl⟩ := hrel
        by_cases hlt : q < j + 1
        · have h1 : (q : Int) < 1 + (j : Int) := by omega
          have HD := Lib.hid (fun W => dig_one q (by omega) W)
          have hal := args_len true q
          by_cases hq0 : 0 < q
          · have hq1 : (0 : Int) < (q : Int) := by omega
            have HE : Hid (argsT true q ++ [44] ++ [123] ++ digT q ++ [44, 120, 125] = argsT true (q + 1)) := args_put true hq0
            have hz : (digT q).length = 1 := rfl
            have hal2 : (argsT true q).length ≤ 48 := by omega
            generalize digT q = d at *
            generalize argsT true q = X at *
            have a1 : ∀ W, (Op.stringOp .add (bs X) ⟨#[44]⟩).run Try.prog W = .ok (.string (bs (X ++ [44]))) W := fun W => add_bs X [44] W (by rw [List.length_append]; show _ + 1 ≤ _; omega)
            have a2 : ∀ W, (Op.stringOp .add (bs (X ++ [44])) ⟨#[123]⟩).run Try.prog W = .ok (.string (bs (X ++ [44] ++ [123]))) W := fun W => add_bs (X ++ [44]) [123] W (by rw [List.length_append, List.length_append]; show _ + 1 + 1 ≤ _; omega)
            have a3 : ∀ W, (Op.stringOp .add (bs (X ++ [44] ++ [123])) (bs d)).run Try.prog W = .ok (.string (bs (X ++ [44] ++ [123] ++ d))) W := fun W => add_bs _ _ W (by rw [List.length_append, List.length_append, List.length_append, hz]; show _ + 1 + 1 + _ ≤ _; omega)
            have a4 : ∀ W, (Op.stringOp .add (bs (X ++ [44] ++ [123] ++ d)) ⟨#[44, 120, 125]⟩).run Try.prog W = .ok (.string (bs (X ++ [44] ++ [123] ++ d ++ [44, 120, 125]))) W := fun W => add_bs _ [44, 120, 125] W (by rw [List.length_append, List.length_append, List.length_append, List.length_append, hz]; show _ + 1 + 1 + _ + 3 ≤ _; omega)
            clear hal hal2 hz hq1
            generalize X ++ [44] ++ [123] ++ d ++ [44, 120, 125] = X4 at *
            generalize X ++ [44] ++ [123] ++ d = X3 at *
            generalize X ++ [44] ++ [123] = X2 at *
            generalize X ++ [44] = X1 at *
            go_wp2_with (go_at_call 9; refine (HD.out _).mono ?_; rintro e W' ⟨rfl, rfl⟩)
            go_round
            case rel => exact ⟨q + 1, by omega, congrArg (fun x => Value.string (bs x)) HE.out, by go_num⟩
            case measure => simp [intOf]; omega
          · have hq1 : ¬ (0 : Int) < (q : Int) := by omega
            have HE : Hid ([123] ++ digT q ++ [44, 120, 125] = argsT true (q + 1)) := args_zero true hq0
            rw [args_none true hq0]
            have hz : (digT q).length = 1 := rfl
            generalize digT q = d at *
            have a2 : ∀ W, (Op.stringOp .add (bs []) ⟨#[123]⟩).run Try.prog W = .ok (.string (bs [123])) W := fun W => add_bs [] [123] W (by decide)
            have a3 : ∀ W, (Op.stringOp .add (bs [123]) (bs d)).run Try.prog W = .ok (.string (bs ([123] ++ d))) W := fun W => add_bs _ _ W (by rw [List.length_append, hz]; decide)
            have a4 : ∀ W, (Op.stringOp .add (bs ([123] ++ d)) ⟨#[44, 120, 125]⟩).run Try.prog W = .ok (.string (bs ([123] ++ d ++ [44, 120, 125]))) W := fun W => add_bs _ [44, 120, 125] W (by rw [List.length_append, List.length_append, hz]; decide)
            clear hal hz hq1
            generalize [123] ++ d ++ [44, 120, 125] = X4 at *
            generalize [123] ++ d = X3 at *
            go_wp2_with (go_at_call 9; refine (HD.out _).mono ?_; rintro e W' ⟨rfl, rfl⟩)
            go_round
            case rel => exact ⟨q + 1, by omega, congrArg (fun x => Value.string (bs x)) HE.out, by go_num⟩
            case measure => simp [intOf]; omega
        · obtain rfl : q = j + 1 := by omega
          have h1 : ¬ ((j + 1 : Nat) : Int) < 1 + (j : Int) := by omega
          have hal := args_len true (j + 1)
          have hcl := call_len true f (j + 1)
          obtain ⟨t, ht⟩ : ∃ t, t = callT true f (j + 1) := ⟨_, rfl⟩
          have hx : t = openT true ++ f ++ [32, 32] ++ argsT true (j + 1) ++ shutT true := ht
          rw [← ht] at HCA hcl
          clear ht
          generalize argsT true (j + 1) = X at *
          have b1 : ∀ W, (Op.stringOp .add ⟨#[36, 123]⟩ (bs f)).run Try.prog W = .ok (.string (bs (openT true ++ f))) W := fun W => add_bs (openT true) f W (by rw [List.length_append]; show 2 + _ ≤ _; omega)
          have b2 : ∀ W, (Op.stringOp .add (bs (openT true ++ f)) ⟨#[32, 32]⟩).run Try.prog W = .ok (.string (bs (openT true ++ f ++ [32, 32]))) W := fun W => add_bs _ [32, 32] W (by rw [List.length_append, List.length_append]; show 2 + _ + 2 ≤ _; omega)
          have b3 : ∀ W, (Op.stringOp .add (bs (openT true ++ f ++ [32, 32])) (bs X)).run Try.prog W = .ok (.string (bs (openT true ++ f ++ [32, 32] ++ X))) W := fun W => add_bs _ _ W (by rw [List.length_append, List.length_append, List.length_append]; show 2 + _ + 2 + _ ≤ _; omega)
          have b4 : ∀ W, (Op.stringOp .add (bs (openT true ++ f ++ [32, 32] ++ X)) ⟨#[125]⟩).run Try.prog W = .ok (.string (bs t)) W := fun W => by rw [hx]; exact add_bs _ (shutT true) W (by rw [← hx]; omega)
          have htl : t.length ≤ 999999 := by omega
          clear hx hcl hal
          generalize openT true ++ f ++ [32, 32] ++ X = Y3 at *
          generalize openT true ++ f ++ [32, 32] = Y2 at *
          generalize openT true ++ f = Y1 at *
          rcases HCA.out with ⟨hb, hk⟩ | ⟨l, hok, hci⟩
          · have hk2 : 1 + (j : Int) < (lo : Int) := by omega
            have H := Lib.hid (fun W => parse_bad t .few 5 hb rfl W htl)
            clear HCA hb hk htl
            go_wp2_with (first | (go_at_call 7; refine (H.out _).mono ?_; rintro e W1 ⟨rfl, hb1⟩; have HB1 := Lib.hid hb1; clear hb1) | (go_at_call 8; refine (awake_is _).mono ?_; rintro e W4 ⟨rfl, hb4⟩; have HB4 := Lib.hid hb4; clear hb4))
            go_ret
            have hb1 := HB1.out
            have hb4 := HB4.out
            have s1 := hb1.size
            exact ⟨rfl, (hb1.alloc s1 (.cells #[.int .i64 0, .string .empty, .slice none 0 0] 25)).trans (hb4.mono (by rw [World.size_alloc]; omega))⟩
          · obtain ⟨c1, c2, ⟨sf, c3⟩, c4⟩ := hci
            have hk2 : ¬ 1 + (j : Int) < (lo : Int) := by omega
            have H := Lib.hid (fun W => parse_ok t _ hok W htl)
            have HC4 := Lib.hid c4
            have HC2 := Lib.hid c2
            clear HCA hok htl c4 c1
            have hmin : min (1 + (j : Int)) (hi : Int) = (l.length : Int) := by omega
            have hl1 : 0 < l.length := by omega
            clear c2
            obtain ⟨m, hm⟩ : ∃ m, m = l.length := ⟨_, rfl⟩
            rw [← hm] at hmin hl1
            have HM := Lib.hid hm
            clear hm
            go_upto_region 23 with (go_at_call 7; refine (H.out _).mono ?_; rintro e W1 ⟨⟨v, rfl, hv⟩, hb1⟩; obtain ⟨A1, cc1, rfl, hn1⟩ := hv.inv; have HB1 := Lib.hid hb1; have HN1 := Lib.hid hn1; clear hv hn1 hb1)
            rw [← HM.out]
            obtain ⟨W2, hW2⟩ : ∃ W2, W1.alloc (.cells #[.int .i64 4, .string (bs f), .slice A1 m cc1] 25) = W2 := ⟨_, rfl⟩
            have hx1 := heap_alloc_new W1 (.cells #[.int .i64 4, .string (bs f), .slice A1 m cc1] 25)
            have hz2 : W2.heap.size = W1.heap.size + 1 := by rw [← hW2]; exact World.size_alloc _ _
            have hb12 : Below W1.heap.size W1 W2 := by rw [← hW2]; exact (Below.refl _ _).alloc (Nat.le_refl _) _
            rw [hW2] at hx1
            first | rw [hW2] | (show Code.wp _ _ _ _ (W1.alloc (.cells #[.int .i64 4, .string (bs f), .slice A1 m cc1] 25)); rw [hW2])
            obtain ⟨d0, d1, d2⟩ := cells_three hx1
            have hn2 : NodesIn (fun _ => True) W2 A1 cc1 l := HN1.out.move (fun b _ hl => ⟨trivial, hb12.block b hl⟩) hb12.size
            have hb2 : Below w.heap.size w W2 := HB1.out.trans (hb12.mono HB1.out.size)
            have hs2 : w.heap.size ≤ W2.heap.size := hb2.size
            have HBf := Lib.hid hb2
            obtain ⟨b, o, A', c', rfl, hbl, _, _, hcell⟩ := hn2.at_ (j := 0) c3
            obtain ⟨e0, e1, e2⟩ := hcell W2 rfl
            rw [Nat.zero_mul, Nat.add_zero] at e0 e1 e2
            clear hcell hb12 hb2 hx1 hW2 H HN1 HB1 hbl c3
            have hq : ((bs f).toList == (bs f).toList) = true := beq_self_eq_true _
            by_cases hkh : j + 1 ≤ hi
            · have hkh2 : 1 + (j : Int) ≤ (hi : Int) := by omega
              clear HC4 HC2 hkh hn2
              go_wp2_with (go_at_call 8; refine (awake_is _).mono ?_; rintro e W4 ⟨rfl, hb4⟩; have HB4 := Lib.hid hb4; clear hb4)
              go_ret
              exact ⟨rfl, HBf.out.trans (HB4.out.mono hs2)⟩
            · have hkh2 : ¬ 1 + (j : Int) ≤ (hi : Int) := by omega
              obtain ⟨sl, c5, hsl⟩ := HC4.out.resolve_left hkh
              obtain ⟨i, rfl⟩ : ∃ i, hi = i + 1 := ⟨hi - 1, by omega⟩
              have him : i < m := by rw [HM.out, HC2.out]; omega
              obtain ⟨b', o', A2, c2', hA', hbl', _, _, hcell'⟩ := hn2.at_ (j := i) c5
              cases hA'
              obtain ⟨f0, f1, f2⟩ := hcell' W2 rfl
              have hls : (bs sl).size = sl.length := Pure.size_bs sl
              have hls5 : (5 : Int) < (sl.length : Int) := by omega
              clear HC4 HC2 hkh hn2 hcell' c5 hsl
              go_wp2_with (go_at_call 8; refine (awake_is _).mono ?_; rintro e W4 ⟨rfl, hb4⟩; have HB4 := Lib.hid hb4; clear hb4)
              go_ret
              exact ⟨rfl, HBf.out.trans (HB4.out.mono hs2)⟩

theorem walk (a0 a1 : Int) (b2 : Bool) (w : World) (w0 : (Lit.int .i64 a0).wf = true) (w1 : (Lit.int .i64 a1).wf = true) :
    Calls Try.prog 4 #[.int .i64 a0, .int .i64 a1, .bool b2] w fun e W' => e = .returned (.bool true) ∧ Below w.heap.size w W' := by
  cases b2
  · exact walk_false a0 a1 w w0 w1
  · exact walk_true a0 a1 w w0 w1

end Go.Proofs.Ytndnialpedocnaa.SyntaxCalls
