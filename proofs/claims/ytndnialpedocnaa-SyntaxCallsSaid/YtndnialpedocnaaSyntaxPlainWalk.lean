/- The walk of the law SyntaxPlain. -/
import Derived.Laws.Concat
import Derived.Deep.DeepCutAuto
import Derived.Test.YtndnialpedocnaaUsam
namespace Go.Proofs.Ytndnialpedocnaa.SyntaxPlain
open Go Go.RowKit Go.Proofs.Ytndnialpedocnaa.Spl Go.Proofs.Ytndnialpedocnaa.Nodm Go.Proofs.Ytndnialpedocnaa.Unod Go.Proofs.Ytndnialpedocnaa.Uall Go.Proofs.Ytndnialpedocnaa.Uref Go.Proofs.Ytndnialpedocnaa.Uparse Go.Proofs.Ytndnialpedocnaa.Usiz Go.Proofs.Ytndnialpedocnaa.Usam
open Go.Proofs.Ytndnialpedocnaa.Pure (bs)

theorem bs_app (a b : T) : bs a ++ bs b = bs (a ++ b) := Pure.ext_data (by rw [ByteArray.data_append, Array.toList_append]; rfl)
theorem add_bs (a b : T) (W : World) (h : (a ++ b).length ≤ 100000) : (Op.stringOp .add (bs a) (bs b)).run Try.prog W = .ok (.string (bs (a ++ b))) W := by
  rw [← bs_app]
  rw [List.length_append] at h
  exact run_string_add_sum W _ _ (by rw [Pure.size_bs, Pure.size_bs]; omega)
theorem one_byte (s : T) (k : Nat) (hk : k < s.length) : (bs s).extract k (k + 1) = bs [s[k]] := Pure.ext_data (by
  have h := Lib.extract_toList (bs s) k (k + 1)
  rw [Lib.toList_data] at h
  rw [h]
  show (s.drop k).take (k + 1 - k) = [s[k]]
  rw [List.drop_eq_getElem_cons hk, Nat.add_sub_cancel_left]
  rfl)
theorem twice_snoc (a : T) (x : UInt8) : Spf.twice (a ++ [x]) = Spf.twice a ++ (if x = 36 then [36, 36] else [x]) := by
  unfold Spf.twice
  rw [List.flatMap_append]
  simp
theorem twice_len (a : T) : (Spf.twice a).length ≤ 2 * a.length := by
  induction a with
  | nil => exact Nat.le_refl _
  | cons b r ih =>
    rw [Spf.twice_cons, List.length_append, List.length_cons]
    split
    · show 2 + _ ≤ _; omega
    · show 1 + _ ≤ _; omega
theorem size_leaf (k : Nat) (s : T) (A : Option Addr) (c : Nat) (w : World) :
    Calls Try.prog 10 #[.agg #[.int .i64 (k : Int), .string (bs s), .slice A 0 c]] w fun e W' => e = .returned (.int .i64 1) ∧ Below w.heap.size w W' :=
  size_flat k s A c [] (fun _ => True) w ⟨Nat.zero_le _, fun _ => .nilFunc, .inl rfl, fun j n h => by cases h⟩ (fun n h => by cases h) (Nat.zero_le _)
/-- whatever text: three cells and a number -/
theorem parse_any (s : T) (w : World) (hs : s.length ≤ 999999) :
    Calls Try.prog 7 #[.string (bs s)] w fun e W' => (∃ (k : Nat) (t : T) (A : Option Addr) (m c n : Nat), e = .returned (.tuple #[.agg #[.int .i64 (k : Int), .string (bs t), .slice A m c], .int .i64 (n : Int)])) ∧ Below w.heap.size w W' := by
  refine (parse_is s w hs).mono fun e W' ⟨h1, h2⟩ => ⟨?_, h2⟩
  cases hp : parse s with
  | bad x => rw [hp] at h1; exact ⟨0, [], none, 0, 0, _, h1⟩
  | ok n =>
    rw [hp] at h1
    obtain ⟨v, rfl, hv⟩ := h1
    obtain ⟨k, t, l⟩ := n
    obtain ⟨A, c, rfl, _⟩ := hv.inv
    exact ⟨k, t, A, _, c, 0, rfl⟩

set_option maxRecDepth 100000 in
set_option maxHeartbeats 2000000 in
theorem walk (s0 : ByteArray) (w : World) (hs0 : s0.size ≤ maxLen) :
    Calls Try.prog 5 #[.string s0] w fun e W' => e = .returned (.bool true) ∧ Below w.heap.size w W' := by
  obtain ⟨l, rfl⟩ : ∃ l, s0 = bs l := ⟨s0.data.toList, (Pure.bs_self _).symm⟩
  have hsz : (bs l).size = l.length := Pure.size_bs l
  by_cases h500 : 500 < l.length
  · have h1 : (500 : Int) < (l.length : Int) := by omega
    unfold maxLen at hs0
    go_enter Try.func5, Try.ntmps5
    go_wp2_with (go_at_call 8; refine (awake_is _).mono ?_; rintro e W2 ⟨rfl, hb2⟩; have HB2 := Lib.hid hb2; clear hb2)
    go_ret
    exact ⟨rfl, HB2.out⟩
  · have h1 : ¬ (500 : Int) < (l.length : Int) := by omega
    have hl : l.length ≤ 500 := by omega
    clear h500 hs0
    go_enter Try.func5, Try.ntmps5
    go_wp2_with fail
    go_loop [3, 4, 5] (fun tv dv i => ∃ k : Nat, k ≤ l.length ∧ tv = .string (bs (Spf.twice (l.take k))) ∧ dv = .bool (decide (36 ∈ l.take k)) ∧ i = .int .i64 k) (fun _ _ i => l.length - (intOf i).toNat)
    case atStart => exact ⟨0, Nat.zero_le _, rfl, rfl, rfl⟩
    case round =>
      obtain ⟨k, hk, rfl, rfl, rfl⟩ := hrel
      by_cases hlt : k < l.length
      · have hb : ((((bs l)[k]'(by rw [hsz]; exact hlt)).toNat : Nat) : Int) = (((l[k]).toNat : Nat) : Int) := rfl
        have hone := one_byte l k hlt
        have htl := twice_len (l.take k)
        have htk : (l.take k).length ≤ 500 := by rw [List.length_take]; omega
        have hsn := twice_snoc (l.take k) l[k]
        rw [← List.take_succ_eq_append_getElem hlt] at hsn
        by_cases h36 : l[k] = 36
        · rw [if_pos h36] at hsn
          have hmem : decide (36 ∈ l.take (k + 1)) = true := decide_eq_true (by
            rw [List.take_succ_eq_append_getElem hlt, ← h36]
            exact List.mem_append_right _ (List.mem_singleton.2 rfl))
          have HS := Lib.hid hsn
          have HM := Lib.hid hmem
          rw [h36] at hb hone
          have a1 : ∀ W, (Op.stringOp .add (bs (Spf.twice (l.take k))) ⟨#[36]⟩).run Try.prog W = .ok (.string (bs (Spf.twice (l.take k) ++ [36]))) W := fun W => add_bs _ [36] W (by rw [List.length_append, List.length_singleton]; omega)
          have a2 : ∀ W, (Op.stringOp .add (bs (Spf.twice (l.take k) ++ [36])) (bs [36])).run Try.prog W = .ok (.string (bs (Spf.twice (l.take k) ++ [36] ++ [36]))) W := fun W => add_bs _ [36] W (by rw [List.length_append, List.length_append, List.length_singleton]; omega)
          have e1 : (((36 : UInt8).toNat : Nat) : Int) = 36 := rfl
          rw [e1] at hb
          clear hsn hmem h36 e1
          go_wp2_with fail
          go_round
          case rel => exact ⟨k + 1, by omega, by rw [HS.out], by rw [HM.out], by go_num⟩
          case measure => simp [intOf]; omega
        · rw [if_neg h36] at hsn
          have hmem : decide (36 ∈ l.take (k + 1)) = decide (36 ∈ l.take k) := by
            rw [List.take_succ_eq_append_getElem hlt]
            refine decide_eq_decide.2 ⟨fun h => ?_, fun h => List.mem_append_left _ h⟩
            rcases List.mem_append.1 h with h | h
            · exact h
            · exact absurd (List.mem_singleton.1 h).symm h36
          have HS := Lib.hid hsn
          have HM := Lib.hid hmem
          have e1 := Uout.u8_eq l[k] 36
          rw [decide_eq_false h36, show (((36 : UInt8).toNat : Nat) : Int) = 36 from rfl] at e1
          have n1 : ¬ ((l[k].toNat : Nat) : Int) = 36 := by simpa using e1
          have a2 : ∀ W, (Op.stringOp .add (bs (Spf.twice (l.take k))) (bs [l[k]])).run Try.prog W = .ok (.string (bs (Spf.twice (l.take k) ++ [l[k]]))) W := fun W => add_bs _ _ W (by rw [List.length_append, List.length_singleton]; omega)
          clear hsn hmem h36
          generalize hx : l[k] = x at *
          go_wp2_with fail
          go_round
          case rel => exact ⟨k + 1, by omega, by rw [HS.out], by rw [HM.out], by go_num⟩
          case measure => simp [intOf]; omega
      · obtain rfl : k = l.length := by omega
        rw [List.take_of_length_le (Nat.le_refl _)]
        have htl := twice_len l
        have HP1 := Lib.hid (fun W => parse_ok (Spf.twice l) _ (Spf.parse_twice l) W (by omega))
        have hq : ((bs l).toList == (bs l).toList) = true := beq_self_eq_true _
        generalize Spf.twice l = t at *
        by_cases hd : 36 ∈ l
        · have hdd : decide (36 ∈ l) = true := decide_eq_true hd
          rw [hdd]
          have HP2 := Lib.hid (fun W => parse_any l W (by omega))
          clear hd hdd
          go_upto_region 11 with (go_at_call 7; refine (HP1.out _).mono ?_; rintro e W1 ⟨⟨v, rfl, hv⟩, hb1⟩; obtain ⟨A1, c1, rfl, hn1⟩ := hv.inv; have HB1 := Lib.hid hb1; clear hv hn1 hb1)
          have hx1 := heap_alloc_new W1 (.cells #[.int .i64 1, .string (bs l), .slice A1 0 c1] 25)
          have hz1 : (W1.alloc (.cells #[.int .i64 1, .string (bs l), .slice A1 0 c1] 25)).heap.size = W1.heap.size + 1 := World.size_alloc _ _
          have hba := (Below.refl W1.heap.size W1).alloc (Nat.le_refl _) (.cells #[.int .i64 1, .string (bs l), .slice A1 0 c1] 25)
          obtain ⟨W2, hW2⟩ : ∃ W2, W1.alloc (.cells #[.int .i64 1, .string (bs l), .slice A1 0 c1] 25) = W2 := ⟨_, rfl⟩
          rw [hW2] at hx1 hz1 hba
          first | rw [hW2] | (show Code.wp _ _ _ _ (W1.alloc (.cells #[.int .i64 1, .string (bs l), .slice A1 0 c1] 25)); rw [hW2])
          have HX1 := Lib.hid hx1
          have HBa := Lib.hid hba
          clear hW2 hx1 hba HP1
          go_upto_region 12 with (go_at_call 7; refine (HP2.out _).mono ?_; rintro e W3 ⟨⟨k3, t3, A3, m3, c3, n3, rfl⟩, hb3⟩; have HB3 := Lib.hid hb3; clear hb3)
          obtain ⟨W4, hW4⟩ : ∃ W4, W3.alloc (.cells #[.int .i64 (k3 : Int), .string (bs t3), .slice A3 m3 c3] 25) = W4 := ⟨_, rfl⟩
          rw [hW4]
          have hb3 := HB3.out
          have s1 := HB1.out.size
          have s3 := hb3.size
          have hb4 : Below W1.heap.size W1 W4 := by
            rw [← hW4]
            exact (HBa.out.trans (hb3.mono (by omega))).alloc (by omega) _
          have hx4 : W4.heap[W1.heap.size]? = some (.cells #[.int .i64 1, .string (bs l), .slice A1 0 c1] 25) := by
            rw [← hW4, Lib.alloc_old W3 _ _ (by omega)]
            exact (hb3.block _ (by omega)).trans HX1.out
          obtain ⟨d0, d1, d2⟩ := cells_three hx4
          have hbf := HB1.out.trans (hb4.mono s1)
          have hs4 := hbf.size
          have HBf := Lib.hid hbf
          have HSz := Lib.hid (size_leaf 1 l A1 c1 W4)
          clear hb3 hb4 hx4 hW4 hbf HP2
          go_wp2_with (first | (go_at_call 10; refine HSz.out.mono ?_; rintro e W5 ⟨rfl, hb5⟩; have HB5 := Lib.hid hb5; clear hb5) | (go_at_call 8; refine (awake_is _).mono ?_; rintro e W6 ⟨rfl, hb6⟩; have HB6 := Lib.hid hb6; clear hb6))
          go_ret
          have hb5 := HBf.out.trans (HB5.out.mono hs4)
          exact ⟨rfl, hb5.trans (HB6.out.mono hb5.size)⟩
        · have hdd : decide (36 ∈ l) = false := decide_eq_false hd
          rw [hdd]
          have HP2 := Lib.hid (fun W => parse_ok l _ (Spf.parse_plain l hd) W (by omega))
          clear hd hdd
          go_upto_region 11 with (go_at_call 7; refine (HP1.out _).mono ?_; rintro e W1 ⟨⟨v, rfl, hv⟩, hb1⟩; obtain ⟨A1, c1, rfl, hn1⟩ := hv.inv; have HB1 := Lib.hid hb1; clear hv hn1 hb1)
          have hx1 := heap_alloc_new W1 (.cells #[.int .i64 1, .string (bs l), .slice A1 0 c1] 25)
          have hz1 : (W1.alloc (.cells #[.int .i64 1, .string (bs l), .slice A1 0 c1] 25)).heap.size = W1.heap.size + 1 := World.size_alloc _ _
          have hba := (Below.refl W1.heap.size W1).alloc (Nat.le_refl _) (.cells #[.int .i64 1, .string (bs l), .slice A1 0 c1] 25)
          obtain ⟨W2, hW2⟩ : ∃ W2, W1.alloc (.cells #[.int .i64 1, .string (bs l), .slice A1 0 c1] 25) = W2 := ⟨_, rfl⟩
          rw [hW2] at hx1 hz1 hba
          first | rw [hW2] | (show Code.wp _ _ _ _ (W1.alloc (.cells #[.int .i64 1, .string (bs l), .slice A1 0 c1] 25)); rw [hW2])
          have HX1 := Lib.hid hx1
          have HBa := Lib.hid hba
          clear hW2 hx1 hba HP1
          go_upto_region 12 with (go_at_call 7; refine (HP2.out _).mono ?_; rintro e W3 ⟨⟨v3, rfl, hv3⟩, hb3⟩; obtain ⟨A3, c3, rfl, hn3⟩ := hv3.inv; have HB3 := Lib.hid hb3; clear hb3 hv3 hn3)
          obtain ⟨W4, hW4⟩ : ∃ W4, W3.alloc (.cells #[.int .i64 1, .string (bs l), .slice A3 0 c3] 25) = W4 := ⟨_, rfl⟩
          first | rw [hW4] | (show Code.wp _ _ _ _ (W3.alloc (.cells #[.int .i64 1, .string (bs l), .slice A3 0 c3] 25)); rw [hW4])
          have hb3 := HB3.out
          have s1 := HB1.out.size
          have s3 := hb3.size
          have hz4 : W4.heap.size = W3.heap.size + 1 := by rw [← hW4, World.size_alloc]
          have hb4 : Below W1.heap.size W1 W4 := by
            rw [← hW4]
            exact (HBa.out.trans (hb3.mono (by omega))).alloc (by omega) _
          have hx4 : W4.heap[W1.heap.size]? = some (.cells #[.int .i64 1, .string (bs l), .slice A1 0 c1] 25) := by
            rw [← hW4, Lib.alloc_old W3 _ _ (by omega)]
            exact (hb3.block _ (by omega)).trans HX1.out
          have hy4 : W4.heap[W3.heap.size]? = some (.cells #[.int .i64 1, .string (bs l), .slice A3 0 c3] 25) := by
            rw [← hW4]; exact heap_alloc_new W3 _
          obtain ⟨d0, d1, d2⟩ := cells_three hx4
          have hbf := HB1.out.trans (hb4.mono s1)
          have hs4 := hbf.size
          have HBf := Lib.hid hbf
          have HSz := Lib.hid (size_leaf 1 l A1 c1 W4)
          have HSm := Lib.hid (fun W => same_leaf 1 l A1 A3 c1 c3 W)
          have HX4 := Lib.hid hx4
          have HY4 := Lib.hid hy4
          clear hb3 hb4 hx4 hy4 hW4 hbf HP2
          go_wp2_with (first | (go_at_call 10; refine HSz.out.mono ?_; rintro e W5 ⟨rfl, hb5⟩; have HB5 := Lib.hid hb5; obtain ⟨g0, g1, g2⟩ := cells_three ((hb5.block W1.heap.size (by omega)).trans HX4.out); obtain ⟨g3, g4, g5⟩ := cells_three ((hb5.block W3.heap.size (by omega)).trans HY4.out); clear hb5) | (go_at_call 11; refine (HSm.out _).mono ?_; rintro e W7 ⟨rfl, hb7⟩; have HB7 := Lib.hid hb7; clear hb7) | (go_at_call 8; refine (awake_is _).mono ?_; rintro e W6 ⟨rfl, hb6⟩; have HB6 := Lib.hid hb6; clear hb6))
          go_ret
          have hb5 := HBf.out.trans (HB5.out.mono hs4)
          have hb7 := hb5.trans (HB7.out.mono hb5.size)
          exact ⟨rfl, hb7.trans (HB6.out.mono hb7.size)⟩

end Go.Proofs.Ytndnialpedocnaa.SyntaxPlain
