/- The program's arguments. -/
import Derived.OwnWalk
import Derived.Deep.DeepCutAuto
import Derived.Test.YtndnialpedocnaaUout
import Derived.Test.YtndnialpedocnaaUlft
namespace Go.Proofs.Ytndnialpedocnaa.Uargs
open Go.RowKit Go.Proofs.Ytndnialpedocnaa.Strs Go.Proofs.Ytndnialpedocnaa.Spl Go.Proofs.Ytndnialpedocnaa.Upl Go.Proofs.Ytndnialpedocnaa.Uout
open Go.Proofs.Ytndnialpedocnaa.Pure (bs)

def vals (zs : List T) : List Value := (zs.map bs).map Value.string
theorem vals_snoc (zs : List T) (y : T) : vals (zs ++ [y]) = vals zs ++ [.string (bs y)] := by unfold vals; rw [List.map_append, List.map_append]; rfl
/-- so many may be cut off yet -/
def more (most n : Nat) : Option Nat := if most = 0 then none else some (most - 1 - n)
theorem more_step (most n : Nat) : (more most n).map (· - 1) = more most (n + 1) := by
  unfold more
  split
  · rfl
  · show some (most - 1 - n - 1) = some (most - 1 - (n + 1)); rw [Nat.sub_sub]
theorem more_done {most n : Nat} (h : ¬ (most = 0 ∨ n < most - 1)) : more most n = some 0 := by
  unfold more
  rw [if_neg (fun e => h (.inl e))]
  have : ¬ n < most - 1 := fun e => h (.inr e)
  rw [show most - 1 - n = 0 by omega]
theorem more_not {most n : Nat} (h : most = 0 ∨ n < most - 1) : more most n ≠ some 0 := by
  unfold more
  split
  · exact fun e => by cases e
  · rename_i h0
    rcases h with h | h
    · exact absurd h h0
    · exact fun e => by have := Option.some.inj e; omega
theorem part_to (s : T) (k : Nat) : (bs s).extract 0 k = bs (s.take k) := Pure.ext_data (by rw [Lib.extract_from_zero]; rfl)
theorem part_from (s : T) (k : Nat) : (bs s).extract k s.length = bs (s.drop k) := by
  have h : (bs s).size = s.length := Pure.size_bs s
  rw [← h]
  exact Pure.ext_data (by rw [Lib.extract_to_end]; rfl)
theorem own_on {B e sz n : Nat} {w W : World} {v : Value} {xs : List Value} (h : w.ownsRow B e sz v n xs) (hb : Below w.heap.size w W) : W.ownsRow B e sz v n xs := by
  rcases h with ⟨h4, h5 | ⟨g, cap, cur, e1, e2, e3, e4⟩⟩
  · exact ⟨h4, .inl h5⟩
  · exact ⟨h4, .inr ⟨g, cap, cur, e1, e2, (hb.block g (Array.getElem?_eq_some_iff.1 e3).1).trans e3, e4⟩⟩
def strLen : Value → Nat
  | .string s => s.size
  | _ => 0

theorem fin_row {R l : List T} {v : Value} {B : Nat} {w W : World} (hR : R = l) (h : W.ownsRow B 9 1 v l.length (vals l)) (hb : Below w.heap.size w W) : ∃ A cp, (Ending.returned v) = .returned (.slice A R.length cp) ∧ SlIs W A cp (R.map bs) ∧ Below w.heap.size w W := by
  subst hR
  obtain ⟨A, cp, rfl, hs⟩ := slIs_of_own (w := W) (xs := R.map bs) (n := R.length) (List.length_map _) h
  exact ⟨A, cp, rfl, hs, hb⟩

set_option maxRecDepth 100000 in
set_option maxHeartbeats 8000000 in
theorem args_is (s : T) (most : Nat) (o c : UInt8) (w : World) (hs : s.length ≤ 1000000) (hm : most ≤ 100) (ho : (44 : UInt8) ≠ o) (hc : (44 : UInt8) ≠ c) (hne : c ≠ o) :
    Calls Try.prog 47 #[.agg #[.string (bs [o]), .string (bs [c])], .string (bs s), .int .i64 most] w fun e W' => ∃ A cp, e = .returned (.slice A (argsP o c 0 (more most 0) [] s).length cp) ∧ SlIs W' A cp ((argsP o c 0 (more most 0) [] s).map bs) ∧ Below w.heap.size w W' := by
  obtain ⟨i0, hi, hz0, hz1, hz2⟩ := info_parts infoString
  obtain ⟨R, hR⟩ : ∃ R, R = argsP o c 0 (more most 0) [] s := ⟨_, rfl⟩
  rw [← hR]
  have HR0 := Lib.hid hR
  clear hR
  have HI := Lib.hid (heap_alloc_new w (.cells #[.string (bs [o]), .string (bs [c])] 59))
  have HB0 := Lib.hid ((Below.refl w.heap.size w).alloc (Nat.le_refl _) (.cells #[.string (bs [o]), .string (bs [c])] 59))
  have hz : (w.alloc (.cells #[.string (bs [o]), .string (bs [c])] 59)).heap.size = w.heap.size + 1 := World.size_alloc _ _
  go_enter Try.func47, Try.ntmps47
  go_wp2_with fail
  generalize hW : w.alloc (.cells #[.string (bs [o]), .string (bs [c])] 59) = W1
  rw [hW] at HI HB0 hz
  clear hW
  go_loopw [1, 7] (fun sv v wr => ∃ (cur : T) (acc : List T), acc.length + cur.length ≤ s.length ∧ sv = .string (bs cur) ∧ wr.ownsRow (w.heap.size + 1) 9 1 v acc.length (vals acc) ∧ Hid (Below (w.heap.size + 1) W1 wr) ∧ Hid (R = acc ++ argsP o c 0 (more most acc.length) [] cur)) (fun sv _ _ => strLen sv)
  case atStart => exact ⟨s, [], by show 0 + _ ≤ _; omega, rfl, World.ownsRow_nil _ _ _ _, Below.refl _ _, HR0.out⟩
  case round =>
    obtain ⟨cur, acc, hac, rfl, hown, HB, HE⟩ := hrel
    have hgb : wr.heap[w.heap.size]? = some (.cells #[.string (bs [o]), .string (bs [c])] 59) := (HB.out.block _ (by omega)).trans HI.out
    have c0 : wr.cell? ⟨w.heap.size, 0, none⟩ = some (.string (bs [o])) := by rw [Lib.cell_of_heap hgb]; rfl
    have c1 : wr.cell? ⟨w.heap.size, 1, none⟩ = some (.string (bs [c])) := by rw [Lib.cell_of_heap hgb]; rfl
    have hsz : (bs cur).size = cur.length := Pure.size_bs cur
    obtain ⟨A9, c9, rfl, _⟩ := slIs_of_own (w := wr) (xs := acc.map bs) (n := acc.length) (List.length_map _) hown
    have hzr := HB.out.size
    by_cases hgo : most = 0 ∨ acc.length < most - 1
    · have HO := Lib.hid (fun W => outside_is [o] [c] cur 44 W (by omega))
      have hz44 : (((44 : UInt8).toNat : Nat) : Int) = 44 := rfl
      rw [hz44] at HO
      rw [outI_zero] at HO
      have HC := Lib.hid (args_cut o c ho hc hne (more most acc.length) (more_not hgo) cur 0 [])
      cases hx : outP [o] [c] 44 0 cur with
      | none =>
        rw [hx] at HO HC
        have HF : Hid (R = acc ++ [cur]) := by
          show _ = _
          rw [HE.out, HC.out]
          rfl
        clear hx hgb HC
        rcases hgo with h4 | h4
        · have hm0 : (((most : Nat) : Int) == 0) = true := by rw [h4]; rfl
          clear h4
          go_wp2_with (first | (go_at_call 31; refine (HO.out _).mono ?_; rintro e W2 ⟨rfl, hb2⟩; have HB2 := Lib.hid hb2; have hown2 := own_on hown hb2; have hs2 := hb2.size; clear hb2) | (at_builtin; refine wpList_append_own _ rfl _ _ 71 rfl (w.heap.size + 1) 9 i0 (.string .empty) 1 16 Try.underlying71 hi hz0 hz1 hz2 rfl (by decide) _ _ _ rfl (hown2.alloc _) ⟨W2.heap.size, 0, none⟩ 1 1 [.string (bs cur)] rfl rfl (cell_one_new _ _ _) (by simp [Value.oneCell']) (by unfold maxLen; omega) (by omega) (by simp; omega) ?_; intro v' wA hown' hgrow _; have HOA := Lib.hid hown'; have HGA := Lib.hid (below_append (HB.out.trans (HB2.out.mono (by omega))) (by omega) hown2 hgrow); clear hown' hgrow))
          go_ret
          refine fin_row (B := w.heap.size + 1) HF.out ?_ (HB0.out.trans (HGA.out.mono (by omega)))
          show wA.ownsRow _ _ _ _ (acc ++ [cur]).length (vals (acc ++ [cur]))
          rw [List.length_append, List.length_singleton, vals_snoc]; exact HOA.out
        · have hm0 : (((most : Nat) : Int) == 0) = false := by rw [beq_eq_false_iff_ne]; omega
          have hm1 : ((acc.length : Nat) : Int) < (most : Int) - 1 := by omega
          go_wp2_with (first | (go_at_call 31; refine (HO.out _).mono ?_; rintro e W2 ⟨rfl, hb2⟩; have HB2 := Lib.hid hb2; have hown2 := own_on hown hb2; have hs2 := hb2.size; clear hb2) | (at_builtin; refine wpList_append_own _ rfl _ _ 71 rfl (w.heap.size + 1) 9 i0 (.string .empty) 1 16 Try.underlying71 hi hz0 hz1 hz2 rfl (by decide) _ _ _ rfl (hown2.alloc _) ⟨W2.heap.size, 0, none⟩ 1 1 [.string (bs cur)] rfl rfl (cell_one_new _ _ _) (by simp [Value.oneCell']) (by unfold maxLen; omega) (by omega) (by simp; omega) ?_; intro v' wA hown' hgrow _; have HOA := Lib.hid hown'; have HGA := Lib.hid (below_append (HB.out.trans (HB2.out.mono (by omega))) (by omega) hown2 hgrow); clear hown' hgrow))
          go_ret
          refine fin_row (B := w.heap.size + 1) HF.out ?_ (HB0.out.trans (HGA.out.mono (by omega)))
          show wA.ownsRow _ _ _ _ (acc ++ [cur]).length (vals (acc ++ [cur]))
          rw [List.length_append, List.length_singleton, vals_snoc]; exact HOA.out
      | some k =>
        rw [hx] at HO HC
        have hkl := out_lt _ _ _ _ _ _ hx
        have HF : Hid (R = (acc ++ [cur.take k]) ++ argsP o c 0 (more most (acc ++ [cur.take k]).length) [] (cur.drop (k + 1))) := by
          show _ = _
          rw [HE.out, HC.out, List.length_append, List.length_singleton, ← more_step, List.append_assoc]
          rfl
        have hp1 := part_to cur k
        have hp2 := part_from cur (k + 1)
        have hl2 : (cur.drop (k + 1)).length = cur.length - (k + 1) := List.length_drop
        have hk1 : (0 : Int) ≤ (k : Int) := by omega
        have hk2 : (k : Int) + 1 ≤ (cur.length : Int) := by omega
        clear hx hgb HC
        rcases hgo with h4 | h4
        · have hm0 : (((most : Nat) : Int) == 0) = true := by rw [h4]; rfl
          clear h4
          go_wp2_with (first | (go_at_call 31; refine (HO.out _).mono ?_; rintro e W2 ⟨rfl, hb2⟩; have HB2 := Lib.hid hb2; have hown2 := own_on hown hb2; have hs2 := hb2.size; clear hb2) | (at_builtin; refine wpList_append_own _ rfl _ _ 71 rfl (w.heap.size + 1) 9 i0 (.string .empty) 1 16 Try.underlying71 hi hz0 hz1 hz2 rfl (by decide) _ _ _ rfl (hown2.alloc _) ⟨W2.heap.size, 0, none⟩ 1 1 [.string (bs (cur.take k))] rfl rfl (cell_one_new _ _ _) (by simp [Value.oneCell']) (by unfold maxLen; omega) (by omega) (by simp; omega) ?_; intro v' wA hown' hgrow _; have HOA := Lib.hid hown'; have HGA := Lib.hid (below_append (HB.out.trans (HB2.out.mono (by omega))) (by omega) hown2 hgrow); clear hown' hgrow))
          have HOB : Hid (wA.ownsRow (w.heap.size + 1) 9 1 v' (acc ++ [cur.take k]).length (vals (acc ++ [cur.take k]))) := by
            rw [List.length_append, List.length_singleton, vals_snoc]; exact HOA.out
          go_roundw
          case rel => exact ⟨cur.drop (k + 1), acc ++ [cur.take k], by rw [List.length_append, List.length_singleton, hl2]; omega, rfl, HOB.out, HGA.out, HF⟩
          case measure => simp [strLen, Pure.size_bs]; omega
        · have hm0 : (((most : Nat) : Int) == 0) = false := by rw [beq_eq_false_iff_ne]; omega
          have hm1 : ((acc.length : Nat) : Int) < (most : Int) - 1 := by omega
          go_wp2_with (first | (go_at_call 31; refine (HO.out _).mono ?_; rintro e W2 ⟨rfl, hb2⟩; have HB2 := Lib.hid hb2; have hown2 := own_on hown hb2; have hs2 := hb2.size; clear hb2) | (at_builtin; refine wpList_append_own _ rfl _ _ 71 rfl (w.heap.size + 1) 9 i0 (.string .empty) 1 16 Try.underlying71 hi hz0 hz1 hz2 rfl (by decide) _ _ _ rfl (hown2.alloc _) ⟨W2.heap.size, 0, none⟩ 1 1 [.string (bs (cur.take k))] rfl rfl (cell_one_new _ _ _) (by simp [Value.oneCell']) (by unfold maxLen; omega) (by omega) (by simp; omega) ?_; intro v' wA hown' hgrow _; have HOA := Lib.hid hown'; have HGA := Lib.hid (below_append (HB.out.trans (HB2.out.mono (by omega))) (by omega) hown2 hgrow); clear hown' hgrow))
          have HOB : Hid (wA.ownsRow (w.heap.size + 1) 9 1 v' (acc ++ [cur.take k]).length (vals (acc ++ [cur.take k]))) := by
            rw [List.length_append, List.length_singleton, vals_snoc]; exact HOA.out
          go_roundw
          case rel => exact ⟨cur.drop (k + 1), acc ++ [cur.take k], by rw [List.length_append, List.length_singleton, hl2]; omega, rfl, HOB.out, HGA.out, HF⟩
          case measure => simp [strLen, Pure.size_bs]; omega
    · have HF : Hid (R = acc ++ [cur]) := by
        show _ = _
        rw [HE.out, more_done hgo, args_last]
        rfl
      have hm0 : (((most : Nat) : Int) == 0) = false := by rw [beq_eq_false_iff_ne]; omega
      have hm1 : ¬ ((acc.length : Nat) : Int) < (most : Int) - 1 := by omega
      clear hgb
      go_wp2_with (at_builtin; refine wpList_append_own _ rfl _ _ 71 rfl (w.heap.size + 1) 9 i0 (.string .empty) 1 16 Try.underlying71 hi hz0 hz1 hz2 rfl (by decide) _ _ _ rfl (hown.alloc _) ⟨wr.heap.size, 0, none⟩ 1 1 [.string (bs cur)] rfl rfl (cell_one_new _ _ _) (by simp [Value.oneCell']) (by unfold maxLen; omega) (by omega) (by simp; omega) ?_; intro v' wA hown' hgrow _; have HOA := Lib.hid hown'; have HGA := Lib.hid (below_append HB.out (by omega) hown hgrow); clear hown' hgrow)
      go_ret
      refine fin_row (B := w.heap.size + 1) HF.out ?_ (HB0.out.trans (HGA.out.mono (by omega)))
      rw [List.length_append, List.length_singleton, vals_snoc]; exact HOA.out

end Go.Proofs.Ytndnialpedocnaa.Uargs
