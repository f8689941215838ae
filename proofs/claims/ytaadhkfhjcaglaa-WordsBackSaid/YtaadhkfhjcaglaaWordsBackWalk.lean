/- The walk of the law WordsBack: for every two lists of numbers the law answers true. -/
import Derived.Test.YtaadhkfhjcaglaaAwake
import Derived.Test.YtaadhkfhjcaglaaWord
import Derived.Test.YtaadhkfhjcaglaaGlue
namespace Go.Proofs.Ytaadhkfhjcaglaa.WordsBack
open Go.RowKit Go.Proofs.Ytaadhkfhjcaglaa.Pure Go.Proofs.Ytaadhkfhjcaglaa.Ends Go.Proofs.Ytaadhkfhjcaglaa.Lists Go.Proofs.Ytaadhkfhjcaglaa.Refs Go.Proofs.Ytaadhkfhjcaglaa.Awake Go.Proofs.Ytaadhkfhjcaglaa.Place Go.Proofs.Ytaadhkfhjcaglaa.Word Go.Proofs.Ytaadhkfhjcaglaa.Glue

theorem okW_at (p : Nat) (h : p < 16) : okW (wordList.getD p []) := by
  have hh : p = 0 ∨ p = 1 ∨ p = 2 ∨ p = 3 ∨ p = 4 ∨ p = 5 ∨ p = 6 ∨ p = 7 ∨ p = 8 ∨ p = 9 ∨ p = 10 ∨ p = 11 ∨ p = 12 ∨ p = 13 ∨ p = 14 ∨ p = 15 := by omega
  rcases hh with rfl | rfl | rfl | rfl | rfl | rfl | rfl | rfl | rfl | rfl | rfl | rfl | rfl | rfl | rfl | rfl <;> exact ⟨by decide, by decide, by decide⟩
theorem word_ok (v : Int) (w : World) (hv : (Lit.int .i64 v).wf = true) :
    Calls Try.prog 19 #[.int .i64 v] w fun e w' => ∃ l, okW l ∧ e = .returned (.string (bs l)) ∧ w = w' :=
  (word_is v w hv).mono fun e w' ⟨he, hw⟩ => ⟨_, okW_at _ (place_lt v 16 (by omega)), he, hw⟩

def blankList : List (List UInt8) := [[32], [9], [10], [32, 32, 9], [32, 10, 32]]
theorem blank_ok (p : Nat) (h : p < 5) : ∃ l, okB l ∧ ∀ W : World, (Instr.index 31 (.agg #[.string ⟨#[32]⟩, .string ⟨#[9]⟩, .string ⟨#[10]⟩, .string ⟨#[32, 32, 9]⟩, .string ⟨#[32, 10, 32]⟩]) (.int .i64 (p : Int))).run Try.prog W = .ok (.string (bs l)) W := by
  refine ⟨blankList.getD p [], ?_, ?_⟩
  · have hh : p = 0 ∨ p = 1 ∨ p = 2 ∨ p = 3 ∨ p = 4 := by omega
    rcases hh with rfl | rfl | rfl | rfl | rfl <;> exact ⟨by decide, by decide, by decide⟩
  · intro W
    have hh : p = 0 ∨ p = 1 ∨ p = 2 ∨ p = 3 ∨ p = 4 := by omega
    rcases hh with rfl | rfl | rfl | rfl | rfl <;> (show _ = _; kernel_rfl)

/-- the words of what has been put together -/
def ws (ps : List (List UInt8 × List UInt8)) : List ByteArray := ps.map fun p => bs p.2
theorem ws_snoc (ps : List (List UInt8 × List UInt8)) (b w : List UInt8) : ws (ps ++ [(b, w)]) = ws ps ++ [bs w] := by simp [ws]
theorem ws_len (ps : List (List UInt8 × List UInt8)) : (ws ps).length = ps.length := List.length_map _
theorem ws_data (ps : List (List UInt8 × List UInt8)) : (ws ps).map (·.data.toList) = ps.map (·.2) := by
  rw [ws, List.map_map]; rfl
theorem cut_all {ps : List (List UInt8 × List UInt8)} (h : Pairs ps) : wordsB (bs (glue ps)) = ws ps := by
  rw [wordsB, bs_data, words_glue ps h, ws, List.map_map]; rfl
theorem cut_join {ps : List (List UInt8 × List UInt8)} (h : Pairs ps) : wordsB (joinB (ws ps)) = ws ps := by
  rw [joinB, ws_data, wordsB, bs_data, words_join _ (good_words h), ws, List.map_map]; rfl
theorem trim_all {ps : List (List UInt8 × List UInt8)} (h : Pairs ps) : trimB (bs (glue ps) ++ (⟨#[32]⟩ : ByteArray)) = leftB (bs (glue ps)) := by
  have e : bs (glue ps) ++ (⟨#[32]⟩ : ByteArray) = bs (glue ps ++ [32]) := ext_data (by simp [bs])
  rw [e, trimB, rightB, leftB, leftB, bs_data, bs_data, bs_data, trim_more _ (glue_last ps h)]
theorem glue_size {ps : List (List UInt8 × List UInt8)} (h : Pairs ps) : (bs (glue ps)).size ≤ 12 * ps.length := by
  rw [size_bs]; exact glue_length h
theorem join_size {ps : List (List UInt8 × List UInt8)} (h : Pairs ps) : (Lib.join ((ws ps).map (·.data.toList)) [32]).length ≤ 10 * ps.length := by
  rw [ws_data]
  refine Nat.le_trans (join_total _) ?_
  induction ps with
  | nil => simp [total]
  | cons p r ih =>
    have h1 := (h p (by simp)).2.2.2
    have h2 := ih (fun q hq => h q (by simp [hq]))
    simp only [total, List.map_cons, List.sum_cons, List.length_cons] at *
    omega

theorem last_cell {w : World} {base g cap n : Nat} {xs : List ByteArray} {x : ByteArray} (h : w.ownsRow base 9 1 (.slice (some ⟨g, 0, none⟩) (xs.length + 1) cap) (xs.length + 1) (xs.map Value.string ++ [.string x])) (hn : xs.length = n) : w.cell? ⟨g, n, none⟩ = some (.string x) := by
  rw [h.cellAt n (by omega)]
  rw [List.getElem?_append_right (by simp; omega)]
  simp [hn]
theorem put_two (ps : List (List UInt8 × List UInt8)) (b w : List UInt8) : bs (glue ps) ++ bs b ++ bs w = bs (glue (ps ++ [(b, w)])) := by
  rw [glue_snoc]
  exact ext_data (by simp [bs])
theorem split_n (s : ByteArray) (N : Nat) (xs : List ByteArray) (w : World) (hs : s.size ≤ 1099511627776) (h : wordsB s = xs) (hN : xs.length = N) :
    Calls Try.prog 9 #[.string s] w fun e W' => ∃ A c, e = .returned (.slice A N c) ∧ SlIs W' A c xs ∧ Below w.heap.size w W' := by
  subst h hN
  exact split_is s w hs
theorem strip_r (s r : ByteArray) (w : World) (hs : s.size ≤ 1099511627776) (h : stripB s = r) :
    Calls Try.prog 13 #[.string s] w fun e W' => e = .returned (.string r) ∧ Below w.heap.size w W' := by
  subst h
  exact strip_is s w hs
theorem trim_r (s r : ByteArray) (w : World) (hs : s.size ≤ maxLen) (h : trimB s = r) :
    Calls Try.prog 15 #[.string s] w fun e W' => e = .returned (.string r) ∧ w = W' := by
  subst h
  exact trim_any s w hs

set_option maxRecDepth 100000 in
set_option maxHeartbeats 4000000 in
theorem walk (A A' : Option Addr) (n n' c c' : Nat) (zs ys : List Int) (w : World) (h : IntIs w A n c zs) (h' : IntIs w A' n' c' ys) (_hm : n ≤ maxLen) (_hm' : n' ≤ maxLen) :
    Calls Try.prog 4 #[.slice A n c, .slice A' n' c'] w fun e W' => e = .returned (.bool true) ∧ Below w.heap.size w W' := by
  unfold maxLen at _hm _hm'
  obtain ⟨i0, hi, hz0, hz1, hz2⟩ := info_parts Cut.infoString
  have HZ := Lib.hid h
  have HY := Lib.hid h'
  clear h h'
  go_enter Try.func4, Try.ntmps4
  go_wp2
  go_loopw [5, 6, 7] (fun v s i wr => ∃ (k : Nat) (ps : List (List UInt8 × List UInt8)), k ≤ n ∧ k ≤ 40 ∧ i = .int .i64 k ∧ s = .string (bs (glue ps)) ∧ wr.ownsRow w.heap.size 9 1 v (ws ps).length ((ws ps).map Value.string) ∧ Below w.heap.size w wr ∧ Hid (ps.length = k) ∧ Hid (Pairs ps))
    (fun _ _ i _ => 40 - (intOf i).toNat)
  case atStart => exact ⟨0, [], Nat.zero_le _, Nat.zero_le _, rfl, rfl, World.ownsRow_nil _ _ _ _, Below.refl _ _, rfl, fun p hp => absurd hp (List.not_mem_nil)⟩
  case round =>
    obtain ⟨k, ps, hk, hk2, rfl, rfl, hown, hB, HK, HP⟩ := hrel
    have hBs := hB.size
    have hsz := glue_size HP.out
    rw [HK.out] at hsz
    by_cases hlt : k < n ∧ k < 40
    · obtain ⟨hlt1, hlt2⟩ := hlt
      obtain ⟨b, o, z, rfl, hz, hc⟩ := HZ.out.at_ hlt1
      have c0 := hc wr hB
      clear hc
      have HB := Lib.hid hB
      clear hB
      have hcd : (ws ps).length ≤ 40 := by rw [ws_len, HK.out]; exact hk2
      have hkl : k ≤ (ws ps).length := by rw [ws_len, HK.out]; exact Nat.le_refl _
      by_cases hy : k < n'
      · obtain ⟨b', o', y, rfl, hyw, hc'⟩ := HY.out.at_ hy
        have HC := Lib.hid hc'
        clear hc'
        have hp5 := place_lt y 5 (by omega)
        obtain ⟨bl, hbl, hix⟩ := blank_ok (place y 5) hp5
        have hb3 : (bs bl).size ≤ 3 := by rw [size_bs]; exact hbl.2.2
        have HBL := Lib.hid hbl
        clear hbl
        have hP5 : ∀ W : World, Calls Try.prog 20 #[.int .i64 y, .int .i64 5] W fun e w' => e = .returned (.int .i64 ((place y 5 : Nat) : Int)) ∧ W = w' := fun W => place_is y 5 W (by omega) (by omega) hyw
        generalize place y 5 = p at hP5 hix hp5
        have HP5 := Lib.hid hP5
        clear hP5
        go_wp2_with fail
        refine (word_ok z _ hz).mono ?_
        rintro e w' ⟨l, hl, rfl, rfl⟩
        have hl9 : (bs l).size ≤ 9 := by rw [size_bs]; exact hl.2.2
        have HL := Lib.hid hl
        clear hl
        go_wp2_with (at_builtin; refine wpList_append_own _ rfl _ _ 22 rfl w.heap.size 9 i0 (.string .empty) 1 16 Try.underlying22 hi hz0 hz1 hz2 rfl (by decide) _ _ _ rfl (hown.alloc _) ⟨wr.heap.size, 0, none⟩ 1 1 [.string (bs l)] rfl rfl (cell_one_new _ _ _) (by simp [Value.oneCell']) (by unfold maxLen; omega) (by omega) (by simp; omega) ?_; intro v' w1 hown' hgrow _; obtain ⟨g', cap', rfl⟩ := ownsRow_succ hown'; have HO := Lib.hid hown'; have HG := Lib.hid (below_append HB.out hBs hown hgrow); have hcy := HC.out w1 HG.out; have hcw := last_cell HO.out ((ws_len ps).trans HK.out); clear hown' hgrow)
        refine (HP5.out _).mono ?_
        rintro e w' ⟨rfl, rfl⟩
        go_wp2
        go_roundw
        case rel => exact ⟨k + 1, ps ++ [(bl, l)], by omega, by omega, by go_num, by rw [put_two], by rw [ws_snoc]; simpa using HO.out, HG.out, by show _ = _; simp [HK.out], good_snoc HP.out HBL.out HL.out⟩
        case measure => simp [intOf]; omega
      · go_wp2_with fail
        refine (word_ok z _ hz).mono ?_
        rintro e w' ⟨l, hl, rfl, rfl⟩
        have hl9 : (bs l).size ≤ 9 := by rw [size_bs]; exact hl.2.2
        have HL := Lib.hid hl
        clear hl
        have hb1 : (⟨#[32]⟩ : ByteArray).size ≤ 3 := by decide
        go_wp2_with (at_builtin; refine wpList_append_own _ rfl _ _ 22 rfl w.heap.size 9 i0 (.string .empty) 1 16 Try.underlying22 hi hz0 hz1 hz2 rfl (by decide) _ _ _ rfl (hown.alloc _) ⟨wr.heap.size, 0, none⟩ 1 1 [.string (bs l)] rfl rfl (cell_one_new _ _ _) (by simp [Value.oneCell']) (by unfold maxLen; omega) (by omega) (by simp; omega) ?_; intro v' w1 hown' hgrow _; obtain ⟨g', cap', rfl⟩ := ownsRow_succ hown'; have HO := Lib.hid hown'; have HG := Lib.hid (below_append HB.out hBs hown hgrow); have hcw := last_cell HO.out ((ws_len ps).trans HK.out); clear hown' hgrow)
        go_roundw
        case rel => exact ⟨k + 1, ps ++ [([32], l)], by omega, by omega, by go_num, by rw [← put_two]; rfl, by rw [ws_snoc]; simpa using HO.out, HG.out, by show _ = _; simp [HK.out], good_snoc HP.out okB_one HL.out⟩
        case measure => simp [intOf]; omega
    · have hlen : (ws ps).length ≤ 40 := by rw [ws_len, HK.out]; exact hk2
      have hstop : ¬ k < n ∨ (k < n ∧ ¬ k < 40) := by omega
      obtain ⟨A1, c1, rfl, hsl⟩ := slIs_of_own hown
      have S1 := Lib.hid hsl
      have HB := Lib.hid hB
      have HC := Lib.hid (cut_all HP.out)
      have HD := Lib.hid (cut_join HP.out)
      have HT := Lib.hid (trim_all HP.out)
      have hj := join_size HP.out
      rw [HK.out] at hj
      have HJ := Lib.hid hj
      clear hsl hB hown HZ HY HP HK hj hlt
      generalize bs (glue ps) = s at hsz HC HT ⊢
      generalize ws ps = xs at hlen S1 HC HD HJ ⊢
      have HR : Hid (stripB s = joinB xs) := by show joinB (wordsB s) = _; rw [HC.out]
      have HQ : Hid (stripB (joinB xs) = joinB xs) := by show joinB (wordsB (joinB xs)) = _; rw [HD.out]
      have hjs : (joinB xs).size ≤ 400 := by rw [joinB, size_bs]; have := HJ.out; omega
      have hN : Hid (xs.length = xs.length) := rfl
      obtain ⟨N, HN⟩ : ∃ N, Hid (xs.length = N) := ⟨_, rfl⟩
      rw [HN.out] at hlen ⊢
      clear hN
      have hm1 : s.size ≤ maxLen := by unfold maxLen; omega
      have hm2 : (s ++ (⟨#[32]⟩ : ByteArray)).size ≤ maxLen := by rw [ByteArray.size_append]; have : (⟨#[32]⟩ : ByteArray).size = 1 := rfl; unfold maxLen; omega
      have hb1 : (⟨#[32]⟩ : ByteArray).size ≤ 3 := by decide
      have hJ2 : (Lib.join (xs.map (·.data.toList)) [32]).length ≤ 140737488355328 := by have := HJ.out; omega
      have HJ2 := Lib.hid hJ2
      have HC2 : Hid (wordsB s = xs) := HC.out
      clear hJ2 HJ HC
      rcases hstop with h1 | ⟨h1, h2⟩
      all_goals
        go_wp2_with fail
        refine (strip_r s (joinB xs) _ (by omega) HR.out).mono ?_
        rintro e w1 ⟨rfl, hb⟩
        have B1 := Lib.hid (HB.out.trans (hb.mono hBs))
        have S2 := Lib.hid (S1.out.below hb)
        clear hb
        go_wp2_with fail
        refine (split_n s N xs _ (by omega) HC2.out HN.out).mono ?_
        rintro e w2 ⟨A2, c2, rfl, hl2, hb⟩
        have B2 := Lib.hid (B1.out.trans (hb.mono B1.out.size))
        have S3 := Lib.hid (S2.out.below hb)
        have S4 := Lib.hid hl2
        clear hb hl2 S2 B1
        go_wp2_with fail
        refine (same_is A2 A1 N c2 c1 xs _ HN.out S4.out S3.out (by unfold maxLen; omega)).mono ?_
        rintro e w3 ⟨rfl, m, rfl⟩
        have S5 := Lib.hid (S3.out.below (below_drewN (Below.refl _ w2) m))
        have B3 := Lib.hid (below_drewN B2.out m)
        generalize w2.drewN m = w3 at B3 S5 ⊢
        clear B2 S3 S4
        go_wp2_with fail
        refine (join_n A1 N c1 xs _ HN.out S5.out (by omega) HJ2.out).mono ?_
        rintro e w4 ⟨rfl, hb⟩
        have B4 := Lib.hid (B3.out.trans (hb.mono B3.out.size))
        have S6 := Lib.hid (S5.out.below hb)
        clear hb S5 B3
        go_wp2_with fail
        refine (split_n (joinB xs) N xs _ (by omega) HD.out HN.out).mono ?_
        rintro e w5 ⟨A3, c3, rfl, hl3, hb⟩
        have B5 := Lib.hid (B4.out.trans (hb.mono B4.out.size))
        have S7 := Lib.hid (S6.out.below hb)
        have S8 := Lib.hid hl3
        clear hb hl3 S6 B4
        go_wp2_with fail
        refine (same_is A3 A1 N c3 c1 xs _ HN.out S8.out S7.out (by unfold maxLen; omega)).mono ?_
        rintro e w6 ⟨rfl, m2, rfl⟩
        have S9 := Lib.hid (S7.out.below (below_drewN (Below.refl _ w5) m2))
        have B6 := Lib.hid (below_drewN B5.out m2)
        generalize w5.drewN m2 = w6 at B6 S9 ⊢
        clear B5 S7 S8
        go_wp2_with fail
        refine (join_n A1 N c1 xs _ HN.out S9.out (by omega) HJ2.out).mono ?_
        rintro e w7 ⟨rfl, hb⟩
        have B7 := Lib.hid (B6.out.trans (hb.mono B6.out.size))
        clear hb S9 B6
        go_wp2_with fail
        refine (strip_r (joinB xs) (joinB xs) _ (by omega) HQ.out).mono ?_
        rintro e w8 ⟨rfl, hb⟩
        have B8 := Lib.hid (B7.out.trans (hb.mono B7.out.size))
        clear hb B7
        go_wp2_with fail
        refine (trim_r (s ++ (⟨#[32]⟩ : ByteArray)) (leftB s) _ hm2 HT.out).mono ?_
        rintro e w9 ⟨rfl, rfl⟩
        go_wp2_with fail
        refine (left_any s _ hm1).mono ?_
        rintro e w9 ⟨rfl, rfl⟩
        go_wp2_with fail
        refine (awake_is _).mono ?_
        rintro e w9 ⟨rfl, hb⟩
        have B9 := Lib.hid (B8.out.trans (hb.mono B8.out.size))
        clear hb B8
        go_wp2
        go_ret
        exact ⟨rfl, B9.out⟩

end Go.Proofs.Ytaadhkfhjcaglaa.WordsBack
