/- The walk of the law WordsAll: for every text and every list of texts the law answers true. -/
import Derived.Test.YtaadhkfhjcaglaaAwake
namespace Go.Proofs.Ytaadhkfhjcaglaa.WordsAll
open Go.RowKit Go.Proofs.Ytaadhkfhjcaglaa.Pure Go.Proofs.Ytaadhkfhjcaglaa.Ends Go.Proofs.Ytaadhkfhjcaglaa.Lists Go.Proofs.Ytaadhkfhjcaglaa.Refs Go.Proofs.Ytaadhkfhjcaglaa.Awake

theorem join_le (xs : List ByteArray) (b : Nat) (h : ∀ (j : Nat) (x : ByteArray), xs[j]? = some x → x.size ≤ b) : (Lib.join (xs.map (·.data.toList)) [32]).length ≤ xs.length * (b + 1) := by
  refine Nat.le_trans (join_total _) ?_
  induction xs with
  | nil => simp [total]
  | cons x r ih =>
    have h1 := h 0 x rfl
    have h2 := ih (fun j y hy => h (j + 1) y (by simpa using hy))
    rw [Lib.size_eq] at h1
    simp only [total, List.map_cons, List.sum_cons, List.length_cons] at *
    rw [Nat.succ_mul]
    omega

set_option maxHeartbeats 2000000 in
theorem walk_long (s : ByteArray) (A : Option Addr) (n c : Nat) (w : World) (h : 2000 < s.size ∨ 50 < n) :
    Calls Try.prog 3 #[.string s, .slice A n c] w fun e W' => e = .returned (.bool true) ∧ Below w.heap.size w W' := by
  by_cases h1 : 2000 < s.size
  · go_enter Try.func3, Try.ntmps3
    go_wp2_with (go_at_call 7; refine (awake_is _).mono ?_; rintro e w' ⟨rfl, hb⟩)
    go_ret
    exact ⟨rfl, hb⟩
  · have h2 : 50 < n := by omega
    clear h
    go_enter Try.func3, Try.ntmps3
    go_wp2_with (go_at_call 7; refine (awake_is _).mono ?_; rintro e w' ⟨rfl, hb⟩)
    go_ret
    exact ⟨rfl, hb⟩

set_option maxRecDepth 100000 in
set_option maxHeartbeats 4000000 in
theorem walk_short (s : ByteArray) (A : Option Addr) (n c : Nat) (xs : List ByteArray) (w : World) (hn : xs.length = n) (h : SlIs w A c xs) (h1 : s.size ≤ 2000) (h2 : n ≤ 50) :
    Calls Try.prog 3 #[.string s, .slice A n c] w fun e W' => e = .returned (.bool true) ∧ Below w.heap.size w W' := by
  have HN := Lib.hid hn
  have HL := Lib.hid h
  clear hn h
  go_enter Try.func3, Try.ntmps3
  go_wp2
  go_loop [5] (fun i => ∃ k : Nat, k ≤ n ∧ i = .int .i64 k ∧ Hid (∀ (j : Nat) (x : ByteArray), j < k → xs[j]? = some x → x.size ≤ 100)) (fun i => n - (intOf i).toNat)
  case atStart => exact ⟨0, Nat.zero_le _, rfl, fun j x hj => absurd hj (Nat.not_lt_zero _)⟩
  case round =>
    obtain ⟨k, hk, rfl, hall⟩ := hrel
    by_cases hlt : k < n
    · have hl : k < xs.length := by have := HN.out; omega
      have hx : xs[k]? = some xs[k] := List.getElem?_eq_getElem hl
      rcases HL.out.2 with h0 | ⟨b, o, rfl, hb, hc⟩
      · rw [h0] at hl; exact absurd hl (Nat.not_lt_zero _)
      have c1 : w.cell? ⟨b, o + k, none⟩ = some (.string xs[k]) := hc k _ hx
      have HX := Lib.hid hx
      clear hc hx
      generalize xs[k] = x at c1 HX
      by_cases hbig : 100 < x.size
      · go_wp2_with (go_at_call 7; refine (awake_is _).mono ?_; rintro e w' ⟨rfl, hb'⟩)
        go_ret
        exact ⟨rfl, hb'⟩
      · go_wp2
        go_round
        case rel =>
          refine ⟨k + 1, by omega, by go_num, ?_⟩
          show ∀ j y, j < k + 1 → xs[j]? = some y → y.size ≤ 100
          intro j y hj hy
          rcases Nat.lt_or_ge j k with hjk | hjk
          · exact hall.out j y hjk hy
          · obtain rfl : j = k := by omega
            have := HX.out
            rw [hy] at this
            injection this with this
            subst this
            omega
        case measure => simp [intOf]; omega
    · obtain rfl : k = n := by omega
      have hJ := join_le xs 100 (fun j x hx => hall.out j x (by have := (List.getElem?_eq_some_iff.1 hx).1; have := HN.out; omega) hx)
      have HJ : Hid ((Lib.join (xs.map (·.data.toList)) [32]).length ≤ 5050) := by
        have := HN.out
        have h3 : xs.length * (100 + 1) ≤ 50 * (100 + 1) := Nat.mul_le_mul_right _ (by omega)
        show _ ≤ _
        omega
      clear hJ hall
      have hwl := wordsB_length s
      have hs : s.size ≤ maxLen := by unfold maxLen; omega
      go_wp2_with fail
      refine (split_is s _ (by omega)).mono ?_
      rintro e w1 ⟨A1, c1, rfl, hl1, hb1⟩
      have L1 := Lib.hid hl1
      have B1 := Lib.hid hb1
      clear hl1 hb1
      go_wp2_with fail
      refine (refSplit_is s _ (by omega)).mono ?_
      rintro e w2 ⟨A2, c2, rfl, hl2, hb2⟩
      have L2 := Lib.hid hl2
      have L1' := Lib.hid (L1.out.below hb2)
      have B2 := Lib.hid (B1.out.trans (hb2.mono B1.out.size))
      clear hl2 hb2 L1 B1
      go_wp2_with fail
      refine (same_is A1 A2 _ c1 c2 (wordsB s) _ rfl L1'.out L2.out (by unfold maxLen; omega)).mono ?_
      rintro e w3 ⟨rfl, m, rfl⟩
      have B3 := Lib.hid (below_drewN B2.out m)
      generalize w2.drewN m = w3 at B3 ⊢
      clear B2 L1' L2
      go_wp2_with fail
      have hb3 := B3.out
      refine (join_n A k c xs _ HN.out (HL.out.below hb3) (by omega) (Nat.le_trans HJ.out (by omega))).mono ?_
      rintro e w4 ⟨rfl, hb4⟩
      have B4 := Lib.hid (hb3.trans (hb4.mono hb3.size))
      clear hb3 hb4 B3
      go_wp2_with fail
      have hb4 := B4.out
      refine (refJoin_is A k c xs _ HN.out (HL.out.below hb4) (by omega) (Nat.le_trans HJ.out (by omega))).mono ?_
      rintro e w5 ⟨rfl, hb5⟩
      have B5 := Lib.hid (hb4.trans (hb5.mono hb4.size))
      clear hb4 hb5 B4 HL HJ HN
      go_wp2_with fail
      refine (strip_is s _ (by omega)).mono ?_
      rintro e w6 ⟨rfl, hb6⟩
      have B6 := Lib.hid (B5.out.trans (hb6.mono B5.out.size))
      clear hb6 B5
      go_wp2_with fail
      refine (refStrip_is s _ (by omega)).mono ?_
      rintro e w7 ⟨rfl, hb7⟩
      have B7 := Lib.hid (B6.out.trans (hb7.mono B6.out.size))
      clear hb7 B6
      go_wp2_with fail
      refine (trim_any s _ hs).mono ?_
      rintro e w8 ⟨rfl, rfl⟩
      go_wp2_with fail
      refine (refTrim_any s _ hs).mono ?_
      rintro e w8 ⟨rfl, rfl⟩
      go_wp2_with fail
      refine (left_any s _ hs).mono ?_
      rintro e w8 ⟨rfl, rfl⟩
      go_wp2_with fail
      refine (refLeft_any s _ hs).mono ?_
      rintro e w8 ⟨rfl, rfl⟩
      go_wp2_with fail
      refine (awake_is _).mono ?_
      rintro e w8 ⟨rfl, hb8⟩
      have B8 := Lib.hid (B7.out.trans (hb8.mono B7.out.size))
      clear hb8 B7
      go_wp2
      go_ret
      exact ⟨rfl, B8.out⟩
end Go.Proofs.Ytaadhkfhjcaglaa.WordsAll
