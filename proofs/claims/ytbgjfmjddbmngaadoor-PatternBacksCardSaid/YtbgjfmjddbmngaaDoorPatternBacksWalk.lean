/- The walk of the law PatternBacks: for all numbers the law answers true. -/
import Derived.Test.YtbgjfmjddbmngaaDoorPatAwake
import Derived.Test.YtbgjfmjddbmngaaDoorPlace
namespace Go.Proofs.YtbgjfmjddbmngaaDoor.PatternBacks
open Go.RowKit Go.Proofs.YtbgjfmjddbmngaaDoor.Pat Go.Proofs.YtbgjfmjddbmngaaDoor.Build Go.Proofs.YtbgjfmjddbmngaaDoor.Of Go.Proofs.YtbgjfmjddbmngaaDoor.Match Go.Proofs.YtbgjfmjddbmngaaDoor.Replace Go.Proofs.YtbgjfmjddbmngaaDoor.PatAwake
open Go.Proofs.YtbgjfmjddbmngaaDoor.Place (place place_lt place_is)

/-! ### the texts, plainly -/
def back (c : UInt8) (k : Nat) : List UInt8 := c :: List.replicate k 92
theorem back_len (c : UInt8) (k : Nat) : (back c k).length = k + 1 := by simp [back]
theorem back_succ (c : UInt8) (k : Nat) : back c (k + 1) = back c k ++ [92] := by
  rw [back, back, List.replicate_succ', List.cons_append]
theorem back_no (c : UInt8) (k : Nat) (hc : c ≠ 37) : 37 ∉ back c k := by
  simp only [back, List.mem_cons, not_or]
  refine ⟨fun e => hc e.symm, fun h => ?_⟩
  have := List.eq_of_mem_replicate h
  exact absurd this (by decide)
theorem back_trail (c : UInt8) (hc : c ≠ 92) : ∀ k, trail (back c k) = k := by
  intro k
  induction k with
  | zero =>
    have := trail_snoc [] c
    rw [List.nil_append, if_neg hc] at this
    exact this
  | succ k ih => rw [back_succ, trail_snoc, if_pos rfl, ih]
/-- half of the backslashes -/
def half (c : UInt8) (k : Nat) : List UInt8 := (back c k).take ((back c k).length - k + k / 2)
theorem half_len (c : UInt8) (k : Nat) : (half c k).length = 1 + k / 2 := by
  unfold half
  rw [List.length_take, back_len]; omega
theorem go_back (c : UInt8) (k : Nat) (r acc : List UInt8) (h1 : c ≠ 37) (h2 : c ≠ 92) :
    go (back c k ++ 37 :: r) 0 acc = if k % 2 = 0 then ⟨true, acc ++ half c k, r⟩ else go r 0 (acc ++ half c k ++ [37]) := by
  have := go_some (back c k) r acc (back_no c k h1)
  rw [back_trail c h2 k] at this
  exact this

def s1 (k : Nat) : ByteArray := bs (back 97 k)
def s2 (k j : Nat) : ByteArray := bs (back 97 k ++ 37 :: back 98 j)
def s3 (k j : Nat) : ByteArray := bs (back 97 k ++ 37 :: (back 98 j ++ [37, 99]))
theorem s1_succ (k : Nat) : s1 k ++ (⟨#[92]⟩ : ByteArray) = s1 (k + 1) := by
  rw [s1, s1, back_succ]; exact bs_app _ [92]
theorem s2_zero (k : Nat) : s1 k ++ (⟨#[37, 98]⟩ : ByteArray) = s2 k 0 := bs_app _ [37, 98]
theorem s2_succ (k j : Nat) : s2 k j ++ (⟨#[92]⟩ : ByteArray) = s2 k (j + 1) := by
  rw [s2, s2, back_succ]
  refine (bs_app _ [92]).trans ?_
  simp
theorem s3_eq (k j : Nat) : s2 k j ++ (⟨#[37, 99]⟩ : ByteArray) = s3 k j := by
  rw [s2, s3]
  refine (bs_app _ [37, 99]).trans ?_
  simp
theorem s1_size (k : Nat) : (s1 k).size = k + 1 := by rw [s1, size_bs, back_len]
theorem s2_size (k j : Nat) : (s2 k j).size = k + j + 3 := by
  rw [s2, size_bs, List.length_append, List.length_cons, back_len, back_len]; omega
theorem s3_size (k j : Nat) : (s3 k j).size = k + j + 5 := by
  rw [s3, size_bs, List.length_append, List.length_cons, List.length_append, back_len, back_len]; simp; omega

theorem ofs3 (k j : Nat) : ofL (s3 k j).data.toList = if k % 2 = 0 then ⟨true, half 97 k, back 98 j ++ [37, 99]⟩ else (if j % 2 = 0 then ⟨true, half 97 k ++ [37] ++ half 98 j, [99]⟩ else ⟨false, half 97 k ++ [37] ++ half 98 j ++ [37] ++ [99], []⟩) := by
  rw [s3, bs_data, ofL, go_back 97 k _ [] (by decide) (by decide), List.nil_append]
  split
  · rfl
  · rw [go_back 98 j [99] _ (by decide) (by decide)]
    split
    · rfl
    · rw [go_none [99] _ (by decide)]
theorem ofs2 (k j : Nat) : ofL (s2 k j).data.toList = if k % 2 = 0 then ⟨true, half 97 k, back 98 j⟩ else ⟨false, half 97 k ++ [37] ++ back 98 j, []⟩ := by
  rw [s2, bs_data, ofL, go_back 97 k _ [] (by decide) (by decide), List.nil_append]
  split
  · rfl
  · rw [go_none _ _ (back_no 98 j (by decide))]

theorem of_even {k j : Nat} (hk : k % 2 = 0) : hasB (s3 k j) = true ∧ (preB (s3 k j)).size = 1 + k / 2 ∧ (postB (s3 k j)).size = 1 + j + 2 ∧ hasB (s2 k j) = true ∧ (postB (s2 k j)).size = 1 + j := by
  have e3 := ofs3 k j
  have e2 := ofs2 k j
  rw [if_pos hk] at e3 e2
  refine ⟨by rw [hasB, e3], by rw [preB, e3, size_bs, half_len], by rw [postB, e3, size_bs, List.length_append, back_len]; simp; omega, by rw [hasB, e2], by rw [postB, e2, size_bs, back_len]; omega⟩
theorem of_odd {k j : Nat} (hk : ¬ k % 2 = 0) : hasB (s2 k j) = false ∧ (preB (s2 k j)).size = 1 + k / 2 + 2 + j := by
  have e2 := ofs2 k j
  rw [if_neg hk] at e2
  refine ⟨by rw [hasB, e2], by rw [preB, e2, size_bs, List.length_append, List.length_append, half_len, back_len]; simp; omega⟩
theorem of_odd_even {k j : Nat} (hk : ¬ k % 2 = 0) (hj : j % 2 = 0) : hasB (s3 k j) = true ∧ (preB (s3 k j)).size = 1 + k / 2 + 2 + j / 2 ∧ (postB (s3 k j)).size = 1 := by
  have e3 := ofs3 k j
  rw [if_neg hk, if_pos hj] at e3
  refine ⟨by rw [hasB, e3], by rw [preB, e3, size_bs, List.length_append, List.length_append, half_len, half_len]; simp; omega, by rw [postB, e3, size_bs]; rfl⟩
theorem of_odd_odd {k j : Nat} (hk : ¬ k % 2 = 0) (hj : ¬ j % 2 = 0) : hasB (s3 k j) = false ∧ (preB (s3 k j)).size = 1 + k / 2 + 2 + j / 2 + 2 ∧ (postB (s3 k j)).size = 0 := by
  have e3 := ofs3 k j
  rw [if_neg hk, if_neg hj] at e3
  refine ⟨by rw [hasB, e3], by rw [preB, e3, size_bs]; simp [half_len]; omega, by rw [postB, e3, size_bs]; rfl⟩

/-- Of, its answer by parts -/
theorem of_parts (s : ByteArray) (h : Bool) (w : World) (hs : s.size ≤ 1099511627776) (hh : hasB s = h) :
    Calls Tryd.prog 9 #[.string s] w fun e W' => e = .returned (.agg #[.bool h, .string (preB s), .string (postB s)]) ∧ Below w.heap.size w W' := by
  subst hh
  exact of_is s w hs

set_option maxRecDepth 100000 in
set_option maxHeartbeats 4000000 in
theorem walk (n m : Int) (w : World) (hn : (Lit.int .i64 n).wf = true) (hm : (Lit.int .i64 m).wf = true) :
    Calls Tryd.prog 5 #[.int .i64 n, .int .i64 m] w fun e W' => e = .returned (.bool true) ∧ Below w.heap.size w W' := by
  have hk := place_lt n 20 (by omega)
  have hj := place_lt m 20 (by omega)
  have HK := Lib.hid (fun W => place_is n 20 W (by omega) (by omega) hn)
  have HJ := Lib.hid (fun W => place_is m 20 W (by omega) (by omega) hm)
  clear hn hm
  generalize place n 20 = k at hk HK
  generalize place m 20 = j at hj HJ
  have z92 : (⟨#[92]⟩ : ByteArray).size ≤ 1 := Nat.le_refl _
  have z2 : (⟨#[37, 98]⟩ : ByteArray).size ≤ 2 := Nat.le_refl _
  have z3 : (⟨#[37, 99]⟩ : ByteArray).size ≤ 2 := Nat.le_refl _
  go_enter Tryd.func5, Tryd.ntmps5
  go_wp2_with fail
  refine (HK.out _).mono ?_
  rintro e w' ⟨rfl, rfl⟩
  go_wp2_with fail
  refine (HJ.out _).mono ?_
  rintro e w' ⟨rfl, rfl⟩
  clear HK HJ
  go_wp2
  go_loop [7, 8] (fun t i => ∃ c : Nat, c ≤ k ∧ i = .int .i64 c ∧ t = .string (s1 c)) (fun _ i => k - (intOf i).toNat)
  case atStart => exact ⟨0, Nat.zero_le _, rfl, rfl⟩
  case round =>
    obtain ⟨c, hc, rfl, rfl⟩ := hrel
    have zs : (s1 c).size ≤ 30 := by rw [s1_size]; omega
    by_cases hlt : c < k
    · go_wp2
      go_round
      case rel => exact ⟨c + 1, by omega, by go_num, by rw [s1_succ]⟩
      case measure => simp [intOf]; omega
    · obtain rfl : c = k := by omega
      go_wp2
      go_loop [7, 9] (fun t i => ∃ d : Nat, d ≤ j ∧ i = .int .i64 d ∧ t = .string (s2 c d)) (fun _ i => j - (intOf i).toNat)
      case atStart => exact ⟨0, Nat.zero_le _, rfl, by rw [s2_zero]⟩
      case round =>
        obtain ⟨d, hd, rfl, rfl⟩ := hrel
        have zt : (s2 c d).size ≤ 50 := by rw [s2_size]; omega
        by_cases hlt2 : d < j
        · go_wp2
          go_round
          case rel => exact ⟨d + 1, by omega, by go_num, by rw [s2_succ]⟩
          case measure => simp [intOf]; omega
        · obtain rfl : d = j := by omega
          have E3 := Lib.hid (s3_eq c d)
          have Z3 : Hid ((s3 c d).size ≤ 1099511627776) := by show _ ≤ _; rw [s3_size]; omega
          have Z2 : Hid ((s2 c d).size ≤ 1099511627776) := by show _ ≤ _; omega
          by_cases hp : c % 2 = 0
          · obtain ⟨q1, q2, q3, q4, q5⟩ := of_even (j := d) hp
            have HO := Lib.hid (fun W => of_parts (s3 c d) true W Z3.out q1)
            have HU := Lib.hid (fun W => of_parts (s2 c d) true W Z2.out q4)
            have l2 : (preB (s3 c d)).size ≤ 1 + c / 2 ∧ 1 + c / 2 ≤ (preB (s3 c d)).size := by omega
            have l3 : (postB (s3 c d)).size ≤ 1 + d + 2 ∧ 1 + d + 2 ≤ (postB (s3 c d)).size := by omega
            have l5 : (postB (s2 c d)).size ≤ 1 + d ∧ 1 + d ≤ (postB (s2 c d)).size := by omega
            have hpar : (((c : Nat) : Int) % 2 == 0) = true := by rw [beq_iff_eq]; omega
            clear q1 q2 q3 q4 q5 hp
            generalize preB (s3 c d) = a1 at HO l2
            generalize postB (s3 c d) = b1 at HO l3
            generalize preB (s2 c d) = a2 at HU
            generalize postB (s2 c d) = b2 at HU l5
            obtain ⟨l2, l2'⟩ := l2
            obtain ⟨l3, l3'⟩ := l3
            obtain ⟨l5, l5'⟩ := l5
            go_wp2_with fail
            rw [E3.out]
            refine (HO.out _).mono ?_
            rintro e w1 ⟨rfl, hb1⟩
            have B1 := Lib.hid hb1
            have hs1 := hb1.size
            clear hb1 HO
            go_wp2_with fail
            refine (HU.out _).mono ?_
            rintro e w2 ⟨rfl, hb2⟩
            obtain ⟨c0, c1, c2⟩ := laid_cells hb2
            have B2 := Lib.hid ((B1.out.alloc hs1 _).trans (hb2.mono (by simp; omega)))
            have hlt12 : w1.heap.size < w2.heap.size := by have := hb2.size; simp at this; omega
            clear hb2 HU
            go_wp2_with fail
            refine (awake_is _).mono ?_
            rintro e w3 ⟨rfl, hb3⟩
            have B3 := Lib.hid ((B2.out.alloc B2.out.size _).trans (hb3.mono (by have := B2.out.size; simp; omega)))
            clear hb3
            go_wp2
            go_ret
            exact ⟨rfl, B3.out⟩
          · obtain ⟨q4, q5⟩ := of_odd (j := d) hp
            have HU := Lib.hid (fun W => of_parts (s2 c d) false W Z2.out q4)
            have l5 : (preB (s2 c d)).size ≤ 1 + c / 2 + 2 + d ∧ 1 + c / 2 + 2 + d ≤ (preB (s2 c d)).size := by omega
            have hpar : (((c : Nat) : Int) % 2 == 0) = false := by rw [beq_eq_false_iff_ne]; omega
            by_cases hq : d % 2 = 0
            · obtain ⟨q1, q2, q3⟩ := of_odd_even hp hq
              have HO := Lib.hid (fun W => of_parts (s3 c d) true W Z3.out q1)
              have l2 : (preB (s3 c d)).size ≤ 1 + c / 2 + 2 + d / 2 ∧ 1 + c / 2 + 2 + d / 2 ≤ (preB (s3 c d)).size := by omega
              have l3 : (postB (s3 c d)).size ≤ 1 ∧ 1 ≤ (postB (s3 c d)).size := by omega
              have hpar2 : (((d : Nat) : Int) % 2 == 0) = true := by rw [beq_iff_eq]; omega
              have hm1 : ((d : Nat) : Int) % 2 ≤ 0 := by omega
              have hm2 : 0 ≤ ((d : Nat) : Int) % 2 := by omega
              clear q1 q2 q3 q4 q5 hp hq
              generalize preB (s3 c d) = a1 at HO l2
              generalize postB (s3 c d) = b1 at HO l3
              generalize preB (s2 c d) = a2 at HU l5
              generalize postB (s2 c d) = b2 at HU
              obtain ⟨l2, l2'⟩ := l2
              obtain ⟨l3, l3'⟩ := l3
              obtain ⟨l5, l5'⟩ := l5
              go_wp2_with fail
              rw [E3.out]
              refine (HO.out _).mono ?_
              rintro e w1 ⟨rfl, hb1⟩
              have B1 := Lib.hid hb1
              have hs1 := hb1.size
              clear hb1 HO
              go_wp2_with fail
              refine (HU.out _).mono ?_
              rintro e w2 ⟨rfl, hb2⟩
              obtain ⟨c0, c1, c2⟩ := laid_cells hb2
              have B2 := Lib.hid ((B1.out.alloc hs1 _).trans (hb2.mono (by simp; omega)))
              have hlt12 : w1.heap.size < w2.heap.size := by have := hb2.size; simp at this; omega
              clear hb2 HU
              go_wp2_with fail
              refine (awake_is _).mono ?_
              rintro e w3 ⟨rfl, hb3⟩
              have B3 := Lib.hid ((B2.out.alloc B2.out.size _).trans (hb3.mono (by have := B2.out.size; simp; omega)))
              clear hb3
              go_wp2
              go_ret
              exact ⟨rfl, B3.out⟩
            · obtain ⟨q1, q2, q3⟩ := of_odd_odd hp hq
              have HO := Lib.hid (fun W => of_parts (s3 c d) false W Z3.out q1)
              have l2 : (preB (s3 c d)).size ≤ 1 + c / 2 + 2 + d / 2 + 2 ∧ 1 + c / 2 + 2 + d / 2 + 2 ≤ (preB (s3 c d)).size := by omega
              have l3 : (postB (s3 c d)).size ≤ 0 := by omega
              have hpar2 : (((d : Nat) : Int) % 2 == 0) = false := by rw [beq_eq_false_iff_ne]; omega
              have hm1 : ((d : Nat) : Int) % 2 ≤ 1 := by omega
              have hm2 : 1 ≤ ((d : Nat) : Int) % 2 := by omega
              clear q1 q2 q3 q4 q5 hp hq
              generalize preB (s3 c d) = a1 at HO l2
              generalize postB (s3 c d) = b1 at HO l3
              generalize preB (s2 c d) = a2 at HU l5
              generalize postB (s2 c d) = b2 at HU
              obtain ⟨l2, l2'⟩ := l2
              obtain ⟨l5, l5'⟩ := l5
              go_wp2_with fail
              rw [E3.out]
              refine (HO.out _).mono ?_
              rintro e w1 ⟨rfl, hb1⟩
              have B1 := Lib.hid hb1
              have hs1 := hb1.size
              clear hb1 HO
              go_wp2_with fail
              refine (HU.out _).mono ?_
              rintro e w2 ⟨rfl, hb2⟩
              obtain ⟨c0, c1, c2⟩ := laid_cells hb2
              have B2 := Lib.hid ((B1.out.alloc hs1 _).trans (hb2.mono (by simp; omega)))
              have hlt12 : w1.heap.size < w2.heap.size := by have := hb2.size; simp at this; omega
              clear hb2 HU
              go_wp2_with fail
              refine (awake_is _).mono ?_
              rintro e w3 ⟨rfl, hb3⟩
              have B3 := Lib.hid ((B2.out.alloc B2.out.size _).trans (hb3.mono (by have := B2.out.size; simp; omega)))
              clear hb3
              go_wp2
              go_ret
              exact ⟨rfl, B3.out⟩

end Go.Proofs.YtbgjfmjddbmngaaDoor.PatternBacks
