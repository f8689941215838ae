/- The walk of the law WordsMany: for every three numbers the law answers true. -/
import Derived.Test.YtaadhkfhjcaglaaAwake
import Derived.Test.YtaadhkfhjcaglaaPlace
import Derived.Test.YtaadhkfhjcaglaaMany
namespace Go.Proofs.Ytaadhkfhjcaglaa.WordsMany
open Go.RowKit Go.Proofs.Ytaadhkfhjcaglaa.Pure Go.Proofs.Ytaadhkfhjcaglaa.Ends Go.Proofs.Ytaadhkfhjcaglaa.Lists Go.Proofs.Ytaadhkfhjcaglaa.Refs Go.Proofs.Ytaadhkfhjcaglaa.Awake Go.Proofs.Ytaadhkfhjcaglaa.Place Go.Proofs.Ytaadhkfhjcaglaa.Many

theorem slice_letter (x : Nat) (W : World) : (Instr.slice 9 (.string ⟨#[97, 98, 99, 100, 101, 102, 103]⟩) (some (.int .i64 ((x : Int) % 7))) (some (.int .i64 ((x : Int) % 7 + 1))) none).run Try.prog W = .ok (.string (bs [letter x])) W := by
  have h : x % 7 = 0 ∨ x % 7 = 1 ∨ x % 7 = 2 ∨ x % 7 = 3 ∨ x % 7 = 4 ∨ x % 7 = 5 ∨ x % 7 = 6 := by omega
  have e : (x : Int) % 7 = ((x % 7 : Nat) : Int) := by omega
  unfold letter
  rw [e]
  rcases h with h | h | h | h | h | h | h <;> rw [h] <;> (show _ = _; kernel_rfl)
theorem slice_space (x : Nat) (W : World) : (Instr.slice 9 (.string ⟨#[32, 9, 10]⟩) (some (.int .i64 ((x : Int) % 3))) (some (.int .i64 ((x : Int) % 3 + 1))) none).run Try.prog W = .ok (.string (bs [space x])) W := by
  have h : x % 3 = 0 ∨ x % 3 = 1 ∨ x % 3 = 2 := by omega
  have e : (x : Int) % 3 = ((x % 3 : Nat) : Int) := by omega
  unfold space
  rw [e]
  rcases h with h | h | h <;> rw [h] <;> (show _ = _; kernel_rfl)
theorem index_letter (x : Nat) (W : World) : (Instr.index 9 (.string ⟨#[97, 98, 99, 100, 101, 102, 103]⟩) (.int .i64 ((x : Int) % 7))).run Try.prog W = .ok (.int .u8 (((letter x).toNat : Nat) : Int)) W := by
  have h : x % 7 = 0 ∨ x % 7 = 1 ∨ x % 7 = 2 ∨ x % 7 = 3 ∨ x % 7 = 4 ∨ x % 7 = 5 ∨ x % 7 = 6 := by omega
  have e : (x : Int) % 7 = ((x % 7 : Nat) : Int) := by omega
  unfold letter
  rw [e]
  rcases h with h | h | h | h | h | h | h <;> rw [h] <;> (show _ = _; kernel_rfl)

theorem first_letter (q m : Nat) (h : 0 < (bs (wrd q m)).size) : (bs (wrd q m))[0]'h = letter q := by
  have hm : 0 < m := by rw [size_bs, wrd_length] at h; exact h
  have e : (wrd q m)[0]? = some (letter q) := by
    rw [wrd, List.getElem?_map, List.getElem?_range hm]; simp
  have e2 := Lib.data_getElem? (bs (wrd q m)) 0 h
  rw [bs_data, e] at e2
  exact (Option.some.inj e2).symm
theorem split_n (s : ByteArray) (N : Nat) (xs : List ByteArray) (w : World) (hs : s.size ≤ 1099511627776) (h : wordsB s = xs) (hN : xs.length = N) :
    Calls Try.prog 9 #[.string s] w fun e W' => ∃ A c, e = .returned (.slice A N c) ∧ SlIs W' A c xs ∧ Below w.heap.size w W' := by
  subst h hN
  exact split_is s w hs
theorem left_r (s r : ByteArray) (w : World) (hs : s.size ≤ maxLen) (h : leftB s = r) :
    Calls Try.prog 17 #[.string s] w fun e W' => e = .returned (.string r) ∧ w = W' := by
  subst h
  exact left_any s w hs
theorem app_two (l w v : List UInt8) (c : UInt8) : bs (l ++ (w ++ v)) ++ bs [c] = bs (l ++ (w ++ (v ++ [c]))) := ext_data (by simp [bs])
theorem app_one (l w : List UInt8) (c : UInt8) : bs (l ++ w) ++ bs [c] = bs (l ++ (w ++ [c])) := ext_data (by simp [bs])

set_option maxRecDepth 100000 in
set_option maxHeartbeats 8000000 in
theorem walk_core (a0 a1 a2 : Int) (k m1 g1 : Nat) (w : World) (hk : k < 60) (hm : m1 < 20) (hg : g1 < 6)
    (p0 : ∀ W : World, Calls Try.prog 20 #[.int .i64 a0, .int .i64 60] W fun e w' => e = .returned (.int .i64 (k : Int)) ∧ W = w')
    (p1 : ∀ W : World, Calls Try.prog 20 #[.int .i64 a1, .int .i64 20] W fun e w' => e = .returned (.int .i64 (m1 : Int)) ∧ W = w')
    (p2 : ∀ W : World, Calls Try.prog 20 #[.int .i64 a2, .int .i64 6] W fun e w' => e = .returned (.int .i64 (g1 : Int)) ∧ W = w') :
    Calls Try.prog 5 #[.int .i64 a0, .int .i64 a1, .int .i64 a2] w fun e W' => e = .returned (.bool true) ∧ Below w.heap.size w W' := by
  go_enter Try.func5, Try.ntmps5
  go_wp2_with fail
  refine (p0 _).mono ?_
  rintro e w' ⟨rfl, rfl⟩
  go_wp2_with fail
  refine (p1 _).mono ?_
  rintro e w' ⟨rfl, rfl⟩
  go_wp2_with fail
  refine (p2 _).mono ?_
  rintro e w' ⟨rfl, rfl⟩
  clear p0 p1 p2
  go_wp2
  obtain ⟨M, hM⟩ : ∃ M : Nat, M = m1 + 1 := ⟨_, rfl⟩
  obtain ⟨G, hG⟩ : ∃ G : Nat, G = g1 + 1 := ⟨_, rfl⟩
  have eM : (1 + (m1 : Int)) = (M : Int) := by omega
  have eG : (1 + (g1 : Int)) = (G : Int) := by omega
  rw [eM, eG]
  have hM0 : 0 < M := by omega
  have hM1 : M ≤ 20 := by omega
  have hG0 : 0 < G := by omega
  have hG1 : G ≤ 6 := by omega
  clear eM eG hM hG
  go_loop [10, 11] (fun s i => ∃ x : Nat, x ≤ k ∧ i = .int .i64 x ∧ s = .string (bs (text M G x))) (fun _ i => k - (intOf i).toNat)
  case atStart => exact ⟨0, Nat.zero_le _, rfl, rfl⟩
  case round =>
    obtain ⟨x, hx, rfl, rfl⟩ := hrel
    have hT : (bs (text M G x)).size ≤ 1560 := by
      rw [size_bs, text_length]
      have : x * (M + G) ≤ 60 * 26 := Nat.mul_le_mul (by omega) (by omega)
      omega
    by_cases hlt : x < k
    · go_wp2
      go_loop [10, 12] (fun s j => ∃ y : Nat, y ≤ M ∧ j = .int .i64 y ∧ s = .string (bs (text M G x ++ wrd x y))) (fun _ j => M - (intOf j).toNat)
      case atStart => exact ⟨0, Nat.zero_le _, rfl, by rw [wrd_zero, List.append_nil]⟩
      case round =>
        obtain ⟨y, hy, rfl, rfl⟩ := hrel
        have hT2 : (bs (text M G x ++ wrd x y)).size ≤ 1580 := by
          rw [size_bs, List.length_append, wrd_length, ← size_bs]; omega
        by_cases hlt2 : y < M
        · have hsl : ∀ W : World, (Instr.slice 9 (.string ⟨#[97, 98, 99, 100, 101, 102, 103]⟩) (some (.int .i64 (((x : Int) + (y : Int)) % 7))) (some (.int .i64 (((x : Int) + (y : Int)) % 7 + 1))) none).run Try.prog W = .ok (.string (bs [letter (x + y)])) W := fun W => by
            have := slice_letter (x + y) W
            rwa [Int.natCast_add] at this
          have h1 : (bs [letter (x + y)]).size ≤ 1 := by rw [size_bs]; exact Nat.le_refl _
          go_wp2
          go_round
          case rel => exact ⟨y + 1, by omega, by go_num, by rw [wrd_succ, app_one]⟩
          case measure => simp [intOf]; omega
        · obtain rfl : y = M := by omega
          go_wp2
          go_loop [10, 13] (fun s j => ∃ z : Nat, z ≤ G ∧ j = .int .i64 z ∧ s = .string (bs (text y G x ++ (wrd x y ++ gap x z)))) (fun _ j => G - (intOf j).toNat)
          case atStart => exact ⟨0, Nat.zero_le _, rfl, by rw [gap_zero, List.append_nil]⟩
          case round =>
            obtain ⟨z, hz, rfl, rfl⟩ := hrel
            have hT3 : (bs (text y G x ++ (wrd x y ++ gap x z))).size ≤ 1590 := by
              rw [size_bs, ← List.append_assoc, List.length_append, gap_length, ← size_bs]; omega
            by_cases hlt3 : z < G
            · have hsl : ∀ W : World, (Instr.slice 9 (.string ⟨#[32, 9, 10]⟩) (some (.int .i64 (((x : Int) + (z : Int)) % 3))) (some (.int .i64 (((x : Int) + (z : Int)) % 3 + 1))) none).run Try.prog W = .ok (.string (bs [space (x + z)])) W := fun W => by
                have := slice_space (x + z) W
                rwa [Int.natCast_add] at this
              have h1 : (bs [space (x + z)]).size ≤ 1 := by rw [size_bs]; exact Nat.le_refl _
              go_wp2
              go_round
              case rel => exact ⟨z + 1, by omega, by go_num, by rw [gap_succ, app_two]⟩
              case measure => simp [intOf]; omega
            · obtain rfl : z = G := by omega
              go_wp2
              go_round
              case rel => exact ⟨x + 1, by omega, by go_num, by rw [text, List.append_assoc]⟩
              case measure => simp [intOf]; omega
    · obtain rfl : x = k := by omega
      have HC := Lib.hid (cut_text M G x hM0 hG0)
      have HX := Lib.hid (xs_length M x)
      have HA := Lib.hid (fun i (h : i < x) => xs_at M x i h)
      have HS := Lib.hid (strip_size M G x hM0 hG0)
      have HT := Lib.hid (trim_size M G x hM0)
      have HL := Lib.hid (leftB_text M G x hM0)
      have HZ : Hid ((bs (text M G x)).size = x * (M + G)) := by show _ = _; rw [size_bs, text_length]
      have hmx : (bs (text M G x)).size ≤ maxLen := by unfold maxLen; omega
      generalize bs (text M G x) = s at HC HS HT HL HZ hT hmx ⊢
      go_wp2_with fail
      refine (split_n s x (xs M x) _ (by omega) HC.out HX.out).mono ?_
      rintro e w1 ⟨A1, c1, rfl, hl1, hb1⟩
      have S1 := Lib.hid hl1
      have B1 := Lib.hid hb1
      clear hl1 hb1
      go_wp2
      go_loopw [15] (fun i wr => ∃ q r : Nat, q ≤ x ∧ i = .int .i64 q ∧ wr = w1.drewN r) (fun i _ => x - (intOf i).toNat)
      case atStart => exact ⟨0, 0, Nat.zero_le _, rfl, rfl⟩
      case round =>
        obtain ⟨q, r, hq, rfl, rfl⟩ := hrel
        by_cases hlt4 : q < x
        · have hat := HA.out q hlt4
          rcases S1.out.2 with h0 | ⟨b, o, rfl, hb, hc⟩
          · rw [h0] at hat; cases hat
          have cc : w1.cell? ⟨b, o + q, none⟩ = some (.string (bs (wrd q M))) := hc q _ hat
          clear hc hat hb
          have hx1 : (bs (wrd q M)).size = M := by rw [size_bs, wrd_length]
          have hx0 : ∀ h : 0 < (bs (wrd q M)).size, (((((bs (wrd q M))[0]'h).toNat : Nat) : Int) != (((letter q).toNat : Nat) : Int)) = false := fun h => by
            rw [first_letter q M h]; simp
          have hix := index_letter q
          generalize bs (wrd q M) = v at cc hx1 hx0
          have hv0 : 0 < v.size := by omega
          have hy0 := hx0 hv0
          clear hx0
          go_wp2
          go_quiet (fail)
          go_wp2
          go_roundw
          case rel => exact ⟨q + 1, _, by omega, by go_num, rfl⟩
          case measure => simp [intOf]; omega
        · have B2 := Lib.hid (below_drewN B1.out r)
          generalize w1.drewN r = w2 at B2 ⊢
          clear B1 S1 HA HC HX
          have q1 : ((((stripB s).size : Nat) : Int) == max (wrap64 (wrap64 ((x : Int) * ((M : Int) + 1)) - 1)) 0) = true := by
            have h1 : x * (M + 1) ≤ 60 * 21 := Nat.mul_le_mul (by omega) (by omega)
            have h2 : (x : Int) * ((M : Int) + 1) = ((x * (M + 1) : Nat) : Int) := by rw [Int.natCast_mul, Int.natCast_add]; rfl
            have h3 := HS.out
            rw [h2]
            generalize x * (M + 1) = y at h1 h3
            rw [IntWalk.wrap64_in (y : Int) (by omega), IntWalk.wrap64_in ((y : Int) - 1) (by omega), beq_iff_eq]
            omega
          have q2 : ((((trimB s).size : Nat) : Int) == max ((s.size : Int) - (G : Int)) 0) = true := by
            have h3 := HT.out
            have h4 := HZ.out
            generalize x * (M + G) = y at h3 h4
            rw [beq_iff_eq]
            omega
          clear HS HT HZ
          go_wp2_with fail
          refine (strip_is s _ (by omega)).mono ?_
          rintro e w3 ⟨rfl, hb3⟩
          have B3 := Lib.hid (B2.out.trans (hb3.mono B2.out.size))
          clear hb3 B2
          go_wp2_with fail
          refine (trim_any s _ hmx).mono ?_
          rintro e w' ⟨rfl, rfl⟩
          go_wp2_with fail
          refine (left_r s s _ hmx HL.out).mono ?_
          rintro e w' ⟨rfl, rfl⟩
          go_wp2_with fail
          refine (awake_is _).mono ?_
          rintro e w4 ⟨rfl, hb4⟩
          have B4 := Lib.hid (B3.out.trans (hb4.mono B3.out.size))
          clear hb4 B3
          go_wp2
          go_ret
          exact ⟨rfl, B4.out⟩
theorem walk (a0 a1 a2 : Int) (h0 : (Lit.int .i64 a0).wf = true) (h1 : (Lit.int .i64 a1).wf = true) (h2 : (Lit.int .i64 a2).wf = true) (w : World) :
    Calls Try.prog 5 #[.int .i64 a0, .int .i64 a1, .int .i64 a2] w fun e W' => e = .returned (.bool true) ∧ Below w.heap.size w W' :=
  walk_core a0 a1 a2 (place a0 60) (place a1 20) (place a2 6) w (place_lt a0 60 (by omega)) (place_lt a1 20 (by omega)) (place_lt a2 6 (by omega))
    (fun W => place_is a0 60 W (by omega) (by omega) h0) (fun W => place_is a1 20 W (by omega) (by omega) h1) (fun W => place_is a2 6 W (by omega) (by omega) h2)

end Go.Proofs.Ytaadhkfhjcaglaa.WordsMany
