/- What the functions that look at blanks and ends answer: each is walked once. -/
import Derived.WalkKit
import Derived.WalkSpells
import Derived.IntWalk
import Derived.Lib.Hide
import Derived.Test.YtcopddepnphfmaaDoorProg
import Derived.Test.YtcopddepnphfmaaDoorPure
namespace Go.Proofs.YtcopddepnphfmaaDoor.Ends
open Go.RowKit Go.Proofs.YtcopddepnphfmaaDoor.Pure

theorem u8_eq (c d : UInt8) : (((c.toNat : Nat) : Int) == ((d.toNat : Nat) : Int)) = (c == d) := by
  rw [Bool.eq_iff_iff, beq_iff_eq, beq_iff_eq, ← UInt8.toNat_inj]; omega

theorem ret_str {a b : ByteArray} (h : a = b) : Ending.returned (.string a) = .returned (.string b) := by rw [h]
def strLen : Value → Nat
  | .string s => s.size
  | _ => 0
theorem ret_int {k : IntKind} {a b : Int} (h : a = b) : Ending.returned (.int k a) = .returned (.int k b) := by rw [h]

theorem isBl_mk {c : UInt8} {b : Bool} (h : isBl c = b) : (((c.toNat : Nat) : Int) == 32 || (((c.toNat : Nat) : Int) == 9 || ((c.toNat : Nat) : Int) == 10)) = b := by
  rw [← h, isBl]
  have e1 := u8_eq c 32
  have e2 := u8_eq c 9
  have e3 := u8_eq c 10
  have f1 : (((32 : UInt8).toNat : Nat) : Int) = 32 := rfl
  have f2 : (((9 : UInt8).toNat : Nat) : Int) = 9 := rfl
  have f3 : (((10 : UInt8).toNat : Nat) : Int) = 10 := rfl
  rw [f1] at e1; rw [f2] at e2; rw [f3] at e3
  rw [e1, e2, e3, Bool.or_assoc]

set_option maxHeartbeats 400000 in
/-- the program's blank, by its number's value -/
theorem blank_num (n : Int) (b : Bool) (w : World) (hm : (n == 32 || (n == 9 || n == 10)) = b) : Calls Tryd.prog 60 #[.int .u8 n] w fun e w' => e = .returned (.bool b) ∧ w = w' := by
  by_cases h1 : n = 32
  · subst h1
    have : b = true := by simpa using hm.symm
    subst this
    clear hm
    go_enter Tryd.func60, Tryd.ntmps60
    go_wp2
    go_ret
    exact ⟨rfl, rfl⟩
  · by_cases h2 : n = 9
    · subst h2
      have : b = true := by simpa using hm.symm
      subst this
      clear hm h1
      go_enter Tryd.func60, Tryd.ntmps60
      go_wp2
      go_ret
      exact ⟨rfl, rfl⟩
    · have h1' : (n == 32) = false := by simpa using h1
      have h2' : (n == 9) = false := by simpa using h2
      rw [h1', h2', Bool.false_or, Bool.false_or] at hm
      subst hm
      clear h1 h2
      go_enter Tryd.func60, Tryd.ntmps60
      go_wp2
      go_ret
      exact ⟨rfl, rfl⟩
theorem blank_any (c : UInt8) (w : World) : Calls Tryd.prog 60 #[.int .u8 ((c.toNat : Nat) : Int)] w fun e w' => e = .returned (.bool (isBl c)) ∧ w = w' :=
  blank_num _ _ w (isBl_mk rfl)

set_option maxHeartbeats 400000 in
/-- the document's Blank, by its number's value -/
theorem refBlank_num (n : Int) (b : Bool) (w : World) (hm : (n == 32 || (n == 9 || n == 10)) = b) : Calls Tryd.prog 48 #[.int .u8 n] w fun e w' => e = .returned (.bool b) ∧ w = w' := by
  by_cases h1 : n = 32
  · subst h1
    have : b = true := by simpa using hm.symm
    subst this
    clear hm
    go_enter Tryd.func48, Tryd.ntmps48
    go_wp2
    go_ret
    exact ⟨rfl, rfl⟩
  · by_cases h2 : n = 9
    · subst h2
      have : b = true := by simpa using hm.symm
      subst this
      clear hm h1
      go_enter Tryd.func48, Tryd.ntmps48
      go_wp2
      go_ret
      exact ⟨rfl, rfl⟩
    · have h1' : (n == 32) = false := by simpa using h1
      have h2' : (n == 9) = false := by simpa using h2
      rw [h1', h2', Bool.false_or, Bool.false_or] at hm
      subst hm
      clear h1 h2
      go_enter Tryd.func48, Tryd.ntmps48
      go_wp2
      go_ret
      exact ⟨rfl, rfl⟩
theorem refBlank_any (c : UInt8) (w : World) : Calls Tryd.prog 48 #[.int .u8 ((c.toNat : Nat) : Int)] w fun e w' => e = .returned (.bool (isBl c)) ∧ w = w' :=
  refBlank_num _ _ w (isBl_mk rfl)

set_option maxHeartbeats 800000 in
/-- the program's Left -/
theorem left_any (s : ByteArray) (w : World) (hs : s.size ≤ maxLen) :
    Calls Tryd.prog 47 #[.string s] w fun e w' => e = .returned (.string (leftB s)) ∧ w = w' := by
  unfold maxLen at hs
  go_enter Tryd.func47, Tryd.ntmps47
  go_wp2
  go_loop [3] (fun i => ∃ k : Nat, k ≤ s.size ∧ i = .int .i64 k ∧ Hid (left (s.data.toList.drop k) = left s.data.toList)) (fun i => s.size - (intOf i).toNat)
  case atStart => exact ⟨0, Nat.zero_le _, rfl, rfl⟩
  case round =>
    obtain ⟨k, hk, rfl, hinv⟩ := hrel
    by_cases hlt : k < s.size
    · cases hb : isBl s[k] with
      | true =>
        have HS := Lib.hid (left_step s k hlt hb)
        go_wp2_with (go_at_call 60; refine (blank_num _ true _ (isBl_mk hb)).mono ?_; rintro e w' ⟨rfl, rfl⟩)
        go_round
        case rel => exact ⟨k + 1, by omega, by go_num, HS.out.symm.trans hinv.out⟩
        case measure => simp [intOf]; omega
      | false =>
        have HS := Lib.hid (left_fin s k hinv.out (left_stop s k hlt hb))
        go_wp2_with (go_at_call 60; refine (blank_num _ false _ (isBl_mk hb)).mono ?_; rintro e w' ⟨rfl, rfl⟩)
        go_ret
        exact ⟨ret_str HS.out, rfl⟩
    · have HS := Lib.hid (left_fin s k hinv.out (left_end s k (by omega)))
      go_wp2
      go_ret
      exact ⟨ret_str HS.out, rfl⟩


set_option maxHeartbeats 800000 in
/-- the program's Trim, by what Left answers -/
theorem trim_core (s u : ByteArray) (w : World) (hL : ∀ W : World, Calls Tryd.prog 47 #[.string s] W fun e w' => e = .returned (.string u) ∧ W = w') (hs : u.size ≤ maxLen) :
    Calls Tryd.prog 46 #[.string s] w fun e w' => e = .returned (.string (rightB u)) ∧ w = w' := by
  unfold maxLen at hs
  go_enter Tryd.func46, Tryd.ntmps46
  go_wp2_with (go_at_call 47; refine (hL _).mono ?_; rintro e w' ⟨rfl, rfl⟩)
  go_loop [3] (fun i => ∃ k : Nat, k ≤ u.size ∧ i = .int .i64 k ∧ Hid (right (u.data.toList.take k) = right u.data.toList)) (fun i => (intOf i).toNat)
  case atStart => exact ⟨u.size, Nat.le_refl _, rfl, by show _ = _; rw [take_size u _ (Nat.le_refl _)]⟩
  case round =>
    obtain ⟨k, hk, rfl, hinv⟩ := hrel
    rcases Nat.eq_zero_or_pos k with h0 | h0
    · subst h0
      have HS := Lib.hid (right_fin0 u hinv.out)
      clear hinv
      go_wp2
      go_ret
      exact ⟨ret_str HS.out, rfl⟩
    · obtain ⟨j, rfl⟩ : ∃ j, k = j + 1 := ⟨k - 1, by omega⟩
      have hlt : j < u.size := by omega
      cases hb : isBl u[j] with
      | true =>
        have HS := Lib.hid (right_step u j hlt hb)
        go_wp2_with (go_at_call 60; refine (blank_num _ true _ (isBl_mk hb)).mono ?_; rintro e w' ⟨rfl, rfl⟩)
        go_round
        case rel => exact ⟨j, by omega, by go_num, HS.out.symm.trans hinv.out⟩
        case measure => simp [intOf]
      | false =>
        have HS := Lib.hid (right_fin u (j + 1) hinv.out (right_stop u j hlt hb))
        go_wp2_with (go_at_call 60; refine (blank_num _ false _ (isBl_mk hb)).mono ?_; rintro e w' ⟨rfl, rfl⟩)
        go_ret
        exact ⟨ret_str HS.out, rfl⟩
theorem trim_any (s : ByteArray) (w : World) (hs : s.size ≤ maxLen) :
    Calls Tryd.prog 46 #[.string s] w fun e w' => e = .returned (.string (trimB s)) ∧ w = w' :=
  trim_core s (leftB s) w (fun W => left_any s W hs) (Nat.le_trans (leftB_size s) hs)

set_option maxHeartbeats 800000 in
/-- the document's Left -/
theorem refLeft_any (s : ByteArray) (w : World) (_hs : s.size ≤ maxLen) :
    Calls Tryd.prog 32 #[.string s] w fun e w' => e = .returned (.string (leftB s)) ∧ w = w' := by
  go_enter Tryd.func32, Tryd.ntmps32
  go_wp2
  go_loop [0] (fun v => ∃ u : ByteArray, u.size ≤ s.size ∧ v = .string u ∧ Hid (leftB u = leftB s)) (fun v => strLen v)
  case atStart => exact ⟨s, Nat.le_refl _, rfl, rfl⟩
  case round =>
    obtain ⟨u, hk, rfl, hinv⟩ := hrel
    by_cases hlt : 0 < u.size
    · cases hb : isBl u[0] with
      | true =>
        have HS := Lib.hid (leftB_tail u hlt hb)
        go_wp2_with (go_at_call 48; refine (refBlank_num _ true _ (isBl_mk hb)).mono ?_; rintro e w' ⟨rfl, rfl⟩)
        go_round
        case rel => exact ⟨u.extract 1 u.size, by rw [ByteArray.size_extract]; omega, rfl, HS.out.trans hinv.out⟩
        case measure => simp [strLen]; omega
      | false =>
        have HS := Lib.hid ((leftB_stop u hlt hb).symm.trans hinv.out)
        go_wp2_with (go_at_call 48; refine (refBlank_num _ false _ (isBl_mk hb)).mono ?_; rintro e w' ⟨rfl, rfl⟩)
        go_ret
        exact ⟨ret_str HS.out, rfl⟩
    · have HS := Lib.hid ((leftB_end u (by omega)).symm.trans hinv.out)
      go_wp2
      go_ret
      exact ⟨ret_str HS.out, rfl⟩

set_option maxHeartbeats 800000 in
/-- the document's Right -/
theorem refRight_any (s : ByteArray) (w : World) (hs : s.size ≤ maxLen) :
    Calls Tryd.prog 31 #[.string s] w fun e w' => e = .returned (.string (rightB s)) ∧ w = w' := by
  unfold maxLen at hs
  go_enter Tryd.func31, Tryd.ntmps31
  go_wp2
  go_loop [0] (fun v => ∃ u : ByteArray, u.size ≤ s.size ∧ v = .string u ∧ Hid (rightB u = rightB s)) (fun v => strLen v)
  case atStart => exact ⟨s, Nat.le_refl _, rfl, rfl⟩
  case round =>
    obtain ⟨u, hk, rfl, hinv⟩ := hrel
    rcases Nat.eq_zero_or_pos u.size with h0 | h0
    · have HS := Lib.hid ((rightB_end u h0).symm.trans hinv.out)
      have h1 : ¬ 0 < u.size := by omega
      clear h0
      go_wp2
      go_ret
      exact ⟨ret_str HS.out, rfl⟩
    · have hlt : u.size - 1 < u.size := by omega
      cases hb : isBl u[u.size - 1] with
      | true =>
        have HS := Lib.hid (rightB_init u h0 hb)
        go_wp2_with (go_at_call 48; refine (refBlank_num _ true _ (isBl_mk hb)).mono ?_; rintro e w' ⟨rfl, rfl⟩)
        go_round
        case rel => exact ⟨u.extract 0 (u.size - 1), by rw [ByteArray.size_extract]; omega, rfl, HS.out.trans hinv.out⟩
        case measure => simp [strLen]; omega
      | false =>
        have HS := Lib.hid ((rightB_stop u h0 hb).symm.trans hinv.out)
        go_wp2_with (go_at_call 48; refine (refBlank_num _ false _ (isBl_mk hb)).mono ?_; rintro e w' ⟨rfl, rfl⟩)
        go_ret
        exact ⟨ret_str HS.out, rfl⟩

set_option maxHeartbeats 800000 in
/-- the document's Trim -/
theorem refTrim_any (s : ByteArray) (w : World) (hs : s.size ≤ maxLen) :
    Calls Tryd.prog 21 #[.string s] w fun e w' => e = .returned (.string (trimB s)) ∧ w = w' := by
  have h1 := Nat.le_trans (leftB_size s) hs
  have HT : Hid (rightB (leftB s) = trimB s) := rfl
  go_enter Tryd.func21, Tryd.ntmps21
  go_wp2_with (first | (go_at_call 32; refine (refLeft_any _ _ hs).mono ?_; rintro e w' ⟨rfl, rfl⟩) | (go_at_call 31; refine (refRight_any _ _ h1).mono ?_; rintro e w' ⟨rfl, rfl⟩))
  go_ret
  exact ⟨ret_str HT.out, rfl⟩

end Go.Proofs.YtcopddepnphfmaaDoor.Ends
