/- The program's nameEnd, Left. -/
import Derived.WalkKit
import Derived.WalkSpells
import Derived.IntWalk
import Derived.Lib.Hide
import Derived.Lib.SplitLaws
import Derived.Test.YtndnialpedocnaaProg
import Derived.Test.YtndnialpedocnaaSpl
namespace Go.Proofs.Ytndnialpedocnaa.Ulft
open Go.RowKit Go.Proofs.Ytndnialpedocnaa.Pure Go.Proofs.Ytndnialpedocnaa.Spl

theorem u8_eq (c d : UInt8) : (((c.toNat : Nat) : Int) == ((d.toNat : Nat) : Int)) = (c == d) := by
  rw [Bool.eq_iff_iff, beq_iff_eq, beq_iff_eq, ← UInt8.toNat_inj]; omega

theorem ret_str {a b : ByteArray} (h : a = b) : Ending.returned (.string a) = .returned (.string b) := by rw [h]
def strLen : Value → Nat
  | .string s => s.size
  | _ => 0
theorem ret_int {k : IntKind} {a b : Int} (h : a = b) : Ending.returned (.int k a) = .returned (.int k b) := by rw [h]

theorem isBl_mk {c : UInt8} {b : Bool} (h : isBl c = b) : (((c.toNat : Nat) : Int) == 32 || (((c.toNat : Nat) : Int) == 9 || ((c.toNat : Nat) : Int) == 10)) = b := by
  rw [← h, isBl]
  have e1 := u8_eq c 32
  have e2 := u8_eq c 9
  have e3 := u8_eq c 10
  have f1 : (((32 : UInt8).toNat : Nat) : Int) = 32 := rfl
  have f2 : (((9 : UInt8).toNat : Nat) : Int) = 9 := rfl
  have f3 : (((10 : UInt8).toNat : Nat) : Int) = 10 := rfl
  rw [f1] at e1; rw [f2] at e2; rw [f3] at e3
  rw [e1, e2, e3, Bool.or_assoc]

set_option maxHeartbeats 400000 in
/-- the program's blank, by its number's value -/
theorem blank_num (n : Int) (b : Bool) (w : World) (hm : (n == 32 || (n == 9 || n == 10)) = b) : Calls Try.prog 48 #[.int .u8 n] w fun e w' => e = .returned (.bool b) ∧ w = w' := by
  by_cases h1 : n = 32
  · subst h1
    have : b = true := by simpa using hm.symm
    subst this
    clear hm
    go_enter Try.func48, Try.ntmps48
    go_wp2
    go_ret
    exact ⟨rfl, rfl⟩
  · by_cases h2 : n = 9
    · subst h2
      have : b = true := by simpa using hm.symm
      subst this
      clear hm h1
      go_enter Try.func48, Try.ntmps48
      go_wp2
      go_ret
      exact ⟨rfl, rfl⟩
    · have h1' : (n == 32) = false := by simpa using h1
      have h2' : (n == 9) = false := by simpa using h2
      rw [h1', h2', Bool.false_or, Bool.false_or] at hm
      subst hm
      clear h1 h2
      go_enter Try.func48, Try.ntmps48
      go_wp2
      go_ret
      exact ⟨rfl, rfl⟩
set_option maxHeartbeats 800000 in
/-- the program's Left -/
theorem left_any (s : ByteArray) (w : World) (hs : s.size ≤ maxLen) :
    Calls Try.prog 45 #[.string s] w fun e w' => e = .returned (.string (leftB s)) ∧ w = w' := by
  unfold maxLen at hs
  go_enter Try.func45, Try.ntmps45
  go_wp2
  go_loop [3] (fun i => ∃ k : Nat, k ≤ s.size ∧ i = .int .i64 k ∧ Hid (left (s.data.toList.drop k) = left s.data.toList)) (fun i => s.size - (intOf i).toNat)
  case atStart => exact ⟨0, Nat.zero_le _, rfl, rfl⟩
  case round =>
    obtain ⟨k, hk, rfl, hinv⟩ := hrel
    by_cases hlt : k < s.size
    · cases hb : isBl s[k] with
      | true =>
        have HS := Lib.hid (left_step s k hlt hb)
        go_wp2_with (go_at_call 48; refine (blank_num _ true _ (isBl_mk hb)).mono ?_; rintro e w' ⟨rfl, rfl⟩)
        go_round
        case rel => exact ⟨k + 1, by omega, by go_num, HS.out.symm.trans hinv.out⟩
        case measure => simp [intOf]; omega
      | false =>
        have HS := Lib.hid (left_fin s k hinv.out (left_stop s k hlt hb))
        go_wp2_with (go_at_call 48; refine (blank_num _ false _ (isBl_mk hb)).mono ?_; rintro e w' ⟨rfl, rfl⟩)
        go_ret
        exact ⟨ret_str HS.out, rfl⟩
    · have HS := Lib.hid (left_fin s k hinv.out (left_end s k (by omega)))
      go_wp2
      go_ret
      exact ⟨ret_str HS.out, rfl⟩

def lead (s : T) : T := s.takeWhile letB
theorem lead_take {s : T} {k : Nat} (h : ∀ x ∈ s.take k, letB x = true) (hk : k ≤ s.length) (hn : ∀ h : k < s.length, letB s[k] = false) : lead s = s.take k ∧ s.dropWhile letB = s.drop k := by
  have e : s = s.take k ++ s.drop k := (List.take_append_drop k s).symm
  have h1 : (s.drop k).takeWhile letB = [] ∧ (s.drop k).dropWhile letB = s.drop k := by
    by_cases hl : k < s.length
    · rw [List.drop_eq_getElem_cons hl, List.takeWhile_cons_of_neg (by rw [hn hl]; exact Bool.false_ne_true), List.dropWhile_cons_of_neg (by rw [hn hl]; exact Bool.false_ne_true)]
      exact ⟨rfl, rfl⟩
    · rw [List.drop_of_length_le (by omega)]; exact ⟨rfl, rfl⟩
  have h2 := List.takeWhile_append_of_pos (l₁ := s.take k) (l₂ := s.drop k) h
  have h3 := List.dropWhile_append_of_pos (l₁ := s.take k) (l₂ := s.drop k) h
  rw [← e, h1.1, List.append_nil] at h2
  rw [← e, h1.2] at h3
  exact ⟨h2, h3⟩
theorem letB_cases (x : UInt8) : (letB x = true ∧ ((97 ≤ x.toNat ∧ x.toNat ≤ 122 ∧ x.toNat ≠ 45) ∨ x.toNat = 45)) ∨ (letB x = false ∧ (x.toNat < 97 ∨ 122 < x.toNat) ∧ x.toNat ≠ 45) := by
  have e1 : (97 ≤ x) ↔ 97 ≤ x.toNat := by rw [UInt8.le_iff_toNat_le]; exact Iff.rfl
  have e2 : (x ≤ 122) ↔ x.toNat ≤ 122 := by rw [UInt8.le_iff_toNat_le]; exact Iff.rfl
  have e3 : (x == 45) = decide (x.toNat = 45) := by
    rw [Bool.eq_iff_iff, beq_iff_eq, decide_eq_true_iff, ← UInt8.toNat_inj]; exact Iff.rfl
  unfold letB
  rw [e3]
  simp only [e1, e2]
  by_cases h1 : 97 ≤ x.toNat <;> by_cases h2 : x.toNat ≤ 122 <;> by_cases h3 : x.toNat = 45 <;> simp [h1, h2, h3] <;> omega
/-- how long the run of a name's bytes is, and what is behind it -/
theorem end_of {s : T} {k : Nat} (h : ∀ x ∈ s.take k, letB x = true) (hk : k ≤ s.length) (hn : ∀ h : k < s.length, letB s[k] = false) : (lead s).length = k := by
  rw [(lead_take h hk hn).1, List.length_take]; omega
theorem lead_len (s : T) : (lead s).length ≤ s.length := (List.takeWhile_sublist _).length_le
theorem lead_eq (s : T) : s.take (lead s).length = lead s ∧ s.drop (lead s).length = s.dropWhile letB := by
  have e : lead s ++ s.dropWhile letB = s := List.takeWhile_append_dropWhile
  have h1 := List.take_left (l₁ := lead s) (l₂ := s.dropWhile letB)
  have h2 := List.drop_left (l₁ := lead s) (l₂ := s.dropWhile letB)
  rw [e] at h1 h2
  exact ⟨h1, h2⟩

set_option maxRecDepth 100000 in
set_option maxHeartbeats 4000000 in
theorem nameEnd_is (s : T) (w : World) (hs : s.length ≤ 1000000) :
    Calls Try.prog 44 #[.string (bs s)] w fun e w' => e = .returned (.int .i64 ((lead s).length : Nat)) ∧ w = w' := by
  have hsz : (bs s).size = s.length := Pure.size_bs s
  go_enter Try.func44, Try.ntmps44
  go_wp2_with fail
  go_loop [3] (fun i => ∃ k : Nat, k ≤ s.length ∧ i = .int .i64 k ∧ Hid (∀ x ∈ s.take k, letB x = true)) (fun i => s.length - (intOf i).toNat)
  case atStart => exact ⟨0, Nat.zero_le _, rfl, fun x hx => by cases hx⟩
  case round =>
    obtain ⟨k, hk, rfl, HA⟩ := hrel
    by_cases hlt : k < s.length
    · have hb : ((((bs s)[k]'(by rw [hsz]; exact hlt)).toNat : Nat) : Int) = (((s[k]).toNat : Nat) : Int) := rfl
      rcases letB_cases s[k] with ⟨hl, hc⟩ | ⟨hl, hc, h45⟩
      · have HN : Hid (∀ x ∈ s.take (k + 1), letB x = true) := fun x hx => by
          rw [List.take_succ_eq_append_getElem hlt] at hx
          rcases List.mem_append.1 hx with h | h
          · exact HA.out x h
          · rw [List.mem_singleton.1 h]; exact hl
        clear hl
        generalize s[k] = x at *
        rcases hc with ⟨c1, c2, c3⟩ | c1
        · have t1 : (97 : Int) ≤ ((x.toNat : Nat) : Int) := by omega
          have t2 : ((x.toNat : Nat) : Int) ≤ 122 := by omega
          have t3 : (((x.toNat : Nat) : Int) == 45) = false := by rw [beq_eq_false_iff_ne]; omega
          have t4 : ¬ ((x.toNat : Nat) : Int) = 45 := by omega
          go_wp2_with fail
          go_round
          case rel => exact ⟨k + 1, by omega, by go_num, HN⟩
          case measure => simp [intOf]; omega
        · have t1 : ((x.toNat : Nat) : Int) = 45 := by omega
          rw [t1] at hb
          go_wp2_with fail
          go_round
          case rel => exact ⟨k + 1, by omega, by go_num, HN⟩
          case measure => simp [intOf]; omega
      · have HN : Hid ((lead s).length = k) := end_of HA.out hk fun _ => hl
        clear hl
        generalize s[k] = x at *
        have t3 : (((x.toNat : Nat) : Int) == 45) = false := by rw [beq_eq_false_iff_ne]; omega
        have t4 : ¬ ((x.toNat : Nat) : Int) = 45 := by omega
        rcases hc with hc | hc
        · have t1 : ¬ (97 : Int) ≤ ((x.toNat : Nat) : Int) := by omega
          go_wp2
          go_ret
          exact ⟨ret_int (by rw [HN.out]), rfl⟩
        · have t1 : (97 : Int) ≤ ((x.toNat : Nat) : Int) := by omega
          have t2 : ¬ ((x.toNat : Nat) : Int) ≤ 122 := by omega
          go_wp2
          go_ret
          exact ⟨ret_int (by rw [HN.out]), rfl⟩
    · have HN : Hid ((lead s).length = k) := end_of HA.out hk fun h => absurd h hlt
      go_wp2
      go_ret
      exact ⟨ret_int (by rw [HN.out]), rfl⟩

end Go.Proofs.Ytndnialpedocnaa.Ulft
