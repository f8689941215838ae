/- What the laws' own helpers answer: a number's place among n. -/
import Derived.WalkKit
import Derived.WalkSpells
import Derived.IntWalk
import Derived.Lib.Hide
import Derived.Test.YtpphkaolonjjdaaDoorProg
namespace Go.Proofs.YtpphkaolonjjdaaDoor.Place
open Go.RowKit

/-- any number as one from 0 to n - 1 -/
def place (v : Int) (n : Nat) : Nat := (v % (n : Int)).toNat
theorem place_lt (v : Int) (n : Nat) (h : 0 < n) : place v n < n := by
  have h1 := Int.emod_nonneg v (b := (n : Int)) (by omega)
  have h2 := Int.emod_lt_of_pos v (b := (n : Int)) (by omega)
  unfold place; omega
theorem place_cast (v : Int) (n : Nat) (h : 0 < n) : ((place v n : Nat) : Int) = v % (n : Int) := by
  have h1 := Int.emod_nonneg v (b := (n : Int)) (by omega)
  unfold place; omega
theorem ret_int {k : IntKind} {a b : Int} (h : a = b) : Ending.returned (.int k a) = .returned (.int k b) := by rw [h]

theorem tmod_two (v n : Int) (hn : 0 < n) : v.tmod n = v % n ∨ v.tmod n = v % n - n := by
  rw [Int.tmod_eq_emod]
  split
  · left; omega
  · right; omega
theorem neg_way (v : Int) (n : Nat) (hn : 0 < n) (hn2 : n ≤ 1000000) (h : v.tmod (n : Int) < 0) : wrap64 (v.tmod (n : Int) + (n : Int)) = ((place v n : Nat) : Int) := by
  have h1 := Int.emod_nonneg v (b := (n : Int)) (by omega)
  have h2 := Int.emod_lt_of_pos v (b := (n : Int)) (by omega)
  have h3 := place_cast v n hn
  rcases tmod_two v (n : Int) (by omega) with e | e
  · omega
  · rw [h3, e, IntWalk.wrap64_in] <;> omega
theorem pos_way (v : Int) (n : Nat) (hn : 0 < n) (h : 0 ≤ v.tmod (n : Int)) : v.tmod (n : Int) = ((place v n : Nat) : Int) := by
  have h2 := Int.emod_lt_of_pos v (b := (n : Int)) (by omega)
  have h3 := place_cast v n hn
  rcases tmod_two v (n : Int) (by omega) with e | e <;> omega

set_option maxHeartbeats 400000 in
/-- a number's place -/
theorem place_is (v : Int) (n : Nat) (w : World) (hn : 0 < n) (hn2 : n ≤ 1000000) (hv : (Lit.int .i64 v).wf = true) :
    Calls Tryd.prog 17 #[.int .i64 v, .int .i64 (n : Int)] w fun e w' => e = .returned (.int .i64 ((place v n : Nat) : Int)) ∧ w = w' := by
  have hvb : -9223372036854775808 ≤ v ∧ v ≤ 9223372036854775807 := by
    simpa [Lit.wf, IntKind.min, IntKind.max, IntKind.signed, IntKind.bits] using hv
  have hn0 : ((n : Int) == 0) = false := by simp; omega
  have HP := Lib.hid (place_cast v n hn)
  obtain ⟨hv1, hv2⟩ := hvb
  by_cases h0 : 0 ≤ v
  · have h1 := Int.emod_nonneg v (b := (n : Int)) (by omega)
    have h2 : ¬ v % (n : Int) < 0 := by omega
    go_enter Tryd.func17, Tryd.ntmps17
    go_wp2
    go_ret
    exact ⟨ret_int HP.out.symm, rfl⟩
  · by_cases h2 : v.tmod (n : Int) < 0
    · have HQ := Lib.hid (neg_way v n hn hn2 h2)
      go_enter Tryd.func17, Tryd.ntmps17
      go_wp2
      go_ret
      exact ⟨ret_int HQ.out, rfl⟩
    · have HQ := Lib.hid (pos_way v n hn (by omega))
      go_enter Tryd.func17, Tryd.ntmps17
      go_wp2
      go_ret
      exact ⟨ret_int HQ.out, rfl⟩

end Go.Proofs.YtpphkaolonjjdaaDoor.Place
