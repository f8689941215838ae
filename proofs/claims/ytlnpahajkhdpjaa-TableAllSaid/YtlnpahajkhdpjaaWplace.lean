/- A number's place among many. -/
import Derived.Test.YtlnpahajkhdpjaaPlace
namespace Go.Proofs.Ytlnpahajkhdpjaa.Wplace
open Go.RowKit Go.Proofs.Ytlnpahajkhdpjaa.Place

theorem neg_way' (v : Int) (n : Nat) (hn : 0 < n) (hn2 : n ≤ 4294967296) (h : v.tmod (n : Int) < 0) : wrap64 (v.tmod (n : Int) + (n : Int)) = ((place v n : Nat) : Int) := by
  have h1 := Int.emod_nonneg v (b := (n : Int)) (by omega)
  have h2 := Int.emod_lt_of_pos v (b := (n : Int)) (by omega)
  have h3 := place_cast v n hn
  rcases tmod_two v (n : Int) (by omega) with e | e
  · omega
  · rw [h3, e, IntWalk.wrap64_in] <;> omega

set_option maxHeartbeats 400000 in
theorem place_is (v : Int) (n : Nat) (w : World) (hn : 0 < n) (hn2 : n ≤ 4294967296) (hv : (Lit.int .i64 v).wf = true) :
    Calls Try.prog 9 #[.int .i64 v, .int .i64 (n : Int)] w fun e w' => e = .returned (.int .i64 ((place v n : Nat) : Int)) ∧ w = w' := by
  have hvb : -9223372036854775808 ≤ v ∧ v ≤ 9223372036854775807 := by
    simpa [Lit.wf, IntKind.min, IntKind.max, IntKind.signed, IntKind.bits] using hv
  have hn0 : ((n : Int) == 0) = false := by simp; omega
  have HP := Lib.hid (place_cast v n hn)
  obtain ⟨hv1, hv2⟩ := hvb
  by_cases h0 : 0 ≤ v
  · have h1 := Int.emod_nonneg v (b := (n : Int)) (by omega)
    have h2 : ¬ v % (n : Int) < 0 := by omega
    go_enter Try.func9, Try.ntmps9
    go_wp2
    go_ret
    exact ⟨ret_int HP.out.symm, rfl⟩
  · by_cases h2 : v.tmod (n : Int) < 0
    · have HQ := Lib.hid (neg_way' v n hn hn2 h2)
      go_enter Try.func9, Try.ntmps9
      go_wp2
      go_ret
      exact ⟨ret_int HQ.out, rfl⟩
    · have HQ := Lib.hid (pos_way v n hn (by omega))
      go_enter Try.func9, Try.ntmps9
      go_wp2
      go_ret
      exact ⟨ret_int HQ.out, rfl⟩

end Go.Proofs.Ytlnpahajkhdpjaa.Wplace
