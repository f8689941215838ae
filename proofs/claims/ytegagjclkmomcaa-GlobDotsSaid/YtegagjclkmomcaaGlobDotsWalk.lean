/- The walk of the law GlobDots: for every number the law answers true. -/
import Derived.Test.YtegagjclkmomcaaGplain
import Derived.Test.YtegagjclkmomcaaPlace
namespace Go.Proofs.Ytegagjclkmomcaa.GlobDots
open Go.RowKit Go.Proofs.Ytegagjclkmomcaa.Glb Go.Proofs.Ytegagjclkmomcaa.Gops Go.Proofs.Ytegagjclkmomcaa.Gread Go.Proofs.Ytegagjclkmomcaa.Gmatch Go.Proofs.Ytegagjclkmomcaa.Gmagic Go.Proofs.Ytegagjclkmomcaa.Gplain
open Go.Proofs.Ytegagjclkmomcaa.Place (place place_lt place_is)

def nameAt (k : Nat) : ByteArray := bs ([46, 97, 98].take (1 + k))
theorem name_size (k : Nat) (h : k < 3) : (nameAt k).size = k + 1 := by
  obtain rfl | rfl | rfl : k = 0 ∨ k = 1 ∨ k = 2 := by omega
  all_goals rfl
theorem q1 (k : Nat) (h : k < 3) : matchL [42] (nameAt k).data.toList = false := by
  obtain rfl | rfl | rfl : k = 0 ∨ k = 1 ∨ k = 2 := by omega
  all_goals (show _ = _; kernel_rfl)
theorem q2 (k : Nat) (h : k < 3) : matchL [46, 42] (nameAt k).data.toList = true := by
  obtain rfl | rfl | rfl : k = 0 ∨ k = 1 ∨ k = 2 := by omega
  all_goals (show _ = _; kernel_rfl)
theorem q3 (k : Nat) (h : k < 3) : matchL [92, 46, 42] (nameAt k).data.toList = true := by
  obtain rfl | rfl | rfl : k = 0 ∨ k = 1 ∨ k = 2 := by omega
  all_goals (show _ = _; kernel_rfl)
theorem q4 (k : Nat) (h : k < 3) : matchL [91, 46, 93, 42] (nameAt k).data.toList = false := by
  obtain rfl | rfl | rfl : k = 0 ∨ k = 1 ∨ k = 2 := by omega
  all_goals (show _ = _; kernel_rfl)
theorem q5 (k : Nat) (h : k < 3) : matchL [63, 42] (nameAt k).data.toList = false := by
  obtain rfl | rfl | rfl : k = 0 ∨ k = 1 ∨ k = 2 := by omega
  all_goals (show _ = _; kernel_rfl)
theorem q6 (k : Nat) (h : k < 3) : matchL [120, 42] ((⟨#[120]⟩ : ByteArray) ++ nameAt k).data.toList = true := by
  obtain rfl | rfl | rfl : k = 0 ∨ k = 1 ∨ k = 2 := by omega
  all_goals (show _ = _; kernel_rfl)
theorem q7 (k : Nat) (h : k < 3) : matchL (nameAt k).data.toList (nameAt k).data.toList = true := by
  obtain rfl | rfl | rfl : k = 0 ∨ k = 1 ∨ k = 2 := by omega
  all_goals (show _ = _; kernel_rfl)
theorem cut_name (k : Nat) (h : k < 3) (W : World) : (Instr.slice 9 (.string ⟨#[46, 97, 98]⟩) none (some (.int .i64 (1 + (k : Int)))) none).run Try.prog W = .ok (.string (nameAt k)) W := by
  obtain rfl | rfl | rfl : k = 0 ∨ k = 1 ∨ k = 2 := by omega
  all_goals (show _ = _; kernel_rfl)

set_option maxRecDepth 100000 in
set_option maxHeartbeats 4000000 in
theorem walk (n : Int) (w : World) (hn : (Lit.int .i64 n).wf = true) :
    Calls Try.prog 6 #[.int .i64 n] w fun e W' => e = .returned (.bool true) ∧ Below w.heap.size w W' := by
  have hk := place_lt n 3 (by omega)
  have HK := Lib.hid (fun W => place_is n 3 W (by omega) (by omega) hn)
  clear hn
  generalize place n 3 = k at hk HK
  have hsl := cut_name k hk
  have zs := name_size k hk
  have c1 := Lib.hid (fun W => m_lit ⟨#[42]⟩ (nameAt k) false W (by decide) (by omega) (q1 k hk))
  have c2 := Lib.hid (fun W => m_lit ⟨#[46, 42]⟩ (nameAt k) true W (by decide) (by omega) (q2 k hk))
  have c3 := Lib.hid (fun W => m_lit ⟨#[92, 46, 42]⟩ (nameAt k) true W (by decide) (by omega) (q3 k hk))
  have c4 := Lib.hid (fun W => m_lit ⟨#[91, 46, 93, 42]⟩ (nameAt k) false W (by decide) (by omega) (q4 k hk))
  have c5 := Lib.hid (fun W => m_lit ⟨#[63, 42]⟩ (nameAt k) false W (by decide) (by omega) (q5 k hk))
  have c6 := Lib.hid (fun W => m_lit ⟨#[120, 42]⟩ ((⟨#[120]⟩ : ByteArray) ++ nameAt k) true W (by decide) (by rw [ByteArray.size_append]; have : (⟨#[120]⟩ : ByteArray).size = 1 := rfl; omega) (q6 k hk))
  have c7 := Lib.hid (fun W => m_lit (nameAt k) (nameAt k) true W (by omega) (by omega) (q7 k hk))
  generalize nameAt k = s at hsl zs c1 c2 c3 c4 c5 c6 c7
  have z1 : (⟨#[120]⟩ : ByteArray).size ≤ 1 := Nat.le_refl _
  have zs2 : s.size ≤ 3 := by omega
  clear zs
  have a1 : ∀ W, (Op.stringOp .add ⟨#[120]⟩ s).run Try.prog W = .ok (.string ((⟨#[120]⟩ : ByteArray) ++ s)) W := fun W => run_string_add_sum W _ _ (by omega)
  go_enter Try.func6, Try.ntmps6
  go_wp2_with fail
  refine (HK.out _).mono ?_
  rintro e w' ⟨rfl, rfl⟩
  clear HK
  go_wp2_with fail
  refine (c1.out _).mono ?_
  rintro e w1 ⟨rfl, hb⟩
  have B1 := Lib.hid hb
  clear hb c1
  go_wp2_with fail
  refine (c2.out _).mono ?_
  rintro e w2 ⟨rfl, hb⟩
  have B2 := Lib.hid (B1.out.trans (hb.mono B1.out.size))
  clear hb c2
  go_wp2_with fail
  refine (c3.out _).mono ?_
  rintro e w3 ⟨rfl, hb⟩
  have B3 := Lib.hid (B2.out.trans (hb.mono B2.out.size))
  clear hb c3
  go_wp2_with fail
  refine (c4.out _).mono ?_
  rintro e w4 ⟨rfl, hb⟩
  have B4 := Lib.hid (B3.out.trans (hb.mono B3.out.size))
  clear hb c4
  go_wp2_with fail
  refine (c5.out _).mono ?_
  rintro e w5 ⟨rfl, hb⟩
  have B5 := Lib.hid (B4.out.trans (hb.mono B4.out.size))
  clear hb c5
  go_wp2_with fail
  refine (c6.out _).mono ?_
  rintro e w6 ⟨rfl, hb⟩
  have B6 := Lib.hid (B5.out.trans (hb.mono B5.out.size))
  clear hb c6
  go_wp2_with fail
  refine (c7.out _).mono ?_
  rintro e w7 ⟨rfl, hb⟩
  have B7 := Lib.hid (B6.out.trans (hb.mono B6.out.size))
  clear hb c7
  go_wp2_with fail
  refine (awake_is _).mono ?_
  rintro e w8 ⟨rfl, hb⟩
  have B8 := Lib.hid (B7.out.trans (hb.mono B7.out.size))
  clear hb
  go_wp2
  go_ret
  exact ⟨rfl, B8.out⟩

end Go.Proofs.Ytegagjclkmomcaa.GlobDots
