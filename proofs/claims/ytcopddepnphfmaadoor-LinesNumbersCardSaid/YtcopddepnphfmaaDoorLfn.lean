/- What the program's small functions of lines answer: backslashes, goesOn, unslashed, right, later. -/
import Derived.Test.YtcopddepnphfmaaDoorLcut
namespace Go.Proofs.YtcopddepnphfmaaDoor.Lfn
open Go.RowKit Go.Proofs.YtcopddepnphfmaaDoor.Pure Go.Proofs.YtcopddepnphfmaaDoor.Ends Go.Proofs.YtcopddepnphfmaaDoor.Ln Go.Proofs.YtcopddepnphfmaaDoor.Lcut

set_option maxHeartbeats 400000 in
/-- how many backslashes a text ends with -/
theorem backs_is (s : ByteArray) (w : World) (hs : s.size ≤ maxLen) :
    Calls Tryd.prog 36 #[.string s] w fun e w' => e = .returned (.int .i64 (tb s.data.toList : Nat)) ∧ w = w' := by
  unfold maxLen at hs
  have hle := tb_trim s.data.toList
  rw [← Lib.size_eq] at hle
  have HT : Hid (((s.size : Nat) : Int) - ((Lib.trimRightB s.data.toList 92).length : Nat) = (tb s.data.toList : Nat)) := by
    show _ = _
    omega
  have hz : (bs (Lib.trimRightB s.data.toList 92)).size = (Lib.trimRightB s.data.toList 92).length := size_bs _
  have HZ := Lib.hid hz
  have hle2 : (bs (Lib.trimRightB s.data.toList 92)).size ≤ s.size := by omega
  clear hz hle
  go_enter Tryd.func36, Tryd.ntmps36
  go_wp2_with fail
  refine (Tryd.strings_TrimRight_one s 92 (by decide) _ (by omega)).mono ?_
  rintro e w' ⟨rfl, rfl⟩
  have e1 : (⟨(Lib.trimRightB s.data.toList 92).toArray⟩ : ByteArray) = bs (Lib.trimRightB s.data.toList 92) := rfl
  rw [e1]
  clear e1
  go_wp2
  go_ret
  exact ⟨ret_int (by rw [HZ.out]; exact HT.out), rfl⟩
theorem backs_num (s : ByteArray) (n : Nat) (w : World) (hs : s.size ≤ maxLen) (h : tb s.data.toList = n) :
    Calls Tryd.prog 36 #[.string s] w fun e w' => e = .returned (.int .i64 (n : Nat)) ∧ w = w' := by subst h; exact backs_is s w hs

theorem ret_bool {a b : Bool} (h : a = b) : Ending.returned (.bool a) = .returned (.bool b) := by rw [h]

set_option maxHeartbeats 400000 in
theorem goes_core (s : ByteArray) (n : Nat) (w : World) (hn : n ≤ 4611686018427387904) (h : ∀ W, Calls Tryd.prog 36 #[.string s] W fun e w' => e = .returned (.int .i64 (n : Nat)) ∧ W = w') :
    Calls Tryd.prog 25 #[.string s] w fun e w' => e = .returned (.bool (((n % 2 : Nat) : Int) == 1)) ∧ w = w' := by
  go_enter Tryd.func25, Tryd.ntmps25
  go_wp2_with (go_at_call 36; refine (h _).mono ?_; rintro e w' ⟨rfl, rfl⟩)
  go_ret
  exact ⟨ret_bool (by simp), rfl⟩
/-- does a logical line go on? -/
theorem goes_is (s : ByteArray) (w : World) (hs : s.size ≤ 1099511627776) :
    Calls Tryd.prog 25 #[.string s] w fun e w' => e = .returned (.bool (odd s.data.toList)) ∧ w = w' := by
  have hle := tb_le s.data.toList
  rw [← Lib.size_eq] at hle
  refine (goes_core s _ w (by omega) (fun W => backs_is s W (by unfold maxLen; omega))).mono ?_
  rintro e w' ⟨rfl, rfl⟩
  refine ⟨ret_bool ?_, rfl⟩
  unfold odd
  rw [Bool.eq_iff_iff]
  simp
  omega

set_option maxHeartbeats 400000 in
theorem unslashed_is (s : ByteArray) (w : World) (h0 : 1 ≤ s.size) (hs : s.size ≤ maxLen) :
    Calls Tryd.prog 45 #[.string s] w fun e w' => e = .returned (.string (s.extract 0 (s.size - 1))) ∧ w = w' := by
  unfold maxLen at hs
  obtain ⟨n, hn⟩ : ∃ n, n = s.size - 1 := ⟨_, rfl⟩
  have HN : Hid (n = s.size - 1) := hn
  have hz : s.size = n + 1 := by omega
  clear hn
  rw [← HN.out]
  go_enter Tryd.func45, Tryd.ntmps45
  go_wp2
  go_ret
  exact ⟨rfl, rfl⟩
theorem unslashed_bs (u : List UInt8) (s : ByteArray) (w : World) (h : s.data.toList = u ++ [92]) (hs : s.size ≤ maxLen) :
    Calls Tryd.prog 45 #[.string s] w fun e w' => e = .returned (.string (bs u)) ∧ w = w' := by
  have hz : s.size = u.length + 1 := by rw [Lib.size_eq, h]; simp
  have e : s.extract 0 (s.size - 1) = bs u := ext_data (by rw [hz, Lib.extract_upto, bs_data, h]; simp)
  have := unslashed_is s w (by omega) hs
  rw [e] at this
  exact this

theorem later_room (n k : Int) (w : World) (h1 : -4611686018427387904 ≤ n) (h2 : n ≤ 4611686018427387904) (h3 : 0 ≤ k) (h4 : k ≤ 1099511627776) :
    Calls Tryd.prog 29 #[.int .i64 n, .int .i64 k] w fun e w' => e = .returned (.int .i64 (n + k)) ∧ w = w' := by
  have w1 : IntKind.i64.wrap (9223372036854775807 - k) = 9223372036854775807 - k := IntWalk.i64_in _ (by omega)
  have w2 : IntKind.i64.wrap (n + k) = n + k := IntWalk.i64_in _ (by omega)
  have t1 : ¬ (n > 9223372036854775807 - k) := by omega
  have t2 : ¬ (9223372036854775807 - k < n) := by omega
  go_enter Tryd.func29, Tryd.ntmps29
  go_wp2
  go_ret
  exact ⟨rfl, rfl⟩

end Go.Proofs.YtcopddepnphfmaaDoor.Lfn
