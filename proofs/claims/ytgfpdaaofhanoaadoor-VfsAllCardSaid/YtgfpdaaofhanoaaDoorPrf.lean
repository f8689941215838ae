/- What the document's Dir, Notdir, Suffix and Base answer. -/
import Derived.Test.YtgfpdaaofhanoaaDoorPfn
namespace Go.Proofs.YtgfpdaaofhanoaaDoor.Prf
open Go.RowKit Go.Proofs.YtgfpdaaofhanoaaDoor.Pth Go.Proofs.YtgfpdaaofhanoaaDoor.Pfn

theorem step_eq {c : UInt8} {s : ByteArray} {k : Nat} (h : k < s.size) (e : ((s[k].toNat : Nat) : Int) = (c.toNat : Int)) : lastB c (s.data.toList.take (k + 1)) = k + 1 := by
  rw [lastB_take_succ c s k h, if_pos (UInt8.toNat_inj.1 (by omega))]
theorem step_ne {c : UInt8} {s : ByteArray} {k : Nat} (h : k < s.size) (e : ¬ ((s[k].toNat : Nat) : Int) = (c.toNat : Int)) : lastB c (s.data.toList.take (k + 1)) = lastB c (s.data.toList.take k) := by
  rw [lastB_take_succ c s k h, if_neg (fun x => e (by rw [x]))]

set_option maxHeartbeats 1000000 in
theorem slash_is (s : ByteArray) (w : World) (hs : s.size ≤ 1099511627776) :
    Calls Tryd.prog 42 #[.string s] w fun e w' => e = .returned (.int .i64 (wayB s : Int)) ∧ w = w' := by
  go_enter Tryd.func42, Tryd.ntmps42
  go_wp2
  go_loopw [3, 4] (fun n i wr => ∃ k m : Nat, k ≤ s.size ∧ m ≤ k ∧ i = .int .i64 k ∧ n = .int .i64 m ∧ Hid (m = lastB 47 (s.data.toList.take k)) ∧ w = wr)
    (fun _ i _ => s.size - (intOf i).toNat)
  case atStart => exact ⟨0, 0, Nat.zero_le _, Nat.le_refl _, rfl, rfl, rfl, rfl⟩
  case round =>
    obtain ⟨k, m, hk, hm, rfl, rfl, H, rfl⟩ := hrel
    by_cases hlt : k < s.size
    · by_cases hc : ((s[k].toNat : Nat) : Int) = 47
      · have HS : Hid (k + 1 = lastB 47 (s.data.toList.take (k + 1))) := (step_eq (c := 47) hlt hc).symm
        clear H
        go_wp2
        go_roundw
        case rel => exact ⟨k + 1, k + 1, by omega, Nat.le_refl _, by go_num, by go_num, HS, trivial⟩
        case measure => simp [intOf]; omega
      · have HS : Hid (m = lastB 47 (s.data.toList.take (k + 1))) := H.out.trans (step_ne (c := 47) hlt hc).symm
        clear H
        go_wp2
        go_roundw
        case rel => exact ⟨k + 1, m, by omega, by omega, by go_num, rfl, HS, trivial⟩
        case measure => simp [intOf]; omega
    · have HS : Hid (m = wayB s) := by
        have := H.out
        rw [show k = s.data.toList.length by rw [len_data]; omega, List.take_length] at this
        exact this
      clear H
      go_wp2
      go_ret
      exact ⟨ret_int (by rw [HS.out]), rfl⟩


set_option maxHeartbeats 400000 in
theorem refNotdir_is (s : ByteArray) (w : World) (hs : s.size ≤ 1099511627776) :
    Calls Tryd.prog 27 #[.string s] w fun e w' => e = .returned (.string (notdirB s)) ∧ w = w' := by
  have h1 := wayB_le s
  have HL := Lib.hid (fun W => slash_is s W hs)
  have HD : Hid (notdirB s = s.extract (wayB s) s.size) := rfl
  generalize wayB s = k at h1 HL HD
  go_enter Tryd.func27, Tryd.ntmps27
  go_wp2_with fail
  refine (HL.out _).mono ?_
  rintro e w' ⟨rfl, rfl⟩
  clear HL
  go_wp2
  go_ret
  exact ⟨by rw [HD.out]; rfl, rfl⟩



end Go.Proofs.YtgfpdaaofhanoaaDoor.Prf
