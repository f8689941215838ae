/- What the document's Dir, Notdir, Suffix and Base answer. -/
import Derived.Test.YtiienppimamhoaaDoorPfn
namespace Go.Proofs.YtiienppimamhoaaDoor.Prf
open Go.RowKit Go.Proofs.YtiienppimamhoaaDoor.Pth Go.Proofs.YtiienppimamhoaaDoor.Pfn

theorem step_eq {c : UInt8} {s : ByteArray} {k : Nat} (h : k < s.size) (e : ((s[k].toNat : Nat) : Int) = (c.toNat : Int)) : lastB c (s.data.toList.take (k + 1)) = k + 1 := by
  rw [lastB_take_succ c s k h, if_pos (UInt8.toNat_inj.1 (by omega))]
theorem step_ne {c : UInt8} {s : ByteArray} {k : Nat} (h : k < s.size) (e : ¬ ((s[k].toNat : Nat) : Int) = (c.toNat : Int)) : lastB c (s.data.toList.take (k + 1)) = lastB c (s.data.toList.take k) := by
  rw [lastB_take_succ c s k h, if_neg (fun x => e (by rw [x]))]

set_option maxHeartbeats 1000000 in
theorem slash_is (s : ByteArray) (w : World) (hs : s.size ≤ 1099511627776) :
    Calls Tryd.prog 21 #[.string s] w fun e w' => e = .returned (.int .i64 (wayB s : Int)) ∧ w = w' := by
  go_enter Tryd.func21, Tryd.ntmps21
  go_wp2
  go_loopw [3, 4] (fun n i wr => ∃ k m : Nat, k ≤ s.size ∧ m ≤ k ∧ i = .int .i64 k ∧ n = .int .i64 m ∧ Hid (m = lastB 47 (s.data.toList.take k)) ∧ w = wr)
    (fun _ i _ => s.size - (intOf i).toNat)
  case atStart => exact ⟨0, 0, Nat.zero_le _, Nat.le_refl _, rfl, rfl, rfl, rfl⟩
  case round =>
    obtain ⟨k, m, hk, hm, rfl, rfl, H, rfl⟩ := hrel
    by_cases hlt : k < s.size
    · by_cases hc : ((s[k].toNat : Nat) : Int) = 47
      · have HS : Hid (k + 1 = lastB 47 (s.data.toList.take (k + 1))) := (step_eq (c := 47) hlt hc).symm
        clear H
        go_wp2
        go_roundw
        case rel => exact ⟨k + 1, k + 1, by omega, Nat.le_refl _, by go_num, by go_num, HS, trivial⟩
        case measure => simp [intOf]; omega
      · have HS : Hid (m = lastB 47 (s.data.toList.take (k + 1))) := H.out.trans (step_ne (c := 47) hlt hc).symm
        clear H
        go_wp2
        go_roundw
        case rel => exact ⟨k + 1, m, by omega, by omega, by go_num, rfl, HS, trivial⟩
        case measure => simp [intOf]; omega
    · have HS : Hid (m = wayB s) := by
        have := H.out
        rw [show k = s.data.toList.length by rw [len_data]; omega, List.take_length] at this
        exact this
      clear H
      go_wp2
      go_ret
      exact ⟨ret_int (by rw [HS.out]), rfl⟩

set_option maxHeartbeats 400000 in
theorem refDir_is (s : ByteArray) (w : World) (hs : s.size ≤ 1099511627776) :
    Calls Tryd.prog 9 #[.string s] w fun e w' => e = .returned (.string (dirB s)) ∧ w = w' := by
  have h1 := wayB_le s
  have HL := Lib.hid (fun W => slash_is s W hs)
  have HD : Hid (dirB s = if wayB s = 0 then ⟨#[46, 47]⟩ else s.extract 0 (wayB s)) := rfl
  generalize wayB s = k at h1 HL HD
  go_enter Tryd.func9, Tryd.ntmps9
  go_wp2_with fail
  refine (HL.out _).mono ?_
  rintro e w' ⟨rfl, rfl⟩
  rcases Nat.eq_zero_or_pos k with hk | hk
  · subst hk
    clear HL
    go_wp2
    go_ret
    exact ⟨by rw [HD.out]; rfl, rfl⟩
  · go_wp2_with fail
    refine (HL.out _).mono ?_
    rintro e w' ⟨rfl, rfl⟩
    clear HL
    go_wp2
    go_ret
    exact ⟨by rw [HD.out, if_neg (by omega)]; rfl, rfl⟩

set_option maxHeartbeats 400000 in
theorem refNotdir_is (s : ByteArray) (w : World) (hs : s.size ≤ 1099511627776) :
    Calls Tryd.prog 11 #[.string s] w fun e w' => e = .returned (.string (notdirB s)) ∧ w = w' := by
  have h1 := wayB_le s
  have HL := Lib.hid (fun W => slash_is s W hs)
  have HD : Hid (notdirB s = s.extract (wayB s) s.size) := rfl
  generalize wayB s = k at h1 HL HD
  go_enter Tryd.func11, Tryd.ntmps11
  go_wp2_with fail
  refine (HL.out _).mono ?_
  rintro e w' ⟨rfl, rfl⟩
  clear HL
  go_wp2
  go_ret
  exact ⟨by rw [HD.out]; rfl, rfl⟩

set_option maxHeartbeats 1000000 in
theorem refSuffix_is (s : ByteArray) (w : World) (hs : s.size ≤ 1099511627776) :
    Calls Tryd.prog 13 #[.string s] w fun e w' => e = .returned (.string (sufB s)) ∧ w = w' := by
  have h2 := notdirB_size s
  have HN := Lib.hid (fun W => refNotdir_is s W hs)
  have HD : Hid (sufB s = if lastB 46 (notdirB s).data.toList = 0 then ⟨#[]⟩ else (notdirB s).extract (lastB 46 (notdirB s).data.toList - 1) (notdirB s).size) := rfl
  have h3 : (notdirB s).size ≤ 1099511627776 := by omega
  clear h2
  generalize notdirB s = t at HN HD h3
  go_enter Tryd.func13, Tryd.ntmps13
  go_wp2_with fail
  refine (HN.out _).mono ?_
  rintro e w' ⟨rfl, rfl⟩
  clear HN
  go_wp2
  go_loopw [4] (fun i wr => ∃ k : Nat, k ≤ t.size ∧ i = .int .i64 ((k : Int) - 1) ∧ Hid (lastB 46 t.data.toList = lastB 46 (t.data.toList.take k)) ∧ w = wr)
    (fun i _ => (intOf i + 1).toNat)
  case atStart => exact ⟨t.size, Nat.le_refl _, by first | rfl | go_num, by show _ = _; rw [← len_data, List.take_length], rfl⟩
  case round =>
    obtain ⟨k, hk, rfl, H, rfl⟩ := hrel
    rcases Nat.eq_zero_or_pos k with h0 | h0
    · subst h0
      have HS : Hid (sufB s = ⟨#[]⟩) := by
        have := HD.out
        rw [H.out, List.take_zero] at this
        exact this
      clear H HD
      go_wp2
      go_ret
      exact ⟨ret_str HS.out.symm, rfl⟩
    · obtain ⟨j, rfl⟩ : ∃ j, k = j + 1 := ⟨k - 1, by omega⟩
      have e2 : (((j + 1 : Nat) : Int) - 1) = (j : Int) := by omega
      rw [e2]
      clear e2
      have hlt : j < t.size := by omega
      by_cases hc : ((t[j].toNat : Nat) : Int) = 46
      · have HS : Hid (sufB s = t.extract j t.size) := by
          have := HD.out
          rw [H.out, step_eq (c := 46) hlt hc, if_neg (by omega)] at this
          exact this
        clear H HD
        go_wp2
        go_ret
        exact ⟨ret_str HS.out.symm, rfl⟩
      · have HS : Hid (lastB 46 t.data.toList = lastB 46 (t.data.toList.take j)) := H.out.trans (step_ne (c := 46) hlt hc)
        clear H
        go_wp2
        go_roundw
        case rel => exact ⟨j, by omega, by go_num, HS, trivial⟩
        case measure => simp [intOf]

set_option maxHeartbeats 400000 in
theorem refBase_is (s : ByteArray) (w : World) (hs : s.size ≤ 1099511627776) :
    Calls Tryd.prog 15 #[.string s] w fun e w' => e = .returned (.string (baseB s)) ∧ w = w' := by
  have h1 := sufB_size s
  have HL := Lib.hid (fun W => refSuffix_is s W hs)
  have HD : Hid (baseB s = s.extract 0 (s.size - (sufB s).size)) := rfl
  generalize sufB s = t at h1 HL HD
  go_enter Tryd.func15, Tryd.ntmps15
  go_wp2_with fail
  refine (HL.out _).mono ?_
  rintro e w' ⟨rfl, rfl⟩
  clear HL
  go_wp2
  go_ret
  exact ⟨by rw [HD.out]; rfl, rfl⟩

end Go.Proofs.YtiienppimamhoaaDoor.Prf
