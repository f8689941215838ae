/- What the program's Dir, Notdir, Suffix and Base answer. -/
import Derived.WalkKit
import Derived.WalkSpells
import Derived.IntWalk
import Derived.Below
import Derived.Lib.Hide
import Derived.Test.YtiienppimamhoaaDoorShelf
import Derived.Test.YtiienppimamhoaaDoorPth
namespace Go.Proofs.YtiienppimamhoaaDoor.Pfn
open Go.RowKit Go.Proofs.YtiienppimamhoaaDoor.Pth

theorem ret_int {k : IntKind} {a b : Int} (h : a = b) : Ending.returned (.int k a) = .returned (.int k b) := by rw [h]
theorem ret_str {a b : ByteArray} (h : a = b) : Ending.returned (.string a) = .returned (.string b) := by rw [h]

theorem last_is (c : UInt8) (s : ByteArray) (w : World) (hs : s.size ≤ 1099511627776) :
    Calls Tryd.prog 22 #[.string s, .int .u8 (c.toNat : Int)] w fun e w' => e = .returned (.int .i64 ((lastB c s.data.toList : Int) - 1)) ∧ w = w' :=
  (Tryd.strings_LastIndexByte s (c.toNat : Int) (by omega) w).mono fun _ _ ⟨he, hw⟩ => ⟨by rw [he, lastIndexByte_is], hw.symm⟩
theorem last_slash (s : ByteArray) (w : World) (hs : s.size ≤ 1099511627776) :
    Calls Tryd.prog 22 #[.string s, .int .u8 47] w fun e w' => e = .returned (.int .i64 ((wayB s : Int) - 1)) ∧ w = w' := last_is 47 s w hs
theorem last_dot (s : ByteArray) (w : World) (hs : s.size ≤ 1099511627776) :
    Calls Tryd.prog 22 #[.string s, .int .u8 46] w fun e w' => e = .returned (.int .i64 ((lastB 46 s.data.toList : Int) - 1)) ∧ w = w' := last_is 46 s w hs

set_option maxHeartbeats 400000 in
theorem wayEnd_is (s : ByteArray) (w : World) (hs : s.size ≤ 1099511627776) :
    Calls Tryd.prog 20 #[.string s] w fun e w' => e = .returned (.int .i64 (wayB s : Int)) ∧ w = w' := by
  have h1 := wayB_le s
  have HL := Lib.hid (fun W => last_slash s W hs)
  generalize wayB s = k at h1 HL ⊢
  go_enter Tryd.func20, Tryd.ntmps20
  go_wp2_with fail
  refine (HL.out _).mono ?_
  rintro e w' ⟨rfl, rfl⟩
  clear HL
  go_wp2
  go_ret
  exact ⟨ret_int (by omega), rfl⟩

set_option maxHeartbeats 400000 in
theorem dir_is (s : ByteArray) (w : World) (hs : s.size ≤ 1099511627776) :
    Calls Tryd.prog 8 #[.string s] w fun e w' => e = .returned (.string (dirB s)) ∧ w = w' := by
  have h1 := wayB_le s
  have HL := Lib.hid (fun W => wayEnd_is s W hs)
  have HD : Hid (dirB s = if wayB s = 0 then ⟨#[46, 47]⟩ else s.extract 0 (wayB s)) := rfl
  generalize wayB s = k at h1 HL HD
  go_enter Tryd.func8, Tryd.ntmps8
  go_wp2_with fail
  refine (HL.out _).mono ?_
  rintro e w' ⟨rfl, rfl⟩
  clear HL
  rcases Nat.eq_zero_or_pos k with hk | hk
  · subst hk
    go_wp2
    go_ret
    exact ⟨by rw [HD.out]; rfl, rfl⟩
  · go_wp2
    go_ret
    exact ⟨by rw [HD.out, if_neg (by omega)]; rfl, rfl⟩

set_option maxHeartbeats 400000 in
theorem notdir_is (s : ByteArray) (w : World) (hs : s.size ≤ 1099511627776) :
    Calls Tryd.prog 10 #[.string s] w fun e w' => e = .returned (.string (notdirB s)) ∧ w = w' := by
  have h1 := wayB_le s
  have HL := Lib.hid (fun W => wayEnd_is s W hs)
  have HD : Hid (notdirB s = s.extract (wayB s) s.size) := rfl
  generalize wayB s = k at h1 HL HD
  go_enter Tryd.func10, Tryd.ntmps10
  go_wp2_with fail
  refine (HL.out _).mono ?_
  rintro e w' ⟨rfl, rfl⟩
  clear HL
  go_wp2
  go_ret
  exact ⟨by rw [HD.out]; rfl, rfl⟩

set_option maxHeartbeats 400000 in
theorem suffix_is (s : ByteArray) (w : World) (hs : s.size ≤ 1099511627776) :
    Calls Tryd.prog 12 #[.string s] w fun e w' => e = .returned (.string (sufB s)) ∧ w = w' := by
  have h1 := dotB_le s
  have h2 := notdirB_size s
  have HN := Lib.hid (fun W => notdir_is s W hs)
  have HL := Lib.hid (fun W => last_dot (notdirB s) W (by omega))
  have HD : Hid (sufB s = if dotB s = 0 then ⟨#[]⟩ else (notdirB s).extract (dotB s - 1) (notdirB s).size) := rfl
  have e1 : lastB 46 (notdirB s).data.toList = dotB s := rfl
  rw [e1] at HL
  clear e1
  generalize dotB s = k at h1 HL HD
  have h3 : (notdirB s).size ≤ 1099511627776 := by omega
  clear h2
  generalize notdirB s = t at *
  go_enter Tryd.func12, Tryd.ntmps12
  go_wp2_with fail
  refine (HN.out _).mono ?_
  rintro e w' ⟨rfl, rfl⟩
  clear HN
  go_wp2_with fail
  refine (HL.out _).mono ?_
  rintro e w' ⟨rfl, rfl⟩
  clear HL
  rcases Nat.eq_zero_or_pos k with hk | hk
  · subst hk
    go_wp2
    go_ret
    exact ⟨by rw [HD.out]; rfl, rfl⟩
  · obtain ⟨j, rfl⟩ : ∃ j, k = j + 1 := ⟨k - 1, by omega⟩
    have e2 : (((j + 1 : Nat) : Int) - 1) = (j : Int) := by omega
    rw [e2]
    clear e2
    go_wp2
    go_ret
    exact ⟨by rw [HD.out, if_neg (by omega)]; rfl, rfl⟩

set_option maxHeartbeats 400000 in
theorem base_is (s : ByteArray) (w : World) (hs : s.size ≤ 1099511627776) :
    Calls Tryd.prog 14 #[.string s] w fun e w' => e = .returned (.string (baseB s)) ∧ w = w' := by
  have h1 := sufB_size s
  have HL := Lib.hid (fun W => suffix_is s W hs)
  have HD : Hid (baseB s = s.extract 0 (s.size - (sufB s).size)) := rfl
  generalize sufB s = t at h1 HL HD
  go_enter Tryd.func14, Tryd.ntmps14
  go_wp2_with fail
  refine (HL.out _).mono ?_
  rintro e w' ⟨rfl, rfl⟩
  clear HL
  go_wp2
  go_ret
  exact ⟨by rw [HD.out]; rfl, rfl⟩

end Go.Proofs.YtiienppimamhoaaDoor.Pfn
