/- The document's Blank and Split. -/
import Derived.WalkKit
import Derived.WalkSpells
import Derived.IntWalk
import Derived.Lib.Hide
import Derived.Laws.BytesArg
import Derived.Laws.OwnMore
import Derived.Test.YtpphkaolonjjdaaDoorPure
import Derived.Test.YtpphkaolonjjdaaDoorStrs
namespace Go.Proofs.YtpphkaolonjjdaaDoor.Frs
open Go.RowKit Go.Proofs.YtpphkaolonjjdaaDoor.Pure Go.Proofs.YtpphkaolonjjdaaDoor.Strs

theorem u8_eq (c d : UInt8) : (((c.toNat : Nat) : Int) == ((d.toNat : Nat) : Int)) = (c == d) := by
  rw [Bool.eq_iff_iff, beq_iff_eq, beq_iff_eq, ← UInt8.toNat_inj]; omega

theorem isBl_mk {c : UInt8} {b : Bool} (h : isBl c = b) : (((c.toNat : Nat) : Int) == 32 || (((c.toNat : Nat) : Int) == 9 || ((c.toNat : Nat) : Int) == 10)) = b := by
  rw [← h, isBl]
  have e1 := u8_eq c 32
  have e2 := u8_eq c 9
  have e3 := u8_eq c 10
  have f1 : (((32 : UInt8).toNat : Nat) : Int) = 32 := rfl
  have f2 : (((9 : UInt8).toNat : Nat) : Int) = 9 := rfl
  have f3 : (((10 : UInt8).toNat : Nat) : Int) = 10 := rfl
  rw [f1] at e1; rw [f2] at e2; rw [f3] at e3
  rw [e1, e2, e3, Bool.or_assoc]

set_option maxHeartbeats 400000 in
/-- the document's Blank, by its number's value -/
theorem refBlank_num (n : Int) (b : Bool) (w : World) (hm : (n == 32 || (n == 9 || n == 10)) = b) : Calls Tryd.prog 51 #[.int .u8 n] w fun e w' => e = .returned (.bool b) ∧ w = w' := by
  by_cases h1 : n = 32
  · subst h1
    have : b = true := by simpa using hm.symm
    subst this
    clear hm
    go_enter Tryd.func51, Tryd.ntmps51
    go_wp2
    go_ret
    exact ⟨rfl, rfl⟩
  · by_cases h2 : n = 9
    · subst h2
      have : b = true := by simpa using hm.symm
      subst this
      clear hm h1
      go_enter Tryd.func51, Tryd.ntmps51
      go_wp2
      go_ret
      exact ⟨rfl, rfl⟩
    · have h1' : (n == 32) = false := by simpa using h1
      have h2' : (n == 9) = false := by simpa using h2
      rw [h1', h2', Bool.false_or, Bool.false_or] at hm
      subst hm
      clear h1 h2
      go_enter Tryd.func51, Tryd.ntmps51
      go_wp2
      go_ret
      exact ⟨rfl, rfl⟩

set_option maxHeartbeats 2000000 in
/-- the document's Split -/
theorem refSplit_any (s : ByteArray) (w : World) (hs : s.size ≤ 1099511627776) :
    Calls Tryd.prog 53 #[.string s] w fun e W' => ∃ v, e = .returned v ∧ W'.ownsRow w.heap.size 9 1 v (wordsB s).length ((wordsB s).map Value.string) ∧ Below w.heap.size w W' := by
  obtain ⟨i0, hi, hz0, hz1, hz2⟩ := info_parts infoString
  go_enter Tryd.func53, Tryd.ntmps53
  go_wp2
  go_loopw [3, 4, 5] (fun v fr i wr => ∃ (k f : Nat) (acc : List ByteArray), k ≤ s.size + 1 ∧ f ≤ k ∧ acc.length ≤ k ∧ i = .int .i64 k ∧ fr = .int .i64 f ∧ wr.ownsRow w.heap.size 9 1 v acc.length (acc.map Value.string) ∧ Below w.heap.size w wr ∧ Hid (Inv s k f acc))
    (fun _ _ i _ => s.size + 1 - (intOf i).toNat)
  case atStart => exact ⟨0, 0, [], Nat.zero_le _, Nat.le_refl _, Nat.le_refl _, rfl, rfl, World.ownsRow_nil _ _ _ _, Below.refl _ _, inv_start s⟩
  case round =>
    obtain ⟨k, f, acc, hk, hf, ha, rfl, rfl, hown, hB, hinv⟩ := hrel
    have hBs := hB.size
    by_cases hle : k ≤ s.size
    · by_cases ho : ∃ h : k < s.size, isBl s[k] = false
      · obtain ⟨hlt, hb⟩ := ho
        have HS := Lib.hid (inv_other hf hlt hb hinv.out)
        have HO := Lib.hid hown
        have HB := Lib.hid hB
        clear hown hB hinv
        go_wp2_with (go_at_call 51; refine (refBlank_num _ false _ (isBl_mk hb)).mono ?_; rintro e w' ⟨rfl, rfl⟩)
        go_roundw
        case rel => exact ⟨k + 1, f, acc, by omega, by omega, by omega, by go_num, rfl, HO.out, HB.out, HS⟩
        case measure => simp [intOf]; omega
      · have hb : ∀ h : k < s.size, isBl s[k] = true := fun h => by
          cases hh : isBl s[k] with
          | true => rfl
          | false => exact absurd ⟨h, hh⟩ ho
        clear ho
        by_cases hfk : f < k
        · have HS := Lib.hid (inv_cut hfk hle hb hinv.out)
          have HB := Lib.hid hB
          clear hB hinv
          by_cases hlt : k < s.size
          · have hb' := isBl_mk (hb hlt)
            clear hb
            go_wp2_with (first | (go_at_call 51; refine (refBlank_num _ true _ hb').mono ?_; rintro e w' ⟨rfl, rfl⟩) | (at_builtin; refine wpList_append_own _ rfl _ _ 83 rfl w.heap.size 9 i0 (.string .empty) 1 16 Tryd.underlying83 hi hz0 hz1 hz2 rfl (by decide) _ _ _ rfl (hown.alloc _) ⟨wr.heap.size, 0, none⟩ 1 1 [.string (s.extract f k)] rfl rfl (cell_one_new _ _ _) (by simp [Value.oneCell']) (by unfold maxLen; omega) (by omega) (by simp; omega) ?_; intro v' w1 hown' hgrow _; have HO := Lib.hid hown'; have HG := Lib.hid (below_append HB.out hBs hown hgrow); clear hown' hgrow))
            go_roundw
            case rel => exact ⟨k + 1, k + 1, acc ++ [s.extract f k], by omega, by omega, by simp; omega, by go_num, by go_num, by simpa using HO.out, HG.out, HS⟩
            case measure => simp [intOf]; omega
          · clear hb
            go_wp2_with (first | (at_builtin; refine wpList_append_own _ rfl _ _ 83 rfl w.heap.size 9 i0 (.string .empty) 1 16 Tryd.underlying83 hi hz0 hz1 hz2 rfl (by decide) _ _ _ rfl (hown.alloc _) ⟨wr.heap.size, 0, none⟩ 1 1 [.string (s.extract f k)] rfl rfl (cell_one_new _ _ _) (by simp [Value.oneCell']) (by unfold maxLen; omega) (by omega) (by simp; omega) ?_; intro v' w1 hown' hgrow _; have HO := Lib.hid hown'; have HG := Lib.hid (below_append HB.out hBs hown hgrow); clear hown' hgrow))
            go_roundw
            case rel => exact ⟨k + 1, k + 1, acc ++ [s.extract f k], by omega, by omega, by simp; omega, by go_num, by go_num, by simpa using HO.out, HG.out, HS⟩
            case measure => simp [intOf]; omega
        · obtain rfl : f = k := by omega
          have HS := Lib.hid (inv_skip hle hb hinv.out)
          have HO := Lib.hid hown
          have HB := Lib.hid hB
          clear hown hB hinv
          by_cases hlt : f < s.size
          · have hb' := isBl_mk (hb hlt)
            clear hb
            go_wp2_with (go_at_call 51; refine (refBlank_num _ true _ hb').mono ?_; rintro e w' ⟨rfl, rfl⟩)
            go_roundw
            case rel => exact ⟨f + 1, f + 1, acc, by omega, by omega, by omega, by go_num, by go_num, HO.out, HB.out, HS⟩
            case measure => simp [intOf]; omega
          · clear hb
            go_wp2
            go_roundw
            case rel => exact ⟨f + 1, f + 1, acc, by omega, by omega, by omega, by go_num, by go_num, HO.out, HB.out, HS⟩
            case measure => simp [intOf]; omega
    · have HS := Lib.hid (hinv.out.2 (by omega))
      have HO := Lib.hid hown
      have HB := Lib.hid hB
      clear hown hB hinv
      go_wp2
      go_ret
      exact ⟨_, rfl, by rw [← HS.out]; exact HO.out, HB.out⟩
theorem refSplit_is (s : ByteArray) (w : World) (hs : s.size ≤ 1099511627776) :
    Calls Tryd.prog 53 #[.string s] w fun e W' => ∃ A c, e = .returned (.slice A (wordsB s).length c) ∧ SlIs W' A c (wordsB s) ∧ Below w.heap.size w W' :=
  (refSplit_any s w hs).mono fun e W' ⟨v, he, hr, hb⟩ => by
    obtain ⟨A, c, rfl, h⟩ := slIs_of_own rfl hr
    exact ⟨A, c, he, h, hb⟩


end Go.Proofs.YtpphkaolonjjdaaDoor.Frs
