/- What the program's Bare answers: a line without its remark. -/
import Derived.Test.YtcopddepnphfmaaDoorBuild
import Derived.Test.YtcopddepnphfmaaDoorLfn
namespace Go.Proofs.YtcopddepnphfmaaDoor.Lbare
open Go.RowKit Go.Proofs.YtcopddepnphfmaaDoor.Pure Go.Proofs.YtcopddepnphfmaaDoor.Ends Go.Proofs.YtcopddepnphfmaaDoor.Ln Go.Proofs.YtcopddepnphfmaaDoor.Lcut Go.Proofs.YtcopddepnphfmaaDoor.Lfn Go.Proofs.YtcopddepnphfmaaDoor.Build

theorem new_holds (w : World) (B : Nat) (hB : B ≤ w.heap.size) : Holds B w.heap.size [] (w.alloc (.cells #[.pointer none, .slice none 0 0] 58)) :=
  .inl ⟨hB, _, heap_alloc_new w _, World.ownsRow_nil _ _ _ _, by simp [Value.ownBlock]⟩
theorem holds_drew {B b : Nat} {l : List UInt8} {w : World} (h : Holds B b l w) : Holds B b l w.drew := h
theorem fresh_snoc (a : List UInt8) : Fresh (a ++ [35]) := .inr ⟨a, rfl⟩

set_option maxRecDepth 100000 in
set_option maxHeartbeats 2000000 in
/-- the program's Bare -/
theorem bare_is (s : ByteArray) (w : World) (hs : s.size ≤ 1099511627776) :
    Calls Tryd.prog 16 #[.string s] w fun e W' => e = .returned (.string (bs (bare s.data.toList))) ∧ Below w.heap.size w W' := by
  go_enter Tryd.func16, Tryd.ntmps16
  go_wp2
  go_loopw [0] (fun v wr => ∃ (u : ByteArray) (acc : List UInt8), v = .string u ∧ acc.length + u.size ≤ s.size ∧ Holds w.heap.size w.heap.size acc wr ∧ Below w.heap.size w wr ∧ Fresh acc ∧ Hid (bareG acc u.data.toList = bare s.data.toList)) (fun v _ => strLen v)
  case atStart => exact ⟨s, [], rfl, by simp, new_holds w _ (Nat.le_refl _), (Below.refl _ _).alloc (Nat.le_refl _) _, .inl rfl, rfl⟩
  case round =>
    obtain ⟨u, acc, rfl, hlen, hH, hB, hF, hinv⟩ := hrel
    have hBs := hB.size
    have HH := Lib.hid hH
    have HB := Lib.hid hB
    have HF := Lib.hid hF
    clear hH hB hF
    rcases split_at u.data.toList 35 with hm | ⟨a, r, hm, ha⟩
    · have HS := Lib.hid (bare_end acc _ hm)
      have HM := Lib.hid hm
      clear hm
      go_wp2_with fail
      refine (cut_miss u 35 _ HM.out).mono ?_
      rintro e w' ⟨rfl, rfl⟩
      go_wp2_with fail
      refine (write_text _ _ acc u _ HH.out (by omega) (by omega)).mono ?_
      rintro e w1 ⟨rfl, hH1, hb1⟩
      have H1 := Lib.hid hH1
      have B1 := Lib.hid (HB.out.trans hb1)
      have hs1 := B1.out.size
      clear hH1 hb1
      go_wp2_with fail
      refine (text_is _ _ _ _ H1.out (by omega)).mono ?_
      rintro e w2 ⟨rfl, hb2⟩
      have B2 := Lib.hid (B1.out.trans hb2)
      clear hb2
      go_wp2
      go_ret
      exact ⟨ret_str (by rw [← hinv.out, HS.out]; rfl), B2.out⟩
    · have hz : u.size = a.length + 1 + r.length := by rw [Lib.size_eq, hm]; simp; omega
      have hbk := tb_le a
      have HS := Lib.hid (bare_mark HF.out a r ha)
      rw [← hm] at HS
      have HC := Lib.hid (fun W => cut_hit u 35 a r W (by unfold maxLen; omega) hm ha)
      clear hm ha
      obtain ⟨A, hA⟩ : ∃ A, bs a = A := ⟨_, rfl⟩
      obtain ⟨R, hR⟩ : ∃ R, bs r = R := ⟨_, rfl⟩
      have hAz : A.size = a.length := by rw [← hA, size_bs]
      have hRz : R.size = r.length := by rw [← hR, size_bs]
      have hAd : a = A.data.toList := by rw [← hA]; rfl
      have hRd : r = R.data.toList := by rw [← hR]; rfl
      rw [hA, hR] at HC
      clear hA hR
      rw [← hAz] at hbk hz
      rw [← hRz] at hz
      clear hAz hRz
      subst hAd
      subst hRd
      have hx : A.size ≤ maxLen := by unfold maxLen; omega
      have HSL := Lib.hid (fun W => backs_is A W hx)
      have hcut : cutB A.data.toList = (A.extract 0 (A.size - tb A.data.toList + tb A.data.toList / 2)).data.toList := by
        unfold cutB; rw [Lib.extract_upto, ← Lib.size_eq]
      rw [hcut] at HS
      clear hx hcut
      generalize tb A.data.toList = b at HS hbk HSL
      go_wp2_with fail
      refine (HC.out _).mono ?_
      rintro e w' ⟨rfl, rfl⟩
      go_wp2_with fail
      refine (HSL.out _).mono ?_
      rintro e w' ⟨rfl, rfl⟩
      go_wp2_with fail
      have hx2 : (A.extract 0 (A.size - b + b / 2)).size ≤ A.size := by rw [ByteArray.size_extract]; omega
      refine (write_text _ _ acc (A.extract 0 (A.size - b + b / 2)) _ (holds_drew HH.out) (by omega) (by simpa using hBs)).mono ?_
      rintro e w1 ⟨rfl, hH1, hb1⟩
      have H1 := Lib.hid hH1
      have B1 := Lib.hid ((HB.out.drew).trans hb1)
      have hs1 := B1.out.size
      clear hH1 hb1 HH HB
      by_cases hp : b % 2 = 0
      · have HP : Hid (bareG acc u.data.toList = acc ++ (A.extract 0 (A.size - b + b / 2)).data.toList) := by
          have := HS.out
          rw [if_pos hp] at this
          exact this
        have hpar : (((b : Nat) : Int) % 2 == 0) = true := by rw [beq_iff_eq]; omega
        clear hp HS
        go_wp2_with fail
        refine (text_is _ _ _ _ H1.out (by omega)).mono ?_
        rintro e w2 ⟨rfl, hb2⟩
        have B2 := Lib.hid (B1.out.trans hb2)
        clear hb2
        go_wp2
        go_ret
        exact ⟨ret_str (by rw [← hinv.out, HP.out, Lib.extract_upto]; rfl), B2.out⟩
      · have HP : Hid (bareG acc u.data.toList = bareG (acc ++ (A.extract 0 (A.size - b + b / 2)).data.toList ++ [35]) R.data.toList) := by
          have := HS.out
          rw [if_neg hp] at this
          exact this
        have hpar : (((b : Nat) : Int) % 2 == 0) = false := by rw [beq_eq_false_iff_ne]; omega
        have hb1 : 1 ≤ b := by omega
        have hx4 : (A.extract 0 (A.size - b + b / 2)).size + 1 ≤ A.size := by rw [ByteArray.size_extract]; omega
        have HX4 : Hid ((A.extract 0 (A.size - b + b / 2)).data.toList.length + 1 ≤ A.size) := by show _ ≤ _; rw [← Lib.size_eq]; exact hx4
        clear hp HS hx4
        go_wp2_with fail
        refine (write_byte _ _ _ 35 35 _ rfl H1.out (by have := HX4.out; simp; omega) (by omega)).mono ?_
        rintro e w2 ⟨rfl, hH2, hb2⟩
        have H2 := Lib.hid hH2
        have B2 := Lib.hid (B1.out.trans hb2)
        clear hH2 hb2
        go_wp2
        go_roundw
        case rel => exact ⟨R, _, rfl, by have h1 := HX4.out; simp at h1 ⊢; omega, H2.out, B2.out, fresh_snoc _, by show _ = _; rw [← HP.out]; exact hinv.out⟩
        case measure => simp [strLen]; omega

end Go.Proofs.YtcopddepnphfmaaDoor.Lbare
