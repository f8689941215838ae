/- What the document's Bare answers. -/
import Derived.Test.YtcopddepnphfmaaDoorLref
namespace Go.Proofs.YtcopddepnphfmaaDoor.Lrefb
open Go.RowKit Go.Proofs.YtcopddepnphfmaaDoor.Pure Go.Proofs.YtcopddepnphfmaaDoor.Ends Go.Proofs.YtcopddepnphfmaaDoor.Ln Go.Proofs.YtcopddepnphfmaaDoor.Lfn Go.Proofs.YtcopddepnphfmaaDoor.Lraw Go.Proofs.YtcopddepnphfmaaDoor.Leach Go.Proofs.YtcopddepnphfmaaDoor.Lref

theorem byte_at (s : ByteArray) (j : Nat) (h : j < s.size) : s.extract j (j + 1) = bs [s[j]] := ext_data (by
  rw [bs_data, Lib.extract_data, drop_cons s j h, show j + 1 - j = 1 by omega]; rfl)
theorem add_is (a b c : ByteArray) (W : World) (h : a ++ b = c) (hz : a.size + b.size ≤ 1099511627776) : (Op.stringOp .add a b).run Tryd.prog W = .ok (.string c) W := by
  rw [← h]; exact run_string_add_sum W _ _ (by omega)
theorem bs_app (a b : List UInt8) : bs a ++ bs b = bs (a ++ b) := ext_data (by rw [ByteArray.data_append, Array.toList_append]; rfl)
theorem cut_bs (acc : List UInt8) : (bs acc).extract 0 ((bs acc).size - tb acc + tb acc / 2) = bs (cutB acc) := ext_data (by
  rw [Lib.extract_upto, size_bs]; rfl)

set_option maxRecDepth 100000 in
set_option maxHeartbeats 2000000 in
/-- the document's Bare -/
theorem bare_is (s : ByteArray) (w : World) (hs : s.size ≤ 109951162777) :
    Calls Tryd.prog 17 #[.string s] w fun e W' => e = .returned (.string (bs (bare s.data.toList))) ∧ Below w.heap.size w W' := by
  go_enter Tryd.func17, Tryd.ntmps17
  go_wp2_with fail
  go_loopw [3, 4, 5] (fun v k i wr => ∃ (acc : List UInt8) (j : Nat), v = .string (bs acc) ∧ k = .int .i64 ((tb acc : Nat) : Int) ∧ i = .int .i64 (j : Int) ∧ acc.length ≤ j ∧ j ≤ s.size ∧ w = wr ∧ Hid (bareG acc (dropT s j) = bare s.data.toList)) (fun _ _ i _ => s.size - (intOf i).toNat)
  case atStart => exact ⟨[], 0, rfl, rfl, rfl, Nat.le_refl _, Nat.zero_le _, rfl, rfl⟩
  case round =>
    obtain ⟨acc, j, rfl, rfl, rfl, hacc, hj, rfl, H⟩ := hrel
    by_cases hlt : j < s.size
    · have hd := dropT_cons s j hlt
      have hbk := tb_le acc
      have hA := size_bs acc
      have hone := byte_at s j hlt
      have hstep : bareG acc (dropT s j) = if s[j] = 35 then (if tb acc % 2 = 0 then cutB acc else bareG (cutB acc ++ [35]) (dropT s (j + 1))) else bareG (acc ++ [s[j]]) (dropT s (j + 1)) := by rw [hd]; rfl
      rw [H.out] at hstep
      have hcl := cutB_length acc
      by_cases hc : s[j] = 35
      · rw [if_pos hc] at hstep
        have hb1 : (((s[j].toNat : Nat) : Int) == 92) = false := by rw [u8_back, hc]; rfl
        have hb2 : (((s[j].toNat : Nat) : Int) == 35) = true := by rw [u8_mark, hc]; rfl
        have HCut := Lib.hid (cut_bs acc)
        by_cases hp : tb acc % 2 = 0
        · rw [if_pos hp] at hstep
          have hpar : (((tb acc : Nat) : Int) % 2 == 0) = true := by rw [beq_iff_eq]; omega
          have HS := Lib.hid hstep
          clear hstep hc hd hone hcl
          rw [← hA] at hbk hacc
          generalize tb acc = b at *
          generalize bs acc = A at *
          clear hA hp
          go_wp2
          go_ret
          exact ⟨ret_str (by rw [HS.out, ← HCut.out]), Below.refl _ _⟩
        · rw [if_neg hp] at hstep
          have hpar : (((tb acc : Nat) : Int) % 2 == 0) = false := by rw [beq_eq_false_iff_ne]; omega
          have HS : Hid (bareG (cutB acc ++ [35]) (dropT s (j + 1)) = bare s.data.toList) := hstep.symm
          have hone2 : s.extract j (j + 1) = bs [35] := by rw [hone, hc]
          have hadd : ∀ W, (Op.stringOp .add ((bs acc).extract 0 ((bs acc).size - tb acc + tb acc / 2)) (s.extract j (j + 1))).run Tryd.prog W = .ok (.string (bs (cutB acc ++ [35]))) W := fun W =>
            add_is _ _ _ W (by rw [HCut.out, hone2, bs_app]) (by rw [HCut.out, hone2, size_bs, size_bs, hcl]; simp; omega)
          have HL : Hid ((cutB acc ++ [35]).length ≤ j + 1) := by show _ ≤ _; rw [List.length_append, hcl]; simp; omega
          have HT0 : Hid (tb (cutB acc ++ [35]) = 0) := by show _ = _; rw [tb_snoc]; rfl
          clear hstep hc hd hone hone2 hcl HCut
          generalize cutB acc ++ [35] = acc2 at HS hadd HL HT0
          rw [← hA] at hbk hacc
          generalize tb acc = b at *
          generalize bs acc = A at *
          clear hA hp
          go_wp2
          go_roundw
          case rel => exact ⟨acc2, j + 1, rfl, by rw [HT0.out]; rfl, by go_num, HL.out, by omega, trivial, HS.out⟩
          case measure => simp [intOf]; omega
      · rw [if_neg hc] at hstep
        have HS : Hid (bareG (acc ++ [s[j]]) (dropT s (j + 1)) = bare s.data.toList) := hstep.symm
        have hb2 : (((s[j].toNat : Nat) : Int) == 35) = false := by rw [u8_mark]; simpa using hc
        have hadd : ∀ W, (Op.stringOp .add (bs acc) (s.extract j (j + 1))).run Tryd.prog W = .ok (.string (bs (acc ++ [s[j]]))) W := fun W =>
          add_is _ _ _ W (by rw [hone, bs_app]) (by rw [hone, size_bs, size_bs]; simp; omega)
        have HL : Hid ((acc ++ [s[j]]).length ≤ j + 1) := by show _ ≤ _; rw [List.length_append]; simp; omega
        by_cases hcb : s[j] = 92
        · have HT0 : Hid (tb (acc ++ [s[j]]) = tb acc + 1) := by show _ = _; rw [tb_snoc, if_pos hcb]
          have hb1 : (((s[j].toNat : Nat) : Int) == 92) = true := by rw [u8_back, hcb]; rfl
          clear hstep hc hd hone hcl hcb H
          generalize acc ++ [s[j]] = acc2 at HS hadd HL HT0
          have hbz : tb acc ≤ s.size := by omega
          generalize tb acc = b at *
          generalize bs acc = A at *
          clear hbk hA
          go_wp2
          go_roundw
          case rel => exact ⟨acc2, j + 1, rfl, by rw [HT0.out]; go_num, by go_num, HL.out, by omega, trivial, HS.out⟩
          case measure => simp [intOf]; omega
        · have HT0 : Hid (tb (acc ++ [s[j]]) = 0) := by show _ = _; rw [tb_snoc, if_neg hcb]
          have hb1 : (((s[j].toNat : Nat) : Int) == 92) = false := by rw [u8_back]; simpa using hcb
          clear hstep hc hd hone hcl hcb H
          generalize acc ++ [s[j]] = acc2 at HS hadd HL HT0
          generalize tb acc = b at *
          generalize bs acc = A at *
          clear hbk hA
          go_wp2
          go_roundw
          case rel => exact ⟨acc2, j + 1, rfl, by rw [HT0.out]; rfl, by go_num, HL.out, by omega, trivial, HS.out⟩
          case measure => simp [intOf]; omega
    · have HS : Hid (acc = bare s.data.toList) := by
        show _ = _
        have := H.out
        rw [dropT_end s j (by omega)] at this
        exact this
      go_wp2
      go_ret
      exact ⟨ret_str (by rw [HS.out]), Below.refl _ _⟩

end Go.Proofs.YtcopddepnphfmaaDoor.Lrefb
