/- The walk of the law PatternPuts: for all texts the law answers true. -/
import Derived.Test.YtepigemfkaeaeaaDoorPatAwake
import Derived.Test.YtepigemfkaeaeaaDoorMid
import Derived.Test.YtepigemfkaeaeaaDoorRunes
namespace Go.Proofs.YtepigemfkaeaeaaDoor.PatternPuts
open Go.RowKit Go.Proofs.YtepigemfkaeaeaaDoor.Pat Go.Proofs.YtepigemfkaeaeaaDoor.Build Go.Proofs.YtepigemfkaeaeaaDoor.Of Go.Proofs.YtepigemfkaeaeaaDoor.Match Go.Proofs.YtepigemfkaeaeaaDoor.Replace Go.Proofs.YtepigemfkaeaeaaDoor.PatAwake Go.Proofs.YtepigemfkaeaeaaDoor.Mid Go.Proofs.YtepigemfkaeaeaaDoor.Runes

theorem has_out : hasB ⟨#[60, 37, 62]⟩ = true := by kernel_rfl
theorem pre_out : preB ⟨#[60, 37, 62]⟩ = ⟨#[60]⟩ := by kernel_rfl
theorem post_out : postB ⟨#[60, 37, 62]⟩ = ⟨#[62]⟩ := by kernel_rfl

section
variable (a b : ByteArray) (h1 : 37 ∉ a.data.toList) (h2 : 92 ∉ a.data.toList)
include h1 h2
theorem ok_mid (m : ByteArray) : okR (a ++ (⟨#[37]⟩ : ByteArray) ++ b) (a ++ m ++ b) = true := by
  unfold okR
  rw [has_mid a b h1 h2, pre_mid a b h1 h2, post_mid a b h1 h2]
  unfold okB
  rw [if_pos rfl, fits_mid]
theorem out_mid (m : ByteArray) : outR (a ++ (⟨#[37]⟩ : ByteArray) ++ b) ⟨#[60, 37, 62]⟩ (a ++ m ++ b) = (⟨#[60]⟩ : ByteArray) ++ m ++ (⟨#[62]⟩ : ByteArray) := by
  unfold outR
  rw [ok_mid a b h1 h2, if_pos rfl, has_mid a b h1 h2, if_pos rfl, pre_mid a b h1 h2, post_mid a b h1 h2, has_out, pre_out, post_out, stem_mid]
  rfl
theorem rep_mid (m : ByteArray) (w : World) (hs : a.size + b.size + m.size ≤ 1000) :
    Calls Tryd.prog 13 #[.string (a ++ (⟨#[37]⟩ : ByteArray) ++ b), .string ⟨#[60, 37, 62]⟩, .string (a ++ m ++ b)] w fun e W' => e = .returned (.tuple #[.string ((⟨#[60]⟩ : ByteArray) ++ m ++ (⟨#[62]⟩ : ByteArray)), .bool true]) ∧ Below w.heap.size w W' :=
  (replace_is _ _ _ w (by rw [mid_size]; omega) (by decide) (by rw [size_app, size_app]; omega)).mono fun e W' ⟨he, hb⟩ => ⟨he.trans (ret_two (out_mid a b h1 h2 m) (ok_mid a b h1 h2 m)), hb⟩
end
theorem match_mid (a b m : ByteArray) (w : World) (hs : a.size + b.size + m.size ≤ 1000) :
    Calls Tryd.prog 11 #[.agg #[.bool true, .string a, .string b], .string (a ++ m ++ b)] w fun e W' => e = .returned (.tuple #[.string m, .bool true]) ∧ Below w.heap.size w W' := by
  refine (match_is true a b (a ++ m ++ b) w (by omega) (by omega) (by rw [size_app, size_app]; unfold maxLen; omega)).mono fun e W' ⟨he, hb⟩ => ⟨he.trans (ret_two (stem_mid a m b) ?_), hb⟩
  unfold okB; rw [if_pos rfl, fits_mid]
theorem match_word (a b x : ByteArray) (r : Bool) (w : World) (hr : fits a b x = r) (hs : a.size + b.size + x.size ≤ 1000) :
    Calls Tryd.prog 11 #[.agg #[.bool true, .string a, .string b], .string x] w fun e W' => e = .returned (.tuple #[.string (stemB true a b x), .bool r]) ∧ Below w.heap.size w W' := by
  refine (match_is true a b x w (by omega) (by omega) (by unfold maxLen; omega)).mono fun e W' ⟨he, hb⟩ => ⟨he.trans (ret_two rfl ?_), hb⟩
  unfold okB; rw [if_pos rfl, hr]
theorem put_word (a b x : ByteArray) (w : World) (hr : fits a b x = true) (hs : a.size + b.size + x.size ≤ 1000) :
    Calls Tryd.prog 15 #[.agg #[.bool true, .string a, .string b], .string (stemB true a b x)] w fun e W' => e = .returned (.string x) ∧ Below w.heap.size w W' := by
  have := stem_le true a b x
  refine (put_is true a b (stemB true a b x) w (by omega) (by omega) (by omega)).mono fun e W' ⟨he, hb⟩ => ⟨he.trans (ret_str ?_), hb⟩
  unfold putB; rw [if_pos rfl, put_stem a b x hr]

theorem cell_on {w w' : World} (hb : Below w.heap.size w w') {a : Addr} {v : Value} (h : w.cell? a = some v) : w'.cell? a = some v :=
  (hb.cell (p := a) (World.block_lt_of_cell? w a h)).trans h
theorem cells_on {w w' : World} (hb : Below w.heap.size w w') {a b c : Addr} {u v x : Value} (h1 : w.cell? a = some u) (h2 : w.cell? b = some v) (h3 : w.cell? c = some x) : w'.cell? a = some u ∧ w'.cell? b = some v ∧ w'.cell? c = some x :=
  ⟨cell_on hb h1, cell_on hb h2, cell_on hb h3⟩

set_option maxRecDepth 100000 in
set_option maxHeartbeats 4000000 in
theorem walk (a m b x : ByteArray) (w : World) (za : a.size ≤ 140737488355328) (zm : m.size ≤ 140737488355328) (zb : b.size ≤ 140737488355328) (zx : x.size ≤ 140737488355328) :
    Calls Tryd.prog 4 #[.string a, .string m, .string b, .string x] w fun e W' => e = .returned (.bool true) ∧ Below w.heap.size w W' := by
  by_cases hbig : a.size + b.size + m.size + x.size > 500
  · go_enter Tryd.func4, Tryd.ntmps4
    go_wp2_with fail
    refine (awake_is _).mono ?_
    rintro e w1 ⟨rfl, hb1⟩
    have B1 := Lib.hid hb1
    clear hb1
    go_wp2
    go_ret
    exact ⟨rfl, B1.out⟩
  · have zall : a.size + b.size + m.size + x.size ≤ 500 := by omega
    clear hbig za zm zb zx
    go_enter Tryd.func4, Tryd.ntmps4
    go_wp2
    go_loopw [10] (fun _ wr => ∃ pos : Nat, wr = w.iter (a ++ b) pos ∧ Hid (clean (a ++ b) pos)) (fun _ wr => (a ++ b).size - wr.iterPos w.heap.size)
    case atStart => exact ⟨0, rfl, clean_zero _⟩
    case round =>
      obtain ⟨pos, rfl, hcl⟩ := hrel
      by_cases hp : pos < (a ++ b).size
      · have hwd := width (a ++ b) pos hp
        have HC := Lib.hid (clean_on (a ++ b) pos hcl.out hp)
        have hle := decode_le (a ++ b) pos
        have hnx : ∀ ty, (Instr.next (.pointer (some ⟨w.heap.size, 0, none⟩)) true ty).run Tryd.prog (w.iter (a ++ b) pos) = _ := fun ty => run_next_any w (a ++ b) pos ty hp
        generalize (Utf8.decode (a ++ b) pos).1 = r at HC hle hnx
        generalize (Utf8.decode (a ++ b) pos).2 = d at HC hwd hnx
        by_cases h37 : r = 37
        · subst h37
          clear HC
          go_wp2_with fail
          refine (awake_is _).mono ?_
          rintro e w1 ⟨rfl, hb1⟩
          have KB : Below w.heap.size w (w.iter (a ++ b) (pos + d)) := (Below.refl _ w).alloc (Nat.le_refl _) _
          have B1 := Lib.hid (KB.trans (hb1.mono KB.size))
          clear hb1 KB
          go_wp2
          go_ret
          exact ⟨rfl, B1.out⟩
        · by_cases h92 : r = 92
          · subst h92
            clear HC
            go_wp2_with fail
            refine (awake_is _).mono ?_
            rintro e w1 ⟨rfl, hb1⟩
            have KB : Below w.heap.size w (w.iter (a ++ b) (pos + d)) := (Below.refl _ w).alloc (Nat.le_refl _) _
            have B1 := Lib.hid (KB.trans (hb1.mono KB.size))
            clear hb1 KB
            go_wp2
            go_ret
            exact ⟨rfl, B1.out⟩
          · have HN := Lib.hid (HC.out h37 h92)
            have t1 : (((r : Nat) : Int) == 37) = false := by rw [beq_eq_false_iff_ne]; omega
            have t2 : (((r : Nat) : Int) == 92) = false := by rw [beq_eq_false_iff_ne]; omega
            clear HC h37 h92
            go_wp2
            go_roundw
            case rel => exact ⟨pos + d, rfl, HN⟩
            case measure => rw [size_app] at hp; simp; omega
      · have hnx : ∀ ty, (Instr.next (.pointer (some ⟨w.heap.size, 0, none⟩)) true ty).run Tryd.prog (w.iter (a ++ b) pos) = _ := fun ty => run_next_end w (a ++ b) pos ty hp
        have HC := Lib.hid (clean_end (a ++ b) pos hcl.out hp)
        have n1 := Lib.hid (clean_left HC.out.1)
        have n2 := Lib.hid (clean_left HC.out.2)
        have KB : Hid (Below w.heap.size w (w.iter (a ++ b) pos)) := Lib.hid ((Below.refl _ w).alloc (Nat.le_refl _) _)
        clear HC hcl hp
        have HM := Lib.hid (fun W => match_mid a b m W (by omega))
        have HR := Lib.hid (fun W => rep_mid a b n1.out n2.out m W (by omega))
        have HO := Lib.hid (fun W => of_mid a b W n1.out n2.out (by omega))
        have y1 : (⟨#[37]⟩ : ByteArray).size ≤ 1 := Nat.le_refl _
        have y2 : (a ++ (⟨#[37]⟩ : ByteArray)).size ≤ 501 := by rw [size_app]; omega
        have y3 : (a ++ m).size ≤ 500 := by rw [size_app]; omega
        have y4 : (⟨#[60]⟩ : ByteArray).size ≤ 1 := Nat.le_refl _
        have y5 : (⟨#[62]⟩ : ByteArray).size ≤ 1 := Nat.le_refl _
        have y6 : ((⟨#[60]⟩ : ByteArray) ++ m).size ≤ 501 := by rw [size_app]; omega
        have e1 : a.size ≤ 500 := by omega
        have e2 : b.size ≤ 500 := by omega
        have e3 : m.size ≤ 500 := by omega
        clear n1 n2
        go_wp2_with fail
        refine (HO.out _).mono ?_
        rintro e w1 ⟨rfl, hb1⟩
        have B1 := Lib.hid (KB.out.trans (hb1.mono KB.out.size))
        clear hb1 KB HO hnx
        go_wp2_with fail
        refine (HM.out _).mono ?_
        rintro e w2 ⟨rfl, hb2⟩
        obtain ⟨c0, c1, c2⟩ := laid_cells hb2
        have B2 := Lib.hid ((B1.out.alloc B1.out.size _).trans (hb2.mono (by have := B1.out.size; simp; omega)))
        have l2 : w1.heap.size < w2.heap.size := by have := hb2.size; simp at this; omega
        clear hb2 B1 HM
        cases hf : fits a b x with
        | false =>
          have HW := Lib.hid (fun W => match_word a b x false W hf (by omega))
          clear hf
          go_wp2_with fail
          refine (HW.out _).mono ?_
          rintro e w3 ⟨rfl, hb3⟩
          obtain ⟨d0, d1, d2⟩ := cells_on hb3 c0 c1 c2
          have B3 := Lib.hid (B2.out.trans (hb3.mono B2.out.size))
          clear hb3 B2 HW c0 c1 c2
          go_wp2_with fail
          refine (HR.out _).mono ?_
          rintro e w4 ⟨rfl, hb4⟩
          obtain ⟨c0, c1, c2⟩ := cells_on hb4 d0 d1 d2
          have B4 := Lib.hid (B3.out.trans (hb4.mono B3.out.size))
          clear hb4 B3 HR d0 d1 d2
          go_wp2_with fail
          refine (awake_is _).mono ?_
          rintro e w5 ⟨rfl, hb5⟩
          have B5 := Lib.hid (B4.out.trans (hb5.mono B4.out.size))
          clear hb5 B4
          go_wp2
          go_ret
          exact ⟨rfl, B5.out⟩
        | true =>
          have HW := Lib.hid (fun W => match_word a b x true W hf (by omega))
          have HP := Lib.hid (fun W => put_word a b x W hf (by omega))
          clear hf
          generalize stemB true a b x = y at HW HP
          go_wp2_with fail
          refine (HW.out _).mono ?_
          rintro e w3 ⟨rfl, hb3⟩
          obtain ⟨d0, d1, d2⟩ := cells_on hb3 c0 c1 c2
          have B3 := Lib.hid (B2.out.trans (hb3.mono B2.out.size))
          clear hb3 B2 HW c0 c1 c2
          go_wp2_with fail
          refine (HR.out _).mono ?_
          rintro e w4 ⟨rfl, hb4⟩
          obtain ⟨c0, c1, c2⟩ := cells_on hb4 d0 d1 d2
          have B4 := Lib.hid (B3.out.trans (hb4.mono B3.out.size))
          clear hb4 B3 HR d0 d1 d2
          go_wp2_with fail
          refine (HP.out _).mono ?_
          rintro e w5 ⟨rfl, hb5⟩
          have B5 := Lib.hid (B4.out.trans (hb5.mono B4.out.size))
          clear hb5 B4 HP
          go_wp2_with fail
          refine (awake_is _).mono ?_
          rintro e w6 ⟨rfl, hb6⟩
          have B6 := Lib.hid (B5.out.trans (hb6.mono B5.out.size))
          clear hb6 B5
          go_wp2
          go_ret
          exact ⟨rfl, B6.out⟩

end Go.Proofs.YtepigemfkaeaeaaDoor.PatternPuts
