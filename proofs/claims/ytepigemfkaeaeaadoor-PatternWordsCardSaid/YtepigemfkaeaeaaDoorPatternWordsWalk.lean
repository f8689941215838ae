/- The walk of the law PatternWords: for all lists of numbers the law answers true. -/
import Derived.Test.YtepigemfkaeaeaaDoorPatAwake
import Derived.Test.YtepigemfkaeaeaaDoorWord
import Derived.Test.YtepigemfkaeaeaaDoorMid
import Derived.Test.YtepigemfkaeaeaaDoorNums
namespace Go.Proofs.YtepigemfkaeaeaaDoor.PatternWords
open Go.RowKit Go.Proofs.YtepigemfkaeaeaaDoor.Pat Go.Proofs.YtepigemfkaeaeaaDoor.Of Go.Proofs.YtepigemfkaeaeaaDoor.Match Go.Proofs.YtepigemfkaeaeaaDoor.Replace Go.Proofs.YtepigemfkaeaeaaDoor.PatAwake Go.Proofs.YtepigemfkaeaeaaDoor.Mid Go.Proofs.YtepigemfkaeaeaaDoor.Nums
open Go.Proofs.YtepigemfkaeaeaaDoor.Place (place place_lt)
open Go.Proofs.YtepigemfkaeaeaaDoor.Word (wordAt word_is)

/-! ### what becomes of the words -/
def cs (v : ByteArray) : ByteArray := outR ⟨#[37, 46, 99]⟩ ⟨#[111, 47, 37, 46, 111]⟩ v
def ck (v : ByteArray) : Bool := okR ⟨#[37, 46, 99]⟩ v
def xs (v : ByteArray) : ByteArray := outR ⟨#[37]⟩ ⟨#[60, 37]⟩ v
def ys (v : ByteArray) : ByteArray := outR ⟨#[102, 111, 111]⟩ ⟨#[37, 98, 97, 114]⟩ v
def yk (v : ByteArray) : Bool := okR ⟨#[102, 111, 111]⟩ v

theorem of16 {P : ByteArray → Prop} (h : ∀ p, p < 16 → P (wordAt p)) (v : Int) : P (wordAt (place v 16)) := h _ (place_lt v 16 (by omega))
theorem split16 (p : Nat) (hp : p < 16) : p = 0 ∨ p = 1 ∨ p = 2 ∨ p = 3 ∨ p = 4 ∨ p = 5 ∨ p = 6 ∨ p = 7 ∨ p = 8 ∨ p = 9 ∨ p = 10 ∨ p = 11 ∨ p = 12 ∨ p = 13 ∨ p = 14 ∨ p = 15 := by omega
/-- what holds of each of the words -/
def All (v : ByteArray) : Prop :=
  v.size ≤ 20 ∧ okR ⟨#[37]⟩ v = true ∧ xs v = (⟨#[60]⟩ : ByteArray) ++ v ∧
  ((ck v = true ∧ 2 ≤ v.size ∧ ((v.extract (v.size - 2) v.size).toList == [46, 99]) = true ∧ cs v = (⟨#[111, 47]⟩ : ByteArray) ++ v.extract 0 (v.size - 2) ++ (⟨#[46, 111]⟩ : ByteArray) ∧ yk v = false ∧ ys v = v ∧ (v.toList == [102, 111, 111]) = false) ∨
   (ck v = false ∧ v.size < 2 ∧ cs v = v ∧ yk v = false ∧ ys v = v ∧ (v.toList == [102, 111, 111]) = false) ∨
   (ck v = false ∧ 2 ≤ v.size ∧ ((v.extract (v.size - 2) v.size).toList == [46, 99]) = false ∧ cs v = v ∧ yk v = false ∧ ys v = v ∧ (v.toList == [102, 111, 111]) = false) ∨
   (ck v = false ∧ 2 ≤ v.size ∧ ((v.extract (v.size - 2) v.size).toList == [46, 99]) = false ∧ cs v = v ∧ yk v = true ∧ ys v = ⟨#[37, 98, 97, 114]⟩ ∧ (v.toList == [102, 111, 111]) = true))
theorem eq_of_beq' {a b : ByteArray} (h : (a.data.toList == b.data.toList) = true) : a = b := ext_data (eq_of_beq h)
theorem all_words (p : Nat) (hp : p < 16) : All (wordAt p) := by
  rcases split16 p hp with rfl | rfl | rfl | rfl | rfl | rfl | rfl | rfl | rfl | rfl | rfl | rfl | rfl | rfl | rfl | rfl
  · exact ⟨by decide +kernel, by kernel_rfl, eq_of_beq' (by kernel_rfl), .inr (.inl ⟨by kernel_rfl, by decide +kernel, eq_of_beq' (by kernel_rfl), by kernel_rfl, eq_of_beq' (by kernel_rfl), by kernel_rfl⟩)⟩
  · exact ⟨by decide +kernel, by kernel_rfl, eq_of_beq' (by kernel_rfl), .inr (.inl ⟨by kernel_rfl, by decide +kernel, eq_of_beq' (by kernel_rfl), by kernel_rfl, eq_of_beq' (by kernel_rfl), by kernel_rfl⟩)⟩
  · exact ⟨by decide +kernel, by kernel_rfl, eq_of_beq' (by kernel_rfl), .inr (.inl ⟨by kernel_rfl, by decide +kernel, eq_of_beq' (by kernel_rfl), by kernel_rfl, eq_of_beq' (by kernel_rfl), by kernel_rfl⟩)⟩
  · exact ⟨by decide +kernel, by kernel_rfl, eq_of_beq' (by kernel_rfl), .inl ⟨by kernel_rfl, by decide +kernel, by kernel_rfl, eq_of_beq' (by kernel_rfl), by kernel_rfl, eq_of_beq' (by kernel_rfl), by kernel_rfl⟩⟩
  · exact ⟨by decide +kernel, by kernel_rfl, eq_of_beq' (by kernel_rfl), .inl ⟨by kernel_rfl, by decide +kernel, by kernel_rfl, eq_of_beq' (by kernel_rfl), by kernel_rfl, eq_of_beq' (by kernel_rfl), by kernel_rfl⟩⟩
  · exact ⟨by decide +kernel, by kernel_rfl, eq_of_beq' (by kernel_rfl), .inr (.inr (.inl ⟨by kernel_rfl, by decide +kernel, by kernel_rfl, eq_of_beq' (by kernel_rfl), by kernel_rfl, eq_of_beq' (by kernel_rfl), by kernel_rfl⟩))⟩
  · exact ⟨by decide +kernel, by kernel_rfl, eq_of_beq' (by kernel_rfl), .inl ⟨by kernel_rfl, by decide +kernel, by kernel_rfl, eq_of_beq' (by kernel_rfl), by kernel_rfl, eq_of_beq' (by kernel_rfl), by kernel_rfl⟩⟩
  · exact ⟨by decide +kernel, by kernel_rfl, eq_of_beq' (by kernel_rfl), .inr (.inr (.inl ⟨by kernel_rfl, by decide +kernel, by kernel_rfl, eq_of_beq' (by kernel_rfl), by kernel_rfl, eq_of_beq' (by kernel_rfl), by kernel_rfl⟩))⟩
  · exact ⟨by decide +kernel, by kernel_rfl, eq_of_beq' (by kernel_rfl), .inr (.inl ⟨by kernel_rfl, by decide +kernel, eq_of_beq' (by kernel_rfl), by kernel_rfl, eq_of_beq' (by kernel_rfl), by kernel_rfl⟩)⟩
  · exact ⟨by decide +kernel, by kernel_rfl, eq_of_beq' (by kernel_rfl), .inr (.inr (.inl ⟨by kernel_rfl, by decide +kernel, by kernel_rfl, eq_of_beq' (by kernel_rfl), by kernel_rfl, eq_of_beq' (by kernel_rfl), by kernel_rfl⟩))⟩
  · exact ⟨by decide +kernel, by kernel_rfl, eq_of_beq' (by kernel_rfl), .inr (.inr (.inr ⟨by kernel_rfl, by decide +kernel, by kernel_rfl, eq_of_beq' (by kernel_rfl), by kernel_rfl, eq_of_beq' (by kernel_rfl), by kernel_rfl⟩))⟩
  · exact ⟨by decide +kernel, by kernel_rfl, eq_of_beq' (by kernel_rfl), .inl ⟨by kernel_rfl, by decide +kernel, by kernel_rfl, eq_of_beq' (by kernel_rfl), by kernel_rfl, eq_of_beq' (by kernel_rfl), by kernel_rfl⟩⟩
  · exact ⟨by decide +kernel, by kernel_rfl, eq_of_beq' (by kernel_rfl), .inr (.inr (.inl ⟨by kernel_rfl, by decide +kernel, by kernel_rfl, eq_of_beq' (by kernel_rfl), by kernel_rfl, eq_of_beq' (by kernel_rfl), by kernel_rfl⟩))⟩
  · exact ⟨by decide +kernel, by kernel_rfl, eq_of_beq' (by kernel_rfl), .inr (.inr (.inl ⟨by kernel_rfl, by decide +kernel, by kernel_rfl, eq_of_beq' (by kernel_rfl), by kernel_rfl, eq_of_beq' (by kernel_rfl), by kernel_rfl⟩))⟩
  · exact ⟨by decide +kernel, by kernel_rfl, eq_of_beq' (by kernel_rfl), .inr (.inr (.inl ⟨by kernel_rfl, by decide +kernel, by kernel_rfl, eq_of_beq' (by kernel_rfl), by kernel_rfl, eq_of_beq' (by kernel_rfl), by kernel_rfl⟩))⟩
  · exact ⟨by decide +kernel, by kernel_rfl, eq_of_beq' (by kernel_rfl), .inr (.inl ⟨by kernel_rfl, by decide +kernel, eq_of_beq' (by kernel_rfl), by kernel_rfl, eq_of_beq' (by kernel_rfl), by kernel_rfl⟩)⟩

theorem rep_c (v : ByteArray) (r : Bool) (y : ByteArray) (w : World) (hv : v.size ≤ 20) (h1 : ck v = r) (h2 : cs v = y) :
    Calls Tryd.prog 13 #[.string ⟨#[37, 46, 99]⟩, .string ⟨#[111, 47, 37, 46, 111]⟩, .string v] w fun e W' => e = .returned (.tuple #[.string y, .bool r]) ∧ Below w.heap.size w W' :=
  (replace_is _ _ _ w (by decide) (by decide) (by omega)).mono fun e W' ⟨he, hb⟩ => ⟨he.trans (ret_two h2 h1), hb⟩
theorem rep_x (v : ByteArray) (y : ByteArray) (w : World) (hv : v.size ≤ 20) (h1 : okR ⟨#[37]⟩ v = true) (h2 : xs v = y) :
    Calls Tryd.prog 13 #[.string ⟨#[37]⟩, .string ⟨#[60, 37]⟩, .string v] w fun e W' => e = .returned (.tuple #[.string y, .bool true]) ∧ Below w.heap.size w W' :=
  (replace_is _ _ _ w (by decide) (by decide) (by omega)).mono fun e W' ⟨he, hb⟩ => ⟨he.trans (ret_two h2 h1), hb⟩
theorem rep_y (v : ByteArray) (r : Bool) (y : ByteArray) (w : World) (hv : v.size ≤ 20) (h1 : yk v = r) (h2 : ys v = y) :
    Calls Tryd.prog 13 #[.string ⟨#[102, 111, 111]⟩, .string ⟨#[37, 98, 97, 114]⟩, .string v] w fun e W' => e = .returned (.tuple #[.string y, .bool r]) ∧ Below w.heap.size w W' :=
  (replace_is _ _ _ w (by decide) (by decide) (by omega)).mono fun e W' ⟨he, hb⟩ => ⟨he.trans (ret_two h2 h1), hb⟩

set_option maxRecDepth 100000 in
set_option maxHeartbeats 4000000 in
theorem walk (A : Option Addr) (n c : Nat) (zs : List Int) (w : World) (hl : IntIs w A n c zs) (_ : n ≤ maxLen) :
    Calls Tryd.prog 6 #[.slice A n c] w fun e W' => e = .returned (.bool true) ∧ Below w.heap.size w W' := by
  have HL := Lib.hid hl
  clear hl
  go_enter Tryd.func6, Tryd.ntmps6
  go_wp2
  go_loopw [3] (fun i wr => ∃ k : Nat, k ≤ n ∧ k ≤ 30 ∧ i = .int .i64 k ∧ Below w.heap.size w wr) (fun i _ => 30 - (intOf i).toNat)
  case atStart => exact ⟨0, Nat.zero_le _, Nat.zero_le _, rfl, Below.refl _ _⟩
  case round =>
    obtain ⟨k, hk, hk2, rfl, hB⟩ := hrel
    have HB := Lib.hid hB
    by_cases hlt : k < n ∧ k < 30
    · obtain ⟨hlt1, hlt2⟩ := hlt
      obtain ⟨b, o, z, rfl, hz, hc⟩ := HL.out.at_ hlt1
      have c0 := hc wr hB
      clear hc hB
      have HW := Lib.hid (fun W => word_is z W hz)
      obtain ⟨hv, x1, x2, hcase⟩ : All (wordAt (place z 16)) := of16 all_words z
      clear hz
      generalize wordAt (place z 16) = v at HW hv x1 x2 hcase
      have HX := Lib.hid (fun W => rep_x v _ W hv x1 x2)
      clear x1 x2
      have s5 : (⟨#[60]⟩ : ByteArray).size ≤ 1 := Nat.le_refl _
      go_wp2_with fail
      refine (HW.out _).mono ?_
      rintro e w' ⟨rfl, rfl⟩
      clear HW c0
      rcases hcase with ⟨k1, hz, k2, k3, k4, k5, k6⟩ | ⟨k1, hz, k3, k4, k5, k6⟩ | ⟨k1, hz, k2, k3, k4, k5, k6⟩ | ⟨k1, hz, k2, k3, k4, k5, k6⟩
      · have HC := Lib.hid (fun W => rep_c v _ _ W hv k1 k3)
        have HY := Lib.hid (fun W => rep_y v _ _ W hv k4 k5)
        have s1 : (v.extract 0 (v.size - 2)).size ≤ 20 := by rw [ByteArray.size_extract]; omega
        have s2 : (⟨#[111, 47]⟩ : ByteArray).size ≤ 2 := Nat.le_refl _
        have s3 : (⟨#[46, 111]⟩ : ByteArray).size ≤ 2 := Nat.le_refl _
        have s4 : ((⟨#[111, 47]⟩ : ByteArray) ++ v.extract 0 (v.size - 2)).size ≤ 22 := by rw [size_app]; omega
        clear k1 k3 k4 k5
        go_wp2_with fail
        refine (HC.out _).mono ?_
        rintro e w1 ⟨rfl, hb1⟩
        have B1 := Lib.hid (HB.out.trans (hb1.mono HB.out.size))
        clear hb1 HC HB
        go_wp2_with fail
        refine (HX.out _).mono ?_
        rintro e w2 ⟨rfl, hb2⟩
        have B2 := Lib.hid (B1.out.trans (hb2.mono B1.out.size))
        clear hb2 HX B1
        go_wp2_with fail
        refine (HY.out _).mono ?_
        rintro e w3 ⟨rfl, hb3⟩
        have B3 := Lib.hid (B2.out.trans (hb3.mono B2.out.size))
        clear hb3 HY B2
        go_wp2
        go_roundw
        case rel => exact ⟨k + 1, by omega, by omega, by go_num, B3.out⟩
        case measure => simp [intOf]; omega
      · have HC := Lib.hid (fun W => rep_c v _ _ W hv k1 k3)
        have HY := Lib.hid (fun W => rep_y v _ _ W hv k4 k5)
        clear k1 k3 k4 k5
        go_wp2_with fail
        refine (HC.out _).mono ?_
        rintro e w1 ⟨rfl, hb1⟩
        have B1 := Lib.hid (HB.out.trans (hb1.mono HB.out.size))
        clear hb1 HC HB
        go_wp2_with fail
        refine (HX.out _).mono ?_
        rintro e w2 ⟨rfl, hb2⟩
        have B2 := Lib.hid (B1.out.trans (hb2.mono B1.out.size))
        clear hb2 HX B1
        go_wp2_with fail
        refine (HY.out _).mono ?_
        rintro e w3 ⟨rfl, hb3⟩
        have B3 := Lib.hid (B2.out.trans (hb3.mono B2.out.size))
        clear hb3 HY B2
        go_wp2
        go_roundw
        case rel => exact ⟨k + 1, by omega, by omega, by go_num, B3.out⟩
        case measure => simp [intOf]; omega
      · have HC := Lib.hid (fun W => rep_c v _ _ W hv k1 k3)
        have HY := Lib.hid (fun W => rep_y v _ _ W hv k4 k5)
        clear k1 k3 k4 k5
        go_wp2_with fail
        refine (HC.out _).mono ?_
        rintro e w1 ⟨rfl, hb1⟩
        have B1 := Lib.hid (HB.out.trans (hb1.mono HB.out.size))
        clear hb1 HC HB
        go_wp2_with fail
        refine (HX.out _).mono ?_
        rintro e w2 ⟨rfl, hb2⟩
        have B2 := Lib.hid (B1.out.trans (hb2.mono B1.out.size))
        clear hb2 HX B1
        go_wp2_with fail
        refine (HY.out _).mono ?_
        rintro e w3 ⟨rfl, hb3⟩
        have B3 := Lib.hid (B2.out.trans (hb3.mono B2.out.size))
        clear hb3 HY B2
        go_wp2
        go_roundw
        case rel => exact ⟨k + 1, by omega, by omega, by go_num, B3.out⟩
        case measure => simp [intOf]; omega
      · have HC := Lib.hid (fun W => rep_c v _ _ W hv k1 k3)
        have HY := Lib.hid (fun W => rep_y v _ _ W hv k4 k5)
        clear k1 k3 k4 k5
        go_wp2_with fail
        refine (HC.out _).mono ?_
        rintro e w1 ⟨rfl, hb1⟩
        have B1 := Lib.hid (HB.out.trans (hb1.mono HB.out.size))
        clear hb1 HC HB
        go_wp2_with fail
        refine (HX.out _).mono ?_
        rintro e w2 ⟨rfl, hb2⟩
        have B2 := Lib.hid (B1.out.trans (hb2.mono B1.out.size))
        clear hb2 HX B1
        go_wp2_with fail
        refine (HY.out _).mono ?_
        rintro e w3 ⟨rfl, hb3⟩
        have B3 := Lib.hid (B2.out.trans (hb3.mono B2.out.size))
        clear hb3 HY B2
        go_wp2
        go_roundw
        case rel => exact ⟨k + 1, by omega, by omega, by go_num, B3.out⟩
        case measure => simp [intOf]; omega
    · have HE : Hid (Below w.heap.size w wr) := HB
      by_cases h1 : k < n
      · have h2 : ¬ k < 30 := fun h => hlt ⟨h1, h⟩
        clear hlt hB
        go_wp2_with fail
        refine (awake_is _).mono ?_
        rintro e w3 ⟨rfl, hb3⟩
        have B3 := Lib.hid (HE.out.trans (hb3.mono HE.out.size))
        clear hb3 HE HB
        go_wp2
        go_ret
        exact ⟨rfl, B3.out⟩
      · clear hlt hB
        go_wp2_with fail
        refine (awake_is _).mono ?_
        rintro e w3 ⟨rfl, hb3⟩
        have B3 := Lib.hid (HE.out.trans (hb3.mono HE.out.size))
        clear hb3 HE HB
        go_wp2
        go_ret
        exact ⟨rfl, B3.out⟩

end Go.Proofs.YtepigemfkaeaeaaDoor.PatternWords
