/- The walk of the law GlobSets: for all numbers and every text the law answers true. -/
import Derived.Test.YtegagjclkmomcaaRtop
import Derived.Test.YtegagjclkmomcaaPlace
import Derived.Test.YtegagjclkmomcaaNums
namespace Go.Proofs.Ytegagjclkmomcaa.GlobSets
open Go.RowKit Go.Proofs.Ytegagjclkmomcaa.Glb Go.Proofs.Ytegagjclkmomcaa.Gops Go.Proofs.Ytegagjclkmomcaa.Gread Go.Proofs.Ytegagjclkmomcaa.Gfit Go.Proofs.Ytegagjclkmomcaa.Gmatch Go.Proofs.Ytegagjclkmomcaa.Gmagic Go.Proofs.Ytegagjclkmomcaa.Gplain Go.Proofs.Ytegagjclkmomcaa.Rtop Go.Proofs.Ytegagjclkmomcaa.Nums
open Go.Proofs.Ytegagjclkmomcaa.Place (place place_lt place_is)

def partList : List (List UInt8) := [[97], [98], [42], [63], [91, 97, 98, 93], [91, 33, 97, 93], [91, 94, 98, 45, 100, 93], [91, 97, 45, 99, 93], [91, 93, 97, 93], [91, 97, 45, 93], [92, 42], [91, 92, 93, 93], [91], [91, 97], [46], [45]]
def partAt (q : Nat) : ByteArray := bs (partList.getD q [])
theorem part_size (q : Nat) (h : q < 16) : (partAt q).size ≤ 6 := by
  have h : q = 0 ∨ q = 1 ∨ q = 2 ∨ q = 3 ∨ q = 4 ∨ q = 5 ∨ q = 6 ∨ q = 7 ∨ q = 8 ∨ q = 9 ∨ q = 10 ∨ q = 11 ∨ q = 12 ∨ q = 13 ∨ q = 14 ∨ q = 15 := by omega
  rcases h with rfl | rfl | rfl | rfl | rfl | rfl | rfl | rfl | rfl | rfl | rfl | rfl | rfl | rfl | rfl | rfl <;> decide
set_option maxHeartbeats 400000 in
theorem index_part (q : Nat) (hq : q < 16) (W : World) : (Instr.index 23 (.agg #[.string ⟨#[97]⟩, .string ⟨#[98]⟩, .string ⟨#[42]⟩, .string ⟨#[63]⟩, .string ⟨#[91, 97, 98, 93]⟩, .string ⟨#[91, 33, 97, 93]⟩, .string ⟨#[91, 94, 98, 45, 100, 93]⟩, .string ⟨#[91, 97, 45, 99, 93]⟩, .string ⟨#[91, 93, 97, 93]⟩, .string ⟨#[91, 97, 45, 93]⟩, .string ⟨#[92, 42]⟩, .string ⟨#[91, 92, 93, 93]⟩, .string ⟨#[91]⟩, .string ⟨#[91, 97]⟩, .string ⟨#[46]⟩, .string ⟨#[45]⟩]) (.int .i64 (q : Int))).run Try.prog W = .ok (.string (partAt q)) W := by
  have h : q = 0 ∨ q = 1 ∨ q = 2 ∨ q = 3 ∨ q = 4 ∨ q = 5 ∨ q = 6 ∨ q = 7 ∨ q = 8 ∨ q = 9 ∨ q = 10 ∨ q = 11 ∨ q = 12 ∨ q = 13 ∨ q = 14 ∨ q = 15 := by omega
  rcases h with rfl | rfl | rfl | rfl | rfl | rfl | rfl | rfl | rfl | rfl | rfl | rfl | rfl | rfl | rfl | rfl <;> (show _ = _; kernel_rfl)
theorem get_int {w : World} {A : Option Addr} {n c k : Nat} {zs : List Int} (h : IntIs w A n c zs) (hk : k < n) : ∃ b o z, A = some ⟨b, o, none⟩ ∧ (Lit.int .i64 z).wf = true ∧ w.cell? ⟨b, o + k, none⟩ = some (.int .i64 z) := by
  have hl : k < zs.length := by have := h.1; omega
  rcases h.2.2.2 with h0 | ⟨b, o, rfl, hb, hc⟩
  · rw [h0] at hl; exact absurd hl (Nat.not_lt_zero _)
  · exact ⟨b, o, zs[k], rfl, h.2.2.1 _ (List.getElem_mem hl), hc k _ (List.getElem?_eq_getElem hl)⟩
theorem size_app (a b : ByteArray) : (a ++ b).size = a.size + b.size := ByteArray.size_append

set_option maxRecDepth 100000 in
set_option maxHeartbeats 4000000 in
theorem walk (A : Option Addr) (n c : Nat) (zs : List Int) (s : ByteArray) (w : World) (hl : IntIs w A n c zs) (_hm : n ≤ maxLen) (_hs : s.size ≤ maxLen) :
    Calls Try.prog 3 #[.slice A n c, .string s] w fun e W' => e = .returned (.bool true) ∧ Below w.heap.size w W' := by
  unfold maxLen at _hm _hs
  go_enter Try.func3, Try.ntmps3
  go_wp2_with fail
  go_loopg [5, 6] 13 (fun g s5 s6 wx => ∃ (i : Nat) (p : ByteArray), s5 = .string p ∧ s6 = .int .i64 i ∧ i ≤ n ∧ i ≤ 12 ∧ 12 - i < g ∧ p.size ≤ 6 * i ∧ w = wx)
  case atStart => exact ⟨0, ⟨#[]⟩, rfl, rfl, Nat.zero_le _, Nat.zero_le _, by omega, Nat.le_refl _, rfl⟩
  case round =>
    obtain ⟨i, p, rfl, rfl, hin, hi12, hg, hps, rfl⟩ := hrel
    obtain ⟨g, rfl⟩ : ∃ g, gk = g + 1 := ⟨gk - 1, by omega⟩
    by_cases hgo : i < n ∧ i < 12
    · obtain ⟨hlt, hlt2⟩ := hgo
      obtain ⟨b, o, z, rfl, hz, hc⟩ := get_int hl hlt
      have hq := place_lt z 16 (by omega)
      have HP := Lib.hid (fun W => place_is z 16 W (by omega) (by omega) hz)
      clear hz
      generalize place z 16 = q at HP hq
      have hix := index_part q hq
      have zp := part_size q hq
      generalize partAt q = t at hix zp
      have hz2 := size_app p t
      go_wp2_with fail
      refine (HP.out _).mono ?_
      rintro e w' ⟨rfl, rfl⟩
      go_wp2_with fail
      go_roundg g
      case measure => omega
      case rel => exact ⟨i + 1, p ++ t, rfl, by go_num, by omega, by omega, by omega, by omega, rfl⟩
    · go_upto_region 3 with fail
      go_cut [14] (fun b wx => b = .bool false ∧ w = wx)
      case first =>
        by_cases hlt : i < n
        · have h12 : ¬ i < 12 := fun h => hgo ⟨hlt, h⟩
          go_wp2_with fail
          go_meet
          exact ⟨by rw [decide_eq_false (by omega)], rfl⟩
        · go_wp2_with fail
          go_meet
          exact ⟨rfl, rfl⟩
      case rest =>
        obtain ⟨rfl, rfl⟩ := hcut
        by_cases hbig : 100 < s.size
        · go_wp2_with fail
          refine (awake_is _).mono ?_
          rintro e w1 ⟨rfl, hb⟩
          have B1 := Lib.hid hb
          clear hb
          go_wp2_with fail
          go_ret
          exact ⟨rfl, B1.out⟩
        · have hp : p.size ≤ 1000000 := by omega
          have hs : s.size ≤ 1000000 := by omega
          have x1 := Lib.hid (fun W => match_is p s W hp hs)
          have x2 := Lib.hid (fun W => refMatch_is p s W hp hs)
          have x3 := Lib.hid (fun W => magic_is p W hp)
          have x4 := Lib.hid (fun W => refMagic_is p W hp)
          have x5 := Lib.hid (fun W => plain_is p W hp)
          have x6 := Lib.hid (fun W => refPlain_is p W hp)
          clear hp hs
          generalize matchL p.data.toList s.data.toList = b1 at x1 x2
          generalize magicL p.data.toList = b2 at x3 x4
          generalize bs (plainL p.data.toList) = t at x5 x6
          go_wp2_with fail
          refine (x1.out _).mono ?_
          rintro e w1 ⟨rfl, hb⟩
          have B1 := Lib.hid hb
          clear hb x1
          go_wp2_with fail
          refine (x2.out _).mono ?_
          rintro e w2 ⟨rfl, hb⟩
          have B2 := Lib.hid (B1.out.trans (hb.mono B1.out.size))
          clear hb x2
          go_wp2_with fail
          refine (x3.out _).mono ?_
          rintro e w3 ⟨rfl, hb⟩
          have B3 := Lib.hid (B2.out.trans (hb.mono B2.out.size))
          clear hb x3
          go_wp2_with fail
          refine (x4.out _).mono ?_
          rintro e w4 ⟨rfl, hb⟩
          have B4 := Lib.hid (B3.out.trans (hb.mono B3.out.size))
          clear hb x4
          go_wp2_with fail
          refine (x5.out _).mono ?_
          rintro e w5 ⟨rfl, hb⟩
          have B5 := Lib.hid (B4.out.trans (hb.mono B4.out.size))
          clear hb x5
          go_wp2_with fail
          refine (x6.out _).mono ?_
          rintro e w6 ⟨rfl, hb⟩
          have B6 := Lib.hid (B5.out.trans (hb.mono B5.out.size))
          clear hb x6
          go_wp2_with fail
          refine (awake_is _).mono ?_
          rintro e w7 ⟨rfl, hb⟩
          have B7 := Lib.hid (B6.out.trans (hb.mono B6.out.size))
          clear hb
          go_wp2
          go_ret
          exact ⟨rfl, B7.out⟩
end Go.Proofs.Ytegagjclkmomcaa.GlobSets
