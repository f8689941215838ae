/- What the laws' own helpers answer: a number's place among n. -/
import Derived.WalkKit
import Derived.WalkSpells
import Derived.IntWalk
import Derived.Lib.Hide
import Derived.Test.YtghfmbmdfojapaaGreatDoorProg
import Derived.Deep.DeepCutAuto
import Derived.Test.YtghfmbmdfojapaaGreatDoorNums
import Derived.Test.YtghfmbmdfojapaaGreatDoorVcellJ
namespace Go.Proofs.YtghfmbmdfojapaaGreatDoor.Place
open Go.RowKit

/-- any number as one from 0 to n - 1 -/
def place (v : Int) (n : Nat) : Nat := (v % (n : Int)).toNat
theorem place_lt (v : Int) (n : Nat) (h : 0 < n) : place v n < n := by
  have h1 := Int.emod_nonneg v (b := (n : Int)) (by omega)
  have h2 := Int.emod_lt_of_pos v (b := (n : Int)) (by omega)
  unfold place; omega
theorem place_cast (v : Int) (n : Nat) (h : 0 < n) : ((place v n : Nat) : Int) = v % (n : Int) := by
  have h1 := Int.emod_nonneg v (b := (n : Int)) (by omega)
  unfold place; omega
theorem ret_int {k : IntKind} {a b : Int} (h : a = b) : Ending.returned (.int k a) = .returned (.int k b) := by rw [h]

theorem tmod_two (v n : Int) (hn : 0 < n) : v.tmod n = v % n ∨ v.tmod n = v % n - n := by
  rw [Int.tmod_eq_emod]
  split
  · left; omega
  · right; omega
theorem neg_way (v : Int) (n : Nat) (hn : 0 < n) (hn2 : n ≤ 1000000) (h : v.tmod (n : Int) < 0) : wrap64 (v.tmod (n : Int) + (n : Int)) = ((place v n : Nat) : Int) := by
  have h1 := Int.emod_nonneg v (b := (n : Int)) (by omega)
  have h2 := Int.emod_lt_of_pos v (b := (n : Int)) (by omega)
  have h3 := place_cast v n hn
  rcases tmod_two v (n : Int) (by omega) with e | e
  · omega
  · rw [h3, e, IntWalk.wrap64_in] <;> omega
theorem pos_way (v : Int) (n : Nat) (hn : 0 < n) (h : 0 ≤ v.tmod (n : Int)) : v.tmod (n : Int) = ((place v n : Nat) : Int) := by
  have h2 := Int.emod_lt_of_pos v (b := (n : Int)) (by omega)
  have h3 := place_cast v n hn
  rcases tmod_two v (n : Int) (by omega) with e | e <;> omega

set_option maxHeartbeats 400000 in
/-- a number's place -/
theorem place_is (v : Int) (n : Nat) (w : World) (hn : 0 < n) (hn2 : n ≤ 1000000) (hv : (Lit.int .i64 v).wf = true) :
    Calls Tryz.prog 13 #[.int .i64 v, .int .i64 (n : Int)] w fun e w' => e = .returned (.int .i64 ((place v n : Nat) : Int)) ∧ w = w' := by
  have hvb : -9223372036854775808 ≤ v ∧ v ≤ 9223372036854775807 := by
    simpa [Lit.wf, IntKind.min, IntKind.max, IntKind.signed, IntKind.bits] using hv
  have hn0 : ((n : Int) == 0) = false := by simp; omega
  have HP := Lib.hid (place_cast v n hn)
  obtain ⟨hv1, hv2⟩ := hvb
  by_cases h0 : 0 ≤ v
  · have h1 := Int.emod_nonneg v (b := (n : Int)) (by omega)
    have h2 : ¬ v % (n : Int) < 0 := by omega
    go_enter Tryz.func13, Tryz.ntmps13
    go_wp2
    go_ret
    exact ⟨ret_int HP.out.symm, rfl⟩
  · by_cases h2 : v.tmod (n : Int) < 0
    · have HQ := Lib.hid (neg_way v n hn hn2 h2)
      go_enter Tryz.func13, Tryz.ntmps13
      go_wp2
      go_ret
      exact ⟨ret_int HQ.out, rfl⟩
    · have HQ := Lib.hid (pos_way v n hn (by omega))
      go_enter Tryz.func13, Tryz.ntmps13
      go_wp2
      go_ret
      exact ⟨ret_int HQ.out, rfl⟩

end Go.Proofs.YtghfmbmdfojapaaGreatDoor.Place

/- A number's place among many. -/
namespace Go.Proofs.YtghfmbmdfojapaaGreatDoor.Wplace
open Go.RowKit Go.Proofs.YtghfmbmdfojapaaGreatDoor.Place

theorem neg_way' (v : Int) (n : Nat) (hn : 0 < n) (hn2 : n ≤ 4294967296) (h : v.tmod (n : Int) < 0) : wrap64 (v.tmod (n : Int) + (n : Int)) = ((place v n : Nat) : Int) := by
  have h1 := Int.emod_nonneg v (b := (n : Int)) (by omega)
  have h2 := Int.emod_lt_of_pos v (b := (n : Int)) (by omega)
  have h3 := place_cast v n hn
  rcases tmod_two v (n : Int) (by omega) with e | e
  · omega
  · rw [h3, e, IntWalk.wrap64_in] <;> omega

set_option maxHeartbeats 400000 in
theorem place_is (v : Int) (n : Nat) (w : World) (hn : 0 < n) (hn2 : n ≤ 4294967296) (hv : (Lit.int .i64 v).wf = true) :
    Calls Tryz.prog 13 #[.int .i64 v, .int .i64 (n : Int)] w fun e w' => e = .returned (.int .i64 ((place v n : Nat) : Int)) ∧ w = w' := by
  have hvb : -9223372036854775808 ≤ v ∧ v ≤ 9223372036854775807 := by
    simpa [Lit.wf, IntKind.min, IntKind.max, IntKind.signed, IntKind.bits] using hv
  have hn0 : ((n : Int) == 0) = false := by simp; omega
  have HP := Lib.hid (place_cast v n hn)
  obtain ⟨hv1, hv2⟩ := hvb
  by_cases h0 : 0 ≤ v
  · have h1 := Int.emod_nonneg v (b := (n : Int)) (by omega)
    have h2 : ¬ v % (n : Int) < 0 := by omega
    go_enter Tryz.func13, Tryz.ntmps13
    go_wp2
    go_ret
    exact ⟨ret_int HP.out.symm, rfl⟩
  · by_cases h2 : v.tmod (n : Int) < 0
    · have HQ := Lib.hid (neg_way' v n hn hn2 h2)
      go_enter Tryz.func13, Tryz.ntmps13
      go_wp2
      go_ret
      exact ⟨ret_int HQ.out, rfl⟩
    · have HQ := Lib.hid (pos_way v n hn (by omega))
      go_enter Tryz.func13, Tryz.ntmps13
      go_wp2
      go_ret
      exact ⟨ret_int HQ.out, rfl⟩

end Go.Proofs.YtghfmbmdfojapaaGreatDoor.Wplace

/- law00's Files: entries by numbers. -/
namespace Go.Proofs.YtghfmbmdfojapaaGreatDoor.Wfiles
open Go.RowKit Go.Proofs.YtghfmbmdfojapaaGreatDoor.Nums Go.Proofs.YtghfmbmdfojapaaGreatDoor.Place Go.Proofs.YtghfmbmdfojapaaGreatDoor.Pth Go.Proofs.YtghfmbmdfojapaaGreatDoor.Strs Go.Proofs.YtghfmbmdfojapaaGreatDoor.Vfs Go.Proofs.YtghfmbmdfojapaaGreatDoor.Vmap Go.Proofs.YtghfmbmdfojapaaGreatDoor.Vnew Go.Proofs.YtghfmbmdfojapaaGreatDoor.Vsort Go.Proofs.YtghfmbmdfojapaaGreatDoor.Vall

def Tiny (x : Raw) : Prop := x.path.size ≤ 20 ∧ x.text.size ≤ 30 ∧ (partsOf x.path).length ≤ 4

set_option maxHeartbeats 400000 in
theorem index_path (z : Int) (h0 : 0 ≤ z) (h1 : z < 10) : ∃ p : ByteArray, (p.size ≤ 20 ∧ (partsOf p).length ≤ 4) ∧ ∀ W, (Instr.index 41 (.agg #[.string ⟨#[97, 46, 99]⟩, .string ⟨#[98, 46, 99]⟩, .string ⟨#[100, 105, 114, 47, 97, 46, 99]⟩, .string ⟨#[100, 105, 114, 47, 115, 117, 98, 47, 120, 46, 111]⟩, .string ⟨#[47, 102, 111, 111]⟩, .string ⟨#[117, 112, 47, 46, 46, 47, 122]⟩, .string ⟨#[105, 110, 99, 46, 109, 107]⟩, .string ⟨#[100, 105, 114]⟩, .string ⟨#[105, 110, 99, 46, 109, 107, 47, 120]⟩, .string ⟨#[46, 104, 105, 100, 100, 101, 110]⟩]) (.int .i64 z)).run Tryz.prog W = .ok (.string p) W := by
  obtain ⟨r, rfl⟩ := Int.eq_ofNat_of_zero_le h0
  have h : r = 0 ∨ r = 1 ∨ r = 2 ∨ r = 3 ∨ r = 4 ∨ r = 5 ∨ r = 6 ∨ r = 7 ∨ r = 8 ∨ r = 9 := by omega
  rcases h with rfl | rfl | rfl | rfl | rfl | rfl | rfl | rfl | rfl | rfl
  · exact ⟨⟨#[97, 46, 99]⟩, ⟨by decide, by decide +kernel⟩, fun W => (by kernel_rfl)⟩
  · exact ⟨⟨#[98, 46, 99]⟩, ⟨by decide, by decide +kernel⟩, fun W => (by kernel_rfl)⟩
  · exact ⟨⟨#[100, 105, 114, 47, 97, 46, 99]⟩, ⟨by decide, by decide +kernel⟩, fun W => (by kernel_rfl)⟩
  · exact ⟨⟨#[100, 105, 114, 47, 115, 117, 98, 47, 120, 46, 111]⟩, ⟨by decide, by decide +kernel⟩, fun W => (by kernel_rfl)⟩
  · exact ⟨⟨#[47, 102, 111, 111]⟩, ⟨by decide, by decide +kernel⟩, fun W => (by kernel_rfl)⟩
  · exact ⟨⟨#[117, 112, 47, 46, 46, 47, 122]⟩, ⟨by decide, by decide +kernel⟩, fun W => (by kernel_rfl)⟩
  · exact ⟨⟨#[105, 110, 99, 46, 109, 107]⟩, ⟨by decide, by decide +kernel⟩, fun W => (by kernel_rfl)⟩
  · exact ⟨⟨#[100, 105, 114]⟩, ⟨by decide, by decide +kernel⟩, fun W => (by kernel_rfl)⟩
  · exact ⟨⟨#[105, 110, 99, 46, 109, 107, 47, 120]⟩, ⟨by decide, by decide +kernel⟩, fun W => (by kernel_rfl)⟩
  · exact ⟨⟨#[46, 104, 105, 100, 100, 101, 110]⟩, ⟨by decide, by decide +kernel⟩, fun W => (by kernel_rfl)⟩
set_option maxHeartbeats 400000 in
theorem index_text (z : Int) (h0 : 0 ≤ z) (h1 : z < 4) : ∃ p : ByteArray, p.size ≤ 30 ∧ ∀ W, (Instr.index 42 (.agg #[.string ⟨#[97, 32, 61, 32, 49, 10]⟩, .string ⟨#[36, 40, 105, 110, 102, 111, 32, 105, 110, 41, 10, 98, 32, 43, 61, 32, 50, 10]⟩, .string ⟨#[116, 50, 58, 32, 36, 40, 97, 41, 10, 9, 100, 111, 10]⟩, .string ⟨#[105, 102, 100, 101, 102, 32, 97, 10, 99, 61, 51, 10, 101, 110, 100, 105, 102, 10]⟩]) (.int .i64 z)).run Tryz.prog W = .ok (.string p) W := by
  obtain ⟨r, rfl⟩ := Int.eq_ofNat_of_zero_le h0
  have h : r = 0 ∨ r = 1 ∨ r = 2 ∨ r = 3 := by omega
  rcases h with rfl | rfl | rfl | rfl
  · exact ⟨⟨#[97, 32, 61, 32, 49, 10]⟩, by decide, fun W => (by kernel_rfl)⟩
  · exact ⟨⟨#[36, 40, 105, 110, 102, 111, 32, 105, 110, 41, 10, 98, 32, 43, 61, 32, 50, 10]⟩, by decide, fun W => (by kernel_rfl)⟩
  · exact ⟨⟨#[116, 50, 58, 32, 36, 40, 97, 41, 10, 9, 100, 111, 10]⟩, by decide, fun W => (by kernel_rfl)⟩
  · exact ⟨⟨#[105, 102, 100, 101, 102, 32, 97, 10, 99, 61, 51, 10, 101, 110, 100, 105, 102, 10]⟩, by decide, fun W => (by kernel_rfl)⟩

set_option maxRecDepth 100000 in
set_option maxHeartbeats 8000000 in
theorem files_is (A : Option Addr) (n c : Nat) (zs : List Int) (w : World) (h : IntIs w A n c zs) (hm : n ≤ maxLen) :
    Calls Tryz.prog 4 #[.slice A n c] w fun e W' => ∃ A' c' k, ∃ l : List Raw, l.length = k ∧ e = .returned (.slice A' k c') ∧ EnIs W' A' c' l ∧ k ≤ 12 ∧ (∀ x ∈ l, Tiny x) ∧ Below w.heap.size w W' := by
  obtain ⟨i0, hi0, hz0, hz1, hz2⟩ := info_parts infoEnt
  have hmm : n ≤ 9223372036854775807 := hm
  have HL := Lib.hid h
  clear h
  go_enter Tryz.func4, Tryz.ntmps4
  go_wp2
  go_loopw [3, 4, 5, 6] (fun v i _ _ wr => ∃ (k : Nat) (l : List Raw), k ≤ n ∧ k ≤ 12 ∧ i = .int .i64 k ∧ l.length = k ∧ wr.ownsRow w.heap.size 33 3 v k (cells l) ∧ Hid (∀ x ∈ l, Tiny x) ∧ Hid (Below w.heap.size w wr)) (fun _ i _ _ _ => n - (intOf i).toNat)
  case atStart => exact ⟨0, [], Nat.zero_le _, Nat.zero_le _, rfl, rfl, World.ownsRow_nil _ _ _ _, fun _ h => absurd h List.not_mem_nil, Below.refl _ _⟩
  case round =>
    obtain ⟨k, l, hk, hk2, rfl, hll, hown, HT, HB⟩ := hrel
    by_cases hlt : k < n
    · by_cases hlt2 : k < 12
      · obtain ⟨b, o, z, rfl, hwf, hcz⟩ := HL.out.at_ hlt
        have c1 := hcz wr HB.out
        obtain ⟨q, hq⟩ : ∃ q, q = place z 1073741824 := ⟨_, rfl⟩
        have hql : q < 1073741824 := by rw [hq]; exact place_lt z 1073741824 (by omega)
        have HP : Hid (∀ W : World, Calls Tryz.prog 13 #[.int .i64 z, .int .i64 1073741824] W fun e w' => e = .returned (.int .i64 (q : Int)) ∧ W = w') := fun W => by
          rw [hq]; exact Wplace.place_is z 1073741824 W (by omega) (by omega) hwf
        clear hq hcz
        go_wp2_with fail
        refine (HP.out _).mono ?_
        rintro e wb ⟨rfl, rfl⟩
        clear HP c1
        obtain ⟨p, hp, hpx⟩ := index_path ((q : Int) % 10) (by omega) (by omega)
        obtain ⟨t, ht, htx⟩ := index_text ((q : Int) / 50 % 4) (by omega) (by omega)
        obtain ⟨d, hd⟩ : ∃ d : Bool, ((q : Int) / 10 % 5 == 0) = d := ⟨_, rfl⟩
        have HNW := Lib.hid (news3 wr ⟨p, d, t⟩ 33)
        have HS : Hid (cells l ++ encR ⟨p, d, t⟩ = cells (l ++ [⟨p, d, t⟩])) := (cells_app l [⟨p, d, t⟩]).symm
        have HTn : Hid (∀ x ∈ l ++ [⟨p, d, t⟩], Tiny x) := fun x hx => by
          rcases List.mem_append.1 hx with h1 | h1
          · exact HT.out x h1
          · rw [List.mem_singleton.1 h1]; exact ⟨hp.1, ht, hp.2⟩
        have HLn : Hid ((l ++ [(⟨p, d, t⟩ : Raw)]).length = k + 1) := by show _ = _; rw [List.length_append, hll]; rfl
        have hz3 : (encR ⟨p, d, t⟩).length = 1 * 3 := rfl
        have hBs := HB.out.size
        clear hll HT
        go_wp2_with (at_builtin; refine wpList_append_own _ rfl _ _ 23 rfl w.heap.size 33 i0 (.agg #[.string .empty, .bool false, .string .empty]) 3 40 Tryz.underlying23 hi0 hz0 hz1 hz2 rfl (by decide) _ _ _ rfl (hown.alloc _) ⟨wr.heap.size, 0, none⟩ 1 1 (encR ⟨p, d, t⟩) rfl hz3 HNW.out (encR_one _) (by unfold maxLen; omega) (by omega) (by simp; omega) ?_; intro v' w4 hown' hgrow _; have HO := Lib.hid hown'; have HG : Hid (Below w.heap.size w w4) := (HB.out.alloc hBs _).grown hgrow (by simp; omega) (fun k e => (hown.lt k e).1); clear hown' hgrow)
        go_roundw
        case rel => exact ⟨k + 1, _, by omega, by omega, by go_num, HLn.out, by rw [← HS.out]; exact HO.out, HTn, HG.out⟩
        case measure => simp [intOf]; omega
      · obtain ⟨A5, c5, rfl, hE5, _⟩ := enIs_of_own hll hown
        have HE5 := Lib.hid hE5
        have HLL := Lib.hid hll
        clear hown hE5 hll
        go_wp2
        go_ret
        exact ⟨A5, c5, k, l, HLL.out, rfl, HE5.out, hk2, HT.out, HB.out⟩
    · obtain ⟨A5, c5, rfl, hE5, _⟩ := enIs_of_own hll hown
      have HE5 := Lib.hid hE5
      have HLL := Lib.hid hll
      clear hown hE5 hll
      go_wp2
      go_ret
      exact ⟨A5, c5, k, l, HLL.out, rfl, HE5.out, hk2, HT.out, HB.out⟩

end Go.Proofs.YtghfmbmdfojapaaGreatDoor.Wfiles
