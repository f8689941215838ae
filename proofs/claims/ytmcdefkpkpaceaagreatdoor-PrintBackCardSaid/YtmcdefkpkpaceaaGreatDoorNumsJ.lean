/- How a list of numbers comes in: what is read of it lies in memory as said. -/
import Derived.ProofKit
import Derived.OpenShut
import Derived.SliceStrings
import Derived.Below
import Derived.Test.YtmcdefkpkpaceaaGreatDoorProg
import Derived.Deep.RegionHeld3
import Derived.Deep.DeepCutAuto
import Derived.Deep.QuietTactic
import Derived.BigQuiet
import Derived.Lib.Builder
import Derived.Test.YtmcdefkpkpaceaaGreatDoorPlaceJ
import Derived.Deep.RegionWith
namespace Go.Proofs.YtmcdefkpkpaceaaGreatDoor.Nums
open Go.ChangeShapes Go.WideShapes Go.ChangeAt Go.RowKit

set_option maxRecDepth 100000 in
theorem laidOut : laidOutB Tryz.prog = true := by kernel_rfl
set_option maxRecDepth 100000 in
theorem cellsInt : Tryz.prog.cellsOf 3 = 1 := by kernel_rfl

/-- a slice of the numbers zs -/
def IntIs (w : World) (A : Option Addr) (n c : Nat) (zs : List Int) : Prop :=
  zs.length = n ∧ n ≤ c ∧ (∀ z ∈ zs, (Lit.int .i64 z).wf = true) ∧ (zs = [] ∨ ∃ b o, A = some ⟨b, o, none⟩ ∧ b < w.heap.size ∧ ∀ j z, zs[j]? = some z → w.cell? ⟨b, o + j, none⟩ = some (.int .i64 z))
theorem IntIs.at_ {w : World} {A : Option Addr} {n c k : Nat} {zs : List Int} (h : IntIs w A n c zs) (hk : k < n) :
    ∃ b o z, A = some ⟨b, o, none⟩ ∧ (Lit.int .i64 z).wf = true ∧ ∀ W, Below w.heap.size w W → W.cell? ⟨b, o + k, none⟩ = some (.int .i64 z) := by
  have hl : k < zs.length := by have := h.1; omega
  rcases h.2.2.2 with h0 | ⟨b, o, rfl, hb, hc⟩
  · rw [h0] at hl; exact absurd hl (Nat.not_lt_zero _)
  · exact ⟨b, o, zs[k], rfl, h.2.2.1 _ (List.getElem_mem hl), fun W hW => (hW.cell (p := ⟨b, o + k, none⟩) hb).trans (hc k _ (List.getElem?_eq_getElem hl))⟩

section
variable {H : Type} {enc : TypeId × Value → H} {W : World}

set_option maxRecDepth 100000 in
theorem open_nums {r : Reach} {base : Nat} {v : Value} {d : DataW H} {p : List MemPlace} (hval : Value.okWide Tryz.prog W r base 22 v) (h : DataW.Trod enc Tryz.prog W 0 (fun _ => true) true 22 v d p) (hlt : ∀ x ∈ p, x.block < W.heap.size) :
    ∃ A n c zs, v = .slice A n c ∧ IntIs W A n c zs ∧ n ≤ maxLen := by
  obtain ⟨a0, len, cap, rfl⟩ := okWide_slice Tryz.underlying22 hval
  obtain ⟨fuel, hf⟩ := h
  rcases open_ints Tryz.underlying22 Tryz.underlying3 cellsInt hf with ⟨hcs, hx⟩ | ⟨a, len', cap', zs, hcs, _, hl, hm, hz, hx, hcell, hws⟩
  · simp [Value.cells] at hcs
    obtain ⟨rfl, rfl, rfl⟩ := hcs
    exact ⟨none, 0, 0, [], rfl, ⟨rfl, Nat.le_refl _, fun z hz => absurd hz List.not_mem_nil, .inl rfl⟩, by unfold maxLen; omega⟩
  · simp [Value.cells] at hcs
    obtain ⟨rfl, rfl, rfl⟩ := hcs
    simp only [Prod.mk.injEq] at hx
    obtain ⟨rfl, rfl⟩ := hx
    simp only [if_true] at hz
    refine ⟨some a, len, cap, zs.take len, rfl, ⟨by rw [List.length_take]; omega, hl, fun z hz => hws z (List.mem_of_mem_take hz), ?_⟩, Nat.le_trans hl hm⟩
    by_cases hl0 : len = 0
    · exact .inl (by rw [hl0, List.take_zero])
    · obtain ⟨b, off, spot⟩ := a
      have hspot : spot = none := by simpa [Addr.add] using World.cell?_spot (hcell 0 (by omega))
      subst hspot
      have hbW : b < W.heap.size := hlt (.cell b off) (MemPlace.mem_row.2 ⟨0, by omega, by simp⟩)
      refine .inr ⟨b, off, rfl, hbW, fun j x hj => ?_⟩
      have hjl := (List.getElem?_eq_some_iff.1 hj).1
      rw [List.length_take] at hjl
      rw [List.getElem?_take, if_pos (by omega)] at hj
      rw [← add_plain, hcell j (by omega), List.getD_eq_getElem?_getD, hj]
      rfl
end

end Go.Proofs.YtmcdefkpkpaceaaGreatDoor.Nums

/- Texts by numbers: a text under way (numbers, which is next), the next number, a name. -/
namespace Go.Proofs.YtmcdefkpkpaceaaGreatDoor.Tnum
open Go.RowKit Go.Proofs.YtmcdefkpkpaceaaGreatDoor.Pure Go.Proofs.YtmcdefkpkpaceaaGreatDoor.Place Go.Proofs.YtmcdefkpkpaceaaGreatDoor.Nums Go.Proofs.YtmcdefkpkpaceaaGreatDoor.Range

theorem set1_same {W : World} {c T k : Nat} {cs : Array Value} (h : W.heap[c]? = some (.cells cs T (0, 0))) (x : Value) :
    (W.setCell ⟨c, k, none⟩ x).heap[c]? = some (.cells (cs.setIfInBounds k x) T (0, 0)) := by
  obtain ⟨hlt, hk⟩ := Array.getElem?_eq_some_iff.1 h
  show (W.heap.modify c _)[c]? = _
  rw [Array.getElem?_eq_getElem (by rw [Array.size_modify]; exact hlt), Array.getElem_modify_self, hk]
  rfl
/-- a text under way in block tp: the next number is the a-th of n -/
structure TS (tp : Nat) (A : Option Addr) (n c : Nat) (zs : List Int) (a : Nat) (w : World) : Prop where
  cells : w.heap[tp]? = some (.cells #[.slice A n c, .int .i64 (a : Int)] 38 (0, 0))
  le : a ≤ n
  lt : n ≤ 9223372036854775807
  ints : IntIs w A n c zs
  ne : 0 < n → ∀ b o, A = some ⟨b, o, none⟩ → b ≠ tp
section
variable {tp : Nat} {A : Option Addr} {n c : Nat} {zs : List Int} {a : Nat} {w : World}
theorem intIs_out {W : World} (h : IntIs w A n c zs) (hn0 : 0 < n → ∀ b o, A = some ⟨b, o, none⟩ → b ≠ tp) (ho : Out [tp] w W) : IntIs W A n c zs := by
  obtain ⟨h1, h2, h3, h4⟩ := h
  refine ⟨h1, h2, h3, ?_⟩
  by_cases hz : n = 0
  · exact .inl (List.eq_nil_of_length_eq_zero (by omega))
  have hn := hn0 (by omega)
  rcases h4 with h4 | ⟨b, o, rfl, hb, hc⟩
  · exact .inl h4
  · exact .inr ⟨b, o, rfl, Nat.lt_of_lt_of_le hb ho.size, fun j z hz => (World.cell?_of_block (a := ⟨b, o + j, none⟩) (ho.block b hb (by simp; exact hn b o rfl))).trans (hc j z hz)⟩
theorem TS.c0 (h : TS tp A n c zs a w) : w.cell? ⟨tp, 0, none⟩ = some (.slice A n c) := by rw [Lib.cell_of_heap h.cells]; rfl
theorem TS.c1 (h : TS tp A n c zs a w) : w.cell? ⟨tp, 1, none⟩ = some (.int .i64 (a : Int)) := by rw [Lib.cell_of_heap h.cells]; rfl
theorem TS.f1 (h : TS tp A n c zs a w) : w.frozen? ⟨tp, 1, none⟩ = false := Lib.frozen_of_heap h.cells 1
theorem TS.tlt (h : TS tp A n c zs a w) : tp < w.heap.size := (Array.getElem?_eq_some_iff.1 h.cells).1
theorem TS.next (h : TS tp A n c zs a w) (ha : a < n) : TS tp A n c zs (a + 1) (w.setCell ⟨tp, 1, none⟩ (.int .i64 ((a + 1 : Nat) : Int))) ∧ Out [tp] w (w.setCell ⟨tp, 1, none⟩ (.int .i64 ((a + 1 : Nat) : Int))) := by
  have ho : Out [tp] w (w.setCell ⟨tp, 1, none⟩ (.int .i64 ((a + 1 : Nat) : Int))) := Out.setCell w (by simp) _
  exact ⟨⟨set1_same h.cells _, by omega, h.lt, intIs_out h.ints h.ne ho, h.ne⟩, ho⟩
/-- behind a step that leaves the text under way as it is -/
theorem TS.below {W : World} (h : TS tp A n c zs a w) (hb : Below w.heap.size w W) : TS tp A n c zs a W :=
  ⟨(hb.block tp h.tlt).trans h.cells, h.le, h.lt, intIs_out h.ints h.ne (Out.of_below hb), h.ne⟩
end
/-- a text under way, behind a call -/
def After (tp : Nat) (A : Option Addr) (n c : Nat) (zs : List Int) (a : Nat) (w W : World) : Prop := ∃ a', a ≤ a' ∧ (a < n → a < a') ∧ TS tp A n c zs a' W ∧ Out [tp] w W
theorem out_drewN {X : List Nat} {w W : World} (h : Out X w W) (m : Nat) : Out X w (W.drewN m) := ⟨h.os, h.tape, h.output, h.size, h.block⟩
theorem ts_drew {tp : Nat} {A : Option Addr} {n c : Nat} {zs : List Int} {a : Nat} {w : World} (h : TS tp A n c zs a w) : TS tp A n c zs a w.drew := ⟨h.cells, h.le, h.lt, h.ints, h.ne⟩

set_option maxRecDepth 100000 in
set_option maxHeartbeats 2000000 in
/-- the next number: which it is hangs on the numbers alone; 0 when there is none -/
theorem num_det (tp : Nat) (A : Option Addr) (n c : Nat) (zs : List Int) (a k : Nat) (w : World) (hk : 0 < k) (hk2 : k ≤ 1000) (h : TS tp A n c zs a w) :
    ∃ p : Nat, p < k ∧ (n ≤ a → p = 0) ∧ Calls Tryz.prog 24 #[.pointer (some ⟨tp, 0, none⟩), .int .i64 (k : Int)] w fun e W => e = .returned (.int .i64 (p : Int)) ∧ After tp A n c zs a w W := by
  have h0 := h.c0
  have h1 := h.c1
  have f1 := h.f1
  have hn := h.lt
  have hle := h.le
  have HT := Lib.hid h
  clear h
  by_cases ha : a < n
  · obtain ⟨b, o, z, rfl, hz, hc⟩ := HT.out.ints.at_ ha
    obtain ⟨t1, t2⟩ := HT.out.next ha
    have HN := Lib.hid t1
    have HO := Lib.hid t2
    have hb : b ≠ tp := HT.out.ne (by omega) b o rfl
    have HP := Lib.hid (fun W => place_is z k W hk (by omega) hz)
    have HPL := Lib.hid (place_lt z k hk)
    have k0 : w.cell? ⟨b, o + a, none⟩ = some (.int .i64 z) := hc w (Below.refl _ _)
    have hd : decide ((n : Int) ≤ (a : Int)) = false := decide_eq_false (by omega)
    have hd2 : decide (n ≤ a) = false := decide_eq_false (by omega)
    have w1 : IntKind.i64.wrap ((a : Int) + 1) = (a : Int) + 1 := IntWalk.i64_in _ (by omega)
    clear t1 t2 hc
    refine ⟨place z k, HPL.out, fun hna => absurd ha (Nat.not_lt.2 hna), ?_⟩
    go_enter Tryz.func24, Tryz.ntmps24
    go_wp2_with fail
    go_region
    go_upto_region 4 with fail
    have HE : Hid ((w.setCell ⟨tp, 1, none⟩ (.int .i64 ((a : Int) + 1))).drew = (w.setCell ⟨tp, 1, none⟩ (.int .i64 ((a + 1 : Nat) : Int))).drew) := rfl
    obtain ⟨W1, hW1⟩ : ∃ W1, W1 = (w.setCell ⟨tp, 1, none⟩ (.int .i64 ((a : Int) + 1))).drew := ⟨_, rfl⟩
    rw [← hW1]
    have HT1 : Hid (TS tp (some ⟨b, o, none⟩) n c zs (a + 1) W1) := by show TS _ _ _ _ _ _ _; rw [hW1, HE.out]; exact ts_drew HN.out
    have HO1 : Hid (Out [tp] w W1) := by show Out _ _ _; rw [hW1, HE.out]; exact ⟨HO.out.os, HO.out.tape, HO.out.output, HO.out.size, HO.out.block⟩
    have d0 := HT1.out.c0
    have d1 : W1.cell? ⟨tp, 1, none⟩ = some (.int .i64 ((a : Int) + 1)) := HT1.out.c1
    have d2 : W1.cell? ⟨b, o + a, none⟩ = some (.int .i64 z) := by rw [hW1]; exact (World.cell?_setCell_other _ _ _ _ (by intro e; exact hb (congrArg Addr.block e).symm)).trans k0
    have w2 : IntKind.i64.wrap ((a : Int) + 1 - 1) = (a : Int) := by rw [show (a : Int) + 1 - 1 = (a : Int) by omega]; exact IntWalk.i64_in _ (by omega)
    have w3 : IntKind.i64.wrap (a : Int) = (a : Int) := IntWalk.i64_in _ (by omega)
    clear hW1 HE HN HO h0 h1 f1 k0
    go_region_held3 (fun w' => w'.cell? ⟨tp, 0, none⟩ = some (.slice (some ⟨b, o, none⟩) n c) ∧ w'.cell? ⟨tp, 1, none⟩ = some (.int .i64 ((a : Int) + 1)) ∧ w'.cell? ⟨b, o + a, none⟩ = some (.int .i64 z)) (go_keep) (first | (go_at_call 47; refine (HP.out _).mono ?_; rintro e w1 ⟨rfl, rfl⟩))
    go_wp2
    go_ret
    exact ⟨rfl, a + 1, by omega, fun _ => by omega, ts_drew HT1.out, ⟨HO1.out.os, HO1.out.tape, HO1.out.output, HO1.out.size, HO1.out.block⟩⟩
  · have hd : decide ((n : Int) ≤ (a : Int)) = true := decide_eq_true (by omega)
    have hd2 : decide (n ≤ a) = true := decide_eq_true (by omega)
    refine ⟨0, hk, fun _ => rfl, ?_⟩
    go_enter Tryz.func24, Tryz.ntmps24
    go_wp2_with fail
    go_region
    go_wp2
    go_ret
    exact ⟨rfl, a, Nat.le_refl _, fun h => absurd h ha, ts_drew HT.out, ⟨rfl, rfl, rfl, Nat.le_refl _, fun _ _ _ => rfl⟩⟩

/-- the next number -/
theorem num_is (tp : Nat) (A : Option Addr) (n c : Nat) (zs : List Int) (a k : Nat) (w : World) (hk : 0 < k) (hk2 : k ≤ 1000) (h : TS tp A n c zs a w) :
    Calls Tryz.prog 24 #[.pointer (some ⟨tp, 0, none⟩), .int .i64 (k : Int)] w fun e W => ∃ p : Nat, p < k ∧ e = .returned (.int .i64 (p : Int)) ∧ After tp A n c zs a w W := by
  obtain ⟨p, hp, _, hc⟩ := num_det tp A n c zs a k w hk hk2 h
  exact hc.mono fun e W ⟨he, ha⟩ => ⟨p, hp, he, ha⟩

end Go.Proofs.YtmcdefkpkpaceaaGreatDoor.Tnum

/- Texts by numbers: a text out of a list that is written out; names, recipes, words. -/
namespace Go.Proofs.YtmcdefkpkpaceaaGreatDoor.Tidx
open Go.RowKit Go.Proofs.YtmcdefkpkpaceaaGreatDoor.Pure Go.Proofs.YtmcdefkpkpaceaaGreatDoor.Place Go.Proofs.YtmcdefkpkpaceaaGreatDoor.Nums Go.Proofs.YtmcdefkpkpaceaaGreatDoor.Range Go.Proofs.YtmcdefkpkpaceaaGreatDoor.Tnum

theorem index_str (t n : Nat) (h : Tryz.prog.underlying t = some (.array n 9)) (cs : Array Value) (p : Nat) (hp : p < n) (s : ByteArray) (hs : cs[p]? = some (.string s)) (W : World) :
    (Instr.index t (.agg cs) (.int .i64 (p : Int))).run Tryz.prog W = .ok (.string s) W := by
  simp [Instr.index, run_underlying h, asIntOf, go_sem]
  rw [if_pos hp, hs]; rfl
def strArr (l : List (List UInt8)) : Array Value := (l.map (fun x => Value.string (bs x))).toArray
/-- one out of a list of texts that is written out -/
theorem index_lit (t n : Nat) (h : Tryz.prog.underlying t = some (.array n 9)) (l : List (List UInt8)) (hl : l.length = n) (M : Nat) (hM : (l.all fun x => decide (x.length ≤ M)) = true) (p : Nat) (hp : p < n) :
    ∃ x, x ∈ l ∧ x.length ≤ M ∧ ∀ W, (Instr.index t (.agg (strArr l)) (.int .i64 (p : Int))).run Tryz.prog W = .ok (.string (bs x)) W := by
  have hpl : p < l.length := by omega
  refine ⟨l[p], List.getElem_mem hpl, by simpa using List.all_eq_true.1 hM _ (List.getElem_mem hpl), fun W => index_str t n h _ p hp _ ?_ W⟩
  unfold strArr
  rw [List.getElem?_toArray, List.getElem?_map, List.getElem?_eq_getElem hpl]; rfl

def nameL : List (List UInt8) := [[97], [98], [99], [100], [101], [102], [103], [118, 49]]
def recipeL : List (List UInt8) := [[], [9, 100, 111, 32, 36, 64, 10], [9, 111, 110, 101, 32, 92, 10, 9, 116, 119, 111, 10], [9, 10, 10, 9, 108, 97, 115, 116, 10], [9, 35, 32, 110, 111, 116, 32, 103, 111, 110, 101, 10]]
def blankL : List (List UInt8) := [[32], [32], [32, 32]]
theorem name_idx (p : Nat) (hp : p < 8) : ∃ x, x ∈ nameL ∧ x.length ≤ 2 ∧ ∀ W, (Instr.index 124 (.agg #[.string ⟨#[97]⟩, .string ⟨#[98]⟩, .string ⟨#[99]⟩, .string ⟨#[100]⟩, .string ⟨#[101]⟩, .string ⟨#[102]⟩, .string ⟨#[103]⟩, .string ⟨#[118, 49]⟩]) (.int .i64 (p : Int))).run Tryz.prog W = .ok (.string (bs x)) W :=
  index_lit 124 8 Tryz.underlying124 nameL rfl 2 (by decide) p hp
theorem blank_idx (p : Nat) (hp : p < 3) : ∃ x, x ∈ blankL ∧ x.length ≤ 2 ∧ ∀ W, (Instr.index 60 (.agg #[.string ⟨#[32]⟩, .string ⟨#[32]⟩, .string ⟨#[32, 32]⟩]) (.int .i64 (p : Int))).run Tryz.prog W = .ok (.string (bs x)) W :=
  index_lit 60 3 Tryz.underlying60 blankL rfl 2 (by decide) p hp

set_option maxHeartbeats 1000000 in
/-- a name -/
theorem name_is (tp : Nat) (A : Option Addr) (n c : Nat) (zs : List Int) (a : Nat) (w : World) (h : TS tp A n c zs a w) :
    Calls Tryz.prog 44 #[.pointer (some ⟨tp, 0, none⟩)] w fun e W => ∃ x, x ∈ nameL ∧ e = .returned (.string (bs x)) ∧ After tp A n c zs a w W := by
  have HN := Lib.hid (num_is tp A n c zs a 8 w (by omega) (by omega) h)
  go_enter Tryz.func44, Tryz.ntmps44
  go_wp2_with fail
  refine HN.out.mono ?_
  rintro e w1 ⟨p, hp, rfl, haf⟩
  obtain ⟨x, hx, _, hix⟩ := name_idx p hp
  have HA := Lib.hid haf
  clear haf HN
  go_wp2
  go_ret
  exact ⟨x, hx, rfl, HA.out⟩

/-! ### sums of texts -/
theorem cat (x y : ByteArray) (W : World) (h : x.size + y.size ≤ 1099511627776) : (Op.stringOp .add x y).run Tryz.prog W = .ok (.string (x ++ y)) W := run_string_add_sum W _ _ (by omega)

set_option maxRecDepth 100000 in
set_option maxHeartbeats 2000000 in
/-- two words by numbers -/
theorem words_two (b : Nat) (k j : Nat) (c : Nat) (w : World) (hk : k ≤ 1000) (hj : j ≤ 1000) (h0 : w.cell? ⟨b, 0, none⟩ = some (.int .i64 (k : Int))) (h1 : w.cell? ⟨b, 1, none⟩ = some (.int .i64 (j : Int))) :
    Calls Tryz.prog 43 #[.slice (some ⟨b, 0, none⟩) 2 c] w fun e W => ∃ s : ByteArray, s.size ≤ 20 ∧ e = .returned (.string s) ∧ w = W := by
  have hwk : (Lit.int .i64 (k : Int)).wf = true := by simp [Lit.wf, IntKind.min, IntKind.max, IntKind.signed, IntKind.bits]; omega
  have hwj : (Lit.int .i64 (j : Int)).wf = true := by simp [Lit.wf, IntKind.min, IntKind.max, IntKind.signed, IntKind.bits]; omega
  obtain ⟨l1, g1, hw1⟩ := Twrd.word_len (k : Int) hwk
  obtain ⟨l2, g2, hw2⟩ := Twrd.word_len (j : Int) hwj
  have hq : ((j : Int)).tdiv 16 = ((j / 16 : Nat) : Int) := by rw [Int.tdiv_eq_ediv_of_nonneg (by omega)]; simp
  have hwq : (Lit.int .i64 ((j / 16 : Nat) : Int)).wf = true := by simp [Lit.wf, IntKind.min, IntKind.max, IntKind.signed, IntKind.bits]; omega
  have HP := Lib.hid (fun W => place_is ((j / 16 : Nat) : Int) 3 W (by omega) (by omega) hwq)
  obtain ⟨x, hx, hxl, hix⟩ := blank_idx (place ((j / 16 : Nat) : Int) 3) (place_lt _ 3 (by omega))
  generalize place ((j / 16 : Nat) : Int) 3 = pp at HP hix
  have HW1 := Lib.hid hw1
  have HW2 := Lib.hid hw2
  have z1 : (bs l1).size ≤ 9 := by rw [size_bs]; exact g1
  have z2 : (bs l2).size ≤ 9 := by rw [size_bs]; exact g2
  have z3 : (bs x).size ≤ 2 := by rw [size_bs]; exact hxl
  clear hw1 hw2 g1 g2 hwk hwj hwq hxl hx
  generalize bs l1 = L1 at *
  generalize bs l2 = L2 at *
  generalize bs x = X at *
  have ze : (⟨#[]⟩ : ByteArray).size = 0 := rfl
  have a1 : ∀ W, (Op.stringOp .add ⟨#[]⟩ L1).run Tryz.prog W = .ok (.string (⟨#[]⟩ ++ L1)) W := fun W => cat _ _ W (by omega)
  have a2 : ∀ W, (Op.stringOp .add (⟨#[]⟩ ++ L1) X).run Tryz.prog W = .ok (.string (⟨#[]⟩ ++ L1 ++ X)) W := fun W => cat _ _ W (by rw [ByteArray.size_append]; omega)
  have a3 : ∀ W, (Op.stringOp .add (⟨#[]⟩ ++ L1 ++ X) L2).run Tryz.prog W = .ok (.string (⟨#[]⟩ ++ L1 ++ X ++ L2)) W := fun W => cat _ _ W (by rw [ByteArray.size_append, ByteArray.size_append]; omega)
  have HZ : Hid ((⟨#[]⟩ ++ L1 ++ X ++ L2 : ByteArray).size ≤ 20) := by show _ ≤ _; rw [ByteArray.size_append, ByteArray.size_append, ByteArray.size_append]; omega
  generalize (⟨#[]⟩ ++ L1 ++ X ++ L2 : ByteArray) = S3 at *
  generalize (⟨#[]⟩ ++ L1 ++ X : ByteArray) = S2 at *
  generalize (⟨#[]⟩ ++ L1 : ByteArray) = S1 at *
  clear z1 z2 z3 ze
  go_enter Tryz.func43, Tryz.ntmps43
  go_wp2_with fail
  go_loopw [3, 4] (fun v i wr => w = wr ∧ ((v = .string ⟨#[]⟩ ∧ i = .int .i64 0) ∨ (v = .string S1 ∧ i = .int .i64 1) ∨ (v = .string S3 ∧ i = .int .i64 2))) (fun _ i _ => 2 - (intOf i).toNat)
  case atStart => exact ⟨rfl, .inl ⟨rfl, rfl⟩⟩
  case round =>
    obtain ⟨rfl, hc⟩ := hrel
    rcases hc with ⟨rfl, rfl⟩ | ⟨rfl, rfl⟩ | ⟨rfl, rfl⟩
    · go_wp2_with fail
      refine (HW1.out _).mono ?_
      rintro e w' ⟨rfl, rfl⟩
      go_wp2
      go_roundw
      case rel => exact ⟨trivial, .inr (.inl ⟨rfl, rfl⟩)⟩
      case measure => simp [intOf]
    · go_wp2_with fail
      refine (HP.out _).mono ?_
      rintro e w' ⟨rfl, rfl⟩
      go_wp2_with fail
      refine (HW2.out _).mono ?_
      rintro e w' ⟨rfl, rfl⟩
      go_wp2
      go_roundw
      case rel => exact ⟨trivial, .inr (.inr ⟨rfl, rfl⟩)⟩
      case measure => simp [intOf]
    · go_wp2
      go_ret
      exact ⟨_, HZ.out, rfl, rfl⟩

end Go.Proofs.YtmcdefkpkpaceaaGreatDoor.Tidx

/- Texts by numbers: one piece of a text. -/
namespace Go.Proofs.YtmcdefkpkpaceaaGreatDoor.Tone
open Go.RowKit Go.Proofs.YtmcdefkpkpaceaaGreatDoor.Pure Go.Proofs.YtmcdefkpkpaceaaGreatDoor.Place Go.Proofs.YtmcdefkpkpaceaaGreatDoor.Nums Go.Proofs.YtmcdefkpkpaceaaGreatDoor.Range Go.Proofs.YtmcdefkpkpaceaaGreatDoor.Tnum Go.Proofs.YtmcdefkpkpaceaaGreatDoor.Tidx

/-- the answer: a text of at most M bytes, and the text under way has gone on -/
def Said (M : Nat) (tp : Nat) (A : Option Addr) (n c : Nat) (zs : List Int) (a : Nat) (w : World) (e : Ending) (W : World) : Prop := ∃ s : ByteArray, s.size ≤ M ∧ e = .returned (.string s) ∧ After tp A n c zs a w W
section
variable {tp : Nat} {A : Option Addr} {n c : Nat} {zs : List Int} {a : Nat} {w W V : World}
theorem aft_below (h : After tp A n c zs a w W) (hb : Below W.heap.size W V) : After tp A n c zs a w V := by
  obtain ⟨a1, l1, p1, t1, o1⟩ := h
  exact ⟨a1, l1, p1, t1.below hb, o1.trans (Out.of_below hb)⟩
theorem aft_comp {a1 : Nat} (l1 : a ≤ a1) (p1 : a < n → a < a1) (o1 : Out [tp] w W) (h : After tp A n c zs a1 W V) : After tp A n c zs a w V := by
  obtain ⟨a2, l2, p2, t2, o2⟩ := h
  exact ⟨a2, by omega, fun h => by have := p1 h; omega, t2, o1.trans o2⟩
end

theorem below_drew {B : Nat} {a w : World} (h : Below B a w) (n : Nat) : Below B a (w.drewN n) := ⟨h.os, h.tape, h.output, h.size, h.block⟩
/-- two numbers in a fresh block, as words -/
theorem two_said (W : World) (m : Nat) (j k : Nat) (hj : j ≤ 1000) (hk : k ≤ 1000) (hm : m = W.heap.size) (r : World) (hr : r = W.alloc (.cells #[.int .i64 (k : Int), .int .i64 (j : Int)] 3)) :
    Calls Tryz.prog 43 #[.slice (some ⟨m, 0, none⟩) 2 2] r fun e V => ∃ s : ByteArray, s.size ≤ 20 ∧ e = .returned (.string s) ∧ Below W.heap.size W V := by
  subst hm hr
  refine (words_two W.heap.size k j 2 _ hk hj ?_ ?_).mono ?_
  · exact (Lib.cell_of_heap (World.alloc_heap_new W _) 0).trans rfl
  · exact (Lib.cell_of_heap (World.alloc_heap_new W _) 1).trans rfl
  · rintro e V ⟨s, hs, rfl, rfl⟩
    exact ⟨s, hs, rfl, (Below.refl _ _).alloc (Nat.le_refl _) _⟩

set_option maxRecDepth 100000 in
set_option maxHeartbeats 2000000 in
/-- at depth 0 -/
theorem one_zero (tp : Nat) (A : Option Addr) (n c : Nat) (zs : List Int) (a : Nat) (w : World) (h : TS tp A n c zs a w) :
    Calls Tryz.prog 23 #[.pointer (some ⟨tp, 0, none⟩), .int .i64 0] w (Said 20 tp A n c zs a w) := by
  have HN := Lib.hid (num_is tp A n c zs a 40 w (by omega) (by omega) h)
  go_enter Tryz.func23, Tryz.ntmps23
  go_wp2_with fail
  refine HN.out.mono ?_
  rintro e w1 ⟨p, hp, rfl, haf⟩
  have HA := Lib.hid haf
  clear haf HN
  have hq : ((p : Int)).tdiv 3 = ((p / 3 : Nat) : Int) := by rw [Int.tdiv_eq_ediv_of_nonneg (by omega)]; simp
  have hd : decide ((0 : Int) = 0) = true := rfl
  go_wp2_with fail
  go_quiet (fail)
  go_wp2_with fail
  refine (two_said (w1.drewN nq) _ (p / 3) p (by omega) (by omega) rfl _ rfl).mono ?_
  rintro e w2 ⟨s, hs, rfl, hb⟩
  have HB := Lib.hid hb
  have HS := Lib.hid hs
  clear hb hs
  go_wp2
  go_ret
  exact ⟨s, HS.out, rfl, aft_below HA.out ((below_drew (Below.refl _ _) nq).trans HB.out)⟩

end Go.Proofs.YtmcdefkpkpaceaaGreatDoor.Tone

/- Texts by numbers: a text, out of its pieces. -/
namespace Go.Proofs.YtmcdefkpkpaceaaGreatDoor.Ttext
open Go.RowKit Go.Proofs.YtmcdefkpkpaceaaGreatDoor.Pure Go.Proofs.YtmcdefkpkpaceaaGreatDoor.Place Go.Proofs.YtmcdefkpkpaceaaGreatDoor.Nums Go.Proofs.YtmcdefkpkpaceaaGreatDoor.Range Go.Proofs.YtmcdefkpkpaceaaGreatDoor.Tnum Go.Proofs.YtmcdefkpkpaceaaGreatDoor.Tidx Go.Proofs.YtmcdefkpkpaceaaGreatDoor.Tone

section
variable {tp : Nat} {A : Option Addr} {n c : Nat} {zs : List Int} {a : Nat} {w W : World}
theorem aft_pre {V : World} (o1 : Out [tp] w W) (h : After tp A n c zs a W V) : After tp A n c zs a w V := by
  obtain ⟨a2, l2, p2, t2, o2⟩ := h
  exact ⟨a2, l2, p2, t2, o1.trans o2⟩
theorem aft_drew (h : After tp A n c zs a w W) : After tp A n c zs a w W.drew := by
  obtain ⟨a1, l1, p1, t1, o1⟩ := h
  exact ⟨a1, l1, p1, ts_drew t1, ⟨o1.os, o1.tape, o1.output, o1.size, o1.block⟩⟩
/-- the next number, further on -/
theorem num_aft (h : After tp A n c zs a w W) (k : Nat) (hk : 0 < k) (hk2 : k ≤ 1000) :
    Calls Tryz.prog 24 #[.pointer (some ⟨tp, 0, none⟩), .int .i64 (k : Int)] W fun e V => ∃ p : Nat, p < k ∧ e = .returned (.int .i64 (p : Int)) ∧ After tp A n c zs a w V := by
  obtain ⟨a1, l1, p1, t1, o1⟩ := h
  refine (num_is tp A n c zs a1 k W hk hk2 t1).mono ?_
  rintro e V ⟨p, hp, he, haf⟩
  exact ⟨p, hp, he, aft_comp l1 p1 o1 haf⟩
theorem name_aft (h : After tp A n c zs a w W) :
    Calls Tryz.prog 44 #[.pointer (some ⟨tp, 0, none⟩)] W fun e V => ∃ x, x ∈ nameL ∧ e = .returned (.string (bs x)) ∧ After tp A n c zs a w V := by
  obtain ⟨a1, l1, p1, t1, o1⟩ := h
  refine (name_is tp A n c zs a1 W t1).mono ?_
  rintro e V ⟨x, hx, he, haf⟩
  exact ⟨x, hx, he, aft_comp l1 p1 o1 haf⟩
end
/-- one piece at depth d is a text of at most M bytes -/
def OneIs (d : Int) (M : Nat) : Prop := ∀ (tp : Nat) (A : Option Addr) (n c : Nat) (zs : List Int) (a : Nat) (w : World), TS tp A n c zs a w →
  Calls Tryz.prog 23 #[.pointer (some ⟨tp, 0, none⟩), .int .i64 d] w (Said M tp A n c zs a w)
theorem one_aft {tp : Nat} {A : Option Addr} {n c : Nat} {zs : List Int} {a : Nat} {w W : World} {d : Int} {M : Nat} (ho : OneIs d M) (h : After tp A n c zs a w W) :
    Calls Tryz.prog 23 #[.pointer (some ⟨tp, 0, none⟩), .int .i64 d] W (Said M tp A n c zs a w) := by
  obtain ⟨a1, l1, p1, t1, o1⟩ := h
  refine (ho tp A n c zs a1 W t1).mono ?_
  rintro e V ⟨s, hs, he, haf⟩
  exact ⟨s, hs, he, aft_comp l1 p1 o1 haf⟩

/-- what a text's call leaves: as Said, but with no number left nothing goes on -/
theorem sep_idx (p : Nat) (hp : p < 3) : ∃ x : List UInt8, x ∈ [[32], [], [32, 32]] ∧ x.length ≤ 2 ∧ ∀ W, (Instr.index 60 (.agg #[.string ⟨#[32]⟩, .string ⟨#[]⟩, .string ⟨#[32, 32]⟩]) (.int .i64 (p : Int))).run Tryz.prog W = .ok (.string (bs x)) W :=
  index_lit 60 3 Tryz.underlying60 [[32], [], [32, 32]] rfl 2 (by decide) p hp

set_option maxRecDepth 100000 in
set_option maxHeartbeats 4000000 in
theorem text_is (d : Int) (M : Nat) (hM : M ≤ 100000000000) (hM1 : 1 ≤ M) (ho : OneIs d M) (tp : Nat) (A : Option Addr) (n c : Nat) (zs : List Int) (a : Nat) (w : World) (h : TS tp A n c zs a w) :
    Calls Tryz.prog 11 #[.pointer (some ⟨tp, 0, none⟩), .int .i64 d] w (Said (2 * M + 2) tp A n c zs a w) := by
  have h0 := h.c0
  have h1 := h.c1
  by_cases ha : a < n
  · have HO := Lib.hid (ho tp A n c zs a w h)
    have HW := Lib.hid ho
    have hd : decide ((n : Int) ≤ (a : Int)) = false := decide_eq_false (by omega)
    have hd2 : decide (n ≤ a) = false := decide_eq_false (by omega)
    have HT := Lib.hid h
    clear h ho
    go_enter Tryz.func11, Tryz.ntmps11
    go_wp2_with fail
    go_quiet (fail)
    go_wp2_with fail
    refine (HW.out tp A n c zs a _ (HT.out.below (below_drew (Below.refl _ _) _))).mono ?_
    rintro e w1 ⟨S, hS, rfl, haf⟩
    have HA := Lib.hid (aft_pre (Out.of_below (below_drew (Below.refl _ w) nq)) haf)
    have HS := Lib.hid hS
    clear hS haf
    go_wp2_with fail
    refine (num_aft HA.out 4 (by omega) (by omega)).mono ?_
    rintro e w2 ⟨p, hp, rfl, haf⟩
    have HA2 := Lib.hid haf
    clear haf HA HT h0 h1 hd hd2
    by_cases h0 : p = 0
    · have hd : ((p : Int) == 0) = true := by simpa using h0
      clear h0 hp
      go_wp2_with fail
      go_upto_region 5 with fail
      go_region_with (first
        | (go_at_call 24
           refine (num_aft (by first | exact HA2.out | exact aft_drew HA2.out) 3 (by omega) (by omega)).mono ?_
           rintro e w3 ⟨q, hq, rfl, haf⟩
           clear HA2
           have HA2 := Lib.hid haf
           clear haf
           obtain ⟨x, hx, hxl, hix⟩ := sep_idx q hq
           have z3 : (bs x).size ≤ 2 := by rw [size_bs]; exact hxl
           have a1 : ∀ W, (Op.stringOp .add S (bs x)).run Tryz.prog W = .ok (.string (S ++ bs x)) W := fun W => cat _ _ W (by have := HS.out; omega)
           try have a2 : ∀ W, (Op.stringOp .add (S ++ bs x) Z).run Tryz.prog W = .ok (.string (S ++ bs x ++ Z)) W := fun W => cat _ _ W (by rw [ByteArray.size_append]; have := HS.out; have := HZ.out; omega)
           clear hx hxl hq)
        | (go_at_call 23
           refine (one_aft HW.out (by first | exact HA2.out | exact aft_drew HA2.out)).mono ?_
           rintro e w3 ⟨Z, hZ, rfl, haf⟩
           clear HA2
           have HA2 := Lib.hid haf
           clear haf
           have HZ := Lib.hid hZ
           try have a2 : ∀ W, (Op.stringOp .add (S ++ bs x) Z).run Tryz.prog W = .ok (.string (S ++ bs x ++ Z)) W := fun W => cat _ _ W (by rw [ByteArray.size_append]; have := HS.out; have := HZ.out; omega)
           clear hZ))
      all_goals
        go_wp2
        go_ret
        refine ⟨_, ?_, rfl, by first | exact HA2.out | exact aft_drew HA2.out⟩
        rw [ByteArray.size_append, ByteArray.size_append]
        have := HS.out
        have := HZ.out
        omega
    · have hd : ((p : Int) == 0) = false := by simpa using h0
      clear h0 hp
      go_wp2
      go_ret
      refine ⟨S, ?_, rfl, HA2.out⟩
      have := HS.out
      omega
  · have hd : decide ((n : Int) ≤ (a : Int)) = true := decide_eq_true (by omega)
    have hd2 : decide (n ≤ a) = true := decide_eq_true (by omega)
    have HT := Lib.hid h
    clear h
    go_enter Tryz.func11, Tryz.ntmps11
    go_wp2_with fail
    go_quiet (fail)
    go_wp2
    go_ret
    refine ⟨_, ?_, rfl, a, Nat.le_refl _, fun h => absurd h ha, ?_, ?_⟩
    · show 1 ≤ _; omega
    · exact HT.out.below (below_drew (Below.refl _ _) _)
    · exact Out.of_below (below_drew (Below.refl _ _) _)

end Go.Proofs.YtmcdefkpkpaceaaGreatDoor.Ttext
