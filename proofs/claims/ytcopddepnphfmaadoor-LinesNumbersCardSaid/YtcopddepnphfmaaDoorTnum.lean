/- Texts by numbers: a text under way (numbers, which is next), the next number, a name. -/
import Derived.Deep.RegionHeld3
import Derived.Deep.DeepCutAuto
import Derived.Deep.QuietTactic
import Derived.BigQuiet
import Derived.Test.YtcopddepnphfmaaDoorNums
import Derived.Test.YtcopddepnphfmaaDoorPlace
import Derived.Test.YtcopddepnphfmaaDoorRange
import Derived.Test.YtcopddepnphfmaaDoorLwords
namespace Go.Proofs.YtcopddepnphfmaaDoor.Tnum
open Go.RowKit Go.Proofs.YtcopddepnphfmaaDoor.Pure Go.Proofs.YtcopddepnphfmaaDoor.Place Go.Proofs.YtcopddepnphfmaaDoor.Nums Go.Proofs.YtcopddepnphfmaaDoor.Range

/-- a text under way in block tp: the next number is the a-th of n -/
structure TS (tp : Nat) (A : Option Addr) (n c : Nat) (zs : List Int) (a : Nat) (w : World) : Prop where
  cells : w.heap[tp]? = some (.cells #[.slice A n c, .int .i64 (a : Int)] 68 (0, 0))
  le : a ≤ n
  lt : n ≤ 9223372036854775807
  ints : IntIs w A n c zs
  ne : 0 < n → ∀ b o, A = some ⟨b, o, none⟩ → b ≠ tp
section
variable {tp : Nat} {A : Option Addr} {n c : Nat} {zs : List Int} {a : Nat} {w : World}
theorem intIs_out {W : World} (h : IntIs w A n c zs) (hn0 : 0 < n → ∀ b o, A = some ⟨b, o, none⟩ → b ≠ tp) (ho : Out [tp] w W) : IntIs W A n c zs := by
  obtain ⟨h1, h2, h3, h4⟩ := h
  refine ⟨h1, h2, h3, ?_⟩
  by_cases hz : n = 0
  · exact .inl (List.eq_nil_of_length_eq_zero (by omega))
  have hn := hn0 (by omega)
  rcases h4 with h4 | ⟨b, o, rfl, hb, hc⟩
  · exact .inl h4
  · exact .inr ⟨b, o, rfl, Nat.lt_of_lt_of_le hb ho.size, fun j z hz => (World.cell?_of_block (a := ⟨b, o + j, none⟩) (ho.block b hb (by simp; exact hn b o rfl))).trans (hc j z hz)⟩
theorem TS.c0 (h : TS tp A n c zs a w) : w.cell? ⟨tp, 0, none⟩ = some (.slice A n c) := by rw [Lib.cell_of_heap h.cells]; rfl
theorem TS.c1 (h : TS tp A n c zs a w) : w.cell? ⟨tp, 1, none⟩ = some (.int .i64 (a : Int)) := by rw [Lib.cell_of_heap h.cells]; rfl
theorem TS.f1 (h : TS tp A n c zs a w) : w.frozen? ⟨tp, 1, none⟩ = false := Lib.frozen_of_heap h.cells 1
theorem TS.tlt (h : TS tp A n c zs a w) : tp < w.heap.size := (Array.getElem?_eq_some_iff.1 h.cells).1
theorem TS.next (h : TS tp A n c zs a w) (ha : a < n) : TS tp A n c zs (a + 1) (w.setCell ⟨tp, 1, none⟩ (.int .i64 ((a + 1 : Nat) : Int))) ∧ Out [tp] w (w.setCell ⟨tp, 1, none⟩ (.int .i64 ((a + 1 : Nat) : Int))) := by
  have ho : Out [tp] w (w.setCell ⟨tp, 1, none⟩ (.int .i64 ((a + 1 : Nat) : Int))) := Out.setCell w (by simp) _
  exact ⟨⟨Lall.set1_same h.cells _, by omega, h.lt, intIs_out h.ints h.ne ho, h.ne⟩, ho⟩
/-- behind a step that leaves the text under way as it is -/
theorem TS.below {W : World} (h : TS tp A n c zs a w) (hb : Below w.heap.size w W) : TS tp A n c zs a W :=
  ⟨(hb.block tp h.tlt).trans h.cells, h.le, h.lt, intIs_out h.ints h.ne (Out.of_below hb), h.ne⟩
end
/-- a text under way, behind a call -/
def After (tp : Nat) (A : Option Addr) (n c : Nat) (zs : List Int) (a : Nat) (w W : World) : Prop := ∃ a', a ≤ a' ∧ (a < n → a < a') ∧ TS tp A n c zs a' W ∧ Out [tp] w W
theorem out_drewN {X : List Nat} {w W : World} (h : Out X w W) (m : Nat) : Out X w (W.drewN m) := ⟨h.os, h.tape, h.output, h.size, h.block⟩
theorem ts_drew {tp : Nat} {A : Option Addr} {n c : Nat} {zs : List Int} {a : Nat} {w : World} (h : TS tp A n c zs a w) : TS tp A n c zs a w.drew := ⟨h.cells, h.le, h.lt, h.ints, h.ne⟩

set_option maxRecDepth 100000 in
set_option maxHeartbeats 2000000 in
/-- the next number: which it is hangs on the numbers alone; 0 when there is none -/
theorem num_det (tp : Nat) (A : Option Addr) (n c : Nat) (zs : List Int) (a k : Nat) (w : World) (hk : 0 < k) (hk2 : k ≤ 1000) (h : TS tp A n c zs a w) :
    ∃ p : Nat, p < k ∧ (n ≤ a → p = 0) ∧ Calls Tryd.prog 52 #[.pointer (some ⟨tp, 0, none⟩), .int .i64 (k : Int)] w fun e W => e = .returned (.int .i64 (p : Int)) ∧ After tp A n c zs a w W := by
  have h0 := h.c0
  have h1 := h.c1
  have f1 := h.f1
  have hn := h.lt
  have hle := h.le
  have HT := Lib.hid h
  clear h
  by_cases ha : a < n
  · obtain ⟨b, o, z, rfl, hz, hc⟩ := HT.out.ints.at_ ha
    obtain ⟨t1, t2⟩ := HT.out.next ha
    have HN := Lib.hid t1
    have HO := Lib.hid t2
    have hb : b ≠ tp := HT.out.ne (by omega) b o rfl
    have HP := Lib.hid (fun W => place_is z k W hk (by omega) hz)
    have HPL := Lib.hid (place_lt z k hk)
    have k0 : w.cell? ⟨b, o + a, none⟩ = some (.int .i64 z) := hc w (Below.refl _ _)
    have hd : decide ((n : Int) ≤ (a : Int)) = false := decide_eq_false (by omega)
    have hd2 : decide (n ≤ a) = false := decide_eq_false (by omega)
    have w1 : IntKind.i64.wrap ((a : Int) + 1) = (a : Int) + 1 := IntWalk.i64_in _ (by omega)
    clear t1 t2 hc
    refine ⟨place z k, HPL.out, fun hna => absurd ha (Nat.not_lt.2 hna), ?_⟩
    go_enter Tryd.func52, Tryd.ntmps52
    go_wp2_with fail
    go_region
    go_upto_region 4 with fail
    have HE : Hid ((w.setCell ⟨tp, 1, none⟩ (.int .i64 ((a : Int) + 1))).drew = (w.setCell ⟨tp, 1, none⟩ (.int .i64 ((a + 1 : Nat) : Int))).drew) := rfl
    obtain ⟨W1, hW1⟩ : ∃ W1, W1 = (w.setCell ⟨tp, 1, none⟩ (.int .i64 ((a : Int) + 1))).drew := ⟨_, rfl⟩
    rw [← hW1]
    have HT1 : Hid (TS tp (some ⟨b, o, none⟩) n c zs (a + 1) W1) := by show TS _ _ _ _ _ _ _; rw [hW1, HE.out]; exact ts_drew HN.out
    have HO1 : Hid (Out [tp] w W1) := by show Out _ _ _; rw [hW1, HE.out]; exact ⟨HO.out.os, HO.out.tape, HO.out.output, HO.out.size, HO.out.block⟩
    have d0 := HT1.out.c0
    have d1 : W1.cell? ⟨tp, 1, none⟩ = some (.int .i64 ((a : Int) + 1)) := HT1.out.c1
    have d2 : W1.cell? ⟨b, o + a, none⟩ = some (.int .i64 z) := by rw [hW1]; exact (World.cell?_setCell_other _ _ _ _ (by intro e; exact hb (congrArg Addr.block e).symm)).trans k0
    have w2 : IntKind.i64.wrap ((a : Int) + 1 - 1) = (a : Int) := by rw [show (a : Int) + 1 - 1 = (a : Int) by omega]; exact IntWalk.i64_in _ (by omega)
    have w3 : IntKind.i64.wrap (a : Int) = (a : Int) := IntWalk.i64_in _ (by omega)
    clear hW1 HE HN HO h0 h1 f1 k0
    go_region_held3 (fun w' => w'.cell? ⟨tp, 0, none⟩ = some (.slice (some ⟨b, o, none⟩) n c) ∧ w'.cell? ⟨tp, 1, none⟩ = some (.int .i64 ((a : Int) + 1)) ∧ w'.cell? ⟨b, o + a, none⟩ = some (.int .i64 z)) (go_keep) (first | (go_at_call 22; refine (HP.out _).mono ?_; rintro e w1 ⟨rfl, rfl⟩))
    go_wp2
    go_ret
    exact ⟨rfl, a + 1, by omega, fun _ => by omega, ts_drew HT1.out, ⟨HO1.out.os, HO1.out.tape, HO1.out.output, HO1.out.size, HO1.out.block⟩⟩
  · have hd : decide ((n : Int) ≤ (a : Int)) = true := decide_eq_true (by omega)
    have hd2 : decide (n ≤ a) = true := decide_eq_true (by omega)
    refine ⟨0, hk, fun _ => rfl, ?_⟩
    go_enter Tryd.func52, Tryd.ntmps52
    go_wp2_with fail
    go_region
    go_wp2
    go_ret
    exact ⟨rfl, a, Nat.le_refl _, fun h => absurd h ha, ts_drew HT.out, ⟨rfl, rfl, rfl, Nat.le_refl _, fun _ _ _ => rfl⟩⟩

/-- the next number -/
theorem num_is (tp : Nat) (A : Option Addr) (n c : Nat) (zs : List Int) (a k : Nat) (w : World) (hk : 0 < k) (hk2 : k ≤ 1000) (h : TS tp A n c zs a w) :
    Calls Tryd.prog 52 #[.pointer (some ⟨tp, 0, none⟩), .int .i64 (k : Int)] w fun e W => ∃ p : Nat, p < k ∧ e = .returned (.int .i64 (p : Int)) ∧ After tp A n c zs a w W := by
  obtain ⟨p, hp, _, hc⟩ := num_det tp A n c zs a k w hk hk2 h
  exact hc.mono fun e W ⟨he, ha⟩ => ⟨p, hp, he, ha⟩

end Go.Proofs.YtcopddepnphfmaaDoor.Tnum
