/- What the functions on one byte and on sets answer: unquote, has, with, others. -/
import Derived.WalkKit
import Derived.WalkSpells
import Derived.OwnWalk
import Derived.IntWalk
import Derived.Below
import Derived.WalkSmall
import Derived.Handy
import Derived.Lib.Hide
import Derived.Lib.Strings
import Derived.Laws.ShiftsVarLaws
import Derived.Test.YtgfpdaaofhanoaaGreatDoorGset
import Derived.Test.YtgfpdaaofhanoaaGreatDoorGlb
namespace Go.Proofs.YtgfpdaaofhanoaaGreatDoor.Gops
open Go.RowKit Go.Proofs.YtgfpdaaofhanoaaGreatDoor.Gset
open Go.Proofs.YtgfpdaaofhanoaaGreatDoor.Glb (plus)

theorem at_word (p : Nat → Bool) (q : Nat) (h : q < 4) : [Value.int .u64 (word p 0 : Nat), .int .u64 (word p 1 : Nat), .int .u64 (word p 2 : Nat), .int .u64 (word p 3 : Nat)][q]? = some (.int .u64 (word p q : Nat)) := by
  obtain rfl | rfl | rfl | rfl : q = 0 ∨ q = 1 ∨ q = 2 ∨ q = 3 := by omega
  all_goals rfl

theorem has_bit (p : Nat → Bool) (b : Nat) (_hb : b < 256) : (bits .and .u64 ((word p (b / 64) : Nat) / 2 ^ (b % 64)) 1 == 1) = p b := by
  have h1 := word_lt p (b / 64)
  have h2 : word p (b / 64) / 2 ^ (b % 64) < 18446744073709551616 := Nat.lt_of_le_of_lt (Nat.div_le_self _ _) h1
  have h3 := bit_eq p (b / 64) (b % 64) (Nat.mod_lt _ (by decide))
  rw [show 64 * (b / 64) + b % 64 = b by omega] at h3
  have h4 : (((word p (b / 64) : Nat) : Int) / 2 ^ (b % 64)) = ((word p (b / 64) / 2 ^ (b % 64) : Nat) : Int) := by simp
  rw [h4, show (1 : Int) = ((1 : Nat) : Int) from rfl, u64_and_nat _ _ h2 (by decide), Nat.and_one_is_mod, h3]
  cases p b <;> rfl

theorem ret_bool {a b : Bool} (h : a = b) : Ending.returned (.bool a) = .returned (.bool b) := by rw [h]
set_option maxHeartbeats 400000 in
/-- is a byte one of the set? -/
theorem has_is (p : Nat → Bool) (b : Nat) (hb : b < 256) (w : World) : Calls Tryz.prog 128 #[setV p, .int .u8 (b : Int)] w fun e W' => e = .returned (.bool (p b)) ∧ Below w.heap.size w W' := by
  have hc := at_word p (b / 64) (by omega)
  unfold setV
  go_enter Tryz.func128, Tryz.ntmps128
  go_wp2
  go_ret
  exact ⟨ret_bool (has_bit p b hb), (Below.refl _ _).alloc (Nat.le_refl _) _⟩

def turned (p : Nat → Bool) (k : Nat) : Int := bits .xor .u64 IntKind.u64.max (word p k : Nat)
theorem turned_eq (p : Nat → Bool) (k : Nat) : bits .xor .u64 IntKind.u64.max ((word p k : Nat) : Int) = ((word (fun b => !p b) k : Nat) : Int) := by
  have e : IntKind.u64.max = ((18446744073709551615 : Nat) : Int) := rfl
  rw [e, u64_xor_nat _ _ (by decide) (word_lt p k), turn_bits]

set_option maxHeartbeats 1000000 in
/-- all bytes but the set's -/
theorem others_is (p : Nat → Bool) (w : World) : Calls Tryz.prog 83 #[setV p] w fun e W' => e = .returned (setV (fun b => !p b)) ∧ Below w.heap.size w W' := by
  have t0 := turned_eq p 0
  have t1 := turned_eq p 1
  have t2 := turned_eq p 2
  have t3 := turned_eq p 3
  unfold setV
  go_enter Tryz.func83, Tryz.ntmps83
  go_wp2
  go_rounds 5
  exact bodyPost_ret (v := setV (fun b => !p b)) (by simp [results, Tryz.results83, go_sem, setV]) rfl ⟨rfl, ((Below.refl _ _).alloc (Nat.le_refl _) _).alloc (by simp) _⟩

/-! ### bytes from one to another -/
/-- up to here -/
def some_ (p : Nat → Bool) (lo k : Nat) : Nat → Bool := fun b => p b || (decide (lo ≤ b) && decide (b < k))

/-- a set lies in block g -/
def SetAt (g : Nat) (p : Nat → Bool) (w : World) : Prop := w.heap[g]? = some (.cells #[.int .u64 (word p 0 : Nat), .int .u64 (word p 1 : Nat), .int .u64 (word p 2 : Nat), .int .u64 (word p 3 : Nat)] 116 (0, 0))
theorem SetAt.at_ {g : Nat} {p : Nat → Bool} {w : World} (h : SetAt g p w) (q : Nat) (hq : q < 4) : w.cell? ⟨g, q, none⟩ = some (.int .u64 (word p q : Nat)) := by
  rw [cell_of_row _ _ _ _ _ _ h]
  obtain rfl | rfl | rfl | rfl : q = 0 ∨ q = 1 ∨ q = 2 ∨ q = 3 := by omega
  all_goals rfl
theorem SetAt.open_ {g : Nat} {p : Nat → Bool} {w : World} (h : SetAt g p w) (q : Nat) : w.frozen? ⟨g, q, none⟩ = false := frozen_of_row _ _ _ _ _ h
theorem SetAt.put {g : Nat} {p : Nat → Bool} {w : World} (h : SetAt g p w) (k : Nat) (hk : k < 256) : SetAt g (fun b => p b || b == k) (w.setCell ⟨g, k / 64, none⟩ (.int .u64 ((word p (k / 64) ||| 2 ^ (k % 64) : Nat) : Int))) := by
  unfold SetAt at h ⊢
  rw [heap_setCell_same _ _ _ _ _ _ h]
  have hr : k % 64 < 64 := Nat.mod_lt _ (by decide)
  have hk2 : 64 * (k / 64) + k % 64 = k := by omega
  have hput := put_bit p (k / 64) (k % 64) hr
  rw [hk2] at hput
  rw [hput]
  have o := fun j (hj : j ≠ k / 64) => put_other p (k / 64) j (k % 64) hr hj
  rw [hk2] at o
  obtain e | e | e | e : k / 64 = 0 ∨ k / 64 = 1 ∨ k / 64 = 2 ∨ k / 64 = 3 := by omega
  · rw [e] at o ⊢; rw [← o 1 (by decide), ← o 2 (by decide), ← o 3 (by decide)]; rfl
  · rw [e] at o ⊢; rw [← o 0 (by decide), ← o 2 (by decide), ← o 3 (by decide)]; rfl
  · rw [e] at o ⊢; rw [← o 0 (by decide), ← o 1 (by decide), ← o 3 (by decide)]; rfl
  · rw [e] at o ⊢; rw [← o 0 (by decide), ← o 1 (by decide), ← o 2 (by decide)]; rfl
theorem SetAt.ext {g : Nat} {p q : Nat → Bool} {w : World} (h : SetAt g p w) (e : ∀ b, b < 256 → p b = q b) : SetAt g q w := by
  unfold SetAt at h ⊢
  rw [h, word_ext (q := q) (k := 0) (fun i hi => e _ (by omega)), word_ext (q := q) (k := 1) (fun i hi => e _ (by omega)), word_ext (q := q) (k := 2) (fun i hi => e _ (by omega)), word_ext (q := q) (k := 3) (fun i hi => e _ (by omega))]

theorem SetAt.lt {g : Nat} {p : Nat → Bool} {w : World} (h : SetAt g p w) : g < w.heap.size := (Array.getElem?_eq_some_iff.1 h).1
theorem SetAt.on {g : Nat} {p : Nat → Bool} {w w1 : World} (h : SetAt g p w) (hb : Below w.heap.size w w1) : SetAt g p w1 := (hb.block g h.lt).trans h
/-- four words are laid -/
def put4 (w : World) (g : Nat) (p : Nat → Bool) : World := (((w.setCell ⟨g, 0, none⟩ (.int .u64 (word p 0 : Nat))).setCell ⟨g, 1, none⟩ (.int .u64 (word p 1 : Nat))).setCell ⟨g, 2, none⟩ (.int .u64 (word p 2 : Nat))).setCell ⟨g, 3, none⟩ (.int .u64 (word p 3 : Nat))
theorem SetAt.put4 {g : Nat} {q : Nat → Bool} {w : World} (h : SetAt g q w) (p : Nat → Bool) : SetAt g p (put4 w g p) := by
  unfold SetAt Gops.put4
  rw [heap_setCell_same _ _ _ _ _ _ (heap_setCell_same _ _ _ _ _ _ (heap_setCell_same _ _ _ _ _ _ (heap_setCell_same _ _ _ _ _ _ h)))]
  rfl
theorem SetAt.put4_other {g k : Nat} {q : Nat → Bool} {w : World} (h : SetAt k q w) (p : Nat → Bool) (hk : k ≠ g) : SetAt k q (Gops.put4 w g p) := by
  unfold SetAt Gops.put4
  rw [heap_setCell_other _ _ _ _ hk, heap_setCell_other _ _ _ _ hk, heap_setCell_other _ _ _ _ hk, heap_setCell_other _ _ _ _ hk]
  exact h
theorem below_put4 {B g : Nat} {a w : World} (h : Below B a w) (hg : B ≤ g) (p : Nat → Bool) : Below B a (put4 w g p) :=
  (((h.setCell (p := ⟨g, 0, none⟩) hg _).setCell (p := ⟨g, 1, none⟩) hg _).setCell (p := ⟨g, 2, none⟩) hg _).setCell (p := ⟨g, 3, none⟩) hg _
theorem or_bit (p : Nat → Bool) (q r : Nat) (hr : r < 64) : bits .or .u64 ((word p q : Nat) : Int) (IntKind.u64.wrap (2 ^ r)) = ((word p q ||| 2 ^ r : Nat) : Int) := by
  have h1 := word_lt p q
  have h2 : 2 ^ r < 18446744073709551616 := Nat.pow_lt_pow_of_lt (a := 2) (by decide) hr
  have e1 : IntKind.u64.wrap (2 ^ r) = ((2 ^ r : Nat) : Int) := by
    rw [IntKind.wrap_u64, show ((2 : Int) ^ r) = ((2 ^ r : Nat) : Int) by simp]
    generalize 2 ^ r = m at h2
    omega
  rw [e1, u64_or_nat _ _ h1 h2]
theorem some_start (p : Nat → Bool) (lo : Nat) (b : Nat) : p b = some_ p lo lo b := by
  unfold some_
  have : ¬ (lo ≤ b ∧ b < lo) := by omega
  simp; omega
theorem some_step (p : Nat → Bool) (lo k : Nat) (h : lo ≤ k) (b : Nat) : (some_ p lo k b || b == k) = some_ p lo (k + 1) b := by
  unfold some_
  rw [Bool.or_assoc]
  congr 1
  rw [Bool.eq_iff_iff]
  simp
  omega
theorem some_end (p : Nat → Bool) (lo hi k : Nat) (_h1 : lo ≤ k) (h2 : k ≤ hi + 1 ∨ k = lo) (h3 : ¬ k ≤ hi) (b : Nat) : some_ p lo k b = plus p lo hi b := by
  unfold some_ plus
  congr 1
  rw [Bool.eq_iff_iff]
  simp
  omega

set_option maxRecDepth 100000 in
set_option maxHeartbeats 1000000 in
/-- a set and all bytes from one to another -/
theorem with_is (p : Nat → Bool) (lo hi : Nat) (hlo : lo < 256) (hhi : hi < 256) (w : World) :
    Calls Tryz.prog 85 #[setV p, .int .u8 (lo : Int), .int .u8 (hi : Int)] w fun e W' => e = .returned (setV (plus p lo hi)) ∧ Below w.heap.size w W' := by
  unfold setV
  go_enter Tryz.func85, Tryz.ntmps85
  go_wp2
  go_loopw [7] (fun v wr => ∃ k : Nat, v = .int .i64 k ∧ k ≤ 256 ∧ Hid (lo ≤ k ∧ (k ≤ hi + 1 ∨ k = lo) ∧ SetAt w.heap.size (some_ p lo k) wr ∧ SetAt (w.heap.size + 1) (fun _ => false) wr ∧ Below w.heap.size w wr)) (fun v _ => 256 - (intOf v).toNat)
  case atStart =>
    refine ⟨lo, rfl, by omega, ⟨Nat.le_refl _, .inr rfl, ?_, ?_, ?_⟩⟩
    · exact SetAt.ext (p := p) (heap_alloc2_old _ _ _) (fun b _ => some_start p lo b)
    · exact heap_alloc2_new _ _ _
    · exact ((Below.refl _ _).alloc (Nat.le_refl _) _).alloc (by simp) _
  case round =>
    obtain ⟨k, rfl, hk, H⟩ := hrel
    by_cases hlt : k ≤ hi
    · have c := H.out.2.2.1.at_ (k / 64) (by omega)
      have f := H.out.2.2.1.open_ (k / 64)
      have eo := or_bit (some_ p lo k) (k / 64) (k % 64) (Nat.mod_lt _ (by decide))
      go_wp2
      go_region
      go_wp2
      go_roundw
      case rel =>
        obtain ⟨a1, a2, a3, a4, a5⟩ := H.out
        refine ⟨k + 1, by go_num, by omega, ⟨by omega, .inl (by omega), ?_, ?_, ?_⟩⟩
        · exact (SetAt.put a3 k (by omega)).ext (fun b _ => some_step p lo k a1 b)
        · exact (heap_setCell_other _ _ _ _ (by simp)).trans a4
        · exact below_drewN (a5.setCell (p := ⟨w.heap.size, k / 64, none⟩) (Nat.le_refl _) _) 1
      case measure => simp [intOf]; omega
    · obtain ⟨a1, a2, a3, a4, a5⟩ := H.out
      have s3 := SetAt.ext a3 (fun b _ => some_end p lo hi k a1 a2 hlt b)
      have c0 := SetAt.at_ s3 0 (by decide)
      have c1 := SetAt.at_ s3 1 (by decide)
      have c2 := SetAt.at_ s3 2 (by decide)
      have c3 := SetAt.at_ s3 3 (by decide)
      have d0 := SetAt.at_ a4 0 (by decide)
      have d1 := SetAt.at_ a4 1 (by decide)
      have d2 := SetAt.at_ a4 2 (by decide)
      have d3 := SetAt.at_ a4 3 (by decide)
      have f0 := SetAt.open_ a4 0
      have f1 := SetAt.open_ a4 1
      have f2 := SetAt.open_ a4 2
      have f3 := SetAt.open_ a4 3
      clear a1 a2 a3 a4 s3
      have B := Lib.hid a5
      clear a5 H
      go_wp2
      exact bodyPost_ret (v := setV (plus p lo hi)) (by simp [results, Tryz.results85, go_sem, setV, *]) rfl ⟨rfl, (((B.out.setCell (p := ⟨w.heap.size + 1, 0, none⟩) (by simp) _).setCell (p := ⟨w.heap.size + 1, 1, none⟩) (by simp) _).setCell (p := ⟨w.heap.size + 1, 2, none⟩) (by simp) _).setCell (p := ⟨w.heap.size + 1, 3, none⟩) (by simp) _⟩
end Go.Proofs.YtgfpdaaofhanoaaGreatDoor.Gops
