/- The program's Same of a code and itself (its blocks short: no list of 16 or more). -/
import Derived.BigQuiet
import Derived.Test.YtfenlhbkdfmneaaCops
namespace Go.Proofs.Ytfenlhbkdfmneaa.Cse
open Go Go.RowKit Go.Proofs.Ytfenlhbkdfmneaa.Spl Go.Proofs.Ytfenlhbkdfmneaa.Cpl Go.Proofs.Ytfenlhbkdfmneaa.Cin Go.Proofs.Ytfenlhbkdfmneaa.Cops
open Go.Proofs.Ytfenlhbkdfmneaa.Pure (bs)

def Short (B : List (List Opp)) : Prop := B.length ≤ 1000000 ∧ ∀ l ∈ B, l.length < 16 ∧ ∀ x ∈ l, x.l.length < 16
theorem cells_4 {W : World} {H : Nat} {x y z u : Value} {ty : TypeId} (h : W.heap[H]? = some (.cells #[x, y, z, u] ty)) : W.cell? ⟨H, 0, none⟩ = some x ∧ W.cell? ⟨H, 1, none⟩ = some y ∧ W.cell? ⟨H, 2, none⟩ = some z ∧ W.cell? ⟨H, 3, none⟩ = some u :=
  ⟨by rw [Lib.cell_of_heap h]; rfl, by rw [Lib.cell_of_heap h]; rfl, by rw [Lib.cell_of_heap h]; rfl, by rw [Lib.cell_of_heap h]; rfl⟩
theorem cells_2 {W : World} {H : Nat} {x y : Value} {ty : TypeId} (h : W.heap[H]? = some (.cells #[x, y] ty)) : W.cell? ⟨H, 0, none⟩ = some x ∧ W.cell? ⟨H, 1, none⟩ = some y :=
  ⟨by rw [Lib.cell_of_heap h]; rfl, by rw [Lib.cell_of_heap h]; rfl⟩

set_option maxRecDepth 100000 in
set_option maxHeartbeats 1000000 in
theorem known_op (m : Value) (A A' : Option Addr) (n c c' : Nat) (w : World) (hn : n < 16) :
    Calls Try.prog 38 #[m, .slice A n c, .slice A' n c'] w fun e W' => e = .returned (.bool false) ∧ W' = w := by
  have h : (n : Int) < 16 := by omega
  go_enter Try.func38, Try.ntmps38
  go_wp2
  go_ret
  exact ⟨rfl, rfl⟩
set_option maxRecDepth 100000 in
set_option maxHeartbeats 1000000 in
theorem known_int (m : Value) (A A' : Option Addr) (n c c' : Nat) (w : World) (hn : n < 16) :
    Calls Try.prog 58 #[m, .slice A n c, .slice A' n c'] w fun e W' => e = .returned (.bool false) ∧ W' = w := by
  have h : (n : Int) < 16 := by omega
  go_enter Try.func58, Try.ntmps58
  go_wp2
  go_ret
  exact ⟨rfl, rfl⟩
theorem below_drewN {B : Nat} {w W : World} (h : Below B w W) (n : Nat) : Below B w (W.drewN n) := ⟨h.os, h.tape, h.output, h.size, h.block⟩

set_option maxRecDepth 100000 in
set_option maxHeartbeats 2000000 in
theorem equal_self (S : Nat → Prop) (A : Option Addr) (c : Nat) (l : List Int) (w : World) (h : NumRow S w A l) (hl : l.length < 16) :
    Calls Try.prog 59 #[.slice A l.length c, .slice A l.length c] w fun e W' => e = .returned (.bool true) ∧ Below w.heap.size w W' := by
  obtain ⟨q, hq⟩ : ∃ q, q = l.length := ⟨_, rfl⟩
  rw [← hq] at hl ⊢
  have HR := Lib.hid h
  have HQ := Lib.hid hq
  clear h hq
  go_enter Try.func59, Try.ntmps59
  go_wp2_with fail
  go_loopw [13] (fun i wr => ∃ j : Nat, j ≤ q ∧ i = .int .i64 (j : Int) ∧ Hid (Below w.heap.size w wr)) (fun i _ => q - (intOf i).toNat)
  case atStart => exact ⟨0, Nat.zero_le _, rfl, Below.refl _ _⟩
  case round =>
    obtain ⟨j, hj, rfl, HB⟩ := hrel
    by_cases hlt : j < q
    · obtain ⟨z, h1⟩ : ∃ z, l[j]? = some z := ⟨l[j]'(by rw [← HQ.out]; exact hlt), List.getElem?_eq_getElem _⟩
      obtain ⟨b, o, rfl, e1⟩ := HR.out.get h1
      have hblt : b < w.heap.size := by
        rcases HR.out with h0 | ⟨b', o', e, h2, _⟩
        · rw [h0] at h1; cases h1
        · cases e; exact h2
      have e2 := (World.cell?_of_block (a := ⟨b, o + j, none⟩) (HB.out.block b hblt)).trans e1
      have hjq : (j : Int) < (q : Int) := by omega
      clear h1 e1
      go_upto_region 6 with fail
      go_quiet (fail)
      go_wp2_with fail
      go_roundw
      case rel => exact ⟨j + 1, by omega, by go_num, below_drewN HB.out _⟩
      case measure => simp [intOf]; omega
    · obtain rfl : j = q := by omega
      go_wp2_with fail
      go_ret
      exact ⟨rfl, HB.out⟩

set_option maxRecDepth 100000 in
set_option maxHeartbeats 4000000 in
theorem op_self (S : Nat → Prop) (m1 m2 : Value) (A : Option Addr) (c : Nat) (x : Opp) (w : World) (h : NumRow S w A x.l) (hl : x.l.length < 16) (hh : ∃ a b, m1 = .map a ∧ m2 = .map b) :
    Calls Try.prog 40 #[.agg #[m1, m2], .agg #[.int .i64 x.k, .int .i64 x.n, .string (bs x.s), .slice A x.l.length c], .agg #[.int .i64 x.k, .int .i64 x.n, .string (bs x.s), .slice A x.l.length c]] w fun e W' => e = .returned (.bool true) ∧ Below w.heap.size w W' := by
  obtain ⟨ma, mb, rfl, rfl⟩ := hh
  obtain ⟨k, n, s, l⟩ := x
  have hl : l.length < 16 := hl
  have h : NumRow S w A l := h
  have HE : Hid (∀ W, Below w.heap.size w W → Calls Try.prog 59 #[.slice A l.length c, .slice A l.length c] W fun e W' => e = .returned (.bool true) ∧ Below W.heap.size W W') := fun W hb =>
    equal_self S A c l W (h.move (fun b hS hlt => ⟨hS, hb.block b hlt⟩) hb.size) hl
  have HK : Hid (∀ W, Calls Try.prog 58 #[.map mb, .slice A l.length c, .slice A l.length c] W fun e W' => e = .returned (.bool false) ∧ W' = W) := fun W => known_int (.map mb) A A l.length c c W hl
  obtain ⟨q, hq⟩ : ∃ q, q = l.length := ⟨_, rfl⟩
  rw [← hq] at HE HK
  show Calls _ _ #[_, .agg #[.int .i64 k, .int .i64 n, .string (bs s), .slice A l.length c], .agg #[.int .i64 k, .int .i64 n, .string (bs s), .slice A l.length c]] _ _
  rw [← hq]
  generalize bs s = t at *
  obtain ⟨w3, hw3⟩ : ∃ w3, ((w.alloc (.cells #[.map ma, .map mb] 56)).alloc (.cells #[.int .i64 k, .int .i64 n, .string t, .slice A q c] 44)).alloc (.cells #[.int .i64 k, .int .i64 n, .string t, .slice A q c] 44) = w3 := ⟨_, rfl⟩
  have hb3 : Below w.heap.size w w3 := by rw [← hw3]; exact (((Below.refl _ _).alloc (Nat.le_refl _) _).alloc (by simp) _).alloc (by simp; omega) _
  have hx0 : w3.heap[w.heap.size]? = some (.cells #[.map ma, .map mb] 56) := by
    rw [← hw3, Lib.alloc_old _ _ _ (by simp; omega), Lib.alloc_old _ _ _ (by simp)]
    exact heap_alloc_new w _
  have hx1 : w3.heap[w.heap.size + 1]? = some (.cells #[.int .i64 k, .int .i64 n, .string t, .slice A q c] 44) := by
    rw [← hw3, Lib.alloc_old _ _ _ (by simp)]
    have := heap_alloc_new (w.alloc (.cells #[.map ma, .map mb] 56)) (.cells #[.int .i64 k, .int .i64 n, .string t, .slice A q c] 44)
    rw [World.size_alloc] at this
    exact this
  have hx2 : w3.heap[w.heap.size + 1 + 1]? = some (.cells #[.int .i64 k, .int .i64 n, .string t, .slice A q c] 44) := by
    rw [← hw3]
    have := heap_alloc_new ((w.alloc (.cells #[.map ma, .map mb] 56)).alloc (.cells #[.int .i64 k, .int .i64 n, .string t, .slice A q c] 44)) (.cells #[.int .i64 k, .int .i64 n, .string t, .slice A q c] 44)
    rw [World.size_alloc, World.size_alloc] at this
    exact this
  obtain ⟨a0, a1⟩ := cells_2 hx0
  obtain ⟨b0, b1, b2, b3⟩ := cells_4 hx1
  obtain ⟨c0, c1, c2, c3⟩ := cells_4 hx2
  have HW3 := Lib.hid hw3
  have HB3 := Lib.hid hb3
  clear h hl hq hw3 hb3 hx0 hx1 hx2
  go_enter Try.func40, Try.ntmps40
  go_upto_region 1 with fail
  rw [HW3.out]
  go_wp2_with (first
    | (go_at_call 58; refine (HK.out _).mono ?_; rintro e W4 ⟨rfl, rfl⟩)
    | (go_at_call 59; refine (HE.out _ HB3.out).mono ?_; rintro e W5 ⟨rfl, hb5⟩; have HB5 := Lib.hid (HB3.out.trans (hb5.mono HB3.out.size)); clear hb5))
  go_ret
  exact ⟨rfl, HB5.out⟩

end Go.Proofs.Ytfenlhbkdfmneaa.Cse
