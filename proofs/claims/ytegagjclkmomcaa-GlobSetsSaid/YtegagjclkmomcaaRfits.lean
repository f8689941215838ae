/- What the document's fits and one answer. -/
import Derived.Test.YtegagjclkmomcaaRlaws
namespace Go.Proofs.Ytegagjclkmomcaa.Rfits
open Go.RowKit Go.Proofs.Ytegagjclkmomcaa.Glb Go.Proofs.Ytegagjclkmomcaa.Gops Go.Proofs.Ytegagjclkmomcaa.Gread Go.Proofs.Ytegagjclkmomcaa.Gfit Go.Proofs.Ytegagjclkmomcaa.Rlaws

set_option maxHeartbeats 400000 in
theorem fits_byte (b : Int) (c : UInt8) (p : Nat → Bool) (w : World) :
    Calls Try.prog 30 #[.agg (tC 0 b p), .int .u8 (c.toNat : Nat)] w fun e W' => e = .returned (.bool (b == ((c.toNat : Nat) : Int))) ∧ Below w.heap.size w W' := by
  have h0 := tC_kind 0 b p
  have h1 := tC_byte 0 b p
  generalize tC 0 b p = cs at h0 h1
  go_enter Try.func30, Try.ntmps30
  go_wp2
  go_ret
  exact ⟨rfl, (Below.refl _ _).alloc (Nat.le_refl _) _⟩
set_option maxHeartbeats 400000 in
theorem fits_any (b : Int) (c : UInt8) (p : Nat → Bool) (w : World) :
    Calls Try.prog 30 #[.agg (tC 1 b p), .int .u8 (c.toNat : Nat)] w fun e W' => e = .returned (.bool true) ∧ Below w.heap.size w W' := by
  have h0 := tC_kind 1 b p
  generalize tC 1 b p = cs at h0
  go_enter Try.func30, Try.ntmps30
  go_wp2
  go_ret
  exact ⟨rfl, (Below.refl _ _).alloc (Nat.le_refl _) _⟩
set_option maxHeartbeats 400000 in
theorem fits_tab (b : Int) (c : UInt8) (p : Nat → Bool) (w : World) :
    Calls Try.prog 30 #[.agg (tC 2 b p), .int .u8 (c.toNat : Nat)] w fun e W' => e = .returned (.bool (p c.toNat)) ∧ Below w.heap.size w W' := by
  have hc : c.toNat < 256 := c.toNat_lt
  have h0 := tC_kind 2 b p
  have h1 := tC_tab 2 b p c.toNat hc
  generalize tC 2 b p = cs at h0 h1
  generalize c.toNat = n at hc h1
  go_enter Try.func30, Try.ntmps30
  go_wp2
  go_ret
  exact ⟨rfl, (Below.refl _ _).alloc (Nat.le_refl _) _⟩

/-! ### one -/
/-- where the next byte stands -/
def oneN (l : List UInt8) (i : Nat) : Nat := if l[i]? = some 92 ∧ i + 1 < l.length then i + 2 else i + 1
theorem oneN_gt (l : List UInt8) (i : Nat) : i < oneN l i := by unfold oneN; split <;> omega
theorem oneN_le (l : List UInt8) (i : Nat) (h : i < l.length) : oneN l i ≤ l.length := by unfold oneN; split <;> omega
theorem oneN_drop (l : List UInt8) (i : Nat) (h : i < l.length) : l.drop (oneN l i) = unqR (l.drop i) := by
  rw [List.drop_eq_getElem_cons h]
  unfold oneN
  rw [List.getElem?_eq_getElem h]
  by_cases h1 : i + 1 < l.length
  · rw [List.drop_eq_getElem_cons h1]
    by_cases h92 : l[i] = 92
    · rw [if_pos ⟨by rw [h92], h1⟩, unqR, if_pos h92]
    · rw [if_neg (by intro e; exact h92 (Option.some.inj e.1)), unqR, if_neg h92, ← List.drop_eq_getElem_cons h1]
  · rw [if_neg (by intro e; exact h1 e.2), List.drop_eq_nil_of_le (by omega)]
    rfl
theorem drop_head {l : List UInt8} {i : Nat} (h : i < l.length) : ∃ r, l.drop i = l[i] :: r := ⟨_, List.drop_eq_getElem_cons h⟩
theorem data_get (u : ByteArray) (i : Nat) (h : i < u.size) : u.data.toList[i]? = some u[i] := byte_at u i h
theorem one_c (u : ByteArray) (i : Nat) (h1 : i + 1 < u.size) (h92 : u[i] = 92) : unqC (u.data.toList.drop i) = u[i + 1] ∧ oneN u.data.toList i = i + 2 := by
  have hl : u.data.toList.length = u.size := len_data u
  have a0 := byte_at u i (by omega)
  have a1 := byte_at u (i + 1) h1
  constructor
  · rw [List.drop_eq_getElem_cons (by omega), List.drop_eq_getElem_cons (by omega)]
    have e0 : u.data.toList[i] = u[i] := Option.some.inj ((List.getElem?_eq_getElem (by omega)).symm.trans a0)
    have e1 : u.data.toList[i + 1] = u[i + 1] := Option.some.inj ((List.getElem?_eq_getElem (by omega)).symm.trans a1)
    rw [e0, e1, unqC, if_pos h92]
  · unfold oneN
    rw [a0, h92, if_pos ⟨rfl, by omega⟩]
theorem one_p (u : ByteArray) (i : Nat) (h : i < u.size) (hn : ¬ (u[i] = 92 ∧ i + 1 < u.size)) : unqC (u.data.toList.drop i) = u[i] ∧ oneN u.data.toList i = i + 1 := by
  have hl : u.data.toList.length = u.size := len_data u
  have a0 := byte_at u i h
  have e0 : u.data.toList[i] = u[i] := Option.some.inj ((List.getElem?_eq_getElem (by omega)).symm.trans a0)
  constructor
  · rw [List.drop_eq_getElem_cons (by omega), e0]
    by_cases h1 : i + 1 < u.size
    · rw [List.drop_eq_getElem_cons (by omega), unqC, if_neg (fun e => hn ⟨e, h1⟩)]
    · rw [List.drop_eq_nil_of_le (by omega)]; rfl
  · unfold oneN
    rw [a0, if_neg (by intro e; exact hn ⟨Option.some.inj e.1, by omega⟩)]
theorem lit92 (c : UInt8) : (((c.toNat : Nat) : Int) == 92) = (c == 92) := u8_eq c 92
theorem ret_one {a b : UInt8} {i j : Nat} (h1 : a = b) (h2 : i = j) : Ending.returned (.tuple #[.int .u8 (a.toNat : Nat), .int .i64 (i : Int)]) = .returned (.tuple #[.int .u8 (b.toNat : Nat), .int .i64 (j : Int)]) := by rw [h1, h2]

set_option maxHeartbeats 800000 in
/-- the document's one -/
theorem one_is (u : ByteArray) (i : Nat) (w : World) (h : i < u.size) (hs : u.size ≤ 1000000) :
    Calls Try.prog 24 #[.string u, .int .i64 i] w fun e W' => e = .returned (.tuple #[.int .u8 ((unqC (u.data.toList.drop i)).toNat : Nat), .int .i64 (oneN u.data.toList i : Nat)]) ∧ w = W' := by
  by_cases h92 : u[i] = 92
  · have e92 : ((u[i].toNat : Nat) : Int) = 92 := by rw [h92]; rfl
    by_cases h1 : i + 1 < u.size
    · obtain ⟨H1, H2⟩ := one_c u i h1 h92
      have HA := Lib.hid H1
      have HB := Lib.hid H2
      clear H1 H2 h92
      go_enter Try.func24, Try.ntmps24
      go_wp2
      go_ret2
      exact ⟨ret_one HA.out.symm HB.out.symm, rfl⟩
    · obtain ⟨H1, H2⟩ := one_p u i h (by omega)
      have HA := Lib.hid H1
      have HB := Lib.hid H2
      have HC := Lib.hid e92
      clear H1 H2 h92
      go_enter Try.func24, Try.ntmps24
      go_wp2
      go_ret2
      exact ⟨(show _ = Ending.returned (.tuple #[.int .u8 (u[i].toNat : Nat), .int .i64 ((i + 1 : Nat) : Int)]) by rw [HC.out]; rfl).trans (ret_one HA.out.symm HB.out.symm), rfl⟩
  · obtain ⟨H1, H2⟩ := one_p u i h (by intro e; exact h92 e.1)
    have e92 : (((u[i].toNat : Nat) : Int) == 92) = false := by rw [lit92]; simpa using h92
    have HA := Lib.hid H1
    have HB := Lib.hid H2
    clear H1 H2 h92
    go_enter Try.func24, Try.ntmps24
    go_wp2
    go_ret2
    exact ⟨ret_one HA.out.symm HB.out.symm, rfl⟩
end Go.Proofs.Ytegagjclkmomcaa.Rfits
