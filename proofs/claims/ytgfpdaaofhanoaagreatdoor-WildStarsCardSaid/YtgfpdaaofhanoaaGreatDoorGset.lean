/- Sets of bytes as four words of bits: plain facts. -/
import Derived.Laws.Bits64
import Derived.Laws.BitsAllLaws
import Derived.Laws.ShiftsVarLaws
import Derived.Test.YtgfpdaaofhanoaaGreatDoorProg
namespace Go.Proofs.YtgfpdaaofhanoaaGreatDoor.Gset
open Go

/-- the first n truths of p as a number's bits -/
def bitsN (p : Nat → Bool) : Nat → Nat
  | 0 => 0
  | n + 1 => bitsN p n ||| ((p n).toNat <<< n)
theorem bitsN_bit (p : Nat → Bool) (n i : Nat) : (bitsN p n).testBit i = (decide (i < n) && p i) := by
  induction n with
  | zero => simp [bitsN]
  | succ n ih =>
    rw [bitsN, Nat.testBit_or, ih, Nat.testBit_shiftLeft]
    rcases Nat.lt_trichotomy i n with h | h | h
    · have h1 : ¬ n ≤ i := by omega
      simp [h, h1, show i < n + 1 by omega]
    · subst h
      cases p i <;> simp
    · have h1 : ¬ i < n := by omega
      have h2 : ¬ i < n + 1 := by omega
      have h3 : ¬ i - n = 0 := by omega
      have h4 : n ≤ i := by omega
      have h5 : Nat.testBit 1 (i - n) = false := Nat.testBit_lt_two_pow (Nat.one_lt_two_pow h3)
      cases p n <;> simp [h1, h2, h4, h5]
theorem bitsN_lt (p : Nat → Bool) (n : Nat) : bitsN p n < 2 ^ n := by
  apply Nat.lt_pow_two_of_testBit
  intro i hi
  rw [bitsN_bit]
  simp; omega
def word (p : Nat → Bool) (k : Nat) : Nat := bitsN (fun i => p (64 * k + i)) 64
theorem word_bit (p : Nat → Bool) (k i : Nat) : (word p k).testBit i = (decide (i < 64) && p (64 * k + i)) := bitsN_bit _ _ _
theorem word_lt (p : Nat → Bool) (k : Nat) : word p k < 18446744073709551616 := bitsN_lt _ _
theorem word_ext {p q : Nat → Bool} {k : Nat} (h : ∀ i, i < 64 → p (64 * k + i) = q (64 * k + i)) : word p k = word q k := by
  apply Nat.eq_of_testBit_eq
  intro i
  rw [word_bit, word_bit]
  by_cases hi : i < 64
  · simp [hi, h i hi]
  · simp [hi]
theorem word_eq {p : Nat → Bool} {k n : Nat} (hn : n < 2 ^ 64) (h : ∀ i, i < 64 → n.testBit i = p (64 * k + i)) : word p k = n := by
  apply Nat.eq_of_testBit_eq
  intro i
  rw [word_bit]
  by_cases hi : i < 64
  · simp [hi, h i hi]
  · simp [hi]
    exact Nat.testBit_lt_two_pow (Nat.lt_of_lt_of_le hn (Nat.pow_le_pow_right (n := 2) (by decide) (show 64 ≤ i by omega)))

/-- a set's value -/
def setV (p : Nat → Bool) : Value := .agg #[.int .u64 (word p 0 : Nat), .int .u64 (word p 1 : Nat), .int .u64 (word p 2 : Nat), .int .u64 (word p 3 : Nat)]
def setCells (p : Nat → Bool) : List Value := [.int .u64 (word p 0 : Nat), .int .u64 (word p 1 : Nat), .int .u64 (word p 2 : Nat), .int .u64 (word p 3 : Nat)]
theorem setV_ext {p q : Nat → Bool} (h : ∀ b, b < 256 → p b = q b) : setV p = setV q := by
  unfold setV
  rw [word_ext (q := q) (k := 0) (fun i hi => h _ (by omega)), word_ext (q := q) (k := 1) (fun i hi => h _ (by omega)), word_ext (q := q) (k := 2) (fun i hi => h _ (by omega)), word_ext (q := q) (k := 3) (fun i hi => h _ (by omega))]

/-- one bit of a word -/
theorem bit_eq (p : Nat → Bool) (k r : Nat) (hr : r < 64) : (word p k / 2 ^ r) % 2 = (p (64 * k + r)).toNat := by
  have := word_bit p k r
  rw [Nat.testBit_eq_decide_div_mod_eq] at this
  simp only [hr, decide_true, Bool.true_and] at this
  have h2 : word p k / 2 ^ r % 2 = 0 ∨ word p k / 2 ^ r % 2 = 1 := by omega
  rcases h2 with h2 | h2
  · rw [h2] at this ⊢; rw [← this]; rfl
  · rw [h2] at this ⊢; rw [← this]; rfl
/-- a bit is put -/
theorem put_bit (p : Nat → Bool) (k r : Nat) (hr : r < 64) : word p k ||| 2 ^ r = word (fun b => p b || b == 64 * k + r) k := by
  symm
  apply word_eq
  · exact Nat.or_lt_two_pow (word_lt p k) (Nat.pow_lt_pow_of_lt (by decide) hr)
  · intro i hi
    rw [Nat.testBit_or, word_bit, Nat.testBit_two_pow]
    simp [hi]
    by_cases e : r = i
    · simp [e]
    · have : ¬ i = r := fun x => e x.symm
      simp [e, this]
theorem put_other (p : Nat → Bool) (k j r : Nat) (hr : r < 64) (h : j ≠ k) : word (fun b => p b || b == 64 * k + r) j = word p j := by
  apply word_ext
  intro i hi
  have : ¬ 64 * j + i = 64 * k + r := by omega
  simp [this]
/-- all bits are turned -/
theorem turn_bits (p : Nat → Bool) (k : Nat) : 18446744073709551615 ^^^ word p k = word (fun b => !p b) k := by
  symm
  apply word_eq
  · exact Nat.xor_lt_two_pow (by decide) (word_lt p k)
  · intro i hi
    rw [Nat.testBit_xor, word_bit, show (18446744073709551615 : Nat) = 2 ^ 64 - 1 by decide, Nat.testBit_two_pow_sub_one]
    simp [hi]
end Go.Proofs.YtgfpdaaofhanoaaGreatDoor.Gset
