/- Plain facts: a text that is gone through by runes, and no rune is a percent or a backslash: then no byte is one. -/
import Derived.Laws.RangeAny
import Derived.Lib.IndexBytes
import Derived.Lib.Strings
namespace Go.Proofs.YtepigemfkaeaeaaDoor.Runes
open Go

/-- the bytes that a rune of more than one byte takes are all high -/
theorem high_cover (s : ByteArray) (pos k : Nat) (ha : 128 ≤ (s.get! (pos + 0)).toNat) (hk : k < (Utf8.decode s pos).2) : 128 ≤ (s.get! (pos + k)).toNat := by
  have hn : ¬ (s.get! (pos + 0)).toNat < 128 := by omega
  obtain rfl | rfl | rfl | rfl | h4 : k = 0 ∨ k = 1 ∨ k = 2 ∨ k = 3 ∨ 4 ≤ k := by omega
  · exact ha
  all_goals
    simp only [Utf8.decode, hn, if_false] at hk
    repeat' split at hk
    all_goals simp_all
    all_goals omega
theorem width (s : ByteArray) (pos : Nat) (h : pos < s.size) : 1 ≤ (Utf8.decode s pos).2 := by
  by_cases ha : (s[pos]'h).toNat < 128
  · rw [decode_ascii s pos h ha]; exact Nat.le_refl _
  · exact (decode_high s pos h (by omega)).2
/-- up to here no byte is a percent or a backslash -/
def clean (s : ByteArray) (p : Nat) : Prop := ∀ i, i < p → i < s.size → s.get! i ≠ 37 ∧ s.get! i ≠ 92
theorem clean_zero (s : ByteArray) : clean s 0 := fun _ hi => absurd hi (Nat.not_lt_zero _)
theorem clean_on (s : ByteArray) (p : Nat) (h : clean s p) (hp : p < s.size) (h1 : (Utf8.decode s p).1 ≠ 37) (h2 : (Utf8.decode s p).1 ≠ 92) : clean s (p + (Utf8.decode s p).2) := by
  intro i hi his
  by_cases hlt : i < p
  · exact h i hlt his
  · by_cases ha : (s[p]'hp).toNat < 128
    · rw [decode_ascii s p hp ha] at hi h1 h2
      obtain rfl : i = p := by have : i < p + 1 := hi; omega
      have e : s.get! i = s[i]'hp := get_at s i hp
      rw [e]
      exact ⟨fun q => h1 (by rw [q]; rfl), fun q => h2 (by rw [q]; rfl)⟩
    · have e : s.get! (p + 0) = s[p]'hp := get_at s p hp
      have := high_cover s p (i - p) (by rw [e]; omega) (by omega)
      rw [show p + (i - p) = i by omega] at this
      exact ⟨fun q => by rw [q] at this; exact absurd this (by decide), fun q => by rw [q] at this; exact absurd this (by decide)⟩
theorem clean_end (s : ByteArray) (p : Nat) (h : clean s p) (hp : ¬ p < s.size) : 37 ∉ s.data.toList ∧ 92 ∉ s.data.toList := by
  have key : ∀ c, c ∈ s.data.toList → ∃ i, i < s.size ∧ s.get! i = c := by
    intro c hc
    obtain ⟨i, hi, e⟩ := List.getElem_of_mem hc
    have his : i < s.size := by rw [Lib.size_eq]; exact hi
    refine ⟨i, his, ?_⟩
    rw [show s.get! i = s[i]'his from get_at s i his, ← e]
    rfl
  refine ⟨fun hm => ?_, fun hm => ?_⟩
  · obtain ⟨i, hi, e⟩ := key _ hm
    exact (h i (by omega) hi).1 e
  · obtain ⟨i, hi, e⟩ := key _ hm
    exact (h i (by omega) hi).2 e
theorem clean_left {a b : ByteArray} {c : UInt8} (h : c ∉ (a ++ b).data.toList) : c ∉ a.data.toList := fun hm => h (by simp [hm])

end Go.Proofs.YtepigemfkaeaeaaDoor.Runes
