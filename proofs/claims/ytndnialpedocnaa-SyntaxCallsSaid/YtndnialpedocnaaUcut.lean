/- What the library's Cut answers at one byte. -/
import Derived.WalkKit
import Derived.WalkSpells
import Derived.IntWalk
import Derived.Below
import Derived.Lib.Hide
import Derived.Lib.IndexLaws
import Derived.Shelf.RegionOpenPlain
import Derived.Test.YtndnialpedocnaaShelf
import Derived.Lib.SplitLaws
import Derived.Test.YtndnialpedocnaaPure
namespace Go.Proofs.Ytndnialpedocnaa.Ucut
open Go.RowKit Go.Proofs.Ytndnialpedocnaa.Pure

theorem none_idx {l : List UInt8} {c : UInt8} (h : ∀ d ∈ l, d ≠ c) : Lib.indexByte l c = -1 := by
  rcases (show Lib.indexByte l c < 0 ∨ 0 ≤ Lib.indexByte l c by omega) with h1 | h1
  · have := Lib.indexByte_ge l c; omega
  · obtain ⟨o, ho⟩ := Int.eq_ofNat_of_zero_le h1
    have := (Lib.indexByte_some ho).1
    exact absurd rfl (h c (List.mem_of_getElem? this))
theorem some_idx {l a r : List UInt8} {c : UInt8} (h : l = a ++ c :: r) (ha : ∀ d ∈ a, d ≠ c) : Lib.indexByte l c = a.length := by
  rcases (show Lib.indexByte l c < 0 ∨ 0 ≤ Lib.indexByte l c by omega) with h1 | h1
  · have h2 := Lib.indexByte_ge l c
    have h3 := Lib.indexByte_none (show Lib.indexByte l c = -1 by omega) a.length
    rw [h] at h3
    exact absurd (by simp) h3
  · obtain ⟨o, ho⟩ := Int.eq_ofNat_of_zero_le h1
    obtain ⟨h2, h3⟩ := Lib.indexByte_some ho
    rw [ho]
    rcases Nat.lt_trichotomy o a.length with h4 | h4 | h4
    · rw [h, List.getElem?_append_left h4] at h2
      exact absurd rfl (ha c (List.mem_of_getElem? h2))
    · rw [h4]
    · have := h3 a.length h4
      rw [h] at this
      exact absurd (by simp) this
theorem split_at (l : List UInt8) (c : UInt8) : (∀ d ∈ l, d ≠ c) ∨ ∃ a r, l = a ++ c :: r ∧ ∀ d ∈ a, d ≠ c := by
  induction l with
  | nil => exact .inl (fun _ h => absurd h (by simp))
  | cons x l ih =>
    by_cases hx : x = c
    · exact .inr ⟨[], l, by rw [hx]; rfl, fun _ h => absurd h (by simp)⟩
    · rcases ih with h | ⟨a, r, rfl, h⟩
      · exact .inl (fun d hd => (List.mem_cons.1 hd).elim (fun e => e ▸ hx) (h d))
      · exact .inr ⟨x :: a, r, rfl, fun d hd => (List.mem_cons.1 hd).elim (fun e => e ▸ hx) (h d)⟩

set_option maxHeartbeats 1000000 in
theorem lite_miss (s : ByteArray) (c : UInt8) (w : World) (h : Lib.indexByte s.data.toList c = -1) :
    Calls Try.prog 18 #[.string s, .string ⟨#[c]⟩] w fun e w' => e = .returned (.tuple #[.string s, .string .empty, .bool false]) ∧ w' = w := by
  have hI := Try.stringslite_Index_one s c
  rw [h] at hI
  clear h
  go_enter Try.func18, Try.ntmps18
  go_wp2_with (go_at_call 25; refine (hI _).mono ?_; rintro e w' ⟨rfl, rfl⟩)
  go_ret3
  exact ⟨rfl, rfl⟩
set_option maxHeartbeats 1000000 in
theorem lite_hit (s : ByteArray) (c : UInt8) (k : Nat) (w : World) (hk : k + 1 ≤ s.size) (hs : s.size ≤ maxLen) (h : Lib.indexByte s.data.toList c = k) :
    Calls Try.prog 18 #[.string s, .string ⟨#[c]⟩] w fun e w' => e = .returned (.tuple #[.string (s.extract 0 k), .string (s.extract (k + 1) s.size), .bool true]) ∧ w' = w.drew := by
  unfold maxLen at hs
  have hI := Try.stringslite_Index_one s c
  rw [h] at hI
  clear h
  have hz : (⟨#[c]⟩ : ByteArray).size = 1 := rfl
  go_enter Try.func18, Try.ntmps18
  go_wp2_with (go_at_call 25; refine (hI _).mono ?_; rintro e w' ⟨rfl, rfl⟩)
  go_region
  go_wp2
  go_ret3
  exact ⟨rfl, rfl⟩

set_option maxHeartbeats 1000000 in
/-- the byte is not there -/
theorem cut_miss (s : ByteArray) (c : UInt8) (w : World) (h : ∀ d ∈ s.data.toList, d ≠ c) :
    Calls Try.prog 14 #[.string s, .string ⟨#[c]⟩] w fun e w' => e = .returned (.tuple #[.string s, .string .empty, .bool false]) ∧ w' = w := by
  have hI := fun W => lite_miss s c W (none_idx h)
  clear h
  go_enter Try.func14, Try.ntmps14
  go_wp2_with (go_at_call 18; refine (hI _).mono ?_; rintro e w' ⟨rfl, rfl⟩)
  go_ret3
  exact ⟨rfl, rfl⟩
set_option maxHeartbeats 1000000 in
theorem cut_core (s u v : ByteArray) (c : UInt8) (w : World) (hI : ∀ W, Calls Try.prog 18 #[.string s, .string ⟨#[c]⟩] W fun e w' => e = .returned (.tuple #[.string u, .string v, .bool true]) ∧ w' = W.drew) :
    Calls Try.prog 14 #[.string s, .string ⟨#[c]⟩] w fun e w' => e = .returned (.tuple #[.string u, .string v, .bool true]) ∧ w' = w.drew := by
  go_enter Try.func14, Try.ntmps14
  go_wp2_with (go_at_call 18; refine (hI _).mono ?_; rintro e w' ⟨rfl, rfl⟩)
  go_ret3
  exact ⟨rfl, rfl⟩
/-- the byte is there -/
theorem cut_hit (s : ByteArray) (c : UInt8) (a r : List UInt8) (w : World) (hs : s.size ≤ maxLen) (h : s.data.toList = a ++ c :: r) (ha : ∀ d ∈ a, d ≠ c) :
    Calls Try.prog 14 #[.string s, .string ⟨#[c]⟩] w fun e w' => e = .returned (.tuple #[.string (bs a), .string (bs r), .bool true]) ∧ w' = w.drew := by
  have hz : a.length + 1 ≤ s.size := by rw [Lib.size_eq, h]; simp
  have e1 : s.extract 0 a.length = bs a := ext_data (by rw [Lib.extract_from_zero, bs_data, h]; simp)
  have e2 : s.extract (a.length + 1) s.size = bs r := ext_data (by rw [Lib.extract_to_end, bs_data, h]; simp [List.drop_append])
  have := fun W => lite_hit s c a.length W hz hs (some_idx h ha)
  rw [e1, e2] at this
  exact cut_core s (bs a) (bs r) c w this

end Go.Proofs.Ytndnialpedocnaa.Ucut
