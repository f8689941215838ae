/- What the program's Match, Put and Replace answer. -/
import Derived.Deep.QuietTactic
import Derived.BigQuiet
import Derived.Test.YtmallbgmpmdjiaaDoorOf
namespace Go.Proofs.YtmallbgmpmdjiaaDoor.Match
open Go.RowKit Go.Proofs.YtmallbgmpmdjiaaDoor.Pat Go.Proofs.YtmallbgmpmdjiaaDoor.Build Go.Proofs.YtmallbgmpmdjiaaDoor.Of

/-- has a word room for both ends, and both of them? -/
def fits (a b w : ByteArray) : Bool := decide (a.size + b.size ≤ w.size) && (Lib.hasPrefix w.data.toList a.data.toList && Lib.hasSuffix w.data.toList b.data.toList)
def okB (h : Bool) (a b w : ByteArray) : Bool := if h then fits a b w else w.toList == a.toList
def stemB (h : Bool) (a b w : ByteArray) : ByteArray := if h && fits a b w then w.extract a.size (w.size - b.size) else ⟨#[]⟩
def putB (h : Bool) (a b x : ByteArray) : ByteArray := if h then a ++ x ++ b else a

theorem ret_two {a a' : ByteArray} {b b' : Bool} (h1 : a = a') (h2 : b = b') : Ending.returned (.tuple #[.string a, .bool b]) = .returned (.tuple #[.string a', .bool b']) := by rw [h1, h2]

theorem below_drewN {B : Nat} {a w : World} (h : Below B a w) (n : Nat) : Below B a (w.drewN n) := ⟨h.os, h.tape, h.output, h.size, h.block⟩

theorem prefix_is (s p : ByteArray) (r : Bool) (w : World) (h : Lib.hasPrefix s.data.toList p.data.toList = r) :
    Calls Tryd.prog 56 #[.string s, .string p] w fun e w' => e = .returned (.bool r) ∧ w' = w := by
  subst h
  exact Tryd.strings_HasPrefix s p w
theorem suffix_is (s p : ByteArray) (r : Bool) (w : World) (hs : s.size ≤ 9223372036854775807) (h : Lib.hasSuffix s.data.toList p.data.toList = r) :
    Calls Tryd.prog 57 #[.string s, .string p] w fun e w' => e = .returned (.bool r) ∧ w' = w := by
  subst h
  exact Tryd.strings_HasSuffix s p w hs

set_option maxHeartbeats 1000000 in
/-- the program's Match, of a pattern without a place -/
theorem match_plain (a b x : ByteArray) (w : World) :
    Calls Tryd.prog 39 #[patV false a b, .string x] w fun e W' => e = .returned (.tuple #[.string (stemB false a b x), .bool (okB false a b x)]) ∧ Below w.heap.size w W' := by
  unfold patV
  go_enter Tryd.func39, Tryd.ntmps39
  go_wp2
  go_quiet (fail)
  go_wp2
  go_ret2
  exact ⟨rfl, below_drewN ((Below.refl _ _).alloc (Nat.le_refl _) _) _⟩

set_option maxHeartbeats 2000000 in
/-- the program's Match, of a pattern with a place -/
theorem match_place (a b x : ByteArray) (w : World) (ha : a.size ≤ 1099511627776) (hb : b.size ≤ 1099511627776) (hx : x.size ≤ maxLen) :
    Calls Tryd.prog 39 #[patV true a b, .string x] w fun e W' => e = .returned (.tuple #[.string (stemB true a b x), .bool (okB true a b x)]) ∧ Below w.heap.size w W' := by
  unfold maxLen at hx
  have hB : Below w.heap.size w (w.alloc (.cells #[.bool true, .string a, .string b] 42)) := (Below.refl _ _).alloc (Nat.le_refl _) _
  have HB := Lib.hid hB
  clear hB
  unfold patV
  by_cases hl : x.size < a.size + b.size
  · have HF : Hid (fits a b x = false) := by
      show _ = _
      unfold fits
      rw [decide_eq_false (by omega)]; rfl
    go_enter Tryd.func39, Tryd.ntmps39
    go_wp2
    go_ret2
    exact ⟨ret_two (by unfold stemB; rw [HF.out]; rfl) (by unfold okB; rw [HF.out]; rfl), HB.out⟩
  · have HD : Hid (decide (a.size + b.size ≤ x.size) = true) := by show _ = _; rw [decide_eq_true (by omega)]
    cases h1 : Lib.hasPrefix x.data.toList a.data.toList with
    | false =>
      have HF : Hid (fits a b x = false) := by
        show _ = _
        unfold fits
        rw [h1]; simp
      have H1 := Lib.hid h1
      clear h1
      go_enter Tryd.func39, Tryd.ntmps39
      go_wp2_with (go_at_call 56; refine (prefix_is x a false _ H1.out).mono ?_; rintro e w' ⟨rfl, rfl⟩)
      go_ret2
      exact ⟨ret_two (by unfold stemB; rw [HF.out]; rfl) (by unfold okB; rw [HF.out]; rfl), HB.out⟩
    | true =>
      cases h2 : Lib.hasSuffix x.data.toList b.data.toList with
      | false =>
        have HF : Hid (fits a b x = false) := by
          show _ = _
          unfold fits
          rw [h2]; simp
        have H1 := Lib.hid h1
        have H2 := Lib.hid h2
        clear h1 h2
        go_enter Tryd.func39, Tryd.ntmps39
        go_wp2_with (first | (go_at_call 56; refine (prefix_is x a true _ H1.out).mono ?_; rintro e w' ⟨rfl, rfl⟩) | (go_at_call 57; refine (suffix_is x b false _ (by omega) H2.out).mono ?_; rintro e w' ⟨rfl, rfl⟩))
        go_ret2
        exact ⟨ret_two (by unfold stemB; rw [HF.out]; rfl) (by unfold okB; rw [HF.out]; rfl), HB.out⟩
      | true =>
        have HF : Hid (fits a b x = true) := by
          show _ = _
          unfold fits
          rw [h1, h2, HD.out]; rfl
        have H1 := Lib.hid h1
        have H2 := Lib.hid h2
        clear h1 h2
        go_enter Tryd.func39, Tryd.ntmps39
        go_wp2_with (first | (go_at_call 56; refine (prefix_is x a true _ H1.out).mono ?_; rintro e w' ⟨rfl, rfl⟩) | (go_at_call 57; refine (suffix_is x b true _ (by omega) H2.out).mono ?_; rintro e w' ⟨rfl, rfl⟩))
        go_ret2
        exact ⟨ret_two (by unfold stemB; rw [HF.out]; rfl) (by unfold okB; rw [HF.out]; rfl), HB.out⟩
/-- the program's Match -/
theorem match_is (h : Bool) (a b x : ByteArray) (w : World) (ha : a.size ≤ 1099511627776) (hb : b.size ≤ 1099511627776) (hx : x.size ≤ maxLen) :
    Calls Tryd.prog 39 #[patV h a b, .string x] w fun e W' => e = .returned (.tuple #[.string (stemB h a b x), .bool (okB h a b x)]) ∧ Below w.heap.size w W' := by
  cases h
  · exact match_plain a b x w
  · exact match_place a b x w ha hb hx


end Go.Proofs.YtmallbgmpmdjiaaDoor.Match
