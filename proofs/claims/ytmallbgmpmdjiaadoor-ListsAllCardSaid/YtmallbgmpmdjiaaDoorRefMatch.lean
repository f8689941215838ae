/- What the document's Match and Put answer. -/
import Derived.Test.YtmallbgmpmdjiaaDoorMatch
namespace Go.Proofs.YtmallbgmpmdjiaaDoor.RefMatch
open Go.RowKit Go.Proofs.YtmallbgmpmdjiaaDoor.Pat Go.Proofs.YtmallbgmpmdjiaaDoor.Build Go.Proofs.YtmallbgmpmdjiaaDoor.Of Go.Proofs.YtmallbgmpmdjiaaDoor.Match

theorem toList_data (s : ByteArray) : s.toList = s.data.toList := Lib.toList_data s
theorem prefix_eq (s t : ByteArray) (_h : t.size ≤ s.size) : ((s.extract 0 t.size).toList == t.toList) = Lib.hasPrefix s.data.toList t.data.toList := by
  rw [toList_data, toList_data, Lib.extract_upto, Lib.hasPrefix, Bool.eq_iff_iff, beq_iff_eq, List.isPrefixOf_iff_prefix, List.prefix_iff_eq_take, Lib.size_eq]
  exact ⟨fun h => h.symm, fun h => h.symm⟩
theorem suffix_eq (s t : ByteArray) (_h : t.size ≤ s.size) : ((s.extract (s.size - t.size) s.size).toList == t.toList) = Lib.hasSuffix s.data.toList t.data.toList := by
  rw [toList_data, toList_data, Lib.extract_from, Lib.hasSuffix, Bool.eq_iff_iff, beq_iff_eq, List.isSuffixOf_iff_suffix, List.suffix_iff_eq_drop, Lib.size_eq, Lib.size_eq]
  exact ⟨fun h => h.symm, fun h => h.symm⟩
theorem prefix_short (s t : ByteArray) (h : s.size < t.size) : Lib.hasPrefix s.data.toList t.data.toList = false := by
  rw [← Bool.not_eq_true, Lib.hasPrefix, List.isPrefixOf_iff_prefix]
  intro hp
  have := hp.length_le
  rw [← Lib.size_eq, ← Lib.size_eq] at this
  omega
theorem suffix_short (s t : ByteArray) (h : s.size < t.size) : Lib.hasSuffix s.data.toList t.data.toList = false := by
  rw [← Bool.not_eq_true, Lib.hasSuffix, List.isSuffixOf_iff_suffix]
  intro hp
  have := hp.length_le
  rw [← Lib.size_eq, ← Lib.size_eq] at this
  omega
theorem ret_bool {a b : Bool} (h : a = b) : Ending.returned (.bool a) = .returned (.bool b) := by rw [h]

set_option maxHeartbeats 400000 in
/-- the document's Has -/
theorem has_is (s t : ByteArray) (r : Bool) (w : World) (_hs : s.size ≤ maxLen) (h : Lib.hasPrefix s.data.toList t.data.toList = r) :
    Calls Tryd.prog 40 #[.string s, .string t] w fun e w' => e = .returned (.bool r) ∧ w = w' := by
  by_cases hl : t.size ≤ s.size
  · have HE := Lib.hid ((prefix_eq s t hl).trans h)
    clear h
    go_enter Tryd.func40, Tryd.ntmps40
    go_wp2
    go_ret
    exact ⟨ret_bool HE.out, rfl⟩
  · have HE : Hid (false = r) := (prefix_short s t (by omega)).symm.trans h
    clear h
    go_enter Tryd.func40, Tryd.ntmps40
    go_wp2
    go_ret
    exact ⟨ret_bool HE.out, rfl⟩
set_option maxHeartbeats 400000 in
/-- the document's Ends -/
theorem ends_is (s t : ByteArray) (r : Bool) (w : World) (hs : s.size ≤ maxLen) (h : Lib.hasSuffix s.data.toList t.data.toList = r) :
    Calls Tryd.prog 41 #[.string s, .string t] w fun e w' => e = .returned (.bool r) ∧ w = w' := by
  unfold maxLen at hs
  by_cases hl : t.size ≤ s.size
  · have HE := Lib.hid ((suffix_eq s t hl).trans h)
    clear h
    go_enter Tryd.func41, Tryd.ntmps41
    go_wp2
    go_ret
    exact ⟨ret_bool HE.out, rfl⟩
  · have HE : Hid (false = r) := (suffix_short s t (by omega)).symm.trans h
    clear h
    go_enter Tryd.func41, Tryd.ntmps41
    go_wp2
    go_ret
    exact ⟨ret_bool HE.out, rfl⟩

set_option maxHeartbeats 1000000 in
theorem refMatch_plain (a b x : ByteArray) (w : World) :
    Calls Tryd.prog 31 #[patV false a b, .string x] w fun e W' => e = .returned (.tuple #[.string (stemB false a b x), .bool (okB false a b x)]) ∧ Below w.heap.size w W' := by
  unfold patV
  go_enter Tryd.func31, Tryd.ntmps31
  go_wp2
  go_quiet (fail)
  go_wp2
  go_ret2
  exact ⟨rfl, below_drewN ((Below.refl _ _).alloc (Nat.le_refl _) _) _⟩

set_option maxHeartbeats 2000000 in
theorem refMatch_place (a b x : ByteArray) (w : World) (ha : a.size ≤ 1099511627776) (hb : b.size ≤ 1099511627776) (hx : x.size ≤ maxLen) :
    Calls Tryd.prog 31 #[patV true a b, .string x] w fun e W' => e = .returned (.tuple #[.string (stemB true a b x), .bool (okB true a b x)]) ∧ Below w.heap.size w W' := by
  have HXL := Lib.hid hx
  unfold maxLen at hx
  have hB : Below w.heap.size w (w.alloc (.cells #[.bool true, .string a, .string b] 48)) := (Below.refl _ _).alloc (Nat.le_refl _) _
  have HB := Lib.hid hB
  clear hB
  unfold patV
  by_cases hl : x.size < a.size + b.size
  · have HF : Hid (fits a b x = false) := by
      show _ = _
      unfold fits
      rw [decide_eq_false (by omega)]; rfl
    go_enter Tryd.func31, Tryd.ntmps31
    go_wp2
    go_ret2
    exact ⟨ret_two (by unfold stemB; rw [HF.out]; rfl) (by unfold okB; rw [HF.out]; rfl), HB.out⟩
  · have HD : Hid (decide (a.size + b.size ≤ x.size) = true) := by show _ = _; rw [decide_eq_true (by omega)]
    cases h1 : Lib.hasPrefix x.data.toList a.data.toList with
    | false =>
      have HF : Hid (fits a b x = false) := by
        show _ = _
        unfold fits
        rw [h1]; simp
      have H1 := Lib.hid h1
      clear h1
      go_enter Tryd.func31, Tryd.ntmps31
      go_wp2_with (go_at_call 40; refine (has_is x a false _ HXL.out H1.out).mono ?_; rintro e w' ⟨rfl, rfl⟩)
      go_ret2
      exact ⟨ret_two (by unfold stemB; rw [HF.out]; rfl) (by unfold okB; rw [HF.out]; rfl), HB.out⟩
    | true =>
      cases h2 : Lib.hasSuffix x.data.toList b.data.toList with
      | false =>
        have HF : Hid (fits a b x = false) := by
          show _ = _
          unfold fits
          rw [h2]; simp
        have H1 := Lib.hid h1
        have H2 := Lib.hid h2
        clear h1 h2
        go_enter Tryd.func31, Tryd.ntmps31
        go_wp2_with (first | (go_at_call 40; refine (has_is x a true _ HXL.out H1.out).mono ?_; rintro e w' ⟨rfl, rfl⟩) | (go_at_call 41; refine (ends_is x b false _ HXL.out H2.out).mono ?_; rintro e w' ⟨rfl, rfl⟩))
        go_ret2
        exact ⟨ret_two (by unfold stemB; rw [HF.out]; rfl) (by unfold okB; rw [HF.out]; rfl), HB.out⟩
      | true =>
        have HF : Hid (fits a b x = true) := by
          show _ = _
          unfold fits
          rw [h1, h2, HD.out]; rfl
        have H1 := Lib.hid h1
        have H2 := Lib.hid h2
        clear h1 h2
        go_enter Tryd.func31, Tryd.ntmps31
        go_wp2_with (first | (go_at_call 40; refine (has_is x a true _ HXL.out H1.out).mono ?_; rintro e w' ⟨rfl, rfl⟩) | (go_at_call 41; refine (ends_is x b true _ HXL.out H2.out).mono ?_; rintro e w' ⟨rfl, rfl⟩))
        go_ret2
        exact ⟨ret_two (by unfold stemB; rw [HF.out]; rfl) (by unfold okB; rw [HF.out]; rfl), HB.out⟩
/-- the document's Match -/
theorem refMatch_is (h : Bool) (a b x : ByteArray) (w : World) (ha : a.size ≤ 1099511627776) (hb : b.size ≤ 1099511627776) (hx : x.size ≤ maxLen) :
    Calls Tryd.prog 31 #[patV h a b, .string x] w fun e W' => e = .returned (.tuple #[.string (stemB h a b x), .bool (okB h a b x)]) ∧ Below w.heap.size w W' := by
  cases h
  · exact refMatch_plain a b x w
  · exact refMatch_place a b x w ha hb hx


end Go.Proofs.YtmallbgmpmdjiaaDoor.RefMatch
