/- What the program's Slice answers: words from one place to another. -/
import Derived.Test.YtmallbgmpmdjiaaDoorSort
namespace Go.Proofs.YtmallbgmpmdjiaaDoor.Slice
open Go.RowKit Go.Proofs.YtmallbgmpmdjiaaDoor.Strs Go.Proofs.YtmallbgmpmdjiaaDoor.Sort

/-- from the from-th on up to the to-th -/
def sliceB (xs : List ByteArray) (f t : Int) : List ByteArray := (xs.take (min t xs.length).toNat).drop ((max f 1) - 1).toNat

/-- a slice of a slice -/
theorem slIs_cut {w : World} {b o c : Nat} {xs : List ByteArray} (h : SlIs w (some ⟨b, o, none⟩) c xs) (i j : Nat) (hi : i < j) (hj : j ≤ xs.length) :
    SlIs w (some ⟨b, o + i, none⟩) (c - i) ((xs.take j).drop i) := by
  have h1 := h.1
  refine ⟨by rw [List.length_drop, List.length_take]; omega, ?_⟩
  rcases h.2 with h0 | ⟨b', o', he, hb, hc⟩
  · rw [h0] at hj; simp at hj; omega
  · cases he
    refine .inr ⟨b, o + i, rfl, hb, fun k x hx => ?_⟩
    rw [List.getElem?_drop, List.getElem?_take] at hx
    split at hx
    · rw [Nat.add_assoc]; exact hc _ _ hx
    · cases hx

set_option maxHeartbeats 1000000 in
theorem slice_is (A : Option Addr) (n c : Nat) (xs : List ByteArray) (f t : Int) (w : World) (hn : xs.length = n) (h : SlIs w A c xs) (hm : n ≤ 1000000) (hf : (Lit.int .i64 f).wf = true) (ht : (Lit.int .i64 t).wf = true) :
    Calls Tryd.prog 16 #[.slice A n c, .int .i64 f, .int .i64 t] w fun e W' => ∃ A' c', e = .returned (.slice A' (sliceB xs f t).length c') ∧ SlIs W' A' c' (sliceB xs f t) ∧ Below w.heap.size w W' := by
  have hfb : -9223372036854775808 ≤ f ∧ f ≤ 9223372036854775807 := by simpa [Lit.wf, IntKind.min, IntKind.max, IntKind.signed, IntKind.bits] using hf
  have htb : -9223372036854775808 ≤ t ∧ t ≤ 9223372036854775807 := by simpa [Lit.wf, IntKind.min, IntKind.max, IntKind.signed, IntKind.bits] using ht
  obtain ⟨hf1, hf2⟩ := hfb
  obtain ⟨ht1, ht2⟩ := htb
  have HN := Lib.hid hn
  have HL := Lib.hid h
  have hcap := h.1
  clear hn h hf ht
  by_cases hgt : max f 1 > min t n
  · have HE : Hid (sliceB xs f t = []) := by
      show _ = _
      unfold sliceB
      rw [HN.out]
      apply List.drop_eq_nil_of_le
      rw [List.length_take]
      omega
    go_enter Tryd.func16, Tryd.ntmps16
    go_wp2
    go_ret
    rw [HE.out]
    exact ⟨none, 0, rfl, ⟨Nat.le_refl _, .inl rfl⟩, Below.refl _ _⟩
  · obtain ⟨i, hi⟩ : ∃ i : Nat, max f 1 = (i : Int) + 1 := ⟨(max f 1 - 1).toNat, by omega⟩
    obtain ⟨j, hj⟩ : ∃ j : Nat, min t n = (j : Int) := ⟨(min t n).toNat, by omega⟩
    have HE : Hid (sliceB xs f t = (xs.take j).drop i) := by
      show _ = _
      unfold sliceB
      rw [HN.out, hi, hj]
      congr 1
      omega
    have hij : i < j := by omega
    have hjn : j ≤ n := by omega
    obtain ⟨b, o, rfl, hb, hc0⟩ := HL.out.at_ (k := 0) (x := xs[0]'(by have := HN.out; omega)) (List.getElem?_eq_getElem _)
    clear hc0
    rw [HN.out] at hcap
    have hlen : ((xs.take j).drop i).length = j - i := by rw [List.length_drop, List.length_take, HN.out]; omega
    have hcl := clone_is (some ⟨b, o + i, none⟩) (j - i) (c - i) ((xs.take j).drop i) w hlen (slIs_cut HL.out i j hij (by rw [HN.out]; exact hjn)) (by omega)
    have HC := Lib.hid hcl
    clear hcl HL
    go_enter Tryd.func16, Tryd.ntmps16
    go_wp2_with fail
    refine HC.out.mono ?_
    rintro e w1 ⟨v', rfl, ho, hb1⟩
    obtain ⟨A', c', rfl, hs⟩ := slIs_of_own hlen ho
    have HS := Lib.hid hs
    have HB := Lib.hid hb1
    clear hs hb1 ho
    go_wp2
    go_ret
    rw [HE.out, hlen]
    exact ⟨A', c', rfl, HS.out, HB.out⟩

end Go.Proofs.YtmallbgmpmdjiaaDoor.Slice
