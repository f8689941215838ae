/- The document's takes: how many an instruction takes (written by wip/tools/mktakes.py). -/
import Derived.Test.YtpphkaolonjjdaaDoorDft
namespace Go.Proofs.YtpphkaolonjjdaaDoor.Dtk
open Go Go.RowKit Go.Proofs.YtpphkaolonjjdaaDoor.Spl Go.Proofs.YtpphkaolonjjdaaDoor.Cpl Go.Proofs.YtpphkaolonjjdaaDoor.Cin Go.Proofs.YtpphkaolonjjdaaDoor.Cops Go.Proofs.YtpphkaolonjjdaaDoor.Dpl Go.Proofs.YtpphkaolonjjdaaDoor.Dft
open Go.Proofs.YtpphkaolonjjdaaDoor.Pure (bs)

theorem text_nil : (bs []).toList = [] := by rw [Lib.toList_data]; rfl
theorem text_not {s : T} (h : s ≠ []) : ¬ (bs s).toList = [] ∧ (bs s).toList.isEmpty = false := by
  have h1 : ¬ (bs s).toList = [] := by rw [Lib.toList_data]; exact h
  exact ⟨h1, by rw [List.isEmpty_eq_false_iff]; exact h1⟩
theorem far_take {b q : Nat} {l : List Int} {j : Nat} {y : Int} (hj : l[j]? = some y) (h : farB b q (l.take j) = false) (h1 : ¬ y ≤ (b : Int)) (h2 : ¬ (q : Int) ≤ y) : farB b q (l.take (j + 1)) = false := by
  unfold farB at h ⊢
  rw [List.take_add_one, hj, List.any_append, h]
  simp [h1, h2]
theorem far_at {b q : Nat} {l : List Int} {j : Nat} {y : Int} (hj : l[j]? = some y) (h : y ≤ (b : Int) ∨ (q : Int) ≤ y) : farB b q l = true := by
  unfold farB
  rw [List.any_eq_true]
  exact ⟨y, List.mem_of_getElem? hj, by simpa using h⟩

set_option maxRecDepth 100000 in
set_option maxHeartbeats 4000000 in
theorem takes_push (b q : Nat) (n : Int) (s : T) (l : List Int) (A : Option Addr) (c : Nat) (S : Nat → Prop) (w : World) (h : NumRow S w A l) (hc : l.length ≤ c) (hl : l.length ≤ 1000000000000000) :
    Calls Tryd.prog 28 #[.agg #[.int .i64 1, .int .i64 n, .string (bs s), .slice A l.length c], .int .i64 (b : Int), .int .i64 (q : Int)] w fun e W' => e = .returned (.int .i64 (takesP b q ⟨1, n, s, l⟩)) ∧ Below w.heap.size w W' := by
  obtain ⟨m, hm⟩ : ∃ m, m = l.length := ⟨_, rfl⟩
  rw [← hm] at hc hl ⊢
  obtain ⟨w1, hw1⟩ : ∃ w1, w.alloc (.cells #[.int .i64 1, .int .i64 n, .string (bs s), .slice A m c] 40) = w1 := ⟨_, rfl⟩
  have hb1 : Below w.heap.size w w1 := by rw [← hw1]; exact (Below.refl _ _).alloc (Nat.le_refl _) _
  have hx1 : w1.heap[w.heap.size]? = some (.cells #[.int .i64 1, .int .i64 n, .string (bs s), .slice A m c] 40) := by rw [← hw1]; exact heap_alloc_new w _
  obtain ⟨a0, a1, a2, a3⟩ := cells_four hx1
  have HW1 := Lib.hid hw1
  have HB1 := Lib.hid hb1
  have HX1 := Lib.hid hx1
  have HH := Lib.hid h
  have HM := Lib.hid hm
  obtain ⟨R, hR⟩ : ∃ R, R = takesP b q ⟨1, n, s, l⟩ := ⟨_, rfl⟩
  rw [← hR]
  clear hw1 hb1 hx1 h hm
  go_enter Tryd.func28, Tryd.ntmps28
  go_upto_region 1 with fail
  rw [HW1.out]
  by_cases hn : n = 0
  · subst hn
    by_cases hl0 : l = []
    · obtain rfl : m = 0 := by rw [HM.out, hl0]; rfl
      have he : R = 0 := by rw [hR]; simp [takesP, badB, hl0]
      have HE := Lib.hid he
      clear he hR HH HM
      go_wp2
      go_ret
      exact ⟨by rw [HE.out]; rfl, HB1.out⟩
    · have hl2 : (0 : Int) < (m : Int) := by have := List.length_pos_iff.2 hl0; have := HM.out; omega
      have he : R = -1 := by rw [hR]; simp [takesP, badB, hl0]
      have HE := Lib.hid he
      clear he hR HH HM
      go_wp2
      go_ret
      exact ⟨by rw [HE.out]; rfl, HB1.out⟩
  · have hn2 : (n == 0) = false := by simpa using hn
    have he : R = -1 := by rw [hR]; simp [takesP, badB, hn]
    have HE := Lib.hid he
    clear he hR HH HM
    go_wp2
    go_ret
    exact ⟨by rw [HE.out]; rfl, HB1.out⟩

set_option maxRecDepth 100000 in
set_option maxHeartbeats 4000000 in
theorem takes_get (b q : Nat) (n : Int) (s : T) (l : List Int) (A : Option Addr) (c : Nat) (S : Nat → Prop) (w : World) (h : NumRow S w A l) (hc : l.length ≤ c) (hl : l.length ≤ 1000000000000000) :
    Calls Tryd.prog 28 #[.agg #[.int .i64 2, .int .i64 n, .string (bs s), .slice A l.length c], .int .i64 (b : Int), .int .i64 (q : Int)] w fun e W' => e = .returned (.int .i64 (takesP b q ⟨2, n, s, l⟩)) ∧ Below w.heap.size w W' := by
  obtain ⟨m, hm⟩ : ∃ m, m = l.length := ⟨_, rfl⟩
  rw [← hm] at hc hl ⊢
  obtain ⟨w1, hw1⟩ : ∃ w1, w.alloc (.cells #[.int .i64 2, .int .i64 n, .string (bs s), .slice A m c] 40) = w1 := ⟨_, rfl⟩
  have hb1 : Below w.heap.size w w1 := by rw [← hw1]; exact (Below.refl _ _).alloc (Nat.le_refl _) _
  have hx1 : w1.heap[w.heap.size]? = some (.cells #[.int .i64 2, .int .i64 n, .string (bs s), .slice A m c] 40) := by rw [← hw1]; exact heap_alloc_new w _
  obtain ⟨a0, a1, a2, a3⟩ := cells_four hx1
  have HW1 := Lib.hid hw1
  have HB1 := Lib.hid hb1
  have HX1 := Lib.hid hx1
  have HH := Lib.hid h
  have HM := Lib.hid hm
  obtain ⟨R, hR⟩ : ∃ R, R = takesP b q ⟨2, n, s, l⟩ := ⟨_, rfl⟩
  rw [← hR]
  clear hw1 hb1 hx1 h hm
  go_enter Tryd.func28, Tryd.ntmps28
  go_upto_region 1 with fail
  rw [HW1.out]
  by_cases hs : s = []
  · subst hs
    have hs0 := text_nil
    by_cases hn : n = 0
    · subst hn
      by_cases hl0 : l = []
      · obtain rfl : m = 0 := by rw [HM.out, hl0]; rfl
        have he : R = 1 := by rw [hR]; simp [takesP, badB, hl0]
        have HE := Lib.hid he
        clear he hR HH HM
        go_wp2
        go_ret
        exact ⟨by rw [HE.out]; rfl, HB1.out⟩
      · have hl2 : (0 : Int) < (m : Int) := by have := List.length_pos_iff.2 hl0; have := HM.out; omega
        have he : R = -1 := by rw [hR]; simp [takesP, badB, hl0]
        have HE := Lib.hid he
        clear he hR HH HM
        go_wp2
        go_ret
        exact ⟨by rw [HE.out]; rfl, HB1.out⟩
    · have hn2 : (n == 0) = false := by simpa using hn
      have he : R = -1 := by rw [hR]; simp [takesP, badB, hn]
      have HE := Lib.hid he
      clear he hR HH HM
      go_wp2
      go_ret
      exact ⟨by rw [HE.out]; rfl, HB1.out⟩
  · obtain ⟨hs2, hs3⟩ := text_not hs
    have he : R = -1 := by rw [hR]; simp [takesP, badB, hs]
    have HE := Lib.hid he
    clear he hR HH HM
    go_wp2
    go_ret
    exact ⟨by rw [HE.out]; rfl, HB1.out⟩

set_option maxRecDepth 100000 in
set_option maxHeartbeats 4000000 in
theorem takes_sub (b q : Nat) (n : Int) (s : T) (l : List Int) (A : Option Addr) (c : Nat) (S : Nat → Prop) (w : World) (h : NumRow S w A l) (hc : l.length ≤ c) (hl : l.length ≤ 1000000000000000) :
    Calls Tryd.prog 28 #[.agg #[.int .i64 3, .int .i64 n, .string (bs s), .slice A l.length c], .int .i64 (b : Int), .int .i64 (q : Int)] w fun e W' => e = .returned (.int .i64 (takesP b q ⟨3, n, s, l⟩)) ∧ Below w.heap.size w W' := by
  obtain ⟨m, hm⟩ : ∃ m, m = l.length := ⟨_, rfl⟩
  rw [← hm] at hc hl ⊢
  obtain ⟨w1, hw1⟩ : ∃ w1, w.alloc (.cells #[.int .i64 3, .int .i64 n, .string (bs s), .slice A m c] 40) = w1 := ⟨_, rfl⟩
  have hb1 : Below w.heap.size w w1 := by rw [← hw1]; exact (Below.refl _ _).alloc (Nat.le_refl _) _
  have hx1 : w1.heap[w.heap.size]? = some (.cells #[.int .i64 3, .int .i64 n, .string (bs s), .slice A m c] 40) := by rw [← hw1]; exact heap_alloc_new w _
  obtain ⟨a0, a1, a2, a3⟩ := cells_four hx1
  have HW1 := Lib.hid hw1
  have HB1 := Lib.hid hb1
  have HX1 := Lib.hid hx1
  have HH := Lib.hid h
  have HM := Lib.hid hm
  obtain ⟨R, hR⟩ : ∃ R, R = takesP b q ⟨3, n, s, l⟩ := ⟨_, rfl⟩
  rw [← hR]
  clear hw1 hb1 hx1 h hm
  go_enter Tryd.func28, Tryd.ntmps28
  go_upto_region 1 with fail
  rw [HW1.out]
  by_cases hs : s = []
  · subst hs
    have hs0 := text_nil
    by_cases hn : n = 0
    · subst hn
      by_cases hl0 : l = []
      · obtain rfl : m = 0 := by rw [HM.out, hl0]; rfl
        have he : R = 3 := by rw [hR]; simp [takesP, badB, hl0]
        have HE := Lib.hid he
        clear he hR HH HM
        go_wp2
        go_ret
        exact ⟨by rw [HE.out]; rfl, HB1.out⟩
      · have hl2 : (0 : Int) < (m : Int) := by have := List.length_pos_iff.2 hl0; have := HM.out; omega
        have he : R = -1 := by rw [hR]; simp [takesP, badB, hl0]
        have HE := Lib.hid he
        clear he hR HH HM
        go_wp2
        go_ret
        exact ⟨by rw [HE.out]; rfl, HB1.out⟩
    · have hn2 : (n == 0) = false := by simpa using hn
      have he : R = -1 := by rw [hR]; simp [takesP, badB, hn]
      have HE := Lib.hid he
      clear he hR HH HM
      go_wp2
      go_ret
      exact ⟨by rw [HE.out]; rfl, HB1.out⟩
  · obtain ⟨hs2, hs3⟩ := text_not hs
    have he : R = -1 := by rw [hR]; simp [takesP, badB, hs]
    have HE := Lib.hid he
    clear he hR HH HM
    go_wp2
    go_ret
    exact ⟨by rw [HE.out]; rfl, HB1.out⟩

set_option maxRecDepth 100000 in
set_option maxHeartbeats 4000000 in
theorem takes_join (b q : Nat) (n : Int) (s : T) (l : List Int) (A : Option Addr) (c : Nat) (S : Nat → Prop) (w : World) (h : NumRow S w A l) (hc : l.length ≤ c) (hl : l.length ≤ 1000000000000000) :
    Calls Tryd.prog 28 #[.agg #[.int .i64 4, .int .i64 n, .string (bs s), .slice A l.length c], .int .i64 (b : Int), .int .i64 (q : Int)] w fun e W' => e = .returned (.int .i64 (takesP b q ⟨4, n, s, l⟩)) ∧ Below w.heap.size w W' := by
  obtain ⟨m, hm⟩ : ∃ m, m = l.length := ⟨_, rfl⟩
  rw [← hm] at hc hl ⊢
  obtain ⟨w1, hw1⟩ : ∃ w1, w.alloc (.cells #[.int .i64 4, .int .i64 n, .string (bs s), .slice A m c] 40) = w1 := ⟨_, rfl⟩
  have hb1 : Below w.heap.size w w1 := by rw [← hw1]; exact (Below.refl _ _).alloc (Nat.le_refl _) _
  have hx1 : w1.heap[w.heap.size]? = some (.cells #[.int .i64 4, .int .i64 n, .string (bs s), .slice A m c] 40) := by rw [← hw1]; exact heap_alloc_new w _
  obtain ⟨a0, a1, a2, a3⟩ := cells_four hx1
  have HW1 := Lib.hid hw1
  have HB1 := Lib.hid hb1
  have HX1 := Lib.hid hx1
  have HH := Lib.hid h
  have HM := Lib.hid hm
  obtain ⟨R, hR⟩ : ∃ R, R = takesP b q ⟨4, n, s, l⟩ := ⟨_, rfl⟩
  rw [← hR]
  clear hw1 hb1 hx1 h hm
  go_enter Tryd.func28, Tryd.ntmps28
  go_upto_region 1 with fail
  rw [HW1.out]
  by_cases hs : s = []
  · subst hs
    have hs0 := text_nil
    by_cases hl0 : l = []
    · obtain rfl : m = 0 := by rw [HM.out, hl0]; rfl
      have he : R = n := by rw [hR]; simp [takesP, badB, hl0]
      have HE := Lib.hid he
      clear he hR HH HM
      go_wp2
      go_ret
      exact ⟨by rw [HE.out]; rfl, HB1.out⟩
    · have hl2 : (0 : Int) < (m : Int) := by have := List.length_pos_iff.2 hl0; have := HM.out; omega
      have he : R = -1 := by rw [hR]; simp [takesP, badB, hl0]
      have HE := Lib.hid he
      clear he hR HH HM
      go_wp2
      go_ret
      exact ⟨by rw [HE.out]; rfl, HB1.out⟩
  · obtain ⟨hs2, hs3⟩ := text_not hs
    have he : R = -1 := by rw [hR]; simp [takesP, badB, hs]
    have HE := Lib.hid he
    clear he hR HH HM
    go_wp2
    go_ret
    exact ⟨by rw [HE.out]; rfl, HB1.out⟩

set_option maxRecDepth 100000 in
set_option maxHeartbeats 4000000 in
theorem takes_other (b q : Nat) (k n : Int) (s : T) (l : List Int) (A : Option Addr) (c : Nat) (S : Nat → Prop) (w : World) (h : NumRow S w A l) (hc : l.length ≤ c) (hl : l.length ≤ 1000000000000000) (k1 : k ≠ 1) (k2 : k ≠ 2) (k3 : k ≠ 3) (k4 : k ≠ 4) (k5 : k ≠ 5) (k6 : k ≠ 6) :
    Calls Tryd.prog 28 #[.agg #[.int .i64 k, .int .i64 n, .string (bs s), .slice A l.length c], .int .i64 (b : Int), .int .i64 (q : Int)] w fun e W' => e = .returned (.int .i64 (takesP b q ⟨k, n, s, l⟩)) ∧ Below w.heap.size w W' := by
  obtain ⟨m, hm⟩ : ∃ m, m = l.length := ⟨_, rfl⟩
  rw [← hm] at hc hl ⊢
  obtain ⟨w1, hw1⟩ : ∃ w1, w.alloc (.cells #[.int .i64 k, .int .i64 n, .string (bs s), .slice A m c] 40) = w1 := ⟨_, rfl⟩
  have hb1 : Below w.heap.size w w1 := by rw [← hw1]; exact (Below.refl _ _).alloc (Nat.le_refl _) _
  have hx1 : w1.heap[w.heap.size]? = some (.cells #[.int .i64 k, .int .i64 n, .string (bs s), .slice A m c] 40) := by rw [← hw1]; exact heap_alloc_new w _
  obtain ⟨a0, a1, a2, a3⟩ := cells_four hx1
  have HW1 := Lib.hid hw1
  have HB1 := Lib.hid hb1
  have HX1 := Lib.hid hx1
  have HH := Lib.hid h
  have HM := Lib.hid hm
  obtain ⟨R, hR⟩ : ∃ R, R = takesP b q ⟨k, n, s, l⟩ := ⟨_, rfl⟩
  rw [← hR]
  clear hw1 hb1 hx1 h hm
  go_enter Tryd.func28, Tryd.ntmps28
  go_upto_region 1 with fail
  rw [HW1.out]
  have e1 : (k == 1) = false := by simpa using k1
  have e2 : (k == 2) = false := by simpa using k2
  have e3 : (k == 3) = false := by simpa using k3
  have e4 : (k == 4) = false := by simpa using k4
  have e5 : (k == 5) = false := by simpa using k5
  have e6 : (k == 6) = false := by simpa using k6
  have f1 : (k != 1) = true := by simpa using k1
  have f4 : (k != 4) = true := by simpa using k4
  have f5 : (k != 5) = true := by simpa using k5
  have f6 : (k != 6) = true := by simpa using k6
  by_cases hs : s = []
  · subst hs
    have hs0 := text_nil
    by_cases hn : n = 0
    · subst hn
      by_cases hl0 : l = []
      · obtain rfl : m = 0 := by rw [HM.out, hl0]; rfl
        have he : R = -1 := by rw [hR]; simp [takesP, badB, hl0, k1, k2, k3, k4, k5, k6]
        have HE := Lib.hid he
        clear he hR HH HM
        go_wp2
        go_ret
        exact ⟨by rw [HE.out]; rfl, HB1.out⟩
      · have hl2 : (0 : Int) < (m : Int) := by have := List.length_pos_iff.2 hl0; have := HM.out; omega
        have he : R = -1 := by rw [hR]; simp [takesP, badB, hl0, k1, k4, k5, k6]
        have HE := Lib.hid he
        clear he hR HH HM
        go_wp2
        go_ret
        exact ⟨by rw [HE.out]; rfl, HB1.out⟩
    · have hn2 : (n == 0) = false := by simpa using hn
      have he : R = -1 := by rw [hR]; simp [takesP, badB, hn, k1, k4, k5, k6]
      have HE := Lib.hid he
      clear he hR HH HM
      go_wp2
      go_ret
      exact ⟨by rw [HE.out]; rfl, HB1.out⟩
  · obtain ⟨hs2, hs3⟩ := text_not hs
    have he : R = -1 := by rw [hR]; simp [takesP, badB, hs, k1, k4, k5, k6]
    have HE := Lib.hid he
    clear he hR HH HM
    go_wp2
    go_ret
    exact ⟨by rw [HE.out]; rfl, HB1.out⟩

set_option maxRecDepth 100000 in
set_option maxHeartbeats 4000000 in
theorem takes_do (b q : Nat) (n : Int) (s : T) (l : List Int) (A : Option Addr) (c : Nat) (S : Nat → Prop) (w : World) (h : NumRow S w A l) (hc : l.length ≤ c) (hl : l.length ≤ 1000000000000000) :
    Calls Tryd.prog 28 #[.agg #[.int .i64 5, .int .i64 n, .string (bs s), .slice A l.length c], .int .i64 (b : Int), .int .i64 (q : Int)] w fun e W' => e = .returned (.int .i64 (takesP b q ⟨5, n, s, l⟩)) ∧ Below w.heap.size w W' := by
  obtain ⟨m, hm⟩ : ∃ m, m = l.length := ⟨_, rfl⟩
  rw [← hm] at hc hl ⊢
  obtain ⟨w1, hw1⟩ : ∃ w1, w.alloc (.cells #[.int .i64 5, .int .i64 n, .string (bs s), .slice A m c] 40) = w1 := ⟨_, rfl⟩
  have hb1 : Below w.heap.size w w1 := by rw [← hw1]; exact (Below.refl _ _).alloc (Nat.le_refl _) _
  have hx1 : w1.heap[w.heap.size]? = some (.cells #[.int .i64 5, .int .i64 n, .string (bs s), .slice A m c] 40) := by rw [← hw1]; exact heap_alloc_new w _
  obtain ⟨a0, a1, a2, a3⟩ := cells_four hx1
  have HW1 := Lib.hid hw1
  have HB1 := Lib.hid hb1
  have HX1 := Lib.hid hx1
  have HH := Lib.hid h
  have HM := Lib.hid hm
  obtain ⟨R, hR⟩ : ∃ R, R = takesP b q ⟨5, n, s, l⟩ := ⟨_, rfl⟩
  rw [← hR]
  clear hw1 hb1 hx1 h hm
  go_enter Tryd.func28, Tryd.ntmps28
  go_upto_region 1 with fail
  rw [HW1.out]
  by_cases hl0 : l = []
  · obtain rfl : m = 0 := by rw [HM.out, hl0]; rfl
    have HF := Lib.hid (fits_is s n false)
    have he : R = if fitsB s n false = true then n else -1 := by rw [hR]; simp [takesP, badB, hl0]
    have HE := Lib.hid he
    clear he hR HH HM
    have hz := (Array.getElem?_eq_some_iff.1 HX1.out).1
    cases hf : fitsB s n false
    · rw [hf] at HF HE
      go_wp2_with (go_at_call 39; refine (HF.out _).mono ?_; rintro e w2 ⟨rfl, hb2⟩; have HB2 := Lib.hid (HB1.out.trans (hb2.mono HB1.out.size)); obtain ⟨c0, c1, c2, c3⟩ := cells_four ((hb2.block _ hz).trans HX1.out); clear hb2)
      go_ret
      exact ⟨by rw [HE.out]; rfl, HB2.out⟩
    · rw [hf] at HF HE
      go_wp2_with (go_at_call 39; refine (HF.out _).mono ?_; rintro e w2 ⟨rfl, hb2⟩; have HB2 := Lib.hid (HB1.out.trans (hb2.mono HB1.out.size)); obtain ⟨c0, c1, c2, c3⟩ := cells_four ((hb2.block _ hz).trans HX1.out); clear hb2)
      go_ret
      exact ⟨by rw [HE.out]; rfl, HB2.out⟩
  · have hl2 : (0 : Int) < (m : Int) := by have := List.length_pos_iff.2 hl0; have := HM.out; omega
    have he : R = -1 := by rw [hR]; simp [takesP, badB, hl0]
    have HE := Lib.hid he
    clear he hR HH HM
    go_wp2
    go_ret
    exact ⟨by rw [HE.out]; rfl, HB1.out⟩

set_option maxRecDepth 100000 in
set_option maxHeartbeats 4000000 in
theorem takes_lazy (b q : Nat) (n : Int) (s : T) (l : List Int) (A : Option Addr) (c : Nat) (S : Nat → Prop) (w : World) (h : NumRow S w A l) (_hc : l.length ≤ c) (hl : l.length ≤ 1000000000000000) :
    Calls Tryd.prog 28 #[.agg #[.int .i64 6, .int .i64 n, .string (bs s), .slice A l.length c], .int .i64 (b : Int), .int .i64 (q : Int)] w fun e W' => e = .returned (.int .i64 (takesP b q ⟨6, n, s, l⟩)) ∧ Below w.heap.size w W' := by
  obtain ⟨m, hm⟩ : ∃ m, m = l.length := ⟨_, rfl⟩
  rw [← hm] at hl ⊢
  obtain ⟨w1, hw1⟩ : ∃ w1, w.alloc (.cells #[.int .i64 6, .int .i64 n, .string (bs s), .slice A m c] 40) = w1 := ⟨_, rfl⟩
  have hb1 : Below w.heap.size w w1 := by rw [← hw1]; exact (Below.refl _ _).alloc (Nat.le_refl _) _
  have hx1 : w1.heap[w.heap.size]? = some (.cells #[.int .i64 6, .int .i64 n, .string (bs s), .slice A m c] 40) := by rw [← hw1]; exact heap_alloc_new w _
  obtain ⟨a0, a1, a2, a3⟩ := cells_four hx1
  have HW1 := Lib.hid hw1
  have HB1 := Lib.hid hb1
  have HX1 := Lib.hid hx1
  have HH := Lib.hid h
  have HM := Lib.hid hm
  obtain ⟨R, hR⟩ : ∃ R, R = takesP b q ⟨6, n, s, l⟩ := ⟨_, rfl⟩
  rw [← hR]
  clear hw1 hb1 hx1 h hm
  go_enter Tryd.func28, Tryd.ntmps28
  go_upto_region 1 with fail
  rw [HW1.out]
  by_cases hn : n = 0
  · subst hn
    have HF := Lib.hid (fits_is s (m : Int) true)
    have he : R = if farB b q l = true then -1 else if fitsB s (m : Int) true = true then 0 else -1 := by rw [hR, HM.out]; simp [takesP, badB]
    have HE := Lib.hid he
    clear he hR
    go_upto_region 17 with fail
    go_loopw [7] (fun i wr => ∃ j : Nat, j ≤ m ∧ i = .int .i64 (j : Int) ∧ Hid (Below w1.heap.size w1 wr) ∧ Hid (farB b q (l.take j) = false)) (fun i _ => m - (intOf i).toNat)
    case atStart => exact ⟨0, Nat.zero_le _, rfl, Below.refl _ _, rfl⟩
    case round =>
      obtain ⟨j, hj, rfl, HB, HT⟩ := hrel
      have hz := (Array.getElem?_eq_some_iff.1 HX1.out).1
      have hxr := (HB.out.block w.heap.size hz).trans HX1.out
      clear a0 a1 a2 a3
      obtain ⟨a0, a1, a2, a3⟩ := cells_four hxr
      have HBr : Hid (Below w.heap.size w wr) := HB1.out.trans (HB.out.mono HB1.out.size)
      clear hxr
      by_cases hlt : j < m
      · obtain ⟨y, hy⟩ : ∃ y, l[j]? = some y := ⟨_, List.getElem?_eq_getElem (by have := HM.out; omega)⟩
        have hjm : (j : Int) < (m : Int) := by omega
        obtain ⟨bb, oo, rfl, hd⟩ := (NumRow.move (S' := S) (fun b hS hl => ⟨hS, HBr.out.block b hl⟩) HBr.out.size HH.out).get hy
        have HY := Lib.hid hy
        clear hy
        by_cases h1 : y ≤ (b : Int)
        · skip
          have HE2 : Hid (R = -1) := by have hE := HE.out; rw [if_pos (far_at HY.out (.inl h1))] at hE; exact hE
          go_wp2
          go_ret
          exact ⟨by rw [HE2.out]; rfl, HBr.out⟩
        · by_cases h2 : (q : Int) ≤ y
          · skip
            have HE2 : Hid (R = -1) := by have hE := HE.out; rw [if_pos (far_at HY.out (.inr h2))] at hE; exact hE
            go_wp2
            go_ret
            exact ⟨by rw [HE2.out]; rfl, HBr.out⟩
          · have HT2 := Lib.hid (far_take HY.out HT.out h1 h2)
            go_wp2
            go_roundw
            case rel => exact ⟨j + 1, hlt, by go_num, HB, HT2⟩
            case measure => simp [intOf]; omega
      · obtain rfl : m = j := by omega
        have hfar := HT.out
        rw [show l.take m = l by rw [HM.out]; exact List.take_length] at hfar
        have he := HE.out
        rw [hfar, if_neg (by decide)] at he
        have HE2 := Lib.hid he
        clear he hfar
        cases hf : fitsB s (m : Int) true
        · rw [hf] at HF HE2
          go_wp2_with (go_at_call 39; refine (HF.out _).mono ?_; rintro e w2 ⟨rfl, hb2⟩; have HB2 := Lib.hid (HBr.out.trans (hb2.mono HBr.out.size)); clear hb2)
          go_ret
          exact ⟨by rw [HE2.out]; rfl, HB2.out⟩
        · rw [hf] at HF HE2
          go_wp2_with (go_at_call 39; refine (HF.out _).mono ?_; rintro e w2 ⟨rfl, hb2⟩; have HB2 := Lib.hid (HBr.out.trans (hb2.mono HBr.out.size)); clear hb2)
          go_ret
          exact ⟨by rw [HE2.out]; rfl, HB2.out⟩
  · have hn2 : (n == 0) = false := by simpa using hn
    have he : R = -1 := by rw [hR]; simp [takesP, badB, hn]
    have HE := Lib.hid he
    clear he hR HH HM
    go_wp2
    go_ret
    exact ⟨by rw [HE.out]; rfl, HB1.out⟩

theorem takes_is (b q : Nat) (o : Opp) (A : Option Addr) (c : Nat) (S : Nat → Prop) (w : World) (h : NumRow S w A o.l) (hc : o.l.length ≤ c) (hl : o.l.length ≤ 1000000000000000) :
    Calls Tryd.prog 28 #[.agg #[.int .i64 o.k, .int .i64 o.n, .string (bs o.s), .slice A o.l.length c], .int .i64 (b : Int), .int .i64 (q : Int)] w fun e W' => e = .returned (.int .i64 (takesP b q o)) ∧ Below w.heap.size w W' := by
  obtain ⟨k, n, s, l⟩ := o
  by_cases k1 : k = 1
  · subst k1; exact takes_push b q n s l A c S w h hc hl
  by_cases k2 : k = 2
  · subst k2; exact takes_get b q n s l A c S w h hc hl
  by_cases k3 : k = 3
  · subst k3; exact takes_sub b q n s l A c S w h hc hl
  by_cases k4 : k = 4
  · subst k4; exact takes_join b q n s l A c S w h hc hl
  by_cases k5 : k = 5
  · subst k5; exact takes_do b q n s l A c S w h hc hl
  by_cases k6 : k = 6
  · subst k6; exact takes_lazy b q n s l A c S w h hc hl
  exact takes_other b q k n s l A c S w h hc hl k1 k2 k3 k4 k5 k6

end Go.Proofs.YtpphkaolonjjdaaDoor.Dtk
