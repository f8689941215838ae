/- The document's fits: may a function have so many arguments? -/
import Derived.StillTailTactics
import Derived.Test.YtpphkaolonjjdaaDoorFrsJ
import Derived.Test.YtpphkaolonjjdaaDoorCopsJ
import Derived.Test.YtpphkaolonjjdaaDoorCplJ
namespace Go.Proofs.YtpphkaolonjjdaaDoor.Dft
open Go Go.RowKit Go.Proofs.YtpphkaolonjjdaaDoor.Spl Go.Proofs.YtpphkaolonjjdaaDoor.Cpl Go.Proofs.YtpphkaolonjjdaaDoor.Cin Go.Proofs.YtpphkaolonjjdaaDoor.Cops Go.Proofs.YtpphkaolonjjdaaDoor.Dpl
open Go.Proofs.YtpphkaolonjjdaaDoor.Pure (bs)

theorem cells_four {W : World} {H : Nat} {x y z u : Value} {ty : TypeId} (h : W.heap[H]? = some (.cells #[x, y, z, u] ty)) : W.cell? ⟨H, 0, none⟩ = some x ∧ W.cell? ⟨H, 1, none⟩ = some y ∧ W.cell? ⟨H, 2, none⟩ = some z ∧ W.cell? ⟨H, 3, none⟩ = some u :=
  ⟨by rw [Lib.cell_of_heap h]; rfl, by rw [Lib.cell_of_heap h]; rfl, by rw [Lib.cell_of_heap h]; rfl, by rw [Lib.cell_of_heap h]; rfl⟩
theorem find_fit (s : T) (n : Int) (lz : Bool) (W : World) : Calls Tryd.prog 35 #[.string (bs s)] W fun e W' => ∃ mn mx l pu ok, e = .returned (.tuple #[.agg #[.int .i64 mn, .int .i64 mx, .bool l, .bool pu], .bool ok]) ∧ Below W.heap.size W W' ∧ fitsB s n lz = (ok && ((l == lz) && (decide (mn ≤ n) && (decide (mx = 0) || decide (n ≤ mx))))) := by
  have h1 := Frd.refFind_is (bs s) W
  unfold Frd.refV Frd.infV at h1
  have e0 : (bs s).data.toList = s := by simp [bs]
  rw [e0, Frd.refI_eq] at h1
  refine h1.mono fun e W' ⟨h2, h3⟩ => ⟨_, _, _, _, _, h2, h3, ?_⟩
  unfold fitsB
  cases h : Fpl.lookI Fpl.tab s with
  | none => rfl
  | some i => rfl

set_option maxRecDepth 100000 in
set_option maxHeartbeats 4000000 in
theorem fits_is (s : T) (n : Int) (lz : Bool) (w : World) :
    Calls Tryd.prog 39 #[.string (bs s), .int .i64 n, .bool lz] w fun e W' => e = .returned (.bool (fitsB s n lz)) ∧ Below w.heap.size w W' := by
  have HF := Lib.hid (find_fit s n lz)
  obtain ⟨R, hR⟩ : ∃ R, R = fitsB s n lz := ⟨_, rfl⟩
  rw [← hR] at HF ⊢
  clear hR
  go_enter Tryd.func39, Tryd.ntmps39
  go_upto_region 2 with (go_at_call 35; refine (HF.out _).mono ?_; rintro e w2 ⟨mn, mx, l, pu, ok, rfl, hb2, hr⟩; have HB2 := Lib.hid hb2; have HR := Lib.hid hr; clear hb2 hr)
  obtain ⟨w3, hw3⟩ : ∃ w3, w2.alloc (.cells #[.int .i64 mn, .int .i64 mx, .bool l, .bool pu] 73) = w3 := ⟨_, rfl⟩
  rw [hw3]
  have HB3 : Hid (Below w.heap.size w w3) := by rw [← hw3]; exact HB2.out.alloc HB2.out.size _
  have hx3 : w3.heap[w2.heap.size]? = some (.cells #[.int .i64 mn, .int .i64 mx, .bool l, .bool pu] 73) := by rw [← hw3]; exact heap_alloc_new w2 _
  obtain ⟨f0, f1, f2, f3⟩ := cells_four hx3
  clear hw3 hx3
  have hr := HR.out
  cases ok
  · have HE : Hid (R = false) := hr
    clear hr
    go_wp2
    go_ret
    exact ⟨by rw [HE.out]; rfl, HB3.out⟩
  · by_cases hl : l = lz
    · subst hl
      by_cases h1 : mn ≤ n
      · by_cases h2 : mx = 0
        · subst h2
          have he : R = true := by rw [hr]; simp [h1]
          have HE := Lib.hid he
          clear he
          clear hr
          go_wp2
          go_ret
          exact ⟨by rw [HE.out]; rfl, HB3.out⟩
        · have h2b : (mx == 0) = false := by simpa using h2
          by_cases h3 : n ≤ mx
          · have he : R = true := by rw [hr]; simp [h1, h3]
            have HE := Lib.hid he
            clear he
            clear hr
            go_wp2
            go_ret
            exact ⟨by rw [HE.out]; rfl, HB3.out⟩
          · have he : R = false := by rw [hr]; simp [h2, h3]
            have HE := Lib.hid he
            clear he
            clear hr
            go_wp2
            go_ret
            exact ⟨by rw [HE.out]; rfl, HB3.out⟩
      · have he : R = false := by rw [hr]; simp [h1]
        have HE := Lib.hid he
        clear he
        clear hr
        go_wp2
        go_ret
        exact ⟨by rw [HE.out]; rfl, HB3.out⟩
    · have he : R = false := by rw [hr]; simp [hl]
      have HE := Lib.hid he
      clear he
      have hll : (l == lz) = false := by simpa using hl
      clear hr
      go_wp2
      go_ret
      exact ⟨by rw [HE.out]; rfl, HB3.out⟩

end Go.Proofs.YtpphkaolonjjdaaDoor.Dft

/- The document's takes: how many an instruction takes (written by wip/tools/mktakes.py). -/
namespace Go.Proofs.YtpphkaolonjjdaaDoor.Dtk
open Go Go.RowKit Go.Proofs.YtpphkaolonjjdaaDoor.Spl Go.Proofs.YtpphkaolonjjdaaDoor.Cpl Go.Proofs.YtpphkaolonjjdaaDoor.Cin Go.Proofs.YtpphkaolonjjdaaDoor.Cops Go.Proofs.YtpphkaolonjjdaaDoor.Dpl Go.Proofs.YtpphkaolonjjdaaDoor.Dft
open Go.Proofs.YtpphkaolonjjdaaDoor.Pure (bs)

theorem text_nil : (bs []).toList = [] := by rw [Lib.toList_data]; rfl
theorem text_not {s : T} (h : s ≠ []) : ¬ (bs s).toList = [] ∧ (bs s).toList.isEmpty = false := by
  have h1 : ¬ (bs s).toList = [] := by rw [Lib.toList_data]; exact h
  exact ⟨h1, by rw [List.isEmpty_eq_false_iff]; exact h1⟩
theorem far_take {b q : Nat} {l : List Int} {j : Nat} {y : Int} (hj : l[j]? = some y) (h : farB b q (l.take j) = false) (h1 : ¬ y ≤ (b : Int)) (h2 : ¬ (q : Int) ≤ y) : farB b q (l.take (j + 1)) = false := by
  unfold farB at h ⊢
  rw [List.take_add_one, hj, List.any_append, h]
  simp [h1, h2]
theorem far_at {b q : Nat} {l : List Int} {j : Nat} {y : Int} (hj : l[j]? = some y) (h : y ≤ (b : Int) ∨ (q : Int) ≤ y) : farB b q l = true := by
  unfold farB
  rw [List.any_eq_true]
  exact ⟨y, List.mem_of_getElem? hj, by simpa using h⟩

set_option maxRecDepth 100000 in
set_option maxHeartbeats 4000000 in
theorem takes_push (b q : Nat) (n : Int) (s : T) (l : List Int) (A : Option Addr) (c : Nat) (S : Nat → Prop) (w : World) (h : NumRow S w A l) (hc : l.length ≤ c) (hl : l.length ≤ 1000000000000000) :
    Calls Tryd.prog 28 #[.agg #[.int .i64 1, .int .i64 n, .string (bs s), .slice A l.length c], .int .i64 (b : Int), .int .i64 (q : Int)] w fun e W' => e = .returned (.int .i64 (takesP b q ⟨1, n, s, l⟩)) ∧ Below w.heap.size w W' := by
  obtain ⟨m, hm⟩ : ∃ m, m = l.length := ⟨_, rfl⟩
  rw [← hm] at hc hl ⊢
  obtain ⟨w1, hw1⟩ : ∃ w1, w.alloc (.cells #[.int .i64 1, .int .i64 n, .string (bs s), .slice A m c] 40) = w1 := ⟨_, rfl⟩
  have hb1 : Below w.heap.size w w1 := by rw [← hw1]; exact (Below.refl _ _).alloc (Nat.le_refl _) _
  have hx1 : w1.heap[w.heap.size]? = some (.cells #[.int .i64 1, .int .i64 n, .string (bs s), .slice A m c] 40) := by rw [← hw1]; exact heap_alloc_new w _
  obtain ⟨a0, a1, a2, a3⟩ := cells_four hx1
  have HW1 := Lib.hid hw1
  have HB1 := Lib.hid hb1
  have HX1 := Lib.hid hx1
  have HH := Lib.hid h
  have HM := Lib.hid hm
  obtain ⟨R, hR⟩ : ∃ R, R = takesP b q ⟨1, n, s, l⟩ := ⟨_, rfl⟩
  rw [← hR]
  clear hw1 hb1 hx1 h hm
  go_enter Tryd.func28, Tryd.ntmps28
  go_upto_region 1 with fail
  rw [HW1.out]
  by_cases hn : n = 0
  · subst hn
    by_cases hl0 : l = []
    · obtain rfl : m = 0 := by rw [HM.out, hl0]; rfl
      have he : R = 0 := by rw [hR]; simp [takesP, badB, hl0]
      have HE := Lib.hid he
      clear he hR HH HM
      go_wp2
      go_ret
      exact ⟨by rw [HE.out]; rfl, HB1.out⟩
    · have hl2 : (0 : Int) < (m : Int) := by have := List.length_pos_iff.2 hl0; have := HM.out; omega
      have he : R = -1 := by rw [hR]; simp [takesP, badB, hl0]
      have HE := Lib.hid he
      clear he hR HH HM
      go_wp2
      go_ret
      exact ⟨by rw [HE.out]; rfl, HB1.out⟩
  · have hn2 : (n == 0) = false := by simpa using hn
    have he : R = -1 := by rw [hR]; simp [takesP, badB, hn]
    have HE := Lib.hid he
    clear he hR HH HM
    go_wp2
    go_ret
    exact ⟨by rw [HE.out]; rfl, HB1.out⟩

set_option maxRecDepth 100000 in
set_option maxHeartbeats 4000000 in
theorem takes_get (b q : Nat) (n : Int) (s : T) (l : List Int) (A : Option Addr) (c : Nat) (S : Nat → Prop) (w : World) (h : NumRow S w A l) (hc : l.length ≤ c) (hl : l.length ≤ 1000000000000000) :
    Calls Tryd.prog 28 #[.agg #[.int .i64 2, .int .i64 n, .string (bs s), .slice A l.length c], .int .i64 (b : Int), .int .i64 (q : Int)] w fun e W' => e = .returned (.int .i64 (takesP b q ⟨2, n, s, l⟩)) ∧ Below w.heap.size w W' := by
  obtain ⟨m, hm⟩ : ∃ m, m = l.length := ⟨_, rfl⟩
  rw [← hm] at hc hl ⊢
  obtain ⟨w1, hw1⟩ : ∃ w1, w.alloc (.cells #[.int .i64 2, .int .i64 n, .string (bs s), .slice A m c] 40) = w1 := ⟨_, rfl⟩
  have hb1 : Below w.heap.size w w1 := by rw [← hw1]; exact (Below.refl _ _).alloc (Nat.le_refl _) _
  have hx1 : w1.heap[w.heap.size]? = some (.cells #[.int .i64 2, .int .i64 n, .string (bs s), .slice A m c] 40) := by rw [← hw1]; exact heap_alloc_new w _
  obtain ⟨a0, a1, a2, a3⟩ := cells_four hx1
  have HW1 := Lib.hid hw1
  have HB1 := Lib.hid hb1
  have HX1 := Lib.hid hx1
  have HH := Lib.hid h
  have HM := Lib.hid hm
  obtain ⟨R, hR⟩ : ∃ R, R = takesP b q ⟨2, n, s, l⟩ := ⟨_, rfl⟩
  rw [← hR]
  clear hw1 hb1 hx1 h hm
  go_enter Tryd.func28, Tryd.ntmps28
  go_upto_region 1 with fail
  rw [HW1.out]
  by_cases hs : s = []
  · subst hs
    have hs0 := text_nil
    by_cases hn : n = 0
    · subst hn
      by_cases hl0 : l = []
      · obtain rfl : m = 0 := by rw [HM.out, hl0]; rfl
        have he : R = 1 := by rw [hR]; simp [takesP, badB, hl0]
        have HE := Lib.hid he
        clear he hR HH HM
        go_wp2
        go_ret
        exact ⟨by rw [HE.out]; rfl, HB1.out⟩
      · have hl2 : (0 : Int) < (m : Int) := by have := List.length_pos_iff.2 hl0; have := HM.out; omega
        have he : R = -1 := by rw [hR]; simp [takesP, badB, hl0]
        have HE := Lib.hid he
        clear he hR HH HM
        go_wp2
        go_ret
        exact ⟨by rw [HE.out]; rfl, HB1.out⟩
    · have hn2 : (n == 0) = false := by simpa using hn
      have he : R = -1 := by rw [hR]; simp [takesP, badB, hn]
      have HE := Lib.hid he
      clear he hR HH HM
      go_wp2
      go_ret
      exact ⟨by rw [HE.out]; rfl, HB1.out⟩
  · obtain ⟨hs2, hs3⟩ := text_not hs
    have he : R = -1 := by rw [hR]; simp [takesP, badB, hs]
    have HE := Lib.hid he
    clear he hR HH HM
    go_wp2
    go_ret
    exact ⟨by rw [HE.out]; rfl, HB1.out⟩

set_option maxRecDepth 100000 in
set_option maxHeartbeats 4000000 in
theorem takes_sub (b q : Nat) (n : Int) (s : T) (l : List Int) (A : Option Addr) (c : Nat) (S : Nat → Prop) (w : World) (h : NumRow S w A l) (hc : l.length ≤ c) (hl : l.length ≤ 1000000000000000) :
    Calls Tryd.prog 28 #[.agg #[.int .i64 3, .int .i64 n, .string (bs s), .slice A l.length c], .int .i64 (b : Int), .int .i64 (q : Int)] w fun e W' => e = .returned (.int .i64 (takesP b q ⟨3, n, s, l⟩)) ∧ Below w.heap.size w W' := by
  obtain ⟨m, hm⟩ : ∃ m, m = l.length := ⟨_, rfl⟩
  rw [← hm] at hc hl ⊢
  obtain ⟨w1, hw1⟩ : ∃ w1, w.alloc (.cells #[.int .i64 3, .int .i64 n, .string (bs s), .slice A m c] 40) = w1 := ⟨_, rfl⟩
  have hb1 : Below w.heap.size w w1 := by rw [← hw1]; exact (Below.refl _ _).alloc (Nat.le_refl _) _
  have hx1 : w1.heap[w.heap.size]? = some (.cells #[.int .i64 3, .int .i64 n, .string (bs s), .slice A m c] 40) := by rw [← hw1]; exact heap_alloc_new w _
  obtain ⟨a0, a1, a2, a3⟩ := cells_four hx1
  have HW1 := Lib.hid hw1
  have HB1 := Lib.hid hb1
  have HX1 := Lib.hid hx1
  have HH := Lib.hid h
  have HM := Lib.hid hm
  obtain ⟨R, hR⟩ : ∃ R, R = takesP b q ⟨3, n, s, l⟩ := ⟨_, rfl⟩
  rw [← hR]
  clear hw1 hb1 hx1 h hm
  go_enter Tryd.func28, Tryd.ntmps28
  go_upto_region 1 with fail
  rw [HW1.out]
  by_cases hs : s = []
  · subst hs
    have hs0 := text_nil
    by_cases hn : n = 0
    · subst hn
      by_cases hl0 : l = []
      · obtain rfl : m = 0 := by rw [HM.out, hl0]; rfl
        have he : R = 3 := by rw [hR]; simp [takesP, badB, hl0]
        have HE := Lib.hid he
        clear he hR HH HM
        go_wp2
        go_ret
        exact ⟨by rw [HE.out]; rfl, HB1.out⟩
      · have hl2 : (0 : Int) < (m : Int) := by have := List.length_pos_iff.2 hl0; have := HM.out; omega
        have he : R = -1 := by rw [hR]; simp [takesP, badB, hl0]
        have HE := Lib.hid he
        clear he hR HH HM
        go_wp2
        go_ret
        exact ⟨by rw [HE.out]; rfl, HB1.out⟩
    · have hn2 : (n == 0) = false := by simpa using hn
      have he : R = -1 := by rw [hR]; simp [takesP, badB, hn]
      have HE := Lib.hid he
      clear he hR HH HM
      go_wp2
      go_ret
      exact ⟨by rw [HE.out]; rfl, HB1.out⟩
  · obtain ⟨hs2, hs3⟩ := text_not hs
    have he : R = -1 := by rw [hR]; simp [takesP, badB, hs]
    have HE := Lib.hid he
    clear he hR HH HM
    go_wp2
    go_ret
    exact ⟨by rw [HE.out]; rfl, HB1.out⟩

set_option maxRecDepth 100000 in
set_option maxHeartbeats 4000000 in
theorem takes_join (b q : Nat) (n : Int) (s : T) (l : List Int) (A : Option Addr) (c : Nat) (S : Nat → Prop) (w : World) (h : NumRow S w A l) (hc : l.length ≤ c) (hl : l.length ≤ 1000000000000000) :
    Calls Tryd.prog 28 #[.agg #[.int .i64 4, .int .i64 n, .string (bs s), .slice A l.length c], .int .i64 (b : Int), .int .i64 (q : Int)] w fun e W' => e = .returned (.int .i64 (takesP b q ⟨4, n, s, l⟩)) ∧ Below w.heap.size w W' := by
  obtain ⟨m, hm⟩ : ∃ m, m = l.length := ⟨_, rfl⟩
  rw [← hm] at hc hl ⊢
  obtain ⟨w1, hw1⟩ : ∃ w1, w.alloc (.cells #[.int .i64 4, .int .i64 n, .string (bs s), .slice A m c] 40) = w1 := ⟨_, rfl⟩
  have hb1 : Below w.heap.size w w1 := by rw [← hw1]; exact (Below.refl _ _).alloc (Nat.le_refl _) _
  have hx1 : w1.heap[w.heap.size]? = some (.cells #[.int .i64 4, .int .i64 n, .string (bs s), .slice A m c] 40) := by rw [← hw1]; exact heap_alloc_new w _
  obtain ⟨a0, a1, a2, a3⟩ := cells_four hx1
  have HW1 := Lib.hid hw1
  have HB1 := Lib.hid hb1
  have HX1 := Lib.hid hx1
  have HH := Lib.hid h
  have HM := Lib.hid hm
  obtain ⟨R, hR⟩ : ∃ R, R = takesP b q ⟨4, n, s, l⟩ := ⟨_, rfl⟩
  rw [← hR]
  clear hw1 hb1 hx1 h hm
  go_enter Tryd.func28, Tryd.ntmps28
  go_upto_region 1 with fail
  rw [HW1.out]
  by_cases hs : s = []
  · subst hs
    have hs0 := text_nil
    by_cases hl0 : l = []
    · obtain rfl : m = 0 := by rw [HM.out, hl0]; rfl
      have he : R = n := by rw [hR]; simp [takesP, badB, hl0]
      have HE := Lib.hid he
      clear he hR HH HM
      go_wp2
      go_ret
      exact ⟨by rw [HE.out]; rfl, HB1.out⟩
    · have hl2 : (0 : Int) < (m : Int) := by have := List.length_pos_iff.2 hl0; have := HM.out; omega
      have he : R = -1 := by rw [hR]; simp [takesP, badB, hl0]
      have HE := Lib.hid he
      clear he hR HH HM
      go_wp2
      go_ret
      exact ⟨by rw [HE.out]; rfl, HB1.out⟩
  · obtain ⟨hs2, hs3⟩ := text_not hs
    have he : R = -1 := by rw [hR]; simp [takesP, badB, hs]
    have HE := Lib.hid he
    clear he hR HH HM
    go_wp2
    go_ret
    exact ⟨by rw [HE.out]; rfl, HB1.out⟩

set_option maxRecDepth 100000 in
set_option maxHeartbeats 4000000 in
theorem takes_other (b q : Nat) (k n : Int) (s : T) (l : List Int) (A : Option Addr) (c : Nat) (S : Nat → Prop) (w : World) (h : NumRow S w A l) (hc : l.length ≤ c) (hl : l.length ≤ 1000000000000000) (k1 : k ≠ 1) (k2 : k ≠ 2) (k3 : k ≠ 3) (k4 : k ≠ 4) (k5 : k ≠ 5) (k6 : k ≠ 6) :
    Calls Tryd.prog 28 #[.agg #[.int .i64 k, .int .i64 n, .string (bs s), .slice A l.length c], .int .i64 (b : Int), .int .i64 (q : Int)] w fun e W' => e = .returned (.int .i64 (takesP b q ⟨k, n, s, l⟩)) ∧ Below w.heap.size w W' := by
  obtain ⟨m, hm⟩ : ∃ m, m = l.length := ⟨_, rfl⟩
  rw [← hm] at hc hl ⊢
  obtain ⟨w1, hw1⟩ : ∃ w1, w.alloc (.cells #[.int .i64 k, .int .i64 n, .string (bs s), .slice A m c] 40) = w1 := ⟨_, rfl⟩
  have hb1 : Below w.heap.size w w1 := by rw [← hw1]; exact (Below.refl _ _).alloc (Nat.le_refl _) _
  have hx1 : w1.heap[w.heap.size]? = some (.cells #[.int .i64 k, .int .i64 n, .string (bs s), .slice A m c] 40) := by rw [← hw1]; exact heap_alloc_new w _
  obtain ⟨a0, a1, a2, a3⟩ := cells_four hx1
  have HW1 := Lib.hid hw1
  have HB1 := Lib.hid hb1
  have HX1 := Lib.hid hx1
  have HH := Lib.hid h
  have HM := Lib.hid hm
  obtain ⟨R, hR⟩ : ∃ R, R = takesP b q ⟨k, n, s, l⟩ := ⟨_, rfl⟩
  rw [← hR]
  clear hw1 hb1 hx1 h hm
  go_enter Tryd.func28, Tryd.ntmps28
  go_upto_region 1 with fail
  rw [HW1.out]
  have e1 : (k == 1) = false := by simpa using k1
  have e2 : (k == 2) = false := by simpa using k2
  have e3 : (k == 3) = false := by simpa using k3
  have e4 : (k == 4) = false := by simpa using k4
  have e5 : (k == 5) = false := by simpa using k5
  have e6 : (k == 6) = false := by simpa using k6
  have f1 : (k != 1) = true := by simpa using k1
  have f4 : (k != 4) = true := by simpa using k4
  have f5 : (k != 5) = true := by simpa using k5
  have f6 : (k != 6) = true := by simpa using k6
  by_cases hs : s = []
  · subst hs
    have hs0 := text_nil
    by_cases hn : n = 0
    · subst hn
      by_cases hl0 : l = []
      · obtain rfl : m = 0 := by rw [HM.out, hl0]; rfl
        have he : R = -1 := by rw [hR]; simp [takesP, badB, hl0, k1, k2, k3, k4, k5, k6]
        have HE := Lib.hid he
        clear he hR HH HM
        go_wp2
        go_ret
        exact ⟨by rw [HE.out]; rfl, HB1.out⟩
      · have hl2 : (0 : Int) < (m : Int) := by have := List.length_pos_iff.2 hl0; have := HM.out; omega
        have he : R = -1 := by rw [hR]; simp [takesP, badB, hl0, k1, k4, k5, k6]
        have HE := Lib.hid he
        clear he hR HH HM
        go_wp2
        go_ret
        exact ⟨by rw [HE.out]; rfl, HB1.out⟩
    · have hn2 : (n == 0) = false := by simpa using hn
      have he : R = -1 := by rw [hR]; simp [takesP, badB, hn, k1, k4, k5, k6]
      have HE := Lib.hid he
      clear he hR HH HM
      go_wp2
      go_ret
      exact ⟨by rw [HE.out]; rfl, HB1.out⟩
  · obtain ⟨hs2, hs3⟩ := text_not hs
    have he : R = -1 := by rw [hR]; simp [takesP, badB, hs, k1, k4, k5, k6]
    have HE := Lib.hid he
    clear he hR HH HM
    go_wp2
    go_ret
    exact ⟨by rw [HE.out]; rfl, HB1.out⟩

set_option maxRecDepth 100000 in
set_option maxHeartbeats 4000000 in
theorem takes_do (b q : Nat) (n : Int) (s : T) (l : List Int) (A : Option Addr) (c : Nat) (S : Nat → Prop) (w : World) (h : NumRow S w A l) (hc : l.length ≤ c) (hl : l.length ≤ 1000000000000000) :
    Calls Tryd.prog 28 #[.agg #[.int .i64 5, .int .i64 n, .string (bs s), .slice A l.length c], .int .i64 (b : Int), .int .i64 (q : Int)] w fun e W' => e = .returned (.int .i64 (takesP b q ⟨5, n, s, l⟩)) ∧ Below w.heap.size w W' := by
  obtain ⟨m, hm⟩ : ∃ m, m = l.length := ⟨_, rfl⟩
  rw [← hm] at hc hl ⊢
  obtain ⟨w1, hw1⟩ : ∃ w1, w.alloc (.cells #[.int .i64 5, .int .i64 n, .string (bs s), .slice A m c] 40) = w1 := ⟨_, rfl⟩
  have hb1 : Below w.heap.size w w1 := by rw [← hw1]; exact (Below.refl _ _).alloc (Nat.le_refl _) _
  have hx1 : w1.heap[w.heap.size]? = some (.cells #[.int .i64 5, .int .i64 n, .string (bs s), .slice A m c] 40) := by rw [← hw1]; exact heap_alloc_new w _
  obtain ⟨a0, a1, a2, a3⟩ := cells_four hx1
  have HW1 := Lib.hid hw1
  have HB1 := Lib.hid hb1
  have HX1 := Lib.hid hx1
  have HH := Lib.hid h
  have HM := Lib.hid hm
  obtain ⟨R, hR⟩ : ∃ R, R = takesP b q ⟨5, n, s, l⟩ := ⟨_, rfl⟩
  rw [← hR]
  clear hw1 hb1 hx1 h hm
  go_enter Tryd.func28, Tryd.ntmps28
  go_upto_region 1 with fail
  rw [HW1.out]
  by_cases hl0 : l = []
  · obtain rfl : m = 0 := by rw [HM.out, hl0]; rfl
    have HF := Lib.hid (fits_is s n false)
    have he : R = if fitsB s n false = true then n else -1 := by rw [hR]; simp [takesP, badB, hl0]
    have HE := Lib.hid he
    clear he hR HH HM
    have hz := (Array.getElem?_eq_some_iff.1 HX1.out).1
    cases hf : fitsB s n false
    · rw [hf] at HF HE
      go_wp2_with (go_at_call 39; refine (HF.out _).mono ?_; rintro e w2 ⟨rfl, hb2⟩; have HB2 := Lib.hid (HB1.out.trans (hb2.mono HB1.out.size)); obtain ⟨c0, c1, c2, c3⟩ := cells_four ((hb2.block _ hz).trans HX1.out); clear hb2)
      go_ret
      exact ⟨by rw [HE.out]; rfl, HB2.out⟩
    · rw [hf] at HF HE
      go_wp2_with (go_at_call 39; refine (HF.out _).mono ?_; rintro e w2 ⟨rfl, hb2⟩; have HB2 := Lib.hid (HB1.out.trans (hb2.mono HB1.out.size)); obtain ⟨c0, c1, c2, c3⟩ := cells_four ((hb2.block _ hz).trans HX1.out); clear hb2)
      go_ret
      exact ⟨by rw [HE.out]; rfl, HB2.out⟩
  · have hl2 : (0 : Int) < (m : Int) := by have := List.length_pos_iff.2 hl0; have := HM.out; omega
    have he : R = -1 := by rw [hR]; simp [takesP, badB, hl0]
    have HE := Lib.hid he
    clear he hR HH HM
    go_wp2
    go_ret
    exact ⟨by rw [HE.out]; rfl, HB1.out⟩

set_option maxRecDepth 100000 in
set_option maxHeartbeats 4000000 in
theorem takes_lazy (b q : Nat) (n : Int) (s : T) (l : List Int) (A : Option Addr) (c : Nat) (S : Nat → Prop) (w : World) (h : NumRow S w A l) (_hc : l.length ≤ c) (hl : l.length ≤ 1000000000000000) :
    Calls Tryd.prog 28 #[.agg #[.int .i64 6, .int .i64 n, .string (bs s), .slice A l.length c], .int .i64 (b : Int), .int .i64 (q : Int)] w fun e W' => e = .returned (.int .i64 (takesP b q ⟨6, n, s, l⟩)) ∧ Below w.heap.size w W' := by
  obtain ⟨m, hm⟩ : ∃ m, m = l.length := ⟨_, rfl⟩
  rw [← hm] at hl ⊢
  obtain ⟨w1, hw1⟩ : ∃ w1, w.alloc (.cells #[.int .i64 6, .int .i64 n, .string (bs s), .slice A m c] 40) = w1 := ⟨_, rfl⟩
  have hb1 : Below w.heap.size w w1 := by rw [← hw1]; exact (Below.refl _ _).alloc (Nat.le_refl _) _
  have hx1 : w1.heap[w.heap.size]? = some (.cells #[.int .i64 6, .int .i64 n, .string (bs s), .slice A m c] 40) := by rw [← hw1]; exact heap_alloc_new w _
  obtain ⟨a0, a1, a2, a3⟩ := cells_four hx1
  have HW1 := Lib.hid hw1
  have HB1 := Lib.hid hb1
  have HX1 := Lib.hid hx1
  have HH := Lib.hid h
  have HM := Lib.hid hm
  obtain ⟨R, hR⟩ : ∃ R, R = takesP b q ⟨6, n, s, l⟩ := ⟨_, rfl⟩
  rw [← hR]
  clear hw1 hb1 hx1 h hm
  go_enter Tryd.func28, Tryd.ntmps28
  go_upto_region 1 with fail
  rw [HW1.out]
  by_cases hn : n = 0
  · subst hn
    have HF := Lib.hid (fits_is s (m : Int) true)
    have he : R = if farB b q l = true then -1 else if fitsB s (m : Int) true = true then 0 else -1 := by rw [hR, HM.out]; simp [takesP, badB]
    have HE := Lib.hid he
    clear he hR
    go_upto_region 17 with fail
    go_loopw [7] (fun i wr => ∃ j : Nat, j ≤ m ∧ i = .int .i64 (j : Int) ∧ Hid (Below w1.heap.size w1 wr) ∧ Hid (farB b q (l.take j) = false)) (fun i _ => m - (intOf i).toNat)
    case atStart => exact ⟨0, Nat.zero_le _, rfl, Below.refl _ _, rfl⟩
    case round =>
      obtain ⟨j, hj, rfl, HB, HT⟩ := hrel
      have hz := (Array.getElem?_eq_some_iff.1 HX1.out).1
      have hxr := (HB.out.block w.heap.size hz).trans HX1.out
      clear a0 a1 a2 a3
      obtain ⟨a0, a1, a2, a3⟩ := cells_four hxr
      have HBr : Hid (Below w.heap.size w wr) := HB1.out.trans (HB.out.mono HB1.out.size)
      clear hxr
      by_cases hlt : j < m
      · obtain ⟨y, hy⟩ : ∃ y, l[j]? = some y := ⟨_, List.getElem?_eq_getElem (by have := HM.out; omega)⟩
        have hjm : (j : Int) < (m : Int) := by omega
        obtain ⟨bb, oo, rfl, hd⟩ := (NumRow.move (S' := S) (fun b hS hl => ⟨hS, HBr.out.block b hl⟩) HBr.out.size HH.out).get hy
        have HY := Lib.hid hy
        clear hy
        by_cases h1 : y ≤ (b : Int)
        · skip
          have HE2 : Hid (R = -1) := by have hE := HE.out; rw [if_pos (far_at HY.out (.inl h1))] at hE; exact hE
          go_wp2
          go_ret
          exact ⟨by rw [HE2.out]; rfl, HBr.out⟩
        · by_cases h2 : (q : Int) ≤ y
          · skip
            have HE2 : Hid (R = -1) := by have hE := HE.out; rw [if_pos (far_at HY.out (.inr h2))] at hE; exact hE
            go_wp2
            go_ret
            exact ⟨by rw [HE2.out]; rfl, HBr.out⟩
          · have HT2 := Lib.hid (far_take HY.out HT.out h1 h2)
            go_wp2
            go_roundw
            case rel => exact ⟨j + 1, hlt, by go_num, HB, HT2⟩
            case measure => simp [intOf]; omega
      · obtain rfl : m = j := by omega
        have hfar := HT.out
        rw [show l.take m = l by rw [HM.out]; exact List.take_length] at hfar
        have he := HE.out
        rw [hfar, if_neg (by decide)] at he
        have HE2 := Lib.hid he
        clear he hfar
        cases hf : fitsB s (m : Int) true
        · rw [hf] at HF HE2
          go_wp2_with (go_at_call 39; refine (HF.out _).mono ?_; rintro e w2 ⟨rfl, hb2⟩; have HB2 := Lib.hid (HBr.out.trans (hb2.mono HBr.out.size)); clear hb2)
          go_ret
          exact ⟨by rw [HE2.out]; rfl, HB2.out⟩
        · rw [hf] at HF HE2
          go_wp2_with (go_at_call 39; refine (HF.out _).mono ?_; rintro e w2 ⟨rfl, hb2⟩; have HB2 := Lib.hid (HBr.out.trans (hb2.mono HBr.out.size)); clear hb2)
          go_ret
          exact ⟨by rw [HE2.out]; rfl, HB2.out⟩
  · have hn2 : (n == 0) = false := by simpa using hn
    have he : R = -1 := by rw [hR]; simp [takesP, badB, hn]
    have HE := Lib.hid he
    clear he hR HH HM
    go_wp2
    go_ret
    exact ⟨by rw [HE.out]; rfl, HB1.out⟩

theorem takes_is (b q : Nat) (o : Opp) (A : Option Addr) (c : Nat) (S : Nat → Prop) (w : World) (h : NumRow S w A o.l) (hc : o.l.length ≤ c) (hl : o.l.length ≤ 1000000000000000) :
    Calls Tryd.prog 28 #[.agg #[.int .i64 o.k, .int .i64 o.n, .string (bs o.s), .slice A o.l.length c], .int .i64 (b : Int), .int .i64 (q : Int)] w fun e W' => e = .returned (.int .i64 (takesP b q o)) ∧ Below w.heap.size w W' := by
  obtain ⟨k, n, s, l⟩ := o
  by_cases k1 : k = 1
  · subst k1; exact takes_push b q n s l A c S w h hc hl
  by_cases k2 : k = 2
  · subst k2; exact takes_get b q n s l A c S w h hc hl
  by_cases k3 : k = 3
  · subst k3; exact takes_sub b q n s l A c S w h hc hl
  by_cases k4 : k = 4
  · subst k4; exact takes_join b q n s l A c S w h hc hl
  by_cases k5 : k = 5
  · subst k5; exact takes_do b q n s l A c S w h hc hl
  by_cases k6 : k = 6
  · subst k6; exact takes_lazy b q n s l A c S w h hc hl
  exact takes_other b q k n s l A c S w h hc hl k1 k2 k3 k4 k5 k6

end Go.Proofs.YtpphkaolonjjdaaDoor.Dtk

/- The document's block: the most on a block's pile. -/
namespace Go.Proofs.YtpphkaolonjjdaaDoor.Dbk
open Go Go.RowKit Go.Proofs.YtpphkaolonjjdaaDoor.Spl Go.Proofs.YtpphkaolonjjdaaDoor.Cpl Go.Proofs.YtpphkaolonjjdaaDoor.Cin Go.Proofs.YtpphkaolonjjdaaDoor.Cops Go.Proofs.YtpphkaolonjjdaaDoor.Dpl Go.Proofs.YtpphkaolonjjdaaDoor.Dft Go.Proofs.YtpphkaolonjjdaaDoor.Dtk
open Go.Proofs.YtpphkaolonjjdaaDoor.Pure (bs)

set_option maxRecDepth 100000 in
set_option maxHeartbeats 4000000 in
theorem block_is (B : List (List Opp)) (S : Nat → Prop) (v : Value) (w : World) (h : CodeIn S w v B) (b : Nat) (l : List Opp) (hb : B[b]? = some l) (hl : l.length ≤ 1000000000000000) (hx : ∀ o ∈ l, o.l.length ≤ 1000000000000000) :
    Calls Tryd.prog 20 #[v, .int .i64 (b : Int)] w fun e W' => e = .returned (.int .i64 (blockP b B.length l)) ∧ Below w.heap.size w W' := by
  obtain ⟨A, c, rfl, hc, hr⟩ := h
  have hbl := (List.getElem?_eq_some_iff.1 hb).1
  obtain ⟨q, hq⟩ : ∃ q, q = B.length := ⟨_, rfl⟩
  rw [← hq] at hc hbl ⊢
  obtain ⟨w1, hw1⟩ : ∃ w1, w.alloc (.cells #[.slice A q c] 24) = w1 := ⟨_, rfl⟩
  have hb1 : Below w.heap.size w w1 := by rw [← hw1]; exact (Below.refl _ _).alloc (Nat.le_refl _) _
  have hx1 : w1.heap[w.heap.size]? = some (.cells #[.slice A q c] 24) := by rw [← hw1]; exact heap_alloc_new w _
  obtain ⟨bb, oo, hA, hbb, A2, c2, hc2, hops, e1⟩ := (hr.on hb1).get hb
  obtain ⟨m, hm⟩ : ∃ m, m = l.length := ⟨_, rfl⟩
  rw [← hm] at hl hc2 e1
  have HW1 := Lib.hid hw1
  have HB1 := Lib.hid hb1
  have HX1 := Lib.hid hx1
  have HR := Lib.hid hops
  have HM := Lib.hid hm
  have HX := Lib.hid hx
  have HE1 := Lib.hid e1
  have HBB := Lib.hid hbb
  have HA := Lib.hid hA
  have hbq : (b : Int) < (q : Int) := by omega
  obtain ⟨R, hR⟩ : ∃ R, R = blockP b q l := ⟨_, rfl⟩
  have HRv := Lib.hid hR
  rw [← hR]
  clear hw1 hb1 hx1 hr hb hops hm hx e1 hbb hR hq hA
  go_enter Tryd.func20, Tryd.ntmps20
  go_upto_region 1 with fail
  rw [HW1.out]
  go_upto_region 3 with fail
  go_loopw [5, 6, 7] (fun n t i wr => ∃ (j : Nat) (x y : Int), j ≤ m ∧ i = .int .i64 (j : Int) ∧ n = .int .i64 x ∧ t = .int .i64 y ∧ 0 ≤ x ∧ x ≤ (j : Int) ∧ 0 ≤ y ∧ y ≤ (j : Int) ∧ Hid (runP b q (l.take j) 0 0 = some (x, y)) ∧ Hid (Below w1.heap.size w1 wr)) (fun _ _ i _ => m - (intOf i).toNat)
  case atStart => exact ⟨0, 0, 0, Nat.zero_le _, rfl, rfl, rfl, by decide, by decide, by decide, by decide, rfl, Below.refl _ _⟩
  case round =>
    obtain ⟨j, x, y, hj, rfl, rfl, rfl, hx0, hxj, hy0, hyj, HU, HB⟩ := hrel
    have a0 := one_cell ((HB.out.block w.heap.size (Array.getElem?_eq_some_iff.1 HX1.out).1).trans HX1.out)
    have b0 := (World.cell?_of_block (a := ⟨bb, oo + b, none⟩) (HB.out.block bb HBB.out)).trans HE1.out
    have HBr : Hid (Below w.heap.size w wr) := HB1.out.trans (HB.out.mono HB1.out.size)
    rw [HA.out] at a0
    by_cases hlt : j < m
    · obtain ⟨o, ho⟩ : ∃ o, l[j]? = some o := ⟨_, List.getElem?_eq_getElem (by have := HM.out; omega)⟩
      have hjm : (j : Int) < (m : Int) := by omega
      obtain ⟨p, r, hP, hp, Q1, k1, hq1, hn1, f0, f1, f2, f3⟩ := (HR.out.on HB.out).get ho
      subst hP
      obtain ⟨k, hk⟩ : ∃ k, k = takesP b q o := ⟨_, rfl⟩
      have hst := run_step b q l ho HU.out
      have hT := fun W (hW : Below wr.heap.size wr W) => takes_is b q o Q1 k1 S W (hn1.move (fun b hS hl => ⟨hS, hW.block b hl⟩) hW.size) hq1 (HX.out o (List.mem_of_getElem? ho))
      rw [← hk] at hst hT
      have HT := Lib.hid hT
      clear hT hn1 hk ho
      go_wp2_with fail
      go_still_tail 12, (by kernel_rfl)
      change wpList _ _ _ _ _ wr.drew
      have hbd : Below wr.heap.size wr wr.drew := (Below.refl _ _).drew
      obtain ⟨wd, hwd⟩ : ∃ wd, wr.drew = wd := ⟨_, rfl⟩
      rw [hwd] at hbd ⊢
      clear hwd
      have HBd := Lib.hid hbd
      have HST := Lib.hid hst
      clear hbd hst
      by_cases h1 : k < 0
      · have hE : R = -1 := by rw [HRv.out]; unfold blockP; rw [run_none b q l (by rw [HST.out, if_pos (.inl h1)])]
        have HE := Lib.hid hE
        clear hE
        go_wp2_with (go_at_call 28; refine (HT.out _ HBd.out).mono ?_; rintro e W' ⟨rfl, hb3⟩; have HB3 := Lib.hid (HBr.out.trans ((HBd.out.trans (hb3.mono HBd.out.size)).mono HBr.out.size)); clear hb3)
        go_ret
        exact ⟨by rw [HE.out]; rfl, HB3.out⟩
      · by_cases h2 : x < k
        · have hE : R = -1 := by rw [HRv.out]; unfold blockP; rw [run_none b q l (by rw [HST.out, if_pos (.inr h2)])]
          have HE := Lib.hid hE
          clear hE
          go_wp2_with (go_at_call 28; refine (HT.out _ HBd.out).mono ?_; rintro e W' ⟨rfl, hb3⟩; have HB3 := Lib.hid (HBr.out.trans ((HBd.out.trans (hb3.mono HBd.out.size)).mono HBr.out.size)); clear hb3)
          go_ret
          exact ⟨by rw [HE.out]; rfl, HB3.out⟩
        · have hw1 : IntKind.i64.wrap (x - k) = x - k := IntWalk.i64_in _ (by omega)
          have hw2 : IntKind.i64.wrap (x - k + 1) = x - k + 1 := IntWalk.i64_in _ (by omega)
          have hU : runP b q (l.take (j + 1)) 0 0 = some (x - k + 1, max y (x - k + 1)) := by rw [HST.out, if_neg (by omega)]
          have HU2 := Lib.hid hU
          clear hU
          go_wp2_with (go_at_call 28; refine (HT.out _ HBd.out).mono ?_; rintro e W' ⟨rfl, hb3⟩; have HB3 := Lib.hid (HB.out.trans ((HBd.out.trans (hb3.mono HBd.out.size)).mono HB.out.size)); clear hb3)
          go_roundw
          case rel => exact ⟨j + 1, x - k + 1, max y (x - k + 1), by omega, by go_num, rfl, congrArg _ (by split <;> omega), by omega, by omega, by omega, by omega, HU2, HB3⟩
          case measure => simp [intOf]; omega
    · obtain rfl : m = j := by omega
      have hrun := HU.out
      rw [show l.take m = l by rw [HM.out]; exact List.take_length] at hrun
      have hE : R = if x = 1 then y else -1 := by rw [HRv.out]; unfold blockP; rw [hrun]
      by_cases h1 : x = 1
      · rw [if_pos h1] at hE
        have HE := Lib.hid hE
        subst h1
        clear hE hrun
        go_wp2_with fail
        go_ret
        exact ⟨by rw [HE.out]; rfl, HBr.out⟩
      · rw [if_neg h1] at hE
        have HE := Lib.hid hE
        have h1b : (x == 1) = false := by simpa using h1
        have h1c : (x != 1) = true := by simpa using h1
        clear hE hrun
        go_wp2_with fail
        go_ret
        exact ⟨by rw [HE.out]; rfl, HBr.out⟩

end Go.Proofs.YtpphkaolonjjdaaDoor.Dbk

/- The document's Depth and Check. -/
namespace Go.Proofs.YtpphkaolonjjdaaDoor.Ddp
open Go Go.RowKit Go.Proofs.YtpphkaolonjjdaaDoor.Spl Go.Proofs.YtpphkaolonjjdaaDoor.Cpl Go.Proofs.YtpphkaolonjjdaaDoor.Cin Go.Proofs.YtpphkaolonjjdaaDoor.Cops Go.Proofs.YtpphkaolonjjdaaDoor.Dpl Go.Proofs.YtpphkaolonjjdaaDoor.Dft Go.Proofs.YtpphkaolonjjdaaDoor.Dtk Go.Proofs.YtpphkaolonjjdaaDoor.Dbk
open Go.Proofs.YtpphkaolonjjdaaDoor.Pure (bs)

theorem deep_step (q tot : Nat) (B : List (List Opp)) {j : Nat} {l : List Opp} (hj : B[j]? = some l) (m : Int) : deepP q tot j (B.drop j) m = if blockP j q l < 0 then 0 else deepP q tot (j + 1) (B.drop (j + 1)) (max m (blockP j q l)) := by
  have h1 : B.drop j = l :: B.drop (j + 1) := by
    obtain ⟨h2, h3⟩ := List.getElem?_eq_some_iff.1 hj
    rw [← h3]; exact List.drop_eq_getElem_cons h2
  rw [h1, deepP]
theorem deep_end (q tot : Nat) (B : List (List Opp)) (m : Int) : deepP q tot B.length (B.drop B.length) m = if 16384 < tot then 0 else m := by
  rw [List.drop_length, deepP]

set_option maxRecDepth 100000 in
set_option maxHeartbeats 4000000 in
theorem depth_is (B : List (List Opp)) (S : Nat → Prop) (v : Value) (w : World) (h : CodeIn S w v B) (hB : B.length ≤ 1000000000000000) (ho : opsP B ≤ 1000000000000000) (hx : ∀ l ∈ B, ∀ o ∈ l, o.l.length ≤ 1000000000000000) :
    Calls Tryd.prog 13 #[v] w fun e W' => e = .returned (.int .i64 (depthP B)) ∧ Below w.heap.size w W' := by
  have hrows : ∀ l ∈ B, l.length ≤ 1000000000000000 := fun l hl => by
    have : ∀ {B : List (List Opp)} {l : List Opp}, l ∈ B → l.length ≤ opsP B := by
      intro B
      induction B with
      | nil => intro l h; cases h
      | cons x r ih =>
        intro l h
        rw [opsP]
        rcases List.mem_cons.1 h with e | h
        · rw [e]; omega
        · have := ih h; omega
    have := this hl
    omega
  have h0 := h
  obtain ⟨A, c, rfl, hc, hr⟩ := h
  obtain ⟨q, hq⟩ : ∃ q, q = B.length := ⟨_, rfl⟩
  have hd0 : depthP B = deepP q (opsP B) 0 (B.drop 0) 0 := by rw [hq]; rfl
  obtain ⟨t, ht⟩ : ∃ t, t = opsP B := ⟨_, rfl⟩
  obtain ⟨R, hR⟩ : ∃ R, R = depthP B := ⟨_, rfl⟩
  rw [← hR]
  rw [← hR, ← ht] at hd0
  rw [← ht] at ho
  rw [← hq] at hc h0 ⊢
  obtain ⟨w1, hw1⟩ : ∃ w1, w.alloc (.cells #[.slice A q c] 24) = w1 := ⟨_, rfl⟩
  have hb1 : Below w.heap.size w w1 := by rw [← hw1]; exact (Below.refl _ _).alloc (Nat.le_refl _) _
  have hx1 : w1.heap[w.heap.size]? = some (.cells #[.slice A q c] 24) := by rw [← hw1]; exact heap_alloc_new w _
  have HBl : Hid (∀ (j : Nat) (l : List Opp) (W : World), B[j]? = some l → Below w.heap.size w W → Calls Tryd.prog 20 #[.agg #[.slice A q c], .int .i64 (j : Int)] W fun e W' => e = .returned (.int .i64 (blockP j q l)) ∧ Below W.heap.size W W') := fun j l W hj hW => by
    have h1 := block_is B S _ W (h0.on hW) j l hj (hrows l (List.mem_of_getElem? hj)) (hx l (List.mem_of_getElem? hj))
    rw [← hq] at h1
    exact h1
  have HOp : Hid (∀ W : World, Below w.heap.size w W → Calls Tryd.prog 21 #[.agg #[.slice A q c]] W fun e W' => e = .returned (.int .i64 (t : Int)) ∧ Below W.heap.size W W') := fun W hW => by
    have h1 := refOps_is B S _ W (h0.on hW) (by rw [← ht]; exact ho) hB
    rw [← ht] at h1
    exact h1
  have HW1 := Lib.hid hw1
  have HB1 := Lib.hid hb1
  have HX1 := Lib.hid hx1
  have HQ := Lib.hid hq
  have HD := Lib.hid hd0
  have hq1 : q ≤ 1000000000000000 := by omega
  clear hw1 hb1 hx1 hr h0 hq hd0 hR ht hrows hx hB
  go_enter Tryd.func13, Tryd.ntmps13
  go_upto_region 1 with fail
  rw [HW1.out]
  go_upto_region 3 with fail
  go_loopw [3, 4] (fun n i wr => ∃ (j : Nat) (y : Int), j ≤ q ∧ i = .int .i64 (j : Int) ∧ n = .int .i64 y ∧ 0 ≤ y ∧ Hid (R = deepP q t j (B.drop j) y) ∧ Hid (Below w1.heap.size w1 wr)) (fun _ i _ => q - (intOf i).toNat)
  case atStart => exact ⟨0, 0, Nat.zero_le _, rfl, rfl, by decide, HD, Below.refl _ _⟩
  case round =>
    obtain ⟨j, y, hj, rfl, rfl, hy0, HU, HB⟩ := hrel
    have a0 := one_cell ((HB.out.block w.heap.size (Array.getElem?_eq_some_iff.1 HX1.out).1).trans HX1.out)
    have HBr : Hid (Below w.heap.size w wr) := HB1.out.trans (HB.out.mono HB1.out.size)
    by_cases hlt : j < q
    · obtain ⟨l, hl⟩ : ∃ l, B[j]? = some l := ⟨_, List.getElem?_eq_getElem (by have := HQ.out; omega)⟩
      have hjq : (j : Int) < (q : Int) := by omega
      obtain ⟨k, hk⟩ : ∃ k, k = blockP j q l := ⟨_, rfl⟩
      have hs := deep_step q t B hl y
      have hC := HBl.out j l wr hl HBr.out
      rw [← hk] at hs hC
      have HC := Lib.hid hC
      have HS := Lib.hid hs
      clear hs hC hk hl
      by_cases h1 : k < 0
      · have hE : R = 0 := by rw [HU.out, HS.out, if_pos h1]
        have HE := Lib.hid hE
        clear hE
        go_wp2_with (go_at_call 20; refine HC.out.mono ?_; rintro e W' ⟨rfl, hb3⟩; have HB3 := Lib.hid (HBr.out.trans (hb3.mono HBr.out.size)); clear hb3)
        go_ret
        exact ⟨by rw [HE.out]; rfl, HB3.out⟩
      · have hE : R = deepP q t (j + 1) (B.drop (j + 1)) (max y k) := by rw [HU.out, HS.out, if_neg h1]
        have HE := Lib.hid hE
        clear hE
        go_wp2_with (go_at_call 20; refine HC.out.mono ?_; rintro e W' ⟨rfl, hb3⟩; have HB3 := Lib.hid (HB.out.trans (hb3.mono HB.out.size)); clear hb3)
        go_roundw
        case rel => exact ⟨j + 1, max y k, by omega, by go_num, congrArg _ (by split <;> omega), by omega, HE, HB3⟩
        case measure => simp [intOf]; omega
    · obtain rfl : q = j := by omega
      have hE := HU.out
      rw [show deepP q t q (B.drop q) y = if 16384 < t then 0 else y by have h1 := deep_end q t B y; rw [← HQ.out] at h1; exact h1] at hE
      have HOr := Lib.hid (HOp.out wr HBr.out)
      by_cases h1 : 16384 < t
      · rw [if_pos h1] at hE
        have HE := Lib.hid hE
        have h1b : (16384 : Int) < (t : Int) := by omega
        clear hE
        go_wp2_with (go_at_call 21; refine HOr.out.mono ?_; rintro e W' ⟨rfl, hb3⟩; have HB3 := Lib.hid (HBr.out.trans (hb3.mono HBr.out.size)); clear hb3)
        go_ret
        exact ⟨by rw [HE.out]; rfl, HB3.out⟩
      · rw [if_neg h1] at hE
        have HE := Lib.hid hE
        have h1b : ¬ (16384 : Int) < (t : Int) := by omega
        clear hE
        go_wp2_with (go_at_call 21; refine HOr.out.mono ?_; rintro e W' ⟨rfl, hb3⟩; have HB3 := Lib.hid (HBr.out.trans (hb3.mono HBr.out.size)); clear hb3)
        go_ret
        exact ⟨by rw [HE.out]; rfl, HB3.out⟩

set_option maxRecDepth 100000 in
set_option maxHeartbeats 4000000 in
theorem check_is (B : List (List Opp)) (S : Nat → Prop) (v : Value) (w : World) (h : CodeIn S w v B) (hB : B.length ≤ 1000000000000000) (ho : opsP B ≤ 1000000000000000) (hx : ∀ l ∈ B, ∀ o ∈ l, o.l.length ≤ 1000000000000000) :
    Calls Tryd.prog 11 #[v] w fun e W' => e = .returned (.bool (checkP B)) ∧ Below w.heap.size w W' := by
  have h0 := h
  obtain ⟨A, c, rfl, hc, hr⟩ := h
  obtain ⟨R, hR⟩ : ∃ R, R = depthP B := ⟨_, rfl⟩
  have HD : Hid (∀ W : World, Below w.heap.size w W → Calls Tryd.prog 13 #[.agg #[.slice A B.length c]] W fun e W' => e = .returned (.int .i64 R) ∧ Below W.heap.size W W') := fun W hW => by
    have h1 := depth_is B S _ W (h0.on hW) hB ho hx
    rw [← hR] at h1
    exact h1
  have hch : checkP B = decide (0 < R) := by rw [hR]; rfl
  rw [hch]
  obtain ⟨w1, hw1⟩ : ∃ w1, w.alloc (.cells #[.slice A B.length c] 24) = w1 := ⟨_, rfl⟩
  have hb1 : Below w.heap.size w w1 := by rw [← hw1]; exact (Below.refl _ _).alloc (Nat.le_refl _) _
  have hx1 : w1.heap[w.heap.size]? = some (.cells #[.slice A B.length c] 24) := by rw [← hw1]; exact heap_alloc_new w _
  have a0 := one_cell hx1
  have HW1 := Lib.hid hw1
  have HB1 := Lib.hid hb1
  have HC := Lib.hid (HD.out w1 hb1)
  clear hw1 hb1 hx1 h0 hr hx hR hch HD
  go_enter Tryd.func11, Tryd.ntmps11
  go_upto_region 1 with fail
  rw [HW1.out]
  go_wp2_with (go_at_call 13; refine HC.out.mono ?_; rintro e W' ⟨rfl, hb3⟩; have HB3 := Lib.hid (HB1.out.trans (hb3.mono HB1.out.size)); clear hb3)
  go_ret
  exact ⟨rfl, HB3.out⟩

end Go.Proofs.YtpphkaolonjjdaaDoor.Ddp
