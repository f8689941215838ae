/- The program's formed, taken: an instruction held against the constant table of kinds (written by wip/tools/mkformed.py). -/
import Derived.Deep.QuietTactic
import Derived.BigQuiet
import Derived.Test.YtpphkaolonjjdaaDoorCopsJ
import Derived.Test.YtpphkaolonjjdaaDoorJkdJ
namespace Go.Proofs.YtpphkaolonjjdaaDoor.Jfm
open Go Go.RowKit Go.Proofs.YtpphkaolonjjdaaDoor.Spl Go.Proofs.YtpphkaolonjjdaaDoor.Cpl Go.Proofs.YtpphkaolonjjdaaDoor.Cin Go.Proofs.YtpphkaolonjjdaaDoor.Dpl Go.Proofs.YtpphkaolonjjdaaDoor.Jkd
open Go.Proofs.YtpphkaolonjjdaaDoor.Pure (bs)

set_option maxRecDepth 100000 in
set_option maxHeartbeats 4000000 in
theorem formed_1 (n : Int) (s : T) (l : List Int) (A : Option Addr) (c : Nat) (w : World) (hK : Knd w) :
    Calls Tryd.prog 25 #[.agg #[.int .i64 1, .int .i64 n, .string (bs s), .slice A l.length c]] w fun e W' => e = .returned (.bool (formB ⟨1, n, s, l⟩)) ∧ Below w.heap.size w W' := by
  obtain ⟨m, hm⟩ : ∃ m, m = l.length := ⟨_, rfl⟩
  rw [← hm]
  obtain ⟨w1, hw1⟩ : ∃ w1, w.alloc (.cells #[.int .i64 1, .int .i64 n, .string (bs s), .slice A m c] 40) = w1 := ⟨_, rfl⟩
  have hb1 : Below w.heap.size w w1 := by rw [← hw1]; exact (Below.refl _ _).alloc (Nat.le_refl _) _
  have hx1 : w1.heap[w.heap.size]? = some (.cells #[.int .i64 1, .int .i64 n, .string (bs s), .slice A m c] 40) := by rw [← hw1]; exact heap_alloc_new w _
  obtain ⟨R, hR⟩ : ∃ R, R = formB ⟨1, n, s, l⟩ := ⟨_, rfl⟩
  rw [← hR]
  have hk1 := hK.on hb1
  have g0 : w1.cell? ⟨0, 4, none⟩ = some (.int .i64 0) := (hk1.2 4 (by decide)).trans rfl
  have g1 : w1.cell? ⟨0, 5, none⟩ = some (.bool false) := (hk1.2 5 (by decide)).trans rfl
  have g2 : w1.cell? ⟨0, 6, none⟩ = some (.bool true) := (hk1.2 6 (by decide)).trans rfl
  have g3 : w1.cell? ⟨0, 7, none⟩ = some (.bool false) := (hk1.2 7 (by decide)).trans rfl
  obtain ⟨w3, hw3⟩ : ∃ w3, w1.alloc (.cells #[.int .i64 0, .bool false, .bool true, .bool false] 77) = w3 := ⟨_, rfl⟩
  have hb3 : Below w1.heap.size w1 w3 := by rw [← hw3]; exact (Below.refl _ _).alloc (Nat.le_refl _) _
  obtain ⟨f0, f1, f2, f3⟩ := cells_four (show w3.heap[w1.heap.size]? = _ by rw [← hw3]; exact heap_alloc_new w1 _)
  obtain ⟨b0, b1, b2, b3⟩ := cells_four ((hb3.block _ (Array.getElem?_eq_some_iff.1 hx1).1).trans hx1)
  obtain ⟨a0, a1, a2, a3⟩ := cells_four hx1
  have HW1 := Lib.hid hw1
  have HW3 := Lib.hid hw3
  have HB3 := Lib.hid (hb1.trans (hb3.mono hb1.size))
  have HM := Lib.hid hm
  clear hw1 hb1 hx1 hm hw3 hb3 hk1 hK
  go_enter Tryd.func25, Tryd.ntmps25
  go_upto_region 1 with fail
  rw [HW1.out]
  go_upto_region 4 with fail
  rw [HW3.out]
  by_cases hn : n = 0
  · subst hn
    by_cases hl0 : l = []
    · obtain rfl : m = 0 := by rw [HM.out, hl0]; rfl
      have HE : Hid (R = true) := by show _ = _; rw [hR]; simp [formB, badB, hl0]
      clear hR HM
      go_wp2
      go_ret
      exact ⟨by rw [HE.out]; rfl, HB3.out⟩
    · have hl1 : 0 < m := by rw [HM.out]; exact List.length_pos_iff.2 hl0
      have hl2 : ((m : Int) == 0) = false := by rw [beq_eq_false_iff_ne]; omega
      have HE : Hid (R = false) := by show _ = _; rw [hR]; simp [formB, badB, hl0]
      clear hR HM
      go_wp2
      go_ret
      exact ⟨by rw [HE.out]; rfl, HB3.out⟩
  · have hn2 : (n == 0) = false := by simpa using hn
    have HE : Hid (R = false) := by show _ = _; rw [hR]; simp [formB, badB, hn]
    clear hR HM
    go_wp2
    go_ret
    exact ⟨by rw [HE.out]; rfl, HB3.out⟩

set_option maxRecDepth 100000 in
set_option maxHeartbeats 4000000 in
theorem formed_2 (n : Int) (s : T) (l : List Int) (A : Option Addr) (c : Nat) (w : World) (hK : Knd w) :
    Calls Tryd.prog 25 #[.agg #[.int .i64 2, .int .i64 n, .string (bs s), .slice A l.length c]] w fun e W' => e = .returned (.bool (formB ⟨2, n, s, l⟩)) ∧ Below w.heap.size w W' := by
  obtain ⟨m, hm⟩ : ∃ m, m = l.length := ⟨_, rfl⟩
  rw [← hm]
  obtain ⟨w1, hw1⟩ : ∃ w1, w.alloc (.cells #[.int .i64 2, .int .i64 n, .string (bs s), .slice A m c] 40) = w1 := ⟨_, rfl⟩
  have hb1 : Below w.heap.size w w1 := by rw [← hw1]; exact (Below.refl _ _).alloc (Nat.le_refl _) _
  have hx1 : w1.heap[w.heap.size]? = some (.cells #[.int .i64 2, .int .i64 n, .string (bs s), .slice A m c] 40) := by rw [← hw1]; exact heap_alloc_new w _
  obtain ⟨R, hR⟩ : ∃ R, R = formB ⟨2, n, s, l⟩ := ⟨_, rfl⟩
  rw [← hR]
  have hk1 := hK.on hb1
  have g0 : w1.cell? ⟨0, 8, none⟩ = some (.int .i64 1) := (hk1.2 8 (by decide)).trans rfl
  have g1 : w1.cell? ⟨0, 9, none⟩ = some (.bool false) := (hk1.2 9 (by decide)).trans rfl
  have g2 : w1.cell? ⟨0, 10, none⟩ = some (.bool false) := (hk1.2 10 (by decide)).trans rfl
  have g3 : w1.cell? ⟨0, 11, none⟩ = some (.bool false) := (hk1.2 11 (by decide)).trans rfl
  obtain ⟨w3, hw3⟩ : ∃ w3, w1.alloc (.cells #[.int .i64 1, .bool false, .bool false, .bool false] 77) = w3 := ⟨_, rfl⟩
  have hb3 : Below w1.heap.size w1 w3 := by rw [← hw3]; exact (Below.refl _ _).alloc (Nat.le_refl _) _
  obtain ⟨f0, f1, f2, f3⟩ := cells_four (show w3.heap[w1.heap.size]? = _ by rw [← hw3]; exact heap_alloc_new w1 _)
  obtain ⟨b0, b1, b2, b3⟩ := cells_four ((hb3.block _ (Array.getElem?_eq_some_iff.1 hx1).1).trans hx1)
  obtain ⟨a0, a1, a2, a3⟩ := cells_four hx1
  have HW1 := Lib.hid hw1
  have HW3 := Lib.hid hw3
  have HB3 := Lib.hid (hb1.trans (hb3.mono hb1.size))
  have HM := Lib.hid hm
  clear hw1 hb1 hx1 hm hw3 hb3 hk1 hK
  go_enter Tryd.func25, Tryd.ntmps25
  go_upto_region 1 with fail
  rw [HW1.out]
  go_upto_region 4 with fail
  rw [HW3.out]
  by_cases hn : n = 0
  · subst hn
    by_cases hs : s = []
    · subst hs
      have hs0 := text_nil
      by_cases hl0 : l = []
      · obtain rfl : m = 0 := by rw [HM.out, hl0]; rfl
        have HE : Hid (R = true) := by show _ = _; rw [hR]; simp [formB, badB, hl0]
        clear hR HM
        go_wp2
        go_ret
        exact ⟨by rw [HE.out]; rfl, HB3.out⟩
      · have hl1 : 0 < m := by rw [HM.out]; exact List.length_pos_iff.2 hl0
        have hl2 : ((m : Int) == 0) = false := by rw [beq_eq_false_iff_ne]; omega
        have HE : Hid (R = false) := by show _ = _; rw [hR]; simp [formB, badB, hl0]
        clear hR HM
        go_wp2
        go_ret
        exact ⟨by rw [HE.out]; rfl, HB3.out⟩
    · obtain ⟨hs2, hs3⟩ := text_not hs
      have HE : Hid (R = false) := by show _ = _; rw [hR]; simp [formB, badB, hs]
      clear hR HM
      go_wp2
      go_ret
      exact ⟨by rw [HE.out]; rfl, HB3.out⟩
  · have hn2 : (n == 0) = false := by simpa using hn
    have HE : Hid (R = false) := by show _ = _; rw [hR]; simp [formB, badB, hn]
    clear hR HM
    go_wp2
    go_ret
    exact ⟨by rw [HE.out]; rfl, HB3.out⟩

set_option maxRecDepth 100000 in
set_option maxHeartbeats 4000000 in
theorem formed_3 (n : Int) (s : T) (l : List Int) (A : Option Addr) (c : Nat) (w : World) (hK : Knd w) :
    Calls Tryd.prog 25 #[.agg #[.int .i64 3, .int .i64 n, .string (bs s), .slice A l.length c]] w fun e W' => e = .returned (.bool (formB ⟨3, n, s, l⟩)) ∧ Below w.heap.size w W' := by
  obtain ⟨m, hm⟩ : ∃ m, m = l.length := ⟨_, rfl⟩
  rw [← hm]
  obtain ⟨w1, hw1⟩ : ∃ w1, w.alloc (.cells #[.int .i64 3, .int .i64 n, .string (bs s), .slice A m c] 40) = w1 := ⟨_, rfl⟩
  have hb1 : Below w.heap.size w w1 := by rw [← hw1]; exact (Below.refl _ _).alloc (Nat.le_refl _) _
  have hx1 : w1.heap[w.heap.size]? = some (.cells #[.int .i64 3, .int .i64 n, .string (bs s), .slice A m c] 40) := by rw [← hw1]; exact heap_alloc_new w _
  obtain ⟨R, hR⟩ : ∃ R, R = formB ⟨3, n, s, l⟩ := ⟨_, rfl⟩
  rw [← hR]
  have hk1 := hK.on hb1
  have g0 : w1.cell? ⟨0, 12, none⟩ = some (.int .i64 3) := (hk1.2 12 (by decide)).trans rfl
  have g1 : w1.cell? ⟨0, 13, none⟩ = some (.bool false) := (hk1.2 13 (by decide)).trans rfl
  have g2 : w1.cell? ⟨0, 14, none⟩ = some (.bool false) := (hk1.2 14 (by decide)).trans rfl
  have g3 : w1.cell? ⟨0, 15, none⟩ = some (.bool false) := (hk1.2 15 (by decide)).trans rfl
  obtain ⟨w3, hw3⟩ : ∃ w3, w1.alloc (.cells #[.int .i64 3, .bool false, .bool false, .bool false] 77) = w3 := ⟨_, rfl⟩
  have hb3 : Below w1.heap.size w1 w3 := by rw [← hw3]; exact (Below.refl _ _).alloc (Nat.le_refl _) _
  obtain ⟨f0, f1, f2, f3⟩ := cells_four (show w3.heap[w1.heap.size]? = _ by rw [← hw3]; exact heap_alloc_new w1 _)
  obtain ⟨b0, b1, b2, b3⟩ := cells_four ((hb3.block _ (Array.getElem?_eq_some_iff.1 hx1).1).trans hx1)
  obtain ⟨a0, a1, a2, a3⟩ := cells_four hx1
  have HW1 := Lib.hid hw1
  have HW3 := Lib.hid hw3
  have HB3 := Lib.hid (hb1.trans (hb3.mono hb1.size))
  have HM := Lib.hid hm
  clear hw1 hb1 hx1 hm hw3 hb3 hk1 hK
  go_enter Tryd.func25, Tryd.ntmps25
  go_upto_region 1 with fail
  rw [HW1.out]
  go_upto_region 4 with fail
  rw [HW3.out]
  by_cases hn : n = 0
  · subst hn
    by_cases hs : s = []
    · subst hs
      have hs0 := text_nil
      by_cases hl0 : l = []
      · obtain rfl : m = 0 := by rw [HM.out, hl0]; rfl
        have HE : Hid (R = true) := by show _ = _; rw [hR]; simp [formB, badB, hl0]
        clear hR HM
        go_wp2
        go_ret
        exact ⟨by rw [HE.out]; rfl, HB3.out⟩
      · have hl1 : 0 < m := by rw [HM.out]; exact List.length_pos_iff.2 hl0
        have hl2 : ((m : Int) == 0) = false := by rw [beq_eq_false_iff_ne]; omega
        have HE : Hid (R = false) := by show _ = _; rw [hR]; simp [formB, badB, hl0]
        clear hR HM
        go_wp2
        go_ret
        exact ⟨by rw [HE.out]; rfl, HB3.out⟩
    · obtain ⟨hs2, hs3⟩ := text_not hs
      have HE : Hid (R = false) := by show _ = _; rw [hR]; simp [formB, badB, hs]
      clear hR HM
      go_wp2
      go_ret
      exact ⟨by rw [HE.out]; rfl, HB3.out⟩
  · have hn2 : (n == 0) = false := by simpa using hn
    have HE : Hid (R = false) := by show _ = _; rw [hR]; simp [formB, badB, hn]
    clear hR HM
    go_wp2
    go_ret
    exact ⟨by rw [HE.out]; rfl, HB3.out⟩

set_option maxRecDepth 100000 in
set_option maxHeartbeats 4000000 in
theorem formed_4 (n : Int) (s : T) (l : List Int) (A : Option Addr) (c : Nat) (w : World) (hK : Knd w) :
    Calls Tryd.prog 25 #[.agg #[.int .i64 4, .int .i64 n, .string (bs s), .slice A l.length c]] w fun e W' => e = .returned (.bool (formB ⟨4, n, s, l⟩)) ∧ Below w.heap.size w W' := by
  obtain ⟨m, hm⟩ : ∃ m, m = l.length := ⟨_, rfl⟩
  rw [← hm]
  obtain ⟨w1, hw1⟩ : ∃ w1, w.alloc (.cells #[.int .i64 4, .int .i64 n, .string (bs s), .slice A m c] 40) = w1 := ⟨_, rfl⟩
  have hb1 : Below w.heap.size w w1 := by rw [← hw1]; exact (Below.refl _ _).alloc (Nat.le_refl _) _
  have hx1 : w1.heap[w.heap.size]? = some (.cells #[.int .i64 4, .int .i64 n, .string (bs s), .slice A m c] 40) := by rw [← hw1]; exact heap_alloc_new w _
  obtain ⟨R, hR⟩ : ∃ R, R = formB ⟨4, n, s, l⟩ := ⟨_, rfl⟩
  rw [← hR]
  have hk1 := hK.on hb1
  have g0 : w1.cell? ⟨0, 16, none⟩ = some (.int .i64 0) := (hk1.2 16 (by decide)).trans rfl
  have g1 : w1.cell? ⟨0, 17, none⟩ = some (.bool true) := (hk1.2 17 (by decide)).trans rfl
  have g2 : w1.cell? ⟨0, 18, none⟩ = some (.bool false) := (hk1.2 18 (by decide)).trans rfl
  have g3 : w1.cell? ⟨0, 19, none⟩ = some (.bool false) := (hk1.2 19 (by decide)).trans rfl
  obtain ⟨w3, hw3⟩ : ∃ w3, w1.alloc (.cells #[.int .i64 0, .bool true, .bool false, .bool false] 77) = w3 := ⟨_, rfl⟩
  have hb3 : Below w1.heap.size w1 w3 := by rw [← hw3]; exact (Below.refl _ _).alloc (Nat.le_refl _) _
  obtain ⟨f0, f1, f2, f3⟩ := cells_four (show w3.heap[w1.heap.size]? = _ by rw [← hw3]; exact heap_alloc_new w1 _)
  obtain ⟨b0, b1, b2, b3⟩ := cells_four ((hb3.block _ (Array.getElem?_eq_some_iff.1 hx1).1).trans hx1)
  obtain ⟨a0, a1, a2, a3⟩ := cells_four hx1
  have HW1 := Lib.hid hw1
  have HW3 := Lib.hid hw3
  have HB3 := Lib.hid (hb1.trans (hb3.mono hb1.size))
  have HM := Lib.hid hm
  clear hw1 hb1 hx1 hm hw3 hb3 hk1 hK
  go_enter Tryd.func25, Tryd.ntmps25
  go_upto_region 1 with fail
  rw [HW1.out]
  go_upto_region 4 with fail
  rw [HW3.out]
  by_cases hs : s = []
  · subst hs
    have hs0 := text_nil
    by_cases hl0 : l = []
    · obtain rfl : m = 0 := by rw [HM.out, hl0]; rfl
      have HE : Hid (R = true) := by show _ = _; rw [hR]; simp [formB, badB, hl0]
      clear hR HM
      go_wp2
      go_ret
      exact ⟨by rw [HE.out]; rfl, HB3.out⟩
    · have hl1 : 0 < m := by rw [HM.out]; exact List.length_pos_iff.2 hl0
      have hl2 : ((m : Int) == 0) = false := by rw [beq_eq_false_iff_ne]; omega
      have HE : Hid (R = false) := by show _ = _; rw [hR]; simp [formB, badB, hl0]
      clear hR HM
      go_wp2
      go_ret
      exact ⟨by rw [HE.out]; rfl, HB3.out⟩
  · obtain ⟨hs2, hs3⟩ := text_not hs
    have HE : Hid (R = false) := by show _ = _; rw [hR]; simp [formB, badB, hs]
    clear hR HM
    go_wp2
    go_ret
    exact ⟨by rw [HE.out]; rfl, HB3.out⟩

set_option maxRecDepth 100000 in
set_option maxHeartbeats 4000000 in
theorem formed_5 (n : Int) (s : T) (l : List Int) (A : Option Addr) (c : Nat) (w : World) (hK : Knd w) :
    Calls Tryd.prog 25 #[.agg #[.int .i64 5, .int .i64 n, .string (bs s), .slice A l.length c]] w fun e W' => e = .returned (.bool (formB ⟨5, n, s, l⟩)) ∧ Below w.heap.size w W' := by
  obtain ⟨m, hm⟩ : ∃ m, m = l.length := ⟨_, rfl⟩
  rw [← hm]
  obtain ⟨w1, hw1⟩ : ∃ w1, w.alloc (.cells #[.int .i64 5, .int .i64 n, .string (bs s), .slice A m c] 40) = w1 := ⟨_, rfl⟩
  have hb1 : Below w.heap.size w w1 := by rw [← hw1]; exact (Below.refl _ _).alloc (Nat.le_refl _) _
  have hx1 : w1.heap[w.heap.size]? = some (.cells #[.int .i64 5, .int .i64 n, .string (bs s), .slice A m c] 40) := by rw [← hw1]; exact heap_alloc_new w _
  obtain ⟨R, hR⟩ : ∃ R, R = formB ⟨5, n, s, l⟩ := ⟨_, rfl⟩
  rw [← hR]
  have hk1 := hK.on hb1
  have g0 : w1.cell? ⟨0, 20, none⟩ = some (.int .i64 0) := (hk1.2 20 (by decide)).trans rfl
  have g1 : w1.cell? ⟨0, 21, none⟩ = some (.bool true) := (hk1.2 21 (by decide)).trans rfl
  have g2 : w1.cell? ⟨0, 22, none⟩ = some (.bool true) := (hk1.2 22 (by decide)).trans rfl
  have g3 : w1.cell? ⟨0, 23, none⟩ = some (.bool false) := (hk1.2 23 (by decide)).trans rfl
  obtain ⟨w3, hw3⟩ : ∃ w3, w1.alloc (.cells #[.int .i64 0, .bool true, .bool true, .bool false] 77) = w3 := ⟨_, rfl⟩
  have hb3 : Below w1.heap.size w1 w3 := by rw [← hw3]; exact (Below.refl _ _).alloc (Nat.le_refl _) _
  obtain ⟨f0, f1, f2, f3⟩ := cells_four (show w3.heap[w1.heap.size]? = _ by rw [← hw3]; exact heap_alloc_new w1 _)
  obtain ⟨b0, b1, b2, b3⟩ := cells_four ((hb3.block _ (Array.getElem?_eq_some_iff.1 hx1).1).trans hx1)
  obtain ⟨a0, a1, a2, a3⟩ := cells_four hx1
  have HW1 := Lib.hid hw1
  have HW3 := Lib.hid hw3
  have HB3 := Lib.hid (hb1.trans (hb3.mono hb1.size))
  have HM := Lib.hid hm
  clear hw1 hb1 hx1 hm hw3 hb3 hk1 hK
  go_enter Tryd.func25, Tryd.ntmps25
  go_upto_region 1 with fail
  rw [HW1.out]
  go_upto_region 4 with fail
  rw [HW3.out]
  by_cases hl0 : l = []
  · obtain rfl : m = 0 := by rw [HM.out, hl0]; rfl
    have HE : Hid (R = true) := by show _ = _; rw [hR]; simp [formB, badB, hl0]
    clear hR HM
    go_wp2
    go_ret
    exact ⟨by rw [HE.out]; rfl, HB3.out⟩
  · have hl1 : 0 < m := by rw [HM.out]; exact List.length_pos_iff.2 hl0
    have hl2 : ((m : Int) == 0) = false := by rw [beq_eq_false_iff_ne]; omega
    have HE : Hid (R = false) := by show _ = _; rw [hR]; simp [formB, badB, hl0]
    clear hR HM
    go_wp2
    go_ret
    exact ⟨by rw [HE.out]; rfl, HB3.out⟩

set_option maxRecDepth 100000 in
set_option maxHeartbeats 4000000 in
theorem formed_6 (n : Int) (s : T) (l : List Int) (A : Option Addr) (c : Nat) (w : World) (hK : Knd w) :
    Calls Tryd.prog 25 #[.agg #[.int .i64 6, .int .i64 n, .string (bs s), .slice A l.length c]] w fun e W' => e = .returned (.bool (formB ⟨6, n, s, l⟩)) ∧ Below w.heap.size w W' := by
  obtain ⟨m, hm⟩ : ∃ m, m = l.length := ⟨_, rfl⟩
  rw [← hm]
  obtain ⟨w1, hw1⟩ : ∃ w1, w.alloc (.cells #[.int .i64 6, .int .i64 n, .string (bs s), .slice A m c] 40) = w1 := ⟨_, rfl⟩
  have hb1 : Below w.heap.size w w1 := by rw [← hw1]; exact (Below.refl _ _).alloc (Nat.le_refl _) _
  have hx1 : w1.heap[w.heap.size]? = some (.cells #[.int .i64 6, .int .i64 n, .string (bs s), .slice A m c] 40) := by rw [← hw1]; exact heap_alloc_new w _
  obtain ⟨R, hR⟩ : ∃ R, R = formB ⟨6, n, s, l⟩ := ⟨_, rfl⟩
  rw [← hR]
  have hk1 := hK.on hb1
  have g0 : w1.cell? ⟨0, 24, none⟩ = some (.int .i64 0) := (hk1.2 24 (by decide)).trans rfl
  have g1 : w1.cell? ⟨0, 25, none⟩ = some (.bool false) := (hk1.2 25 (by decide)).trans rfl
  have g2 : w1.cell? ⟨0, 26, none⟩ = some (.bool true) := (hk1.2 26 (by decide)).trans rfl
  have g3 : w1.cell? ⟨0, 27, none⟩ = some (.bool true) := (hk1.2 27 (by decide)).trans rfl
  obtain ⟨w3, hw3⟩ : ∃ w3, w1.alloc (.cells #[.int .i64 0, .bool false, .bool true, .bool true] 77) = w3 := ⟨_, rfl⟩
  have hb3 : Below w1.heap.size w1 w3 := by rw [← hw3]; exact (Below.refl _ _).alloc (Nat.le_refl _) _
  obtain ⟨f0, f1, f2, f3⟩ := cells_four (show w3.heap[w1.heap.size]? = _ by rw [← hw3]; exact heap_alloc_new w1 _)
  obtain ⟨b0, b1, b2, b3⟩ := cells_four ((hb3.block _ (Array.getElem?_eq_some_iff.1 hx1).1).trans hx1)
  obtain ⟨a0, a1, a2, a3⟩ := cells_four hx1
  have HW1 := Lib.hid hw1
  have HW3 := Lib.hid hw3
  have HB3 := Lib.hid (hb1.trans (hb3.mono hb1.size))
  have HM := Lib.hid hm
  clear hw1 hb1 hx1 hm hw3 hb3 hk1 hK
  go_enter Tryd.func25, Tryd.ntmps25
  go_upto_region 1 with fail
  rw [HW1.out]
  go_upto_region 4 with fail
  rw [HW3.out]
  by_cases hn : n = 0
  · subst hn
    have HE : Hid (R = true) := by show _ = _; rw [hR]; simp [formB, badB]
    clear hR HM
    go_wp2
    go_ret
    exact ⟨by rw [HE.out]; rfl, HB3.out⟩
  · have hn2 : (n == 0) = false := by simpa using hn
    have HE : Hid (R = false) := by show _ = _; rw [hR]; simp [formB, badB, hn]
    clear hR HM
    go_wp2
    go_ret
    exact ⟨by rw [HE.out]; rfl, HB3.out⟩

set_option maxRecDepth 100000 in
set_option maxHeartbeats 4000000 in
theorem formed_low (k n : Int) (s : T) (l : List Int) (A : Option Addr) (c : Nat) (w : World) (h : k < 1) :
    Calls Tryd.prog 25 #[.agg #[.int .i64 k, .int .i64 n, .string (bs s), .slice A l.length c]] w fun e W' => e = .returned (.bool (formB ⟨k, n, s, l⟩)) ∧ Below w.heap.size w W' := by
  obtain ⟨m, hm⟩ : ∃ m, m = l.length := ⟨_, rfl⟩
  rw [← hm]
  obtain ⟨w1, hw1⟩ : ∃ w1, w.alloc (.cells #[.int .i64 k, .int .i64 n, .string (bs s), .slice A m c] 40) = w1 := ⟨_, rfl⟩
  have hb1 : Below w.heap.size w w1 := by rw [← hw1]; exact (Below.refl _ _).alloc (Nat.le_refl _) _
  have hx1 : w1.heap[w.heap.size]? = some (.cells #[.int .i64 k, .int .i64 n, .string (bs s), .slice A m c] 40) := by rw [← hw1]; exact heap_alloc_new w _
  obtain ⟨R, hR⟩ : ∃ R, R = formB ⟨k, n, s, l⟩ := ⟨_, rfl⟩
  rw [← hR]
  obtain ⟨a0, a1, a2, a3⟩ := cells_four hx1
  have HW1 := Lib.hid hw1
  have HB1 := Lib.hid hb1
  have HE : Hid (R = false) := by show _ = _; rw [hR]; unfold formB; rw [decide_eq_false (by show ¬ (1 ≤ k ∧ k ≤ 6); omega)]; rfl
  clear hw1 hb1 hx1 hR hm
  go_enter Tryd.func25, Tryd.ntmps25
  go_upto_region 1 with fail
  rw [HW1.out]
  go_wp2
  go_ret
  exact ⟨by rw [HE.out]; rfl, HB1.out⟩

set_option maxRecDepth 100000 in
set_option maxHeartbeats 4000000 in
theorem formed_high (k n : Int) (s : T) (l : List Int) (A : Option Addr) (c : Nat) (w : World) (h : 6 < k) :
    Calls Tryd.prog 25 #[.agg #[.int .i64 k, .int .i64 n, .string (bs s), .slice A l.length c]] w fun e W' => e = .returned (.bool (formB ⟨k, n, s, l⟩)) ∧ Below w.heap.size w W' := by
  obtain ⟨m, hm⟩ : ∃ m, m = l.length := ⟨_, rfl⟩
  rw [← hm]
  obtain ⟨w1, hw1⟩ : ∃ w1, w.alloc (.cells #[.int .i64 k, .int .i64 n, .string (bs s), .slice A m c] 40) = w1 := ⟨_, rfl⟩
  have hb1 : Below w.heap.size w w1 := by rw [← hw1]; exact (Below.refl _ _).alloc (Nat.le_refl _) _
  have hx1 : w1.heap[w.heap.size]? = some (.cells #[.int .i64 k, .int .i64 n, .string (bs s), .slice A m c] 40) := by rw [← hw1]; exact heap_alloc_new w _
  obtain ⟨R, hR⟩ : ∃ R, R = formB ⟨k, n, s, l⟩ := ⟨_, rfl⟩
  rw [← hR]
  obtain ⟨a0, a1, a2, a3⟩ := cells_four hx1
  have HW1 := Lib.hid hw1
  have HB1 := Lib.hid hb1
  have HE : Hid (R = false) := by show _ = _; rw [hR]; unfold formB; rw [decide_eq_false (by show ¬ (1 ≤ k ∧ k ≤ 6); omega)]; rfl
  clear hw1 hb1 hx1 hR hm
  go_enter Tryd.func25, Tryd.ntmps25
  go_upto_region 1 with fail
  rw [HW1.out]
  have h2 : ¬ k < 1 := by omega
  go_wp2
  go_ret
  exact ⟨by rw [HE.out]; rfl, HB1.out⟩

theorem formed_is (o : Opp) (A : Option Addr) (c : Nat) (w : World) (hK : Knd w) :
    Calls Tryd.prog 25 #[.agg #[.int .i64 o.k, .int .i64 o.n, .string (bs o.s), .slice A o.l.length c]] w fun e W' => e = .returned (.bool (formB o)) ∧ Below w.heap.size w W' := by
  obtain ⟨k, n, s, l⟩ := o
  by_cases h : k < 1
  · exact formed_low k n s l A c w h
  by_cases h : 6 < k
  · exact formed_high k n s l A c w h
  by_cases k1 : k = 1
  · subst k1; exact formed_1 n s l A c w hK
  by_cases k2 : k = 2
  · subst k2; exact formed_2 n s l A c w hK
  by_cases k3 : k = 3
  · subst k3; exact formed_3 n s l A c w hK
  by_cases k4 : k = 4
  · subst k4; exact formed_4 n s l A c w hK
  by_cases k5 : k = 5
  · subst k5; exact formed_5 n s l A c w hK
  by_cases k6 : k = 6
  · subst k6; exact formed_6 n s l A c w hK
  omega

set_option maxRecDepth 100000 in
set_option maxHeartbeats 4000000 in
theorem taken_1 (s : T) (l : List Int) (A : Option Addr) (c : Nat) (w : World) (hK : Knd w) :
    Calls Tryd.prog 27 #[.agg #[.int .i64 1, .int .i64 0, .string (bs s), .slice A l.length c]] w fun e W' => e = .returned (.int .i64 0) ∧ Below w.heap.size w W' := by
  generalize l.length = m
  obtain ⟨w1, hw1⟩ : ∃ w1, w.alloc (.cells #[.int .i64 1, .int .i64 0, .string (bs s), .slice A m c] 40) = w1 := ⟨_, rfl⟩
  have hb1 : Below w.heap.size w w1 := by rw [← hw1]; exact (Below.refl _ _).alloc (Nat.le_refl _) _
  have hx1 : w1.heap[w.heap.size]? = some (.cells #[.int .i64 1, .int .i64 0, .string (bs s), .slice A m c] 40) := by rw [← hw1]; exact heap_alloc_new w _
  obtain ⟨a0, a1, a2, a3⟩ := cells_four hx1
  have g0 : w1.cell? ⟨0, 4, none⟩ = some (.int .i64 0) := ((hK.on hb1).2 4 (by decide)).trans rfl
  have HW1 := Lib.hid hw1
  have HB1 := Lib.hid hb1
  clear hw1 hb1 hx1 hK
  go_enter Tryd.func27, Tryd.ntmps27
  go_upto_region 1 with fail
  rw [HW1.out]
  go_quiet (fail)
  go_wp2
  go_ret
  exact ⟨rfl, below_drewN HB1.out nq⟩

set_option maxRecDepth 100000 in
set_option maxHeartbeats 4000000 in
theorem taken_2 (s : T) (l : List Int) (A : Option Addr) (c : Nat) (w : World) (hK : Knd w) :
    Calls Tryd.prog 27 #[.agg #[.int .i64 2, .int .i64 0, .string (bs s), .slice A l.length c]] w fun e W' => e = .returned (.int .i64 1) ∧ Below w.heap.size w W' := by
  generalize l.length = m
  obtain ⟨w1, hw1⟩ : ∃ w1, w.alloc (.cells #[.int .i64 2, .int .i64 0, .string (bs s), .slice A m c] 40) = w1 := ⟨_, rfl⟩
  have hb1 : Below w.heap.size w w1 := by rw [← hw1]; exact (Below.refl _ _).alloc (Nat.le_refl _) _
  have hx1 : w1.heap[w.heap.size]? = some (.cells #[.int .i64 2, .int .i64 0, .string (bs s), .slice A m c] 40) := by rw [← hw1]; exact heap_alloc_new w _
  obtain ⟨a0, a1, a2, a3⟩ := cells_four hx1
  have g0 : w1.cell? ⟨0, 8, none⟩ = some (.int .i64 1) := ((hK.on hb1).2 8 (by decide)).trans rfl
  have HW1 := Lib.hid hw1
  have HB1 := Lib.hid hb1
  clear hw1 hb1 hx1 hK
  go_enter Tryd.func27, Tryd.ntmps27
  go_upto_region 1 with fail
  rw [HW1.out]
  go_quiet (fail)
  go_wp2
  go_ret
  exact ⟨rfl, below_drewN HB1.out nq⟩

set_option maxRecDepth 100000 in
set_option maxHeartbeats 4000000 in
theorem taken_3 (s : T) (l : List Int) (A : Option Addr) (c : Nat) (w : World) (hK : Knd w) :
    Calls Tryd.prog 27 #[.agg #[.int .i64 3, .int .i64 0, .string (bs s), .slice A l.length c]] w fun e W' => e = .returned (.int .i64 3) ∧ Below w.heap.size w W' := by
  generalize l.length = m
  obtain ⟨w1, hw1⟩ : ∃ w1, w.alloc (.cells #[.int .i64 3, .int .i64 0, .string (bs s), .slice A m c] 40) = w1 := ⟨_, rfl⟩
  have hb1 : Below w.heap.size w w1 := by rw [← hw1]; exact (Below.refl _ _).alloc (Nat.le_refl _) _
  have hx1 : w1.heap[w.heap.size]? = some (.cells #[.int .i64 3, .int .i64 0, .string (bs s), .slice A m c] 40) := by rw [← hw1]; exact heap_alloc_new w _
  obtain ⟨a0, a1, a2, a3⟩ := cells_four hx1
  have g0 : w1.cell? ⟨0, 12, none⟩ = some (.int .i64 3) := ((hK.on hb1).2 12 (by decide)).trans rfl
  have HW1 := Lib.hid hw1
  have HB1 := Lib.hid hb1
  clear hw1 hb1 hx1 hK
  go_enter Tryd.func27, Tryd.ntmps27
  go_upto_region 1 with fail
  rw [HW1.out]
  go_quiet (fail)
  go_wp2
  go_ret
  exact ⟨rfl, below_drewN HB1.out nq⟩

set_option maxRecDepth 100000 in
set_option maxHeartbeats 4000000 in
theorem taken_4 (n : Int) (s : T) (l : List Int) (A : Option Addr) (c : Nat) (w : World) (hK : Knd w) (h1 : -9223372036854775808 ≤ n) (h2 : n ≤ 9223372036854775807) :
    Calls Tryd.prog 27 #[.agg #[.int .i64 4, .int .i64 n, .string (bs s), .slice A l.length c]] w fun e W' => e = .returned (.int .i64 n) ∧ Below w.heap.size w W' := by
  generalize l.length = m
  obtain ⟨w1, hw1⟩ : ∃ w1, w.alloc (.cells #[.int .i64 4, .int .i64 n, .string (bs s), .slice A m c] 40) = w1 := ⟨_, rfl⟩
  have hb1 : Below w.heap.size w w1 := by rw [← hw1]; exact (Below.refl _ _).alloc (Nat.le_refl _) _
  have hx1 : w1.heap[w.heap.size]? = some (.cells #[.int .i64 4, .int .i64 n, .string (bs s), .slice A m c] 40) := by rw [← hw1]; exact heap_alloc_new w _
  obtain ⟨a0, a1, a2, a3⟩ := cells_four hx1
  have g0 : w1.cell? ⟨0, 16, none⟩ = some (.int .i64 0) := ((hK.on hb1).2 16 (by decide)).trans rfl
  have HW1 := Lib.hid hw1
  have HB1 := Lib.hid hb1
  clear hw1 hb1 hx1 hK
  have hr : IntKind.i64.wrap n = n := IntWalk.i64_in _ (by omega)
  go_enter Tryd.func27, Tryd.ntmps27
  go_upto_region 1 with fail
  rw [HW1.out]
  go_quiet (fail)
  go_wp2
  go_ret
  exact ⟨rfl, below_drewN HB1.out nq⟩

set_option maxRecDepth 100000 in
set_option maxHeartbeats 4000000 in
theorem taken_5 (n : Int) (s : T) (l : List Int) (A : Option Addr) (c : Nat) (w : World) (hK : Knd w) (h1 : -9223372036854775808 ≤ n) (h2 : n ≤ 9223372036854775807) :
    Calls Tryd.prog 27 #[.agg #[.int .i64 5, .int .i64 n, .string (bs s), .slice A l.length c]] w fun e W' => e = .returned (.int .i64 n) ∧ Below w.heap.size w W' := by
  generalize l.length = m
  obtain ⟨w1, hw1⟩ : ∃ w1, w.alloc (.cells #[.int .i64 5, .int .i64 n, .string (bs s), .slice A m c] 40) = w1 := ⟨_, rfl⟩
  have hb1 : Below w.heap.size w w1 := by rw [← hw1]; exact (Below.refl _ _).alloc (Nat.le_refl _) _
  have hx1 : w1.heap[w.heap.size]? = some (.cells #[.int .i64 5, .int .i64 n, .string (bs s), .slice A m c] 40) := by rw [← hw1]; exact heap_alloc_new w _
  obtain ⟨a0, a1, a2, a3⟩ := cells_four hx1
  have g0 : w1.cell? ⟨0, 20, none⟩ = some (.int .i64 0) := ((hK.on hb1).2 20 (by decide)).trans rfl
  have HW1 := Lib.hid hw1
  have HB1 := Lib.hid hb1
  clear hw1 hb1 hx1 hK
  have hr : IntKind.i64.wrap n = n := IntWalk.i64_in _ (by omega)
  go_enter Tryd.func27, Tryd.ntmps27
  go_upto_region 1 with fail
  rw [HW1.out]
  go_quiet (fail)
  go_wp2
  go_ret
  exact ⟨rfl, below_drewN HB1.out nq⟩

set_option maxRecDepth 100000 in
set_option maxHeartbeats 4000000 in
theorem taken_6 (s : T) (l : List Int) (A : Option Addr) (c : Nat) (w : World) (hK : Knd w) :
    Calls Tryd.prog 27 #[.agg #[.int .i64 6, .int .i64 0, .string (bs s), .slice A l.length c]] w fun e W' => e = .returned (.int .i64 0) ∧ Below w.heap.size w W' := by
  generalize l.length = m
  obtain ⟨w1, hw1⟩ : ∃ w1, w.alloc (.cells #[.int .i64 6, .int .i64 0, .string (bs s), .slice A m c] 40) = w1 := ⟨_, rfl⟩
  have hb1 : Below w.heap.size w w1 := by rw [← hw1]; exact (Below.refl _ _).alloc (Nat.le_refl _) _
  have hx1 : w1.heap[w.heap.size]? = some (.cells #[.int .i64 6, .int .i64 0, .string (bs s), .slice A m c] 40) := by rw [← hw1]; exact heap_alloc_new w _
  obtain ⟨a0, a1, a2, a3⟩ := cells_four hx1
  have g0 : w1.cell? ⟨0, 24, none⟩ = some (.int .i64 0) := ((hK.on hb1).2 24 (by decide)).trans rfl
  have HW1 := Lib.hid hw1
  have HB1 := Lib.hid hb1
  clear hw1 hb1 hx1 hK
  go_enter Tryd.func27, Tryd.ntmps27
  go_upto_region 1 with fail
  rw [HW1.out]
  go_quiet (fail)
  go_wp2
  go_ret
  exact ⟨rfl, below_drewN HB1.out nq⟩

theorem taken_is (o : Opp) (A : Option Addr) (c : Nat) (w : World) (hK : Knd w) (hf : formB o = true) (h1 : -9223372036854775808 ≤ o.n) (h2 : o.n ≤ 9223372036854775807) :
    Calls Tryd.prog 27 #[.agg #[.int .i64 o.k, .int .i64 o.n, .string (bs o.s), .slice A o.l.length c]] w fun e W' => e = .returned (.int .i64 (takenZ o)) ∧ Below w.heap.size w W' := by
  obtain ⟨hk, hn⟩ := form_n hf
  obtain ⟨k, n, s, l⟩ := o
  dsimp only at hk hn h1 h2
  by_cases k1 : k = 1
  · subst k1; obtain rfl := hn (by decide); exact taken_1 s l A c w hK
  by_cases k2 : k = 2
  · subst k2; obtain rfl := hn (by decide); exact taken_2 s l A c w hK
  by_cases k3 : k = 3
  · subst k3; obtain rfl := hn (by decide); exact taken_3 s l A c w hK
  by_cases k4 : k = 4
  · subst k4; exact taken_4 n s l A c w hK h1 h2
  by_cases k5 : k = 5
  · subst k5; exact taken_5 n s l A c w hK h1 h2
  by_cases k6 : k = 6
  · subst k6; obtain rfl := hn (by decide); exact taken_6 s l A c w hK
  omega

end Go.Proofs.YtpphkaolonjjdaaDoor.Jfm
