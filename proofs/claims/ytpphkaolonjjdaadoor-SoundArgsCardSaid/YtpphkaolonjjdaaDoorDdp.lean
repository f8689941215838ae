/- The document's Depth and Check. -/
import Derived.Test.YtpphkaolonjjdaaDoorDbk
namespace Go.Proofs.YtpphkaolonjjdaaDoor.Ddp
open Go Go.RowKit Go.Proofs.YtpphkaolonjjdaaDoor.Spl Go.Proofs.YtpphkaolonjjdaaDoor.Cpl Go.Proofs.YtpphkaolonjjdaaDoor.Cin Go.Proofs.YtpphkaolonjjdaaDoor.Cops Go.Proofs.YtpphkaolonjjdaaDoor.Dpl Go.Proofs.YtpphkaolonjjdaaDoor.Dft Go.Proofs.YtpphkaolonjjdaaDoor.Dtk Go.Proofs.YtpphkaolonjjdaaDoor.Dbk
open Go.Proofs.YtpphkaolonjjdaaDoor.Pure (bs)

theorem deep_step (q tot : Nat) (B : List (List Opp)) {j : Nat} {l : List Opp} (hj : B[j]? = some l) (m : Int) : deepP q tot j (B.drop j) m = if blockP j q l < 0 then 0 else deepP q tot (j + 1) (B.drop (j + 1)) (max m (blockP j q l)) := by
  have h1 : B.drop j = l :: B.drop (j + 1) := by
    obtain ⟨h2, h3⟩ := List.getElem?_eq_some_iff.1 hj
    rw [← h3]; exact List.drop_eq_getElem_cons h2
  rw [h1, deepP]
theorem deep_end (q tot : Nat) (B : List (List Opp)) (m : Int) : deepP q tot B.length (B.drop B.length) m = if 16384 < tot then 0 else m := by
  rw [List.drop_length, deepP]

set_option maxRecDepth 100000 in
set_option maxHeartbeats 4000000 in
theorem depth_is (B : List (List Opp)) (S : Nat → Prop) (v : Value) (w : World) (h : CodeIn S w v B) (hB : B.length ≤ 1000000000000000) (ho : opsP B ≤ 1000000000000000) (hx : ∀ l ∈ B, ∀ o ∈ l, o.l.length ≤ 1000000000000000) :
    Calls Tryd.prog 13 #[v] w fun e W' => e = .returned (.int .i64 (depthP B)) ∧ Below w.heap.size w W' := by
  have hrows : ∀ l ∈ B, l.length ≤ 1000000000000000 := fun l hl => by
    have : ∀ {B : List (List Opp)} {l : List Opp}, l ∈ B → l.length ≤ opsP B := by
      intro B
      induction B with
      | nil => intro l h; cases h
      | cons x r ih =>
        intro l h
        rw [opsP]
        rcases List.mem_cons.1 h with e | h
        · rw [e]; omega
        · have := ih h; omega
    have := this hl
    omega
  have h0 := h
  obtain ⟨A, c, rfl, hc, hr⟩ := h
  obtain ⟨q, hq⟩ : ∃ q, q = B.length := ⟨_, rfl⟩
  have hd0 : depthP B = deepP q (opsP B) 0 (B.drop 0) 0 := by rw [hq]; rfl
  obtain ⟨t, ht⟩ : ∃ t, t = opsP B := ⟨_, rfl⟩
  obtain ⟨R, hR⟩ : ∃ R, R = depthP B := ⟨_, rfl⟩
  rw [← hR]
  rw [← hR, ← ht] at hd0
  rw [← ht] at ho
  rw [← hq] at hc h0 ⊢
  obtain ⟨w1, hw1⟩ : ∃ w1, w.alloc (.cells #[.slice A q c] 24) = w1 := ⟨_, rfl⟩
  have hb1 : Below w.heap.size w w1 := by rw [← hw1]; exact (Below.refl _ _).alloc (Nat.le_refl _) _
  have hx1 : w1.heap[w.heap.size]? = some (.cells #[.slice A q c] 24) := by rw [← hw1]; exact heap_alloc_new w _
  have HBl : Hid (∀ (j : Nat) (l : List Opp) (W : World), B[j]? = some l → Below w.heap.size w W → Calls Tryd.prog 20 #[.agg #[.slice A q c], .int .i64 (j : Int)] W fun e W' => e = .returned (.int .i64 (blockP j q l)) ∧ Below W.heap.size W W') := fun j l W hj hW => by
    have h1 := block_is B S _ W (h0.on hW) j l hj (hrows l (List.mem_of_getElem? hj)) (hx l (List.mem_of_getElem? hj))
    rw [← hq] at h1
    exact h1
  have HOp : Hid (∀ W : World, Below w.heap.size w W → Calls Tryd.prog 21 #[.agg #[.slice A q c]] W fun e W' => e = .returned (.int .i64 (t : Int)) ∧ Below W.heap.size W W') := fun W hW => by
    have h1 := refOps_is B S _ W (h0.on hW) (by rw [← ht]; exact ho) hB
    rw [← ht] at h1
    exact h1
  have HW1 := Lib.hid hw1
  have HB1 := Lib.hid hb1
  have HX1 := Lib.hid hx1
  have HQ := Lib.hid hq
  have HD := Lib.hid hd0
  have hq1 : q ≤ 1000000000000000 := by omega
  clear hw1 hb1 hx1 hr h0 hq hd0 hR ht hrows hx hB
  go_enter Tryd.func13, Tryd.ntmps13
  go_upto_region 1 with fail
  rw [HW1.out]
  go_upto_region 3 with fail
  go_loopw [3, 4] (fun n i wr => ∃ (j : Nat) (y : Int), j ≤ q ∧ i = .int .i64 (j : Int) ∧ n = .int .i64 y ∧ 0 ≤ y ∧ Hid (R = deepP q t j (B.drop j) y) ∧ Hid (Below w1.heap.size w1 wr)) (fun _ i _ => q - (intOf i).toNat)
  case atStart => exact ⟨0, 0, Nat.zero_le _, rfl, rfl, by decide, HD, Below.refl _ _⟩
  case round =>
    obtain ⟨j, y, hj, rfl, rfl, hy0, HU, HB⟩ := hrel
    have a0 := one_cell ((HB.out.block w.heap.size (Array.getElem?_eq_some_iff.1 HX1.out).1).trans HX1.out)
    have HBr : Hid (Below w.heap.size w wr) := HB1.out.trans (HB.out.mono HB1.out.size)
    by_cases hlt : j < q
    · obtain ⟨l, hl⟩ : ∃ l, B[j]? = some l := ⟨_, List.getElem?_eq_getElem (by have := HQ.out; omega)⟩
      have hjq : (j : Int) < (q : Int) := by omega
      obtain ⟨k, hk⟩ : ∃ k, k = blockP j q l := ⟨_, rfl⟩
      have hs := deep_step q t B hl y
      have hC := HBl.out j l wr hl HBr.out
      rw [← hk] at hs hC
      have HC := Lib.hid hC
      have HS := Lib.hid hs
      clear hs hC hk hl
      by_cases h1 : k < 0
      · have hE : R = 0 := by rw [HU.out, HS.out, if_pos h1]
        have HE := Lib.hid hE
        clear hE
        go_wp2_with (go_at_call 20; refine HC.out.mono ?_; rintro e W' ⟨rfl, hb3⟩; have HB3 := Lib.hid (HBr.out.trans (hb3.mono HBr.out.size)); clear hb3)
        go_ret
        exact ⟨by rw [HE.out]; rfl, HB3.out⟩
      · have hE : R = deepP q t (j + 1) (B.drop (j + 1)) (max y k) := by rw [HU.out, HS.out, if_neg h1]
        have HE := Lib.hid hE
        clear hE
        go_wp2_with (go_at_call 20; refine HC.out.mono ?_; rintro e W' ⟨rfl, hb3⟩; have HB3 := Lib.hid (HB.out.trans (hb3.mono HB.out.size)); clear hb3)
        go_roundw
        case rel => exact ⟨j + 1, max y k, by omega, by go_num, congrArg _ (by split <;> omega), by omega, HE, HB3⟩
        case measure => simp [intOf]; omega
    · obtain rfl : q = j := by omega
      have hE := HU.out
      rw [show deepP q t q (B.drop q) y = if 16384 < t then 0 else y by have h1 := deep_end q t B y; rw [← HQ.out] at h1; exact h1] at hE
      have HOr := Lib.hid (HOp.out wr HBr.out)
      by_cases h1 : 16384 < t
      · rw [if_pos h1] at hE
        have HE := Lib.hid hE
        have h1b : (16384 : Int) < (t : Int) := by omega
        clear hE
        go_wp2_with (go_at_call 21; refine HOr.out.mono ?_; rintro e W' ⟨rfl, hb3⟩; have HB3 := Lib.hid (HBr.out.trans (hb3.mono HBr.out.size)); clear hb3)
        go_ret
        exact ⟨by rw [HE.out]; rfl, HB3.out⟩
      · rw [if_neg h1] at hE
        have HE := Lib.hid hE
        have h1b : ¬ (16384 : Int) < (t : Int) := by omega
        clear hE
        go_wp2_with (go_at_call 21; refine HOr.out.mono ?_; rintro e W' ⟨rfl, hb3⟩; have HB3 := Lib.hid (HBr.out.trans (hb3.mono HBr.out.size)); clear hb3)
        go_ret
        exact ⟨by rw [HE.out]; rfl, HB3.out⟩

set_option maxRecDepth 100000 in
set_option maxHeartbeats 4000000 in
theorem check_is (B : List (List Opp)) (S : Nat → Prop) (v : Value) (w : World) (h : CodeIn S w v B) (hB : B.length ≤ 1000000000000000) (ho : opsP B ≤ 1000000000000000) (hx : ∀ l ∈ B, ∀ o ∈ l, o.l.length ≤ 1000000000000000) :
    Calls Tryd.prog 11 #[v] w fun e W' => e = .returned (.bool (checkP B)) ∧ Below w.heap.size w W' := by
  have h0 := h
  obtain ⟨A, c, rfl, hc, hr⟩ := h
  obtain ⟨R, hR⟩ : ∃ R, R = depthP B := ⟨_, rfl⟩
  have HD : Hid (∀ W : World, Below w.heap.size w W → Calls Tryd.prog 13 #[.agg #[.slice A B.length c]] W fun e W' => e = .returned (.int .i64 R) ∧ Below W.heap.size W W') := fun W hW => by
    have h1 := depth_is B S _ W (h0.on hW) hB ho hx
    rw [← hR] at h1
    exact h1
  have hch : checkP B = decide (0 < R) := by rw [hR]; rfl
  rw [hch]
  obtain ⟨w1, hw1⟩ : ∃ w1, w.alloc (.cells #[.slice A B.length c] 24) = w1 := ⟨_, rfl⟩
  have hb1 : Below w.heap.size w w1 := by rw [← hw1]; exact (Below.refl _ _).alloc (Nat.le_refl _) _
  have hx1 : w1.heap[w.heap.size]? = some (.cells #[.slice A B.length c] 24) := by rw [← hw1]; exact heap_alloc_new w _
  have a0 := one_cell hx1
  have HW1 := Lib.hid hw1
  have HB1 := Lib.hid hb1
  have HC := Lib.hid (HD.out w1 hb1)
  clear hw1 hb1 hx1 h0 hr hx hR hch HD
  go_enter Tryd.func11, Tryd.ntmps11
  go_upto_region 1 with fail
  rw [HW1.out]
  go_wp2_with (go_at_call 13; refine HC.out.mono ?_; rintro e W' ⟨rfl, hb3⟩; have HB3 := Lib.hid (HB1.out.trans (hb3.mono HB1.out.size)); clear hb3)
  go_ret
  exact ⟨rfl, HB3.out⟩

end Go.Proofs.YtpphkaolonjjdaaDoor.Ddp
