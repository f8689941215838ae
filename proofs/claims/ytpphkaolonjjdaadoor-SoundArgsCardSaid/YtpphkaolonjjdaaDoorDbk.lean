/- The document's block: the most on a block's pile. -/
import Derived.Test.YtpphkaolonjjdaaDoorDtk
namespace Go.Proofs.YtpphkaolonjjdaaDoor.Dbk
open Go Go.RowKit Go.Proofs.YtpphkaolonjjdaaDoor.Spl Go.Proofs.YtpphkaolonjjdaaDoor.Cpl Go.Proofs.YtpphkaolonjjdaaDoor.Cin Go.Proofs.YtpphkaolonjjdaaDoor.Cops Go.Proofs.YtpphkaolonjjdaaDoor.Dpl Go.Proofs.YtpphkaolonjjdaaDoor.Dft Go.Proofs.YtpphkaolonjjdaaDoor.Dtk
open Go.Proofs.YtpphkaolonjjdaaDoor.Pure (bs)

set_option maxRecDepth 100000 in
set_option maxHeartbeats 4000000 in
theorem block_is (B : List (List Opp)) (S : Nat → Prop) (v : Value) (w : World) (h : CodeIn S w v B) (b : Nat) (l : List Opp) (hb : B[b]? = some l) (hl : l.length ≤ 1000000000000000) (hx : ∀ o ∈ l, o.l.length ≤ 1000000000000000) :
    Calls Tryd.prog 20 #[v, .int .i64 (b : Int)] w fun e W' => e = .returned (.int .i64 (blockP b B.length l)) ∧ Below w.heap.size w W' := by
  obtain ⟨A, c, rfl, hc, hr⟩ := h
  have hbl := (List.getElem?_eq_some_iff.1 hb).1
  obtain ⟨q, hq⟩ : ∃ q, q = B.length := ⟨_, rfl⟩
  rw [← hq] at hc hbl ⊢
  obtain ⟨w1, hw1⟩ : ∃ w1, w.alloc (.cells #[.slice A q c] 24) = w1 := ⟨_, rfl⟩
  have hb1 : Below w.heap.size w w1 := by rw [← hw1]; exact (Below.refl _ _).alloc (Nat.le_refl _) _
  have hx1 : w1.heap[w.heap.size]? = some (.cells #[.slice A q c] 24) := by rw [← hw1]; exact heap_alloc_new w _
  obtain ⟨bb, oo, hA, hbb, A2, c2, hc2, hops, e1⟩ := (hr.on hb1).get hb
  obtain ⟨m, hm⟩ : ∃ m, m = l.length := ⟨_, rfl⟩
  rw [← hm] at hl hc2 e1
  have HW1 := Lib.hid hw1
  have HB1 := Lib.hid hb1
  have HX1 := Lib.hid hx1
  have HR := Lib.hid hops
  have HM := Lib.hid hm
  have HX := Lib.hid hx
  have HE1 := Lib.hid e1
  have HBB := Lib.hid hbb
  have HA := Lib.hid hA
  have hbq : (b : Int) < (q : Int) := by omega
  obtain ⟨R, hR⟩ : ∃ R, R = blockP b q l := ⟨_, rfl⟩
  have HRv := Lib.hid hR
  rw [← hR]
  clear hw1 hb1 hx1 hr hb hops hm hx e1 hbb hR hq hA
  go_enter Tryd.func20, Tryd.ntmps20
  go_upto_region 1 with fail
  rw [HW1.out]
  go_upto_region 3 with fail
  go_loopw [5, 6, 7] (fun n t i wr => ∃ (j : Nat) (x y : Int), j ≤ m ∧ i = .int .i64 (j : Int) ∧ n = .int .i64 x ∧ t = .int .i64 y ∧ 0 ≤ x ∧ x ≤ (j : Int) ∧ 0 ≤ y ∧ y ≤ (j : Int) ∧ Hid (runP b q (l.take j) 0 0 = some (x, y)) ∧ Hid (Below w1.heap.size w1 wr)) (fun _ _ i _ => m - (intOf i).toNat)
  case atStart => exact ⟨0, 0, 0, Nat.zero_le _, rfl, rfl, rfl, by decide, by decide, by decide, by decide, rfl, Below.refl _ _⟩
  case round =>
    obtain ⟨j, x, y, hj, rfl, rfl, rfl, hx0, hxj, hy0, hyj, HU, HB⟩ := hrel
    have a0 := one_cell ((HB.out.block w.heap.size (Array.getElem?_eq_some_iff.1 HX1.out).1).trans HX1.out)
    have b0 := (World.cell?_of_block (a := ⟨bb, oo + b, none⟩) (HB.out.block bb HBB.out)).trans HE1.out
    have HBr : Hid (Below w.heap.size w wr) := HB1.out.trans (HB.out.mono HB1.out.size)
    rw [HA.out] at a0
    by_cases hlt : j < m
    · obtain ⟨o, ho⟩ : ∃ o, l[j]? = some o := ⟨_, List.getElem?_eq_getElem (by have := HM.out; omega)⟩
      have hjm : (j : Int) < (m : Int) := by omega
      obtain ⟨p, r, hP, hp, Q1, k1, hq1, hn1, f0, f1, f2, f3⟩ := (HR.out.on HB.out).get ho
      subst hP
      obtain ⟨k, hk⟩ : ∃ k, k = takesP b q o := ⟨_, rfl⟩
      have hst := run_step b q l ho HU.out
      have hT := fun W (hW : Below wr.heap.size wr W) => takes_is b q o Q1 k1 S W (hn1.move (fun b hS hl => ⟨hS, hW.block b hl⟩) hW.size) hq1 (HX.out o (List.mem_of_getElem? ho))
      rw [← hk] at hst hT
      have HT := Lib.hid hT
      clear hT hn1 hk ho
      go_wp2_with fail
      go_still_tail 12, (by kernel_rfl)
      change wpList _ _ _ _ _ wr.drew
      have hbd : Below wr.heap.size wr wr.drew := (Below.refl _ _).drew
      obtain ⟨wd, hwd⟩ : ∃ wd, wr.drew = wd := ⟨_, rfl⟩
      rw [hwd] at hbd ⊢
      clear hwd
      have HBd := Lib.hid hbd
      have HST := Lib.hid hst
      clear hbd hst
      by_cases h1 : k < 0
      · have hE : R = -1 := by rw [HRv.out]; unfold blockP; rw [run_none b q l (by rw [HST.out, if_pos (.inl h1)])]
        have HE := Lib.hid hE
        clear hE
        go_wp2_with (go_at_call 28; refine (HT.out _ HBd.out).mono ?_; rintro e W' ⟨rfl, hb3⟩; have HB3 := Lib.hid (HBr.out.trans ((HBd.out.trans (hb3.mono HBd.out.size)).mono HBr.out.size)); clear hb3)
        go_ret
        exact ⟨by rw [HE.out]; rfl, HB3.out⟩
      · by_cases h2 : x < k
        · have hE : R = -1 := by rw [HRv.out]; unfold blockP; rw [run_none b q l (by rw [HST.out, if_pos (.inr h2)])]
          have HE := Lib.hid hE
          clear hE
          go_wp2_with (go_at_call 28; refine (HT.out _ HBd.out).mono ?_; rintro e W' ⟨rfl, hb3⟩; have HB3 := Lib.hid (HBr.out.trans ((HBd.out.trans (hb3.mono HBd.out.size)).mono HBr.out.size)); clear hb3)
          go_ret
          exact ⟨by rw [HE.out]; rfl, HB3.out⟩
        · have hw1 : IntKind.i64.wrap (x - k) = x - k := IntWalk.i64_in _ (by omega)
          have hw2 : IntKind.i64.wrap (x - k + 1) = x - k + 1 := IntWalk.i64_in _ (by omega)
          have hU : runP b q (l.take (j + 1)) 0 0 = some (x - k + 1, max y (x - k + 1)) := by rw [HST.out, if_neg (by omega)]
          have HU2 := Lib.hid hU
          clear hU
          go_wp2_with (go_at_call 28; refine (HT.out _ HBd.out).mono ?_; rintro e W' ⟨rfl, hb3⟩; have HB3 := Lib.hid (HB.out.trans ((HBd.out.trans (hb3.mono HBd.out.size)).mono HB.out.size)); clear hb3)
          go_roundw
          case rel => exact ⟨j + 1, x - k + 1, max y (x - k + 1), by omega, by go_num, rfl, congrArg _ (by split <;> omega), by omega, by omega, by omega, by omega, HU2, HB3⟩
          case measure => simp [intOf]; omega
    · obtain rfl : m = j := by omega
      have hrun := HU.out
      rw [show l.take m = l by rw [HM.out]; exact List.take_length] at hrun
      have hE : R = if x = 1 then y else -1 := by rw [HRv.out]; unfold blockP; rw [hrun]
      by_cases h1 : x = 1
      · rw [if_pos h1] at hE
        have HE := Lib.hid hE
        subst h1
        clear hE hrun
        go_wp2_with fail
        go_ret
        exact ⟨by rw [HE.out]; rfl, HBr.out⟩
      · rw [if_neg h1] at hE
        have HE := Lib.hid hE
        have h1b : (x == 1) = false := by simpa using h1
        have h1c : (x != 1) = true := by simpa using h1
        clear hE hrun
        go_wp2_with fail
        go_ret
        exact ⟨by rw [HE.out]; rfl, HBr.out⟩

end Go.Proofs.YtpphkaolonjjdaaDoor.Dbk
