/- The program's Depth and Check. -/
import Derived.StillTailTactics
import Derived.Test.YtpphkaolonjjdaaDoorCsoJ
import Derived.Test.YtpphkaolonjjdaaDoorJbkJ
namespace Go.Proofs.YtpphkaolonjjdaaDoor.Jdp
open Go Go.RowKit Go.Proofs.YtpphkaolonjjdaaDoor.Spl Go.Proofs.YtpphkaolonjjdaaDoor.Nodm Go.Proofs.YtpphkaolonjjdaaDoor.Fpl Go.Proofs.YtpphkaolonjjdaaDoor.Fmp Go.Proofs.YtpphkaolonjjdaaDoor.Cpl Go.Proofs.YtpphkaolonjjdaaDoor.Cin Go.Proofs.YtpphkaolonjjdaaDoor.Cops Go.Proofs.YtpphkaolonjjdaaDoor.Dpl Go.Proofs.YtpphkaolonjjdaaDoor.Jkd Go.Proofs.YtpphkaolonjjdaaDoor.Jmp Go.Proofs.YtpphkaolonjjdaaDoor.Jbh Go.Proofs.YtpphkaolonjjdaaDoor.Jbk
open Go.Proofs.YtpphkaolonjjdaaDoor.Jfn (cells_3)
open Go.Proofs.YtpphkaolonjjdaaDoor.Pure (bs)

/-! ### from the last block on, on plain lists -/
def okP (q : Nat) : Nat → List (List Opp) → Bool
  | _, [] => true
  | b, l :: r => decide (0 ≤ blockP b q l) && okP q (b + 1) r
def mxP (q : Nat) : Nat → List (List Opp) → Int
  | _, [] => 0
  | b, l :: r => max (blockP b q l) (mxP q (b + 1) r)
theorem deep_eq (q tot : Nat) : ∀ (B : List (List Opp)) (b : Nat) (m : Int), 0 ≤ m → deepP q tot b B m = if okP q b B = true then (if 16384 < tot then 0 else max m (mxP q b B)) else 0
  | [], b, m, hm => by
    rw [deepP, okP, if_pos rfl, mxP, Int.max_eq_left hm]
  | l :: r, b, m, hm => by
    rw [deepP, okP, mxP]
    by_cases h : blockP b q l < 0
    · rw [if_pos h, decide_eq_false (by omega), Bool.false_and, if_neg (by decide)]
    · rw [if_neg h, decide_eq_true (by omega), Bool.true_and, deep_eq q tot r (b + 1) _ (by omega), Int.max_assoc]
theorem drop_at {B : List (List Opp)} {j : Nat} {l : List Opp} (hj : B[j]? = some l) : B.drop j = l :: B.drop (j + 1) := by
  obtain ⟨h2, h3⟩ := List.getElem?_eq_some_iff.1 hj
  rw [← h3]; exact List.drop_eq_getElem_cons h2
theorem ok_step (q : Nat) {B : List (List Opp)} {j : Nat} {l : List Opp} (hj : B[j]? = some l) : okP q j (B.drop j) = (decide (0 ≤ blockP j q l) && okP q (j + 1) (B.drop (j + 1))) := by rw [drop_at hj, okP]
theorem mx_step (q : Nat) {B : List (List Opp)} {j : Nat} {l : List Opp} (hj : B[j]? = some l) : mxP q j (B.drop j) = max (blockP j q l) (mxP q (j + 1) (B.drop (j + 1))) := by rw [drop_at hj, mxP]
theorem ok_drop (q : Nat) : ∀ (j b : Nat) (B : List (List Opp)), okP q b B = true → okP q (b + j) (B.drop j) = true
  | 0, b, B, h => h
  | j + 1, b, [], h => rfl
  | j + 1, b, l :: r, h => by
    rw [okP, Bool.and_eq_true] at h
    rw [List.drop_succ_cons, show b + (j + 1) = b + 1 + j by omega]
    exact ok_drop q j (b + 1) r h.2
theorem mx_le (q : Nat) : ∀ (B : List (List Opp)) (b n : Nat), (∀ l ∈ B, l.length ≤ n) → 0 ≤ mxP q b B ∧ mxP q b B ≤ (n : Int)
  | [], b, n, h => by rw [mxP]; omega
  | l :: r, b, n, h => by
    have h1 := mx_le q r (b + 1) n fun x hx => h x (List.mem_cons_of_mem _ hx)
    have h2 := block_le b q l
    have h3 := h l (List.mem_cons_self ..)
    rw [mxP]; omega
theorem block_pos {b q : Nat} {l : List Opp} (h : 0 ≤ blockP b q l) : 0 < blockP b q l := by
  unfold blockP at h ⊢
  split at h
  · rename_i n m hr
    have h1 := run_le b q l 0 0 n m hr (Int.le_refl _)
    split at h
    · by_cases hl : l = []
      · rw [hl, runP] at hr
        cases hr
        omega
      · have := h1.2.2.2.2 hl
        omega
    · omega
  · omega
theorem depth_big {B : List (List Opp)} (h : 16384 < opsP B) : depthP B = 0 := by
  unfold depthP
  rw [deep_eq _ _ _ _ _ (Int.le_refl _), if_pos h]; split <;> rfl
theorem depth_bad {B : List (List Opp)} {j : Nat} (h : okP B.length j (B.drop j) = false) : depthP B = 0 := by
  unfold depthP
  rw [deep_eq _ _ _ _ _ (Int.le_refl _), if_neg]
  intro h1
  have := ok_drop B.length j 0 B h1
  rw [Nat.zero_add, h] at this
  cases this
theorem rows_le : ∀ {B : List (List Opp)} {l : List Opp}, l ∈ B → l.length ≤ opsP B
  | x :: r, l, h => by
    rw [opsP]
    rcases List.mem_cons.1 h with e | h
    · rw [e]; omega
    · have := rows_le h; omega
theorem depth_good {B : List (List Opp)} (h : ¬ 16384 < opsP B) (h1 : okP B.length 0 B = true) : depthP B = mxP B.length 0 B := by
  unfold depthP
  rw [deep_eq _ _ _ _ _ (Int.le_refl _), if_pos h1, if_neg h]
  have := (mx_le B.length B 0 (opsP B) fun l hl => rows_le hl).1
  omega

/-! ### what the program answers -/
/-- a code in memory whose rows bear no mark; the table of kinds -/
def CodeU (w : World) (v : Value) (B : List (List Opp)) : Prop := Knd w ∧ CodeIn (Unm w) w v B
def Okd (B : List (List Opp)) : Prop := B.length ≤ 1000000000000000 ∧ opsP B ≤ 1000000000000000 ∧ ∀ l ∈ B, ∀ o ∈ l, Oko o
def CheckIs : Prop := ∀ (B : List (List Opp)) (v : Value) (w : World), CodeU w v B → Okd B → Calls Tryd.prog 10 #[v] w fun e W' => e = .returned (.bool (checkP B)) ∧ Below w.heap.size w W'
def DepthIs : Prop := ∀ (B : List (List Opp)) (v : Value) (w : World), CodeU w v B → Okd B → Calls Tryd.prog 12 #[v] w fun e W' => e = .returned (.int .i64 (depthP B)) ∧ Below w.heap.size w W'
theorem CodeU.on {w W : World} {v : Value} {B : List (List Opp)} (h : CodeU w v B) (hb : Below w.heap.size w W) : CodeU W v B :=
  ⟨h.1.on hb, h.2.move (fun b hS hl => ⟨unm_on hS hb, hb.block b hl⟩) hb.size⟩
/-- three new blocks behind one another -/
theorem three_new (w : World) (a b c : Obj) : ∃ W, ((w.alloc a).alloc b).alloc c = W ∧ Below w.heap.size w W ∧ W.heap[w.heap.size]? = some a ∧ W.heap[w.heap.size + 1]? = some b ∧ W.heap[w.heap.size + 2]? = some c ∧ W.heap.size = w.heap.size + 3 := by
  have z1 : (w.alloc a).heap.size = w.heap.size + 1 := World.size_alloc _ _
  have z2 : ((w.alloc a).alloc b).heap.size = w.heap.size + 1 + 1 := by rw [World.size_alloc, z1]
  refine ⟨_, rfl, (((Below.refl _ _).alloc (Nat.le_refl _) _).alloc (by omega) _).alloc (by omega) _, ?_, ?_, ?_, by rw [World.size_alloc, z2]⟩
  · exact (Lib.alloc_old _ _ _ (by omega)).trans ((Lib.alloc_old _ _ _ (by omega)).trans (heap_alloc_new w _))
  · have h := heap_alloc_new (w.alloc a) b
    rw [z1] at h
    exact (Lib.alloc_old _ _ _ (by omega)).trans h
  · have h := heap_alloc_new ((w.alloc a).alloc b) c
    rw [z2] at h
    exact h

theorem make_info (W : World) : (Instr.makeMap 48 none).run Tryd.prog W = .ok (.map (some W.heap.size)) (W.alloc (.map #[] 0)) := by kernel_rfl
theorem make_right (W : World) : (Instr.makeMap 49 none).run Tryd.prog W = .ok (.map (some W.heap.size)) (W.alloc (.map #[] 0)) := by kernel_rfl

set_option maxRecDepth 100000 in
set_option maxHeartbeats 8000000 in
theorem depth_ok : DepthIs := by
  intro B v w hu hok
  obtain ⟨hK, hin⟩ := hu
  have h0 := hin
  obtain ⟨A, c, rfl, hc, hr⟩ := hin
  obtain ⟨hB, ho, hx⟩ := hok
  have hrows : ∀ l ∈ B, l.length ≤ 1000000000000000 := fun l hl => Nat.le_trans (rows_le hl) ho
  obtain ⟨q, hq⟩ : ∃ q, q = B.length := ⟨_, rfl⟩
  obtain ⟨t, ht⟩ : ∃ t, t = opsP B := ⟨_, rfl⟩
  obtain ⟨R, hR⟩ : ∃ R, R = depthP B := ⟨_, rfl⟩
  rw [← hR]
  rw [← hq] at hc h0 hB ⊢
  obtain ⟨w1, hw1⟩ : ∃ w1, w.alloc (.cells #[.slice A q c] 24) = w1 := ⟨_, rfl⟩
  have hb1 : Below w.heap.size w w1 := by rw [← hw1]; exact (Below.refl _ _).alloc (Nat.le_refl _) _
  have hx1 : w1.heap[w.heap.size]? = some (.cells #[.slice A q c] 24) := by rw [← hw1]; exact heap_alloc_new w _
  have HOp : Hid (Calls Tryd.prog 18 #[.agg #[.slice A q c]] w1 fun e W' => e = .returned (.int .i64 (t : Int)) ∧ Below w1.heap.size w1 W') := by
    rw [ht]
    exact Csf.ops_is B _ _ w1 (h0.on hb1) ho (by rw [← hq]; exact hB)
  have HBl : Hid (∀ (j : Nat) (f r : Nat) (W : World), j < q → St w j q f r W → ∃ (l : List Opp) (b p c' : Nat) (A' : Option Addr), B[j]? = some l ∧ A = some ⟨b, p, none⟩ ∧ l.length ≤ 1000000000000000 ∧ W.cell? ⟨b, p + j, none⟩ = some (.slice A' l.length c') ∧ ∀ V, St w j q f r V → Calls Tryd.prog 19 #[walkV q f r, .slice A' l.length c', .int .i64 (j : Int)] V (Answers w j q f r V l)) := fun j f r W hj hW => by
    have hy : B[j]? = some B[j] := List.getElem?_eq_getElem (by omega)
    obtain ⟨b, p, e1, hb, A', c', hc', hrow, hcell⟩ := hr.get hy
    have hm := List.mem_of_getElem? hy
    exact ⟨_, b, p, c', A', hy, e1, hrows _ hm, (hW.bel.cell (p := ⟨b, p + j, none⟩) hb).trans hcell, fun V hV => block_is w j q f r A' c' _ V hK hV hrow (hrows _ hm) (hx _ hm)⟩
  have HBig : Hid (16384 < t → R = 0) := fun h => by rw [hR]; exact depth_big (by rw [← ht]; exact h)
  have HBad : Hid (∀ j, okP q j (B.drop j) = false → R = 0) := fun j h => by rw [hR]; exact depth_bad (j := j) (by rw [← hq]; exact h)
  have HGood : Hid (¬ 16384 < t → okP q 0 B = true → R = mxP q 0 B) := fun h h1 => by rw [hR, hq]; exact depth_good (by rw [← ht]; exact h) (by rw [← hq]; exact h1)
  have HMx : Hid (∀ j m, m = mxP q j (B.drop j) → 0 ≤ m ∧ m ≤ 1000000000000000) := fun j m hm => by
    rw [hm]
    exact mx_le q _ _ _ fun l hl => hrows l (List.mem_of_mem_drop hl)
  have HW1 := Lib.hid hw1
  have HB1 := Lib.hid hb1
  have HX1 := Lib.hid hx1
  have HQ := Lib.hid hq
  clear hw1 hb1 hr h0 hq hR ht hrows hx hK
  have a0 := one_cell hx1
  clear hx1
  go_enter Tryd.func12, Tryd.ntmps12
  go_upto_region 1 with fail
  rw [HW1.out]
  by_cases hbig : 16384 < t
  · have HE := Lib.hid (HBig.out hbig)
    have h1b : (16384 : Int) < (t : Int) := by omega
    go_wp2_with (go_at_call 18; refine HOp.out.mono ?_; rintro e W' ⟨rfl, hb3⟩; have HB3 := Lib.hid (HB1.out.trans (hb3.mono HB1.out.size)); clear hb3)
    go_ret
    exact ⟨by rw [HE.out]; rfl, HB3.out⟩
  · have h1b : ¬ (16384 : Int) < (t : Int) := by omega
    have HGood2 := Lib.hid (HGood.out hbig)
    clear HGood HBig
    go_upto_region 3 with (go_at_call 18; refine HOp.out.mono ?_; rintro e w2 ⟨rfl, hb2⟩; have HB2 := Lib.hid hb2; have a1 := one_cell ((hb2.block _ (Array.getElem?_eq_some_iff.1 HX1.out).1).trans HX1.out); clear hb2)
    have hm1 := make_info w2
    have hm2 := make_right (w2.alloc (.map #[] 0))
    obtain ⟨w3, hw3, hb3, hx3, hx4, hx5, hz3⟩ := three_new w2 (.map #[] 0) (.map #[] 0) (.cells #[.int .i64 (q : Int), .map (some w2.heap.size), .map (some (w2.heap.size + 1))] 51)
    have HB3 := Lib.hid hb3
    have HX5 := Lib.hid hx5
    have HW3 := Lib.hid hw3
    have HZ3 := Lib.hid hz3
    have hzv := HB2.out.size
    have hzw := HB1.out.size
    have hl1 := (Array.getElem?_eq_some_iff.1 HX1.out).1
    obtain ⟨f, hf⟩ : ∃ f, f = w2.heap.size := ⟨_, rfl⟩
    have HF := Lib.hid hf
    have HS3 : Hid (St w q q f (f + 1) w3) := ⟨(HB1.out.trans (HB2.out.mono hzw)).trans (hb3.mono (by omega)), by omega, by omega, by omega, ⟨#[], 0, by rw [hf]; exact hx3, fun e h => by cases h⟩, ⟨#[], 0, by rw [hf]; exact hx4, fun e h => by cases h⟩⟩
    clear hb3 hx3 hx4 hx5 hw3 hz3 hf
    go_upto_region 4 with fail
    rw [HW3.out, ← HF.out]
    clear hm1 hm2 a1 a0
    have HX : Hid (∀ W, Fr f (f + 1) w3 W → (W.cell? ⟨f + 2, 0, none⟩ = some (.int .i64 (q : Int)) ∧ W.cell? ⟨f + 2, 1, none⟩ = some (.map (some f)) ∧ W.cell? ⟨f + 2, 2, none⟩ = some (.map (some (f + 1)))) ∧ W.cell? ⟨w.heap.size, 0, none⟩ = some (.slice A q c)) := fun W hW => by
      have hf := HF.out
      have hz3 := HZ3.out
      have h5 := HX5.out
      rw [← hf] at h5
      exact ⟨cells_3 ((hW.block (f + 2) (by omega) (by omega) (by omega)).trans h5), one_cell ((hW.block w.heap.size (by omega) (by omega) (by omega)).trans ((HB3.out.block w.heap.size (by omega)).trans ((HB2.out.block w.heap.size hl1).trans HX1.out)))⟩
    obtain ⟨⟨x0, x1, x2⟩, a0⟩ := HX.out w3 (Fr.refl _ _ _)
    go_upto_region 6 with fail
    go_loopw [4, 5] (fun n i wr => ∃ (j : Nat) (s m : Int), j ≤ q ∧ i = .int .i64 s ∧ n = .int .i64 m ∧ Hid (s = (j : Int) - 1) ∧ 0 ≤ m ∧ m ≤ 1000000000000000 ∧ Hid (okP q j (B.drop j) = true ∧ m = mxP q j (B.drop j)) ∧ Hid (St w j q f (f + 1) wr ∧ Fr f (f + 1) w3 wr)) (fun _ i _ => (intOf i + 1).toNat)
    case atStart =>
      have hd : B.drop q = [] := by rw [HQ.out, List.drop_length]
      exact ⟨q, (q : Int) - 1, 0, Nat.le_refl _, rfl, rfl, rfl, by omega, by omega, ⟨by rw [hd]; rfl, by rw [hd]; rfl⟩, HS3.out, Fr.refl _ _ _⟩
    case round =>
      obtain ⟨j, s, m, hj, rfl, rfl, HSj, hm0, hm1, HM, HS⟩ := hrel
      clear x0 x1 x2 a0
      by_cases hj0 : j = 0
      · subst hj0
        have hs0 : ¬ (0 : Int) ≤ s := by have := HSj.out; omega
        have HE : Hid (R = m) := by
          have h1 := HM.out
          rw [List.drop_zero] at h1
          show _ = _
          rw [h1.2]; exact HGood2.out h1.1
        have HFin : Hid (Below w.heap.size w wr) := HS.out.1.bel
        go_wp2
        go_ret
        exact ⟨by rw [HE.out]; rfl, HFin.out⟩
      · obtain ⟨own, rfl⟩ : ∃ own, j = own + 1 := ⟨j - 1, by omega⟩
        obtain rfl : s = (own : Int) := by have := HSj.out; omega
        have hown0 : (0 : Int) ≤ (own : Int) := by omega
        have hst := HS.out.1.less (own' := own) (by omega)
        obtain ⟨l, b, p, c', A', hl, rfl, hll, hcell, hcall⟩ := HBl.out own f (f + 1) wr (by omega) hst
        obtain ⟨⟨x0, x1, x2⟩, a0⟩ := HX.out wr HS.out.2
        have hos := ok_step q hl
        have hms := mx_step q hl
        have hpos := fun h => block_pos (b := own) (q := q) (l := l) h
        unfold walkV Answers at hcall
        unfold most at hcall
        generalize blockP own q l = k at *
        have HC : Hid (∀ V, Below wr.heap.size wr V → Calls Tryd.prog 19 #[.agg #[.int .i64 (q : Int), .map (some f), .map (some (f + 1))], .slice A' l.length c', .int .i64 (own : Int)] V fun e W => e = .returned (.int .i64 (if k < 0 then 0 else k)) ∧ Fr f (f + 1) V W ∧ FTab f W ∧ (0 ≤ k → St w own q f (f + 1) W)) := fun V hV => hcall V (hst.on hV)
        have HOs := Lib.hid hos
        have HMs := Lib.hid hms
        have HPos := Lib.hid hpos
        have hoq : own < q := by omega
        clear hcall hos hms hl hst hpos
        by_cases hk : k < 0
        · have hE : R = 0 := HBad.out own (by rw [HOs.out, decide_eq_false (by omega), Bool.false_and])
          have HE := Lib.hid hE
          clear hE HM HOs HMs HPos HBad
          rw [if_pos hk] at HC
          go_wp2_with fail
          go_still_tail 7, (by kernel_rfl)
          change wpList _ _ _ _ _ wr.drew
          have hbd : Below wr.heap.size wr wr.drew := (Below.refl _ _).drew
          obtain ⟨wd, hwd⟩ : ∃ wd, wr.drew = wd := ⟨_, rfl⟩
          rw [hwd] at hbd ⊢
          clear hwd
          have HC2 := Lib.hid (HC.out wd hbd)
          have HBd := Lib.hid hbd
          clear hbd HC
          go_wp2_with (go_at_call 19; refine HC2.out.mono ?_; rintro e W' ⟨rfl, hf4, _, _⟩; have HFin : Hid (Below w.heap.size w W') := HS.out.1.bel.trans ((HBd.out.mono HS.out.1.bel.size).trans (hf4.below HS.out.1.gf HS.out.1.gr (Nat.le_trans HS.out.1.bel.size HBd.out.size))); clear hf4)
          go_ret
          exact ⟨by rw [HE.out]; rfl, HFin.out⟩
        · have hk1 : 0 < k := HPos.out (by omega)
          have hk2 : (k == 0) = false := by rw [beq_eq_false_iff_ne]; omega
          have HN : Hid (okP q own (B.drop own) = true ∧ max m k = mxP q own (B.drop own)) := ⟨by rw [HOs.out, decide_eq_true (by omega), HM.out.1]; rfl, by rw [HMs.out, ← HM.out.2]; omega⟩
          have hb := HMx.out own _ HN.out.2
          have hw1 : IntKind.i64.wrap ((own : Int) - 1) = (own : Int) - 1 := IntWalk.i64_in _ (by omega)
          clear HM HOs HMs HPos HBad
          rw [if_neg hk] at HC
          go_wp2_with fail
          go_still_tail 7, (by kernel_rfl)
          change wpList _ _ _ _ _ wr.drew
          have hbd : Below wr.heap.size wr wr.drew := (Below.refl _ _).drew
          obtain ⟨wd, hwd⟩ : ∃ wd, wr.drew = wd := ⟨_, rfl⟩
          rw [hwd] at hbd ⊢
          clear hwd
          have HC2 := Lib.hid (HC.out wd hbd)
          have HBd := Lib.hid hbd
          clear hbd HC
          go_wp2_with (go_at_call 19; refine HC2.out.mono ?_; rintro e W' ⟨rfl, hf4, _, hs4⟩; have HN2 : Hid (St w own q f (f + 1) W' ∧ Fr f (f + 1) w3 W') := ⟨hs4 (by omega), (HS.out.2.then HBd.out).trans hf4⟩; clear hf4 hs4)
          go_roundw
          case rel => exact ⟨own, (own : Int) - 1, max m k, by omega, by go_num, congrArg _ (by split <;> omega), rfl, by omega, by omega, HN, HN2⟩
          case measure => simp [intOf]

set_option maxRecDepth 100000 in
set_option maxHeartbeats 2000000 in
theorem check_ok : CheckIs := by
  intro B v w hu hok
  have h0 := hu
  obtain ⟨hK, A, c, rfl, _, _⟩ := hu
  obtain ⟨w1, hw1⟩ : ∃ w1, w.alloc (.cells #[.slice A B.length c] 24) = w1 := ⟨_, rfl⟩
  have hb1 : Below w.heap.size w w1 := by rw [← hw1]; exact (Below.refl _ _).alloc (Nat.le_refl _) _
  have a0 := one_cell (show w1.heap[w.heap.size]? = some (.cells #[.slice A B.length c] 24) by rw [← hw1]; exact heap_alloc_new w _)
  have hd := depth_ok B _ w1 (h0.on hb1) hok
  have hch : checkP B = decide (0 < depthP B) := rfl
  rw [hch]
  generalize depthP B = d at *
  have HC := Lib.hid hd
  have HB1 := Lib.hid hb1
  have HW1 := Lib.hid hw1
  clear hw1 hb1 h0 hok hK hd hch
  go_enter Tryd.func10, Tryd.ntmps10
  go_upto_region 1 with fail
  rw [HW1.out]
  go_wp2_with (go_at_call 12; refine HC.out.mono ?_; rintro e W' ⟨rfl, hb3⟩; have HB3 := Lib.hid (HB1.out.trans (hb3.mono HB1.out.size)); clear hb3)
  go_ret
  exact ⟨rfl, HB3.out⟩

end Go.Proofs.YtpphkaolonjjdaaDoor.Jdp
