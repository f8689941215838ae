/- SoundBig: its walk. -/
import Derived.Test.YtpphkaolonjjdaaDoorPlace
import Derived.Test.YtpphkaolonjjdaaDoorDpi
import Derived.Test.YtpphkaolonjjdaaDoorDbg
import Derived.Test.YtpphkaolonjjdaaDoorDaw
namespace Go.Proofs.YtpphkaolonjjdaaDoor.SoundBig
open Go Go.RowKit Go.Proofs.YtpphkaolonjjdaaDoor.Spl Go.Proofs.YtpphkaolonjjdaaDoor.Cpl Go.Proofs.YtpphkaolonjjdaaDoor.Cin Go.Proofs.YtpphkaolonjjdaaDoor.Cops Go.Proofs.YtpphkaolonjjdaaDoor.Dpl Go.Proofs.YtpphkaolonjjdaaDoor.Dpr Go.Proofs.YtpphkaolonjjdaaDoor.Dpi Go.Proofs.YtpphkaolonjjdaaDoor.Dbg Go.Proofs.YtpphkaolonjjdaaDoor.Place Go.Proofs.YtpphkaolonjjdaaDoor.Nodm Go.Proofs.YtpphkaolonjjdaaDoor.Jkd Go.Proofs.YtpphkaolonjjdaaDoor.Jbk Go.Proofs.YtpphkaolonjjdaaDoor.Jdp
open Go.Proofs.YtpphkaolonjjdaaDoor.Pure (bs)

def zq : Quad := (.int .i64 0, .int .i64 0, .string .empty, .slice none 0 0)
/-- the first j are pushes -/
def uq (j i : Nat) : Quad := if i < j then quad pushO else zq
theorem uq_step (j : Nat) : put4 (uq j) j (quad pushO) = uq (j + 1) := by
  funext i
  unfold put4 uq
  by_cases h : i = j
  · rw [if_pos h, if_pos (by omega)]
  · rw [if_neg h]
    by_cases h2 : i < j
    · rw [if_pos h2, if_pos (by omega)]
    · rw [if_neg h2, if_neg (by omega)]

theorem big_yes {t : Nat} (h : t + 1 ≤ 16384) : checkP [pilesB t [t]] = true := by
  have hw : wantB t [t] = true := by unfold wantB; simp [pileS]
  obtain ⟨d, h1, _, h2⟩ := piles_yes hw (by show t + 1 ≤ 16384; omega)
  unfold checkP
  rw [h1]
  exact decide_eq_true (by omega)
theorem big_no {t : Nat} (h : 16384 < t + 1) : checkP [pilesB t [t]] = false := by
  have h9 : opsP [pilesB t [t]] = t + 1 := by rw [opsP, piles_len]; rfl
  have h1 : depthP [pilesB t [t]] = 0 := by
    unfold depthP
    show deepP 1 (opsP [pilesB t [t]]) 0 [pilesB t [t]] 0 = 0
    rw [h9, deepP]
    split
    · rfl
    · rw [deepP, if_pos h]
  unfold checkP
  rw [h1]; rfl
theorem uq_piles {t : Nat} : ∀ j o, (pilesB t [t])[j]? = some o → put4 (uq (t + 1)) t (quad (joinO t)) j = quad o := by
  intro j o hj
  unfold pilesB at hj
  unfold put4 uq
  by_cases h : j < t
  · rw [List.getElem?_append_left (by rw [List.length_replicate]; exact h), List.getElem?_replicate, if_pos h] at hj
    cases hj
    rw [if_neg (by omega), if_pos (by omega)]
  · rw [List.getElem?_append_right (by rw [List.length_replicate]; omega), List.length_replicate] at hj
    have h1 := (List.getElem?_eq_some_iff.1 hj).1
    have h1 : j - t < 1 := h1
    obtain rfl : j = t := by omega
    rw [Nat.sub_self] at hj
    cases hj
    rw [if_pos rfl]
theorem plain_piles (k : Nat) (js : List Nat) : ∀ o ∈ pilesB k js, o.l = [] := by
  intro o ho
  unfold pilesB at ho
  rcases List.mem_append.1 ho with h | h
  · rw [(List.mem_replicate.1 h).2]; rfl
  · obtain ⟨j, _, rfl⟩ := List.mem_map.1 h; rfl
def orO (y : Nat) : Opp := ⟨6, 0, [111, 114], [(y : Int)]⟩
theorem or_row {W : World} {g r y : Nat} (h : W.heap[g]? = some (.cells #[.int .i64 6, .int .i64 0, .string ⟨#[111, 114]⟩, .slice (some ⟨r, 0, none⟩) 1 1] 40)) (hr : W.heap[r]? = some (.cells #[.int .i64 (y : Int)] 3)) : OpsRow (Unm W) W (some ⟨g, 0, none⟩) [orO y] := by
  refine .inr ⟨g, 0, rfl, (Array.getElem?_eq_some_iff.1 h).1, ⟨_, _, h⟩, fun j x hj => ?_⟩
  have hjl := (List.getElem?_eq_some_iff.1 hj).1
  obtain rfl : j = 0 := by have hjl : j < 1 := hjl; omega
  cases hj
  obtain ⟨e0, e1, e2, e3⟩ := Dft.cells_four h
  refine ⟨some ⟨r, 0, none⟩, 1, Nat.le_refl _, .inr ⟨r, 0, rfl, (Array.getElem?_eq_some_iff.1 hr).1, ⟨_, _, hr⟩, fun i z hi => ?_⟩, e0, e1, e2, e3⟩
  have hil := (List.getElem?_eq_some_iff.1 hi).1
  obtain rfl : i = 0 := by have hil : i < 1 := hil; omega
  cases hi
  exact Cops.one_cell hr
theorem two_in {W : World} {g g1 g2 : Nat} {l1 l2 : List Opp} (hk : Knd W) (h : W.heap[g]? = some (.cells #[.slice (some ⟨g1, 0, none⟩) l1.length l1.length, .slice (some ⟨g2, 0, none⟩) l2.length l2.length] 38)) (h1 : OpsRow (Unm W) W (some ⟨g1, 0, none⟩) l1) (h2 : OpsRow (Unm W) W (some ⟨g2, 0, none⟩) l2) : CodeU W (.agg #[.slice (some ⟨g, 0, none⟩) 2 2]) [l1, l2] := by
  refine ⟨hk, _, _, rfl, Nat.le_refl _, .inr ⟨g, 0, rfl, (Array.getElem?_eq_some_iff.1 h).1, ⟨_, _, h⟩, fun j l hj => ?_⟩⟩
  have hjl := (List.getElem?_eq_some_iff.1 hj).1
  have hjl : j < 2 := hjl
  obtain rfl | rfl : j = 0 ∨ j = 1 := by omega
  · cases hj
    exact ⟨_, _, Nat.le_refl _, h1, (Lib.cell_of_heap h 0).trans rfl⟩
  · cases hj
    exact ⟨_, _, Nat.le_refl _, h2, (Lib.cell_of_heap h 1).trans rfl⟩
theorem one_in {W : World} {g g1 : Nat} {l1 : List Opp} (hk : Knd W) (h : W.heap[g]? = some (.cells #[.slice (some ⟨g1, 0, none⟩) l1.length l1.length] 38)) (h1 : OpsRow (Unm W) W (some ⟨g1, 0, none⟩) l1) : CodeU W (.agg #[.slice (some ⟨g, 0, none⟩) 1 1]) [l1] := by
  refine ⟨hk, _, _, rfl, Nat.le_refl _, .inr ⟨g, 0, rfl, (Array.getElem?_eq_some_iff.1 h).1, ⟨_, _, h⟩, fun j l hj => ?_⟩⟩
  have hjl := (List.getElem?_eq_some_iff.1 hj).1
  obtain rfl : j = 0 := by have hjl : j < 1 := hjl; omega
  cases hj
  exact ⟨_, _, Nat.le_refl _, h1, (Lib.cell_of_heap h 0).trans rfl⟩
theorem round_two {y : Nat} (h : y < 2) : checkP [[pushO], [orO y]] = false := by
  obtain rfl | rfl : y = 0 ∨ y = 1 := by omega
  · kernel_rfl
  · kernel_rfl
theorem round_one : checkP [[orO 0]] = false := by kernel_rfl
theorem or_oko {y : Nat} (h : y < 2) : okoB (orO y) = true := by
  obtain rfl | rfl : y = 0 ∨ y = 1 := by omega
  · rfl
  · rfl
theorem two_ok {y : Nat} (h : y < 2) : Okd [[pushO], [orO y]] := ⟨by show 2 ≤ 1000000000000000; omega, by show 2 ≤ 1000000000000000; omega, fun l hl o ho => oko_of (by
  rcases List.mem_cons.1 hl with e | hl
  · rw [e] at ho; rw [List.mem_singleton.1 ho]; rfl
  · rw [List.mem_singleton.1 hl] at ho; rw [List.mem_singleton.1 ho]; exact or_oko h)⟩
theorem one_ok : Okd [[orO 0]] := ⟨by show 1 ≤ 1000000000000000; omega, by show 1 ≤ 1000000000000000; omega, fun l hl o ho => oko_of (by
  rw [List.mem_singleton.1 hl] at ho; rw [List.mem_singleton.1 ho]; rfl)⟩
theorem big_ok {t : Nat} (h : t ≤ 20000) : Okd [pilesB t [t]] := by
  refine ⟨by show 1 ≤ 1000000000000000; omega, by rw [opsP, piles_len]; show t + 1 + 0 ≤ _; omega, fun l hl o ho => oko_of ?_⟩
  rw [List.mem_singleton.1 hl] at ho
  unfold pilesB at ho
  rcases List.mem_append.1 ho with h | h
  · rw [(List.mem_replicate.1 h).2]; rfl
  · obtain ⟨j, hm, rfl⟩ := List.mem_map.1 h
    rw [List.mem_singleton.1 hm]
    exact decide_eq_true ⟨Nat.zero_le _, Nat.zero_le _, by show -1000000000000000000 ≤ (t : Int); omega, by show (t : Int) ≤ 1000000000000000000; omega⟩

theorem two_boxes (w : World) (a b : Obj) : ∃ W, (w.alloc a).alloc b = W ∧ Below w.heap.size w W ∧ W.heap[w.heap.size]? = some a ∧ W.heap[w.heap.size + 1]? = some b := by
  refine ⟨_, rfl, ((Below.refl _ _).alloc (Nat.le_refl _) _).alloc (by simp) _, ?_, ?_⟩
  · rw [Lib.alloc_old (w.alloc a) b _ (by rw [World.size_alloc]; omega)]
    exact heap_alloc_new w a
  · have := heap_alloc_new (w.alloc a) b
    rw [World.size_alloc] at this
    exact this

set_option maxRecDepth 100000 in
set_option maxHeartbeats 8000000 in
theorem walk (a0 a1 : Int) (w : World) (w0 : (Lit.int .i64 a0).wf = true) (w1 : (Lit.int .i64 a1).wf = true) (hK : Knd w) :
    Calls Tryd.prog 7 #[.int .i64 a0, .int .i64 a1] w fun e W' => e = .returned (.bool true) ∧ Below w.heap.size w W' := by
  obtain ⟨p, hp⟩ : ∃ p, p = place a0 3 := ⟨_, rfl⟩
  have hp3 : p < 3 := by rw [hp]; exact place_lt a0 3 (by decide)
  obtain ⟨y, hy⟩ : ∃ y, y = place a1 2 := ⟨_, rfl⟩
  have hylt : y < 2 := by rw [hy]; exact place_lt a1 2 (by decide)
  have HP1 := Lib.hid (place_is a0 3 w (by decide) (by decide) w0)
  have HP2 := Lib.hid (fun W => place_is a1 2 W (by decide) (by decide) w1)
  rw [← hp] at HP1
  rw [← hy] at HP2
  have HKn := Lib.hid (fun (W : World) (hW : Below w.heap.size w W) => hK.on hW)
  obtain ⟨n, hn⟩ : ∃ n, n = 16383 + p := ⟨_, rfl⟩
  have hw1 : IntKind.i64.wrap ((p : Int) - 1) = (p : Int) - 1 := IntWalk.i64_in _ (by omega)
  have hw2 : IntKind.i64.wrap (16384 + ((p : Int) - 1)) = (n : Int) := by rw [IntWalk.i64_in _ (by omega)]; omega
  obtain ⟨t, ht⟩ : ∃ t, n = t + 1 := ⟨n - 1, by omega⟩
  have hw3 : IntKind.i64.wrap ((n : Int) - 1) = (t : Int) := by rw [IntWalk.i64_in _ (by omega)]; omega
  have HT := Lib.hid ht
  have ht2 : t < n := by omega
  have ht3 : (t : Int) < (n : Int) := by omega
  have hcb : checkP [pilesB t [t]] = decide ((p : Int) - 1 ≤ 0) := by
    by_cases h : p ≤ 1
    · rw [big_yes (by omega), decide_eq_true (by omega)]
    · rw [big_no (by omega), decide_eq_false (by omega)]
  have HCb := Lib.hid hcb
  have htk : t ≤ 20000 := by omega
  clear ht hcb
  have hn2 : 16383 ≤ n ∧ n ≤ 16385 := by omega
  have hmk := make_ops n (by omega) w
  have HN := Lib.hid hn
  clear hp hy w0 w1 hn hK
  go_enter Tryd.func7, Tryd.ntmps7
  go_upto_region 3 with (go_at_call 17; refine HP1.out.mono ?_; rintro e W' ⟨rfl, rfl⟩; clear HP1)
  have HR0 := Lib.hid (rowQ_start w n)
  have HB0 : Hid (Below w.heap.size w (w.alloc (.cells (madeCells zs4 (n * 4)) 40))) := (Below.refl _ _).alloc (Nat.le_refl _) _
  obtain ⟨m, hm⟩ : ∃ m, m = w.alloc (.cells (madeCells zs4 (n * 4)) 40) := ⟨_, rfl⟩
  rw [← hm] at HR0 HB0
  rw [← hm] at hmk
  have HM := Lib.hid hm
  clear hm
  go_upto_region 5 with fail
  clear hmk
  go_loopw [8] (fun iv wr => ∃ j : Nat, j ≤ n ∧ iv = .int .i64 (j : Int) ∧ Hid (wr.rowIs w.heap.size 40 (n * 4) (rowQ (uq j))) ∧ Hid (Below w.heap.size w wr)) (fun iv _ => n - (intOf iv).toNat)
  case atStart => exact ⟨0, Nat.zero_le _, rfl, HR0, HB0⟩
  case round =>
    obtain ⟨j, hj, rfl, HR, HB⟩ := hrel
    have hbs := HB.out.size
    by_cases hlt : j < n
    · have hjn : (j : Int) < (n : Int) := by omega
      obtain ⟨e0, e1, e2, e3⟩ := rowQ_at HR.out hlt
      have f0 := HR.out.frozen (j * 4)
      have f1 := HR.out.frozen (j * 4 + 1)
      have f2 := HR.out.frozen (j * 4 + 2)
      have f3 := HR.out.frozen (j * 4 + 3)
      have hst := rowQ_step (k := j) HR.out (.int .i64 1) (.int .i64 0) (.string ⟨#[]⟩) (.slice none 0 0)
      have hst2 : (uq (j + 1)) = put4 (uq j) j (.int .i64 1, .int .i64 0, .string ⟨#[]⟩, .slice none 0 0) := (uq_step j).symm
      rw [← hst2] at hst
      have HST := Lib.hid hst
      clear hst hst2
      go_wp2
      go_roundw
      case rel => exact ⟨j + 1, hlt, by go_num, HST, ((((HB.out.setCell (p := ⟨_, _, none⟩) (Nat.le_refl _) _).setCell (p := ⟨_, _, none⟩) (Nat.le_refl _) _).setCell (p := ⟨_, _, none⟩) (Nat.le_refl _) _).setCell (p := ⟨_, _, none⟩) (Nat.le_refl _) _)⟩
      case measure => simp [intOf]; omega
    · obtain rfl : n = j := by omega
      obtain ⟨e0, e1, e2, e3⟩ := rowQ_at HR.out ht2
      have f0 := HR.out.frozen (t * 4)
      have f1 := HR.out.frozen (t * 4 + 1)
      have f2 := HR.out.frozen (t * 4 + 2)
      have f3 := HR.out.frozen (t * 4 + 3)
      have hst := rowQ_step (k := t) HR.out (.int .i64 4) (.int .i64 (t : Int)) (.string ⟨#[]⟩) (.slice none 0 0)
      have hbb := ((((HB.out.setCell (p := ⟨w.heap.size, t * 4, none⟩) (Nat.le_refl _) (.int .i64 4)).setCell (p := ⟨w.heap.size, t * 4 + 1, none⟩) (Nat.le_refl _) (.int .i64 (t : Int))).setCell (p := ⟨w.heap.size, t * 4 + 2, none⟩) (Nat.le_refl _) (.string ⟨#[]⟩)).setCell (p := ⟨w.heap.size, t * 4 + 3, none⟩) (Nat.le_refl _) (.slice none 0 0))
      obtain ⟨W5, hW5⟩ : ∃ W5, ((((wr.setCell ⟨w.heap.size, t * 4, none⟩ (.int .i64 4)).setCell ⟨w.heap.size, t * 4 + 1, none⟩ (.int .i64 (t : Int))).setCell ⟨w.heap.size, t * 4 + 2, none⟩ (.string ⟨#[]⟩)).setCell ⟨w.heap.size, t * 4 + 3, none⟩ (.slice none 0 0)) = W5 := ⟨_, rfl⟩
      rw [hW5] at hst hbb
      have HW5 := Lib.hid hW5
      have hst : W5.rowIs w.heap.size 40 (n * 4) (rowQ (put4 (uq (t + 1)) t (quad (joinO t)))) := by rw [← HT.out]; exact hst
      have hlt5 : w.heap.size < W5.heap.size := by obtain ⟨cs, h1, _⟩ := hst; exact (Array.getElem?_eq_some_iff.1 h1).1
      obtain ⟨W6, hW6, hb56, hx1, hx2⟩ := two_boxes W5 (.cells #[.int .i64 (y : Int)] 3) (.cells #[.int .i64 6, .int .i64 0, .string ⟨#[111, 114]⟩, .slice (some ⟨W5.heap.size, 0, none⟩) 1 1] 40)
      have hB6 : Below w.heap.size w W6 := hbb.trans (hb56.mono hbb.size)
      have hrow6 : W6.rowIs w.heap.size 40 (n * 4) (rowQ (put4 (uq (t + 1)) t (quad (joinO t)))) := hst.of_block (hb56.block _ hlt5)
      have hc1 : Calls Tryd.prog 10 #[.agg #[.slice (some ⟨W6.heap.size, 0, none⟩) 1 1]] (W6.alloc (.cells #[.slice (some ⟨w.heap.size, 0, none⟩) n n] 38)) fun e W' => e = .returned (.bool (decide ((p : Int) - 1 ≤ 0))) ∧ Below W6.heap.size W6 W' := by
        have hlen : (pilesB t [t]).length = n := by rw [piles_len, HT.out]; rfl
        have hal := heap_alloc_new W6 (.cells #[.slice (some ⟨w.heap.size, 0, none⟩) n n] 38)
        have hbl : Below W6.heap.size W6 (W6.alloc (.cells #[.slice (some ⟨w.heap.size, 0, none⟩) n n] 38)) := (Below.refl _ _).alloc (Nat.le_refl _) _
        have hrow7 := hrow6.of_block (hbl.block _ (Nat.lt_of_lt_of_le hlt5 hb56.size))
        have hin := one_in (l1 := pilesB t [t]) (HKn.out _ (hB6.trans (hbl.mono hB6.size))) (by rw [hlen]; exact hal) (ops_row hrow7 hlen uq_piles (plain_piles t [t]))
        have h := check_ok _ _ _ hin (big_ok htk)
        rw [HCb.out] at h
        exact h.mono fun e W' ⟨h1, h2⟩ => ⟨h1, hbl.trans (h2.mono hbl.size)⟩
      have hc2 : ∀ W, Below W6.heap.size W6 W → Calls Tryd.prog 10 #[.agg #[.slice (some ⟨W.heap.size + 1 + 1, 0, none⟩) 2 2]] (((W.alloc (.cells #[.int .i64 1, .int .i64 0, .string ⟨#[]⟩, .slice none 0 0] 40)).alloc (.cells #[.int .i64 6, .int .i64 0, .string ⟨#[111, 114]⟩, .slice (some ⟨W5.heap.size, 0, none⟩) 1 1] 40)).alloc (.cells #[.slice (some ⟨W.heap.size, 0, none⟩) 1 1, .slice (some ⟨W.heap.size + 1, 0, none⟩) 1 1] 38)) fun e W' => e = .returned (.bool false) ∧ Below W.heap.size W W' := fun W hW => by
        obtain ⟨X, hX, hbX, hy1, hy2, hy3, _⟩ := three_boxes W (.cells #[.int .i64 1, .int .i64 0, .string ⟨#[]⟩, .slice none 0 0] 40) (.cells #[.int .i64 6, .int .i64 0, .string ⟨#[111, 114]⟩, .slice (some ⟨W5.heap.size, 0, none⟩) 1 1] 40) (.cells #[.slice (some ⟨W.heap.size, 0, none⟩) 1 1, .slice (some ⟨W.heap.size + 1, 0, none⟩) 1 1] 38)
        rw [hX]
        have h0 := (Array.getElem?_eq_some_iff.1 hx1).1
        have hr := (hbX.block _ (Nat.lt_of_lt_of_le h0 hW.size)).trans ((hW.block _ h0).trans hx1)
        have hin := two_in (l1 := [pushO]) (l2 := [orO y]) (HKn.out _ (hB6.trans ((hW.trans (hbX.mono hW.size)).mono hB6.size))) hy3 (ops_lit hy1 rfl (by intro o ho; rw [List.mem_singleton.1 ho]; rfl) ⟨_, _, hy1⟩) (or_row hy2 hr)
        have h := check_ok _ _ _ hin (two_ok hylt)
        rw [round_two hylt] at h
        exact h.mono fun e W' ⟨h1, h2⟩ => ⟨h1, hbX.trans (h2.mono hbX.size)⟩
      have hc3 : ∀ W, Below W6.heap.size W6 W → Calls Tryd.prog 10 #[.agg #[.slice (some ⟨W.heap.size + 1 + 1, 0, none⟩) 1 1]] (((W.alloc (.cells #[.int .i64 0] 3)).alloc (.cells #[.int .i64 6, .int .i64 0, .string ⟨#[111, 114]⟩, .slice (some ⟨W.heap.size, 0, none⟩) 1 1] 40)).alloc (.cells #[.slice (some ⟨W.heap.size + 1, 0, none⟩) 1 1] 38)) fun e W' => e = .returned (.bool false) ∧ Below W.heap.size W W' := fun W hW => by
        obtain ⟨X, hX, hbX, hy1, hy2, hy3, _⟩ := three_boxes W (.cells #[.int .i64 0] 3) (.cells #[.int .i64 6, .int .i64 0, .string ⟨#[111, 114]⟩, .slice (some ⟨W.heap.size, 0, none⟩) 1 1] 40) (.cells #[.slice (some ⟨W.heap.size + 1, 0, none⟩) 1 1] 38)
        rw [hX]
        have h := check_ok _ _ _ (one_in (l1 := [orO 0]) (HKn.out _ (hB6.trans ((hW.trans (hbX.mono hW.size)).mono hB6.size))) hy3 (or_row (y := 0) hy2 hy1)) one_ok
        rw [round_one] at h
        exact h.mono fun e W' ⟨h1, h2⟩ => ⟨h1, hbX.trans (h2.mono hbX.size)⟩
      have HC1 := Lib.hid hc1
      have HC2 := Lib.hid hc2
      have HC3 := Lib.hid hc3
      have HW6 := Lib.hid hW6
      have HB6 := Lib.hid hB6
      have HX2 := Lib.hid hx2
      have hs6 := (Array.getElem?_eq_some_iff.1 hx2).1
      clear hst hbb hW5 hlt5 hW6 hb56 hx1 hx2 hB6 hrow6 hc1 hc2 hc3
      go_upto_region 9 with fail
      rw [HW5.out]
      go_upto_region 10 with (go_at_call 17; refine (HP2.out _).mono ?_; rintro e W' ⟨rfl, rfl⟩; clear HP2)
      rw [HW6.out]
      clear e0 e1 e2 e3 f0 f1 f2 f3
      by_cases hle : (p : Int) - 1 ≤ 0
      · rw [decide_eq_true hle] at HC1
        go_wp2_with (first
          | (go_at_call 10; refine HC1.out.mono ?_; rintro e W7 ⟨rfl, hb7⟩; have HB7 := Lib.hid hb7; have hx7 := (hb7.block _ hs6).trans HX2.out; have hs7 := (Array.getElem?_eq_some_iff.1 hx7).1; obtain ⟨x0, x1, x2, x3⟩ := Dft.cells_four hx7; obtain ⟨y0, y1, y2, y3⟩ := Dft.cells_four ((Lib.alloc_old W7 (.cells #[.int .i64 1, .int .i64 0, .string ⟨#[]⟩, .slice none 0 0] 40) _ hs7).trans hx7); clear hb7 hx7 HC1)
          | (go_at_call 10; refine (HC2.out _ HB7.out).mono ?_; rintro e W8 ⟨rfl, hb8⟩; have HB8 : Hid (Below W6.heap.size W6 W8) := HB7.out.trans (hb8.mono HB7.out.size); clear hb8 HC2 x0 x1 x2 x3 y0 y1 y2 y3)
          | (go_at_call 10; refine (HC3.out _ HB8.out).mono ?_; rintro e W9 ⟨rfl, hb9⟩; have HB9 : Hid (Below W6.heap.size W6 W9) := HB8.out.trans (hb9.mono HB8.out.size); clear hb9)
          | (go_at_call 9; refine (Daw.awake_is _ (HKn.out _ (HB6.out.trans (HB9.out.mono HB6.out.size)))).mono ?_; rintro e W10 ⟨rfl, hb10⟩; have HB10 : Hid (Below W6.heap.size W6 W10) := HB9.out.trans (hb10.mono HB9.out.size); clear hb10))
        go_ret
        exact ⟨rfl, HB6.out.trans (HB10.out.mono HB6.out.size)⟩
      · have HDf := Lib.hid (decide_eq_false hle)
        rw [HDf.out] at HC1
        go_wp2_with (first
          | (go_at_call 10; refine HC1.out.mono ?_; rintro e W7 ⟨rfl, hb7⟩; have HB7 := Lib.hid hb7; have hx7 := (hb7.block _ hs6).trans HX2.out; have hs7 := (Array.getElem?_eq_some_iff.1 hx7).1; obtain ⟨x0, x1, x2, x3⟩ := Dft.cells_four hx7; obtain ⟨y0, y1, y2, y3⟩ := Dft.cells_four ((Lib.alloc_old W7 (.cells #[.int .i64 1, .int .i64 0, .string ⟨#[]⟩, .slice none 0 0] 40) _ hs7).trans hx7); clear hb7 hx7 HC1)
          | (go_at_call 10; refine (HC2.out _ HB7.out).mono ?_; rintro e W8 ⟨rfl, hb8⟩; have HB8 : Hid (Below W6.heap.size W6 W8) := HB7.out.trans (hb8.mono HB7.out.size); clear hb8 HC2 x0 x1 x2 x3 y0 y1 y2 y3)
          | (go_at_call 10; refine (HC3.out _ HB8.out).mono ?_; rintro e W9 ⟨rfl, hb9⟩; have HB9 : Hid (Below W6.heap.size W6 W9) := HB8.out.trans (hb9.mono HB8.out.size); clear hb9)
          | (go_at_call 9; refine (Daw.awake_is _ (HKn.out _ (HB6.out.trans (HB9.out.mono HB6.out.size)))).mono ?_; rintro e W10 ⟨rfl, hb10⟩; have HB10 : Hid (Below W6.heap.size W6 W10) := HB9.out.trans (hb10.mono HB9.out.size); clear hb10))
        go_ret
        exact ⟨by show Ending.returned (.bool (!decide ((p : Int) - 1 ≤ 0))) = _; rw [HDf.out]; rfl, HB6.out.trans (HB10.out.mono HB6.out.size)⟩

end Go.Proofs.YtpphkaolonjjdaaDoor.SoundBig
