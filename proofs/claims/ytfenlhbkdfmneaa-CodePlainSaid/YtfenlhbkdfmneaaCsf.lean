/- The program's Same of a code and itself (its blocks short); its Ops. -/
import Derived.Test.YtfenlhbkdfmneaaCse
namespace Go.Proofs.Ytfenlhbkdfmneaa.Csf
open Go Go.RowKit Go.Proofs.Ytfenlhbkdfmneaa.Spl Go.Proofs.Ytfenlhbkdfmneaa.Cpl Go.Proofs.Ytfenlhbkdfmneaa.Cin Go.Proofs.Ytfenlhbkdfmneaa.Cops Go.Proofs.Ytfenlhbkdfmneaa.Cse
open Go.Proofs.Ytfenlhbkdfmneaa.Pure (bs)

def met (f : Nat) (a b : Nat) : Value := .func (.func f) #[.agg #[.map (some a), .map (some b)]] #[]

set_option maxRecDepth 100000 in
set_option maxHeartbeats 4000000 in
theorem rows_self (S : Nat → Prop) (a b : Nat) (A : Option Addr) (c : Nat) (l : List Opp) (w : World) (h : OpsRow S w A l) (hl : l.length < 16) (hx : ∀ x ∈ l, x.l.length < 16) :
    Calls Try.prog 39 #[.slice A l.length c, .slice A l.length c, .func (.func 40) #[.agg #[.map (some a), .map (some b)]] #[]] w fun e W' => e = .returned (.bool true) ∧ Below w.heap.size w W' := by
  obtain ⟨q, hq⟩ : ∃ q, q = l.length := ⟨_, rfl⟩
  rw [← hq] at hl ⊢
  have HR := Lib.hid h
  have HQ := Lib.hid hq
  have HX := Lib.hid hx
  clear h hq hx
  go_enter Try.func39, Try.ntmps39
  go_wp2_with fail
  go_loopw [17] (fun i wr => ∃ j : Nat, j ≤ q ∧ i = .int .i64 (j : Int) ∧ Hid (Below w.heap.size w wr)) (fun i _ => q - (intOf i).toNat)
  case atStart => exact ⟨0, Nat.zero_le _, rfl, Below.refl _ _⟩
  case round =>
    obtain ⟨j, hj, rfl, HB⟩ := hrel
    by_cases hlt : j < q
    · obtain ⟨x, h1⟩ : ∃ x, l[j]? = some x := ⟨l[j]'(by rw [← HQ.out]; exact hlt), List.getElem?_eq_getElem _⟩
      obtain ⟨bb, o, rfl, hblt, hat⟩ := (HR.out.on HB.out).get h1
      obtain ⟨A1, c1, hc1, hn1, e0, e1, e2, e3⟩ := hat
      have hxl := HX.out x (List.mem_of_getElem? h1)
      obtain ⟨k, n, s, xl⟩ := x
      replace e3 : wr.cell? ⟨bb, o + j * 4 + 3, none⟩ = some (.slice A1 xl.length c1) := e3
      replace e0 : wr.cell? ⟨bb, o + j * 4, none⟩ = some (.int .i64 k) := e0
      replace e1 : wr.cell? ⟨bb, o + j * 4 + 1, none⟩ = some (.int .i64 n) := e1
      replace e2 : wr.cell? ⟨bb, o + j * 4 + 2, none⟩ = some (.string (bs s)) := e2
      have HC : Hid (∀ W, Below wr.heap.size wr W → Calls Try.prog 40 #[.agg #[.map (some a), .map (some b)], .agg #[.int .i64 k, .int .i64 n, .string (bs s), .slice A1 xl.length c1], .agg #[.int .i64 k, .int .i64 n, .string (bs s), .slice A1 xl.length c1]] W fun e W' => e = .returned (.bool true) ∧ Below W.heap.size W W') := fun W hb => op_self S (.map (some a)) (.map (some b)) A1 c1 ⟨k, n, s, xl⟩ W (hn1.move (fun b hS hlt => ⟨hS, hb.block b hlt⟩) hb.size) hxl ⟨_, _, rfl, rfl⟩
      obtain ⟨p, hp⟩ : ∃ p, p = xl.length := ⟨_, rfl⟩
      rw [← hp] at HC e3
      generalize bs s = t at *
      have hjq : (j : Int) < (q : Int) := by omega
      obtain ⟨wA, hwA⟩ : ∃ wA, wr.alloc (.cells #[.int .i64 k, .int .i64 n, .string t, .slice A1 p c1] 44) = wA := ⟨_, rfl⟩
      have hbA : Below wr.heap.size wr wA := by rw [← hwA]; exact (Below.refl _ _).alloc (Nat.le_refl _) _
      have hxA : wA.heap[wr.heap.size]? = some (.cells #[.int .i64 k, .int .i64 n, .string t, .slice A1 p c1] 44) := by rw [← hwA]; exact heap_alloc_new wr _
      obtain ⟨wC, hwC⟩ : ∃ wC, wA.alloc (.cells #[.int .i64 k, .int .i64 n, .string t, .slice A1 p c1] 44) = wC := ⟨_, rfl⟩
      have hbC : Below wA.heap.size wA wC := by rw [← hwC]; exact (Below.refl _ _).alloc (Nat.le_refl _) _
      have hxC : wC.heap[wA.heap.size]? = some (.cells #[.int .i64 k, .int .i64 n, .string t, .slice A1 p c1] 44) := by rw [← hwC]; exact heap_alloc_new wA _
      have hcb : ∀ u : Addr, u.block < wr.heap.size → wA.cell? u = wr.cell? u := fun u hu => World.cell?_of_block (hbA.block _ hu)
      have g0 := (hcb ⟨bb, o + j * 4, none⟩ hblt).trans e0
      have g1 := (hcb ⟨bb, o + j * 4 + 1, none⟩ hblt).trans e1
      have g2 := (hcb ⟨bb, o + j * 4 + 2, none⟩ hblt).trans e2
      have g3 := (hcb ⟨bb, o + j * 4 + 3, none⟩ hblt).trans e3
      have hxA' := (hbC.block _ ((Array.getElem?_eq_some_iff.1 hxA).1)).trans hxA
      obtain ⟨y0, y1, y2, y3⟩ := cells_4 hxA'
      obtain ⟨z0, z1, z2, z3⟩ := cells_4 hxC
      have hbw : Below wr.heap.size wr wC := hbA.trans (hbC.mono hbA.size)
      have HBC := Lib.hid (HB.out.trans (hbw.mono HB.out.size))
      have HCC := Lib.hid (HC.out wC hbw)
      have HWA := Lib.hid hwA
      have HWC := Lib.hid hwC
      clear hn1 h1 hp hbA hxA hbC hxC hcb hxA' hbw hwA hwC HC
      go_upto_region 6 with fail
      rw [HWA.out]
      go_upto_region 7 with fail
      rw [HWC.out]
      go_wp2_with (go_at_call 40; refine HCC.out.mono ?_; rintro e W4 ⟨rfl, hb4⟩; have HB4 := Lib.hid (HBC.out.trans (hb4.mono HBC.out.size)); clear hb4)
      go_roundw
      case rel => exact ⟨j + 1, by omega, by go_num, HB4⟩
      case measure => simp [intOf]; omega
    · obtain rfl : j = q := by omega
      go_wp2_with fail
      go_ret
      exact ⟨rfl, HB.out⟩

set_option maxRecDepth 100000 in
set_option maxHeartbeats 4000000 in
theorem block_self (S : Nat → Prop) (a b : Nat) (A : Option Addr) (c : Nat) (l : List Opp) (w : World) (h : OpsRow S w A l) (hl : l.length < 16) (hx : ∀ x ∈ l, x.l.length < 16) :
    Calls Try.prog 23 #[.agg #[.map (some a), .map (some b)], .slice A l.length c, .slice A l.length c] w fun e W' => e = .returned (.bool true) ∧ Below w.heap.size w W' := by
  obtain ⟨w1, hw1⟩ : ∃ w1, w.alloc (.cells #[.map (some a), .map (some b)] 56) = w1 := ⟨_, rfl⟩
  have hb1 : Below w.heap.size w w1 := by rw [← hw1]; exact (Below.refl _ _).alloc (Nat.le_refl _) _
  have hx1 : w1.heap[w.heap.size]? = some (.cells #[.map (some a), .map (some b)] 56) := by rw [← hw1]; exact heap_alloc_new w _
  obtain ⟨a0, a1⟩ := cells_2 hx1
  have HK : Hid (Calls Try.prog 38 #[.map (some a), .slice A l.length c, .slice A l.length c] w1 fun e W' => e = .returned (.bool false) ∧ W' = w1) := known_op (.map (some a)) A A l.length c c w1 hl
  have HE := Lib.hid (rows_self S a b A c l w1 (h.on hb1) hl hx)
  obtain ⟨q, hq⟩ : ∃ q, q = l.length := ⟨_, rfl⟩
  rw [← hq] at HK HE ⊢
  have HW1 := Lib.hid hw1
  have HB1 := Lib.hid hb1
  clear h hl hx hw1 hb1 hx1 hq
  go_enter Try.func23, Try.ntmps23
  go_upto_region 1 with fail
  rw [HW1.out]
  go_wp2_with (first
    | (go_at_call 38; refine HK.out.mono ?_; rintro e W4 ⟨rfl, rfl⟩)
    | (go_at_call 39; refine HE.out.mono ?_; rintro e W5 ⟨rfl, hb5⟩; have HB5 := Lib.hid (HB1.out.trans (hb5.mono HB1.out.size)); clear hb5))
  go_ret
  exact ⟨rfl, HB5.out⟩

set_option maxRecDepth 100000 in
set_option maxHeartbeats 4000000 in
theorem blocks_self (S : Nat → Prop) (a b : Nat) (A : Option Addr) (c : Nat) (B : List (List Opp)) (w : World) (h : BlkRow S w A B) (hs : Short B) :
    Calls Try.prog 22 #[.slice A B.length c, .slice A B.length c, .func (.func 23) #[.agg #[.map (some a), .map (some b)]] #[]] w fun e W' => e = .returned (.bool true) ∧ Below w.heap.size w W' := by
  obtain ⟨hl, hx⟩ := hs
  obtain ⟨q, hq⟩ : ∃ q, q = B.length := ⟨_, rfl⟩
  rw [← hq] at hl ⊢
  have HR := Lib.hid h
  have HQ := Lib.hid hq
  have HX := Lib.hid hx
  clear h hq hx
  go_enter Try.func22, Try.ntmps22
  go_wp2_with fail
  go_loopw [17] (fun i wr => ∃ j : Nat, j ≤ q ∧ i = .int .i64 (j : Int) ∧ Hid (Below w.heap.size w wr)) (fun i _ => q - (intOf i).toNat)
  case atStart => exact ⟨0, Nat.zero_le _, rfl, Below.refl _ _⟩
  case round =>
    obtain ⟨j, hj, rfl, HB⟩ := hrel
    by_cases hlt : j < q
    · obtain ⟨l, h1⟩ : ∃ l, B[j]? = some l := ⟨B[j]'(by rw [← HQ.out]; exact hlt), List.getElem?_eq_getElem _⟩
      obtain ⟨bb, o, rfl, hblt, A1, c1, hc1, hr1, e0⟩ := (HR.out.on HB.out).get h1
      obtain ⟨hl1, hl2⟩ := HX.out l (List.mem_of_getElem? h1)
      have HC := Lib.hid (block_self S a b A1 c1 l wr hr1 hl1 hl2)
      obtain ⟨p, hp⟩ : ∃ p, p = l.length := ⟨_, rfl⟩
      rw [← hp] at HC e0
      have hjq : (j : Int) < (q : Int) := by omega
      clear hr1 h1 hl1 hl2 hp hc1
      go_wp2_with (go_at_call 23; refine HC.out.mono ?_; rintro e W4 ⟨rfl, hb4⟩; have HB4 := Lib.hid (HB.out.trans (hb4.mono HB.out.size)); clear hb4)
      go_roundw
      case rel => exact ⟨j + 1, by omega, by go_num, HB4⟩
      case measure => simp [intOf]; omega
    · obtain rfl : j = q := by omega
      go_wp2_with fail
      go_ret
      exact ⟨rfl, HB.out⟩

theorem make_ops (W : World) : (Instr.makeMap 52 none).run Try.prog W = .ok (.map (some W.heap.size)) (W.alloc (.map #[] 0)) := by kernel_rfl
theorem make_ints (W : World) : (Instr.makeMap 54 none).run Try.prog W = .ok (.map (some W.heap.size)) (W.alloc (.map #[] 0)) := by kernel_rfl
set_option maxRecDepth 100000 in
set_option maxHeartbeats 4000000 in
/-- Same of a code and itself -/
theorem same_self (S : Nat → Prop) (v : Value) (B : List (List Opp)) (w : World) (h : CodeIn S w v B) (hs : Short B) :
    Calls Try.prog 11 #[v, v] w fun e W' => e = .returned (.bool true) ∧ Below w.heap.size w W' := by
  obtain ⟨A, c, rfl, hc, hr⟩ := h
  obtain ⟨G, hG⟩ : ∃ G, G = w.heap.size := ⟨_, rfl⟩
  obtain ⟨w5, hw5⟩ : ∃ w5, ((((w.alloc (.cells #[.slice A B.length c] 25)).alloc (.cells #[.slice A B.length c] 25)).alloc (.map #[] 0)).alloc (.map #[] 0)).alloc (.cells #[.map (some (G + 1 + 1)), .map (some (G + 1 + 1 + 1))] 56) = w5 := ⟨_, rfl⟩
  have hb5 : Below G w w5 := by rw [← hw5, hG]; exact (((((Below.refl _ _).alloc (Nat.le_refl _) _).alloc (by simp) _).alloc (by simp <;> omega) _).alloc (by simp <;> omega) _).alloc (by simp <;> omega) _
  have hx0 : w5.heap[G]? = some (.cells #[.slice A B.length c] 25) := by
    rw [← hw5, hG, Lib.alloc_old _ _ _ (by simp <;> omega), Lib.alloc_old _ _ _ (by simp <;> omega), Lib.alloc_old _ _ _ (by simp <;> omega), Lib.alloc_old _ _ _ (by simp)]
    exact heap_alloc_new w _
  have hx1 : w5.heap[G + 1]? = some (.cells #[.slice A B.length c] 25) := by
    rw [← hw5, hG, Lib.alloc_old _ _ _ (by simp <;> omega), Lib.alloc_old _ _ _ (by simp <;> omega), Lib.alloc_old _ _ _ (by simp)]
    have := heap_alloc_new (w.alloc (.cells #[.slice A B.length c] 25)) (.cells #[.slice A B.length c] 25)
    rw [World.size_alloc] at this
    exact this
  have hx4 : w5.heap[G + 1 + 1 + 1 + 1]? = some (.cells #[.map (some (G + 1 + 1)), .map (some (G + 1 + 1 + 1))] 56) := by
    rw [← hw5]
    have := heap_alloc_new ((((w.alloc (.cells #[.slice A B.length c] 25)).alloc (.cells #[.slice A B.length c] 25)).alloc (.map #[] 0)).alloc (.map #[] 0)) (.cells #[.map (some (G + 1 + 1)), .map (some (G + 1 + 1 + 1))] 56)
    simp only [World.size_alloc] at this
    rw [← hG] at this
    exact this
  have HE := Lib.hid (blocks_self S (G + 1 + 1) (G + 1 + 1 + 1) A c B w5 (hr.on (hG ▸ hb5)) hs)
  obtain ⟨q, hq⟩ : ∃ q, q = B.length := ⟨_, rfl⟩
  rw [← hq] at HE hw5 hx0 hx1 ⊢
  have a0 := one_cell hx0
  have a1 := one_cell hx1
  obtain ⟨a2, a3⟩ := cells_2 hx4
  have HW5 := Lib.hid hw5
  have HB5 := Lib.hid hb5
  rw [← hG]
  have HG := Lib.hid hG
  clear hr hs hc hw5 hb5 hx0 hx1 hx4 hq hG
  have mk1 := make_ops
  have mk2 := make_ints
  go_enter Try.func11, Try.ntmps11
  go_upto_region 2 with fail
  rw [← HG.out]
  rw [HW5.out]
  go_wp2_with (go_at_call 22; refine HE.out.mono ?_; rintro e W6 ⟨rfl, hb6⟩; have HB6 := Lib.hid (HB5.out.trans (hb6.mono (by rw [HG.out]; exact HB5.out.size))); clear hb6)
  go_ret
  exact ⟨rfl, HB6.out⟩

set_option maxRecDepth 100000 in
set_option maxHeartbeats 2000000 in
/-- Ops -/
theorem ops_is (B : List (List Opp)) (S : Nat → Prop) (v : Value) (w : World) (h : CodeIn S w v B) (hn : opsP B ≤ 1000000000000000) (hl : B.length ≤ 1000000000000000) :
    Calls Try.prog 13 #[v] w fun e W' => e = .returned (.int .i64 (opsP B : Nat)) ∧ Below w.heap.size w W' := by
  obtain ⟨A, c, rfl, hc, hr⟩ := h
  obtain ⟨q, hq⟩ : ∃ q, q = B.length := ⟨_, rfl⟩
  rw [← hq] at hc hl ⊢
  obtain ⟨w1, hw1⟩ : ∃ w1, w.alloc (.cells #[.slice A q c] 25) = w1 := ⟨_, rfl⟩
  have hx1 : w1.heap[w.heap.size]? = some (.cells #[.slice A q c] 25) := by rw [← hw1]; exact heap_alloc_new w _
  have hb1 : Below w.heap.size w w1 := by rw [← hw1]; exact (Below.refl _ _).alloc (Nat.le_refl _) _
  have hz1 : w1.heap.size = w.heap.size + 1 := by rw [← hw1, World.size_alloc]
  have HW1 := Lib.hid hw1
  have HB1 := Lib.hid hb1
  have HR := Lib.hid hr
  have HQ := Lib.hid hq
  have a0 := one_cell hx1
  clear hw1 hx1 hb1 hr hq
  go_enter Try.func13, Try.ntmps13
  go_upto_region 1 with fail
  rw [HW1.out]
  go_wp2_with fail
  go_loopw [3, 9] (fun n i wr => ∃ j : Nat, j ≤ q ∧ i = .int .i64 (j : Int) ∧ n = .int .i64 ((opsP (B.take j) : Nat) : Int) ∧ Hid (Below w1.heap.size w1 wr)) (fun _ i _ => q - (intOf i).toNat)
  case atStart => exact ⟨0, Nat.zero_le _, rfl, rfl, Below.refl _ _⟩
  case round =>
    obtain ⟨j, hj, rfl, rfl, HB⟩ := hrel
    have HBw := Lib.hid (HB1.out.trans (HB.out.mono (by omega)))
    clear a0
    by_cases hlt : j < q
    · obtain ⟨l, h1⟩ : ∃ l, B[j]? = some l := ⟨B[j]'(by rw [← HQ.out]; exact hlt), List.getElem?_eq_getElem _⟩
      obtain ⟨b, o, rfl, hb, hk⟩ := (HR.out.on HBw.out).get h1
      obtain ⟨A1, c1, hc1, _, e1⟩ := hk
      have hsum := ops_take B h1
      have hle := ops_take_le B (j + 1)
      have hjq : (j : Int) < (q : Int) := by omega
      obtain ⟨n0, hn0⟩ : ∃ n0, n0 = opsP (B.take j) := ⟨_, rfl⟩
      have hw0 : IntKind.i64.wrap ((n0 : Int) + (l.length : Int)) = ((n0 + l.length : Nat) : Int) := IntWalk.i64_in _ (by omega)
      rw [← hn0]
      go_wp2_with fail
      go_roundw
      case rel => exact ⟨j + 1, by omega, by go_num, by rw [hsum, ← hn0]; exact congrArg (Value.int .i64) (by omega), HB⟩
      case measure => simp [intOf]; omega
    · obtain rfl : j = q := by omega
      rw [List.take_of_length_le (Nat.le_of_eq HQ.out.symm)]
      go_wp2_with fail
      go_ret
      exact ⟨rfl, HBw.out⟩

end Go.Proofs.Ytfenlhbkdfmneaa.Csf
