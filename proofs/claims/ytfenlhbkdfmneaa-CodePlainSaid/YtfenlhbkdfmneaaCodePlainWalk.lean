/- The walk of the law CodePlain. -/
import Derived.Test.YtfenlhbkdfmneaaCaw
import Derived.Test.YtfenlhbkdfmneaaCfx
import Derived.Test.YtfenlhbkdfmneaaPlace
namespace Go.Proofs.Ytfenlhbkdfmneaa.CodePlain
open Go Go.RowKit Go.Proofs.Ytfenlhbkdfmneaa.Spl Go.Proofs.Ytfenlhbkdfmneaa.Nodm Go.Proofs.Ytfenlhbkdfmneaa.Nz Go.Proofs.Ytfenlhbkdfmneaa.Qwhole Go.Proofs.Ytfenlhbkdfmneaa.Qlist Go.Proofs.Ytfenlhbkdfmneaa.Cpl Go.Proofs.Ytfenlhbkdfmneaa.Cin Go.Proofs.Ytfenlhbkdfmneaa.Cops Go.Proofs.Ytfenlhbkdfmneaa.Cse Go.Proofs.Ytfenlhbkdfmneaa.Cfm Go.Proofs.Ytfenlhbkdfmneaa.Cfx Go.Proofs.Ytfenlhbkdfmneaa.Place
open Go.Proofs.Ytfenlhbkdfmneaa.Pure (bs)
open Go.Proofs.Ytfenlhbkdfmneaa.Qput (add_bs)

theorem cut_dig (i : Nat) (hi : i < 10) (W : World) : (Instr.slice 9 (.string ⟨#[48, 49, 50, 51, 52, 53, 54, 55, 56, 57]⟩) (some (.int .i64 (i : Int))) (some (.int .i64 ((i : Int) + 1))) none).run Try.prog W = .ok (.string (bs (digC i))) W := by
  have h : i = 0 ∨ i = 1 ∨ i = 2 ∨ i = 3 ∨ i = 4 ∨ i = 5 ∨ i = 6 ∨ i = 7 ∨ i = 8 ∨ i = 9 := by omega
  rcases h with rfl | rfl | rfl | rfl | rfl | rfl | rfl | rfl | rfl | rfl <;> (show _ = _; kernel_rfl)
set_option maxHeartbeats 400000 in
theorem dig_one (i : Nat) (hi : i < 10) (w : World) :
    Calls Try.prog 19 #[.int .i64 (i : Int)] w fun e W' => e = .returned (.string (bs (digC i))) ∧ W' = w := by
  have hsl := cut_dig i hi
  generalize bs (digC i) = t at hsl ⊢
  go_enter Try.func19, Try.ntmps19
  go_wp2
  go_ret
  exact ⟨rfl, rfl⟩

set_option maxRecDepth 100000 in
set_option maxHeartbeats 4000000 in
theorem walk (a0 a1 : Int) (w : World) (w0 : (Lit.int .i64 a0).wf = true) (w1 : (Lit.int .i64 a1).wf = true) :
    Calls Try.prog 5 #[.int .i64 a0, .int .i64 a1] w fun e W' => e = .returned (.bool true) ∧ Below w.heap.size w W' := by
  obtain ⟨p, hp⟩ : ∃ p, p = place a0 8 := ⟨_, rfl⟩
  have hp8 : p < 8 := by rw [hp]; exact place_lt a0 8 (by decide)
  have HPp := Lib.hid (fun W => place_is a0 8 W (by decide) (by decide) w0)
  rw [← hp] at HPp
  obtain ⟨d, hdd⟩ : ∃ d, d = place a1 10 := ⟨_, rfl⟩
  have hd10 : d < 10 := by rw [hdd]; exact place_lt a1 10 (by decide)
  have HPd := Lib.hid (fun W => place_is a1 10 W (by decide) (by decide) w1)
  rw [← hdd] at HPd
  obtain ⟨m, hd⟩ := plain_is (k := p + 1) (d := d) (by omega) hd10 (by omega)
  obtain ⟨kk, ss, ll⟩ := m
  obtain ⟨L, hL⟩ : ∃ L, L = plainB (p + 1) d := ⟨_, rfl⟩
  obtain ⟨N, hN⟩ : ∃ N, N = 1 + 2 * p + 1 + d := ⟨_, rfl⟩
  have hlen : L.length = N := by rw [hL, hd.len, hN]; rfl
  have HPa : Hid (∀ W, Calls Try.prog 8 #[.string (bs (plainT (p + 1) d))] W fun e W' => ∃ A c, e = .returned (.tuple #[.agg #[.int .i64 (kk : Int), .string (bs ss), .slice A ll.length c], .int .i64 0]) ∧ NodeIn (fun b => W.heap.size ≤ b) W' (.agg #[.int .i64 (kk : Int), .string (bs ss), .slice A ll.length c]) (.mk kk ss ll) ∧ Below W.heap.size W W') := fun W => by
    have h := Qparse.refParse_is (plainT (p + 1) d) W (Nat.le_trans hd.txt (by decide))
    rw [hd.parse] at h
    refine h.mono fun e W' ⟨u, he, hu, hb⟩ => ?_
    have hu : NodeIn (fun b => W.heap.size ≤ b) W' u (.mk kk ss ll) := hu
    obtain ⟨A3, c3, rfl, _⟩ := NodeIn.inv hu
    exact ⟨A3, c3, he, hu, hb⟩
  have HC : Hid (∀ S v W, NodeIn S W v (.mk kk ss ll) → Calls Try.prog 15 #[v] W fun e W' => ∃ A c, e = .returned (.agg #[.slice A 1 c]) ∧ CodeIn (fun b => W.heap.size ≤ b) W' (.agg #[.slice A 1 c]) [L] ∧ Below W.heap.size W W') := fun S v W h => by
    have h2 := Ccm.compile_is S v (toZ (.mk kk ss ll)) W (Nz.NodeIn.toZ h) hd.frm hd.siz
    rw [hd.comp, ← hL] at h2
    exact h2
  have HStrip : Hid (∀ i, i < d → L[N - 1 - i]? = some ⟨5, 1, [115, 116, 114, 105, 112], []⟩) := fun i hi => by
    have := hd.strip i hi
    rw [← hL, hlen] at this
    exact this
  have HCall : Hid (L[2 * p + 1]? = some ⟨5, ((p + 1 : Nat) : Int), [99, 97, 108, 108], []⟩) := by
    have := hd.call
    rw [← hL] at this
    exact this
  have HFirst : Hid (L[0]? = some ⟨1, 0, [102], []⟩) := by
    have := hd.first
    rw [← hL] at this
    exact this
  have HLen := Lib.hid hlen
  have HAw := Lib.hid Caw.awake_is
  have hpw : IntKind.i64.wrap (1 + (p : Int)) = 1 + (p : Int) := IntWalk.i64_in _ (by omega)
  have HN := Lib.hid hN
  clear hp hdd w0 w1 hd hL hlen hN
  go_enter Try.func5, Try.ntmps5
  go_wp2_with (first
    | (go_at_call 18; refine (HPp.out _).mono ?_; rintro e W' ⟨rfl, rfl⟩; clear HPp)
    | (go_at_call 18; refine (HPd.out _).mono ?_; rintro e W' ⟨rfl, rfl⟩; clear HPd))
  go_loopw [7, 8] (fun sv iv wr => ∃ i : Nat, i ≤ p ∧ sv = .string (bs (varsT i)) ∧ iv = .int .i64 ((1 + i : Nat) : Int) ∧ w = wr) (fun _ iv _ => p + 1 - (intOf iv).toNat)
  case atStart => exact ⟨0, Nat.zero_le _, rfl, rfl, rfl⟩
  case round =>
    obtain ⟨i, hi, rfl, rfl, rfl⟩ := hrel
    have hvl := vars_len i
    by_cases hlt : i < p
    · have hik : (1 : Int) + (i : Int) < 1 + (p : Int) := by omega
      have hdg : Hid (∀ W, Calls Try.prog 19 #[.int .i64 (1 + (i : Int))] W fun e W' => e = .returned (.string (bs (digC (1 + i)))) ∧ W' = W) := fun W => by
        have h := dig_one (1 + i) (by omega) W
        rw [Int.natCast_add] at h
        exact h
      have hdl : (digC (1 + i)).length = 1 := rfl
      have HS : Hid (varsT i ++ [44, 36, 40, 97] ++ digC (1 + i) ++ [41] = varsT (i + 1)) := vars_succ i
      generalize digC (1 + i) = D at *
      generalize varsT i = X at *
      have b1 : ∀ W, (Op.stringOp .add (bs X) ⟨#[44, 36, 40, 97]⟩).run Try.prog W = .ok (.string (bs (X ++ [44, 36, 40, 97]))) W := fun W => add_bs X [44, 36, 40, 97] W (by rw [hvl]; show _ + 4 ≤ _; omega)
      have b2 : ∀ W, (Op.stringOp .add (bs (X ++ [44, 36, 40, 97])) (bs D)).run Try.prog W = .ok (.string (bs (X ++ [44, 36, 40, 97] ++ D))) W := fun W => add_bs _ _ W (by rw [List.length_append, hvl, hdl]; show _ + 4 + 1 ≤ _; omega)
      have b3 : ∀ W, (Op.stringOp .add (bs (X ++ [44, 36, 40, 97] ++ D)) ⟨#[41]⟩).run Try.prog W = .ok (.string (bs (varsT (i + 1)))) W := fun W => by
        rw [← HS.out]
        exact add_bs _ [41] W (by rw [List.length_append, List.length_append, hvl, hdl]; show _ + 4 + 1 + 1 ≤ _; omega)
      clear hvl hdl
      generalize X ++ [44, 36, 40, 97] ++ D = X2 at *
      generalize X ++ [44, 36, 40, 97] = X1 at *
      go_wp2_with (go_at_call 19; refine (hdg.out _).mono ?_; rintro e W' ⟨rfl, rfl⟩)
      go_roundw
      case rel => exact ⟨i + 1, hlt, rfl, by first | go_num | (congr 1; omega), trivial⟩
      case measure => simp [intOf]; omega
    · obtain rfl : p = i := by omega
      have b1 : ∀ W, (Op.stringOp .add (bs (varsT p)) ⟨#[41]⟩).run Try.prog W = .ok (.string (bs (plainT (p + 1) 0))) W := fun W => by
        rw [← vars_done]
        exact add_bs (varsT p) [41] W (by rw [hvl]; show _ + 1 ≤ _; omega)
      have hpl0 : (plainT (p + 1) 0).length = 9 + 6 * p := by rw [← vars_done, List.length_append]; show (varsT p).length + 1 = _; rw [hvl]; omega
      have HPl := Lib.hid hpl0
      clear hvl hpl0
      go_wp2_with fail
      go_loopw [7, 9] (fun sv iv wr => ∃ i : Nat, i ≤ d ∧ sv = .string (bs (plainT (p + 1) i)) ∧ iv = .int .i64 (i : Int) ∧ w = wr) (fun _ iv _ => d - (intOf iv).toNat)
      case atStart => exact ⟨0, Nat.zero_le _, rfl, rfl, rfl⟩
      case round =>
        obtain ⟨i, hi, rfl, rfl, rfl⟩ := hrel
        by_cases hlt : i < d
        · have hid : (i : Int) < (d : Int) := by omega
          have hpl := plain_len (p + 1) i
          rw [HPl.out] at hpl
          have b2 : ∀ W, (Op.stringOp .add ⟨#[36, 40, 115, 116, 114, 105, 112, 32]⟩ (bs (plainT (p + 1) i))).run Try.prog W = .ok (.string (bs ([36, 40, 115, 116, 114, 105, 112, 32] ++ plainT (p + 1) i))) W := fun W => add_bs [36, 40, 115, 116, 114, 105, 112, 32] _ W (by show 8 + _ ≤ _; omega)
          have b3 : ∀ W, (Op.stringOp .add (bs ([36, 40, 115, 116, 114, 105, 112, 32] ++ plainT (p + 1) i)) ⟨#[41]⟩).run Try.prog W = .ok (.string (bs (plainT (p + 1) (i + 1)))) W := fun W => add_bs ([36, 40, 115, 116, 114, 105, 112, 32] ++ plainT (p + 1) i) [41] W (by rw [List.length_append]; show 8 + _ + 1 ≤ _; omega)
          clear hpl
          generalize [36, 40, 115, 116, 114, 105, 112, 32] ++ plainT (p + 1) i = X1 at *
          go_wp2_with fail
          go_roundw
          case rel => exact ⟨i + 1, hlt, rfl, by go_num, trivial⟩
          case measure => simp [intOf]; omega
        · obtain rfl : d = i := by omega
          go_upto_region 13 with (go_at_call 8; refine (HPa.out _).mono ?_; rintro e W1 ⟨A3, c3, rfl, hn1, hb1⟩; have HN1 := Lib.hid hn1; have HB1 := Lib.hid hb1; clear hn1 hb1)
          obtain ⟨W2, hW2⟩ : ∃ W2, W1.alloc (.cells #[.int .i64 (kk : Int), .string (bs ss), .slice A3 ll.length c3] 30) = W2 := ⟨_, rfl⟩
          have hx2 : W2.heap[W1.heap.size]? = some (.cells #[.int .i64 (kk : Int), .string (bs ss), .slice A3 ll.length c3] 30) := by rw [← hW2]; exact heap_alloc_new W1 _
          have hb12 : Below W1.heap.size W1 W2 := by rw [← hW2]; exact (Below.refl _ _).alloc (Nat.le_refl _) _
          rw [hW2]
          obtain ⟨d0, d1, d2⟩ := cells_three hx2
          have HC2 := Lib.hid (HC.out _ _ W2 (HN1.out.on hb12))
          have HB2 := Lib.hid (HB1.out.trans (hb12.mono HB1.out.size))
          clear hW2 hx2 hb12 HN1 HB1 HC HPa
          go_upto_region 14 with (go_at_call 15; refine HC2.out.mono ?_; rintro e W3 ⟨A, c, rfl, hc3, hb3⟩; have HC3 := Lib.hid hc3; have HB3 := Lib.hid (HB2.out.trans (hb3.mono HB2.out.size)); clear hc3 hb3)
          obtain ⟨W4, hW4⟩ : ∃ W4, W3.alloc (.cells #[.slice A 1 c] 25) = W4 := ⟨_, rfl⟩
          obtain ⟨G, hG⟩ : ∃ G, G = W3.heap.size := ⟨_, rfl⟩
          have hx4 : W4.heap[G]? = some (.cells #[.slice A 1 c] 25) := by rw [← hW4, hG]; exact heap_alloc_new W3 _
          have hb34 : Below G W3 W4 := by rw [← hW4, hG]; exact (Below.refl _ _).alloc (Nat.le_refl _) _
          rw [hW4, ← hG]
          have e0 := one_cell hx4
          have HB4 := Lib.hid (HB3.out.trans (hb34.mono (by rw [hG]; exact HB3.out.size)))
          obtain ⟨A', c', hv, _, hr4⟩ := HC3.out.on (hG ▸ hb34)
          cases hv
          obtain ⟨b, o, rfl, hb, A1, c1, hc1, hr1, e1⟩ := hr4.get (j := 0) rfl
          replace e1 : W4.cell? ⟨b, o, none⟩ = some (.slice A1 L.length c1) := e1
          rw [HLen.out] at e1 hc1
          obtain ⟨b1, o1, rfl, hb1, A2, c2, hc2, _, f0, f1, f2, f3⟩ := hr1.get HCall.out
          replace f1 : W4.cell? ⟨b1, o1 + (2 * p + 1) * 4 + 1, none⟩ = some (.int .i64 (1 + (p : Int))) := f1.trans (congrArg (fun z => some (Value.int .i64 z)) (by show ((p + 1 : Nat) : Int) = 1 + (p : Int); omega))
          replace f2 : W4.cell? ⟨b1, o1 + (2 * p + 1) * 4 + 2, none⟩ = some (.string (bs [99, 97, 108, 108])) := f2
          have HR1 := Lib.hid hr1
          have hq1 : (bs [99, 97, 108, 108]).toList = [99, 97, 108, 108] := by rw [Lib.toList_data]; rfl
          clear hW4 hG hx4 hb34 d0 d1 d2 hr4 hr1 hc1 hb hb1 f0 f3 hc2
          have hNN := HN.out
          have u1 : IntKind.i64.wrap (1 + (p : Int) - 1) = (p : Int) := by rw [show 1 + (p : Int) - 1 = (p : Int) by omega]; exact IntWalk.i64_in _ (by omega)
          have u2 : IntKind.i64.wrap (2 * (p : Int)) = 2 * (p : Int) := IntWalk.i64_in _ (by omega)
          have u3 : IntKind.i64.wrap (1 + 2 * (p : Int)) = 1 + 2 * (p : Int) := IntWalk.i64_in _ (by omega)
          have u4 : IntKind.i64.wrap (1 + 2 * (p : Int) + 1) = 1 + 2 * (p : Int) + 1 := IntWalk.i64_in _ (by omega)
          have u5 : IntKind.i64.wrap (1 + 2 * (p : Int) + 1 + (d : Int)) = (N : Int) := by rw [show 1 + 2 * (p : Int) + 1 + (d : Int) = (N : Int) by omega]; exact IntWalk.i64_in _ (by omega)
          have u6 : IntKind.i64.wrap (2 * (p : Int) + 1) = ((2 * p + 1 : Nat) : Int) := by rw [show 2 * (p : Int) + 1 = ((2 * p + 1 : Nat) : Int) by omega]; exact IntWalk.i64_in _ (by omega)
          obtain ⟨y, hy⟩ : ∃ y, y = 2 * p + 1 := ⟨_, rfl⟩
          rw [← hy] at u6 f1 f2
          have hyN : (y : Int) < (N : Int) := by omega
          have hN0 : (0 : Int) < (N : Int) := by omega
          have hN100 : N ≤ 100 := by omega
          have hdN : d ≤ N - 1 := by omega
          clear hNN hy
          go_upto_region 20 with fail
          have n1 : IntKind.i64.wrap ((N : Int) - 1) = (N : Int) - 1 := IntWalk.i64_in _ (by omega)
          clear u1 u2 u3 u4 u5 u6 f1 f2 hq1 e1 e0
          go_loopw [14] (fun iv wr => ∃ i : Nat, i ≤ d ∧ iv = .int .i64 (i : Int) ∧ Hid (Below W4.heap.size W4 wr)) (fun iv _ => d - (intOf iv).toNat)
          case atStart => exact ⟨0, Nat.zero_le _, rfl, Below.refl _ _⟩
          case round =>
            obtain ⟨i, hi, rfl, HB⟩ := hrel
            by_cases hlt : i < d
            · have hid : (i : Int) < (d : Int) := by omega
              obtain ⟨b2, o2, h12, hb2, A3, c4, hc4, _, g0, g1, g2, g3⟩ := (HR1.out.on HB.out).get (HStrip.out i hlt)
              cases h12
              obtain ⟨z, hz⟩ : ∃ z, z = N - 1 - i := ⟨_, rfl⟩
              have n2 : IntKind.i64.wrap ((N : Int) - 1 - (i : Int)) = (z : Int) := by rw [show (N : Int) - 1 - (i : Int) = (z : Int) by omega]; exact IntWalk.i64_in _ (by omega)
              have hzN : (z : Int) < (N : Int) := by omega
              rw [← hz] at g0 g1 g2 g3
              replace g0 : wr.cell? ⟨b1, o1 + z * 4, none⟩ = some (.int .i64 5) := g0
              replace g1 : wr.cell? ⟨b1, o1 + z * 4 + 1, none⟩ = some (.int .i64 1) := g1
              replace g2 : wr.cell? ⟨b1, o1 + z * 4 + 2, none⟩ = some (.string (bs [115, 116, 114, 105, 112])) := g2
              replace g3 : wr.cell? ⟨b1, o1 + z * 4 + 3, none⟩ = some (.slice A3 0 c4) := g3
              have hq2 : (bs [115, 116, 114, 105, 112]).toList = [115, 116, 114, 105, 112] := by rw [Lib.toList_data]; rfl
              obtain ⟨wA, hwA⟩ : ∃ wA, wr.alloc (.cells #[.int .i64 5, .int .i64 1, .string (bs [115, 116, 114, 105, 112]), .slice A3 0 c4] 44) = wA := ⟨_, rfl⟩
              have hxA : wA.heap[wr.heap.size]? = some (.cells #[.int .i64 5, .int .i64 1, .string (bs [115, 116, 114, 105, 112]), .slice A3 0 c4] 44) := by rw [← hwA]; exact heap_alloc_new wr _
              have HBA : Hid (Below W4.heap.size W4 wA) := by rw [← hwA]; exact HB.out.alloc HB.out.size _
              obtain ⟨y0, y1, y2, y3⟩ := cells_4 hxA
              have HWA := Lib.hid hwA
              clear hz hwA hxA hb2 hc4
              go_upto_region 23 with fail
              rw [HWA.out]
              go_wp2_with fail
              go_roundw
              case rel => exact ⟨i + 1, hlt, by go_num, HBA⟩
              case measure => simp [intOf]; omega
            · obtain rfl : d = i := by omega
              obtain ⟨b2, o2, h12, hb2, A3, c4, hc4, _, g0, g1, g2, g3⟩ := (HR1.out.on HB.out).get HFirst.out
              cases h12
              replace g2 : wr.cell? ⟨b1, o1 + 2, none⟩ = some (.string (bs [102])) := by have h := g2; rw [Nat.zero_mul] at h; exact h
              have hq3 : (bs [102]).toList = [102] := by rw [Lib.toList_data]; rfl
              have HA5 := Lib.hid (HAw.out wr)
              have HB5 := Lib.hid (HB4.out.trans (HB.out.mono HB4.out.size))
              clear g0 g1 g3 hb2 hc4
              go_wp2_with (go_at_call 7; refine HA5.out.mono ?_; rintro e W6 ⟨rfl, hb6⟩; have HB6 := Lib.hid (HB5.out.trans (hb6.mono HB5.out.size)); clear hb6)
              go_ret
              exact ⟨rfl, HB6.out⟩

end Go.Proofs.Ytfenlhbkdfmneaa.CodePlain
