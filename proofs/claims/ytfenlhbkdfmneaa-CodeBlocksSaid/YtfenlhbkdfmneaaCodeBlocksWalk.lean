/- The walk of the law CodeBlocks. -/
import Derived.Test.YtfenlhbkdfmneaaCaw
import Derived.Test.YtfenlhbkdfmneaaCfx
import Derived.Test.YtfenlhbkdfmneaaPlace
namespace Go.Proofs.Ytfenlhbkdfmneaa.CodeBlocks
open Go Go.RowKit Go.Proofs.Ytfenlhbkdfmneaa.Spl Go.Proofs.Ytfenlhbkdfmneaa.Nodm Go.Proofs.Ytfenlhbkdfmneaa.Nz Go.Proofs.Ytfenlhbkdfmneaa.Qwhole Go.Proofs.Ytfenlhbkdfmneaa.Qlist Go.Proofs.Ytfenlhbkdfmneaa.Cpl Go.Proofs.Ytfenlhbkdfmneaa.Cin Go.Proofs.Ytfenlhbkdfmneaa.Cops Go.Proofs.Ytfenlhbkdfmneaa.Cfm Go.Proofs.Ytfenlhbkdfmneaa.Cfx Go.Proofs.Ytfenlhbkdfmneaa.Place
open Go.Proofs.Ytfenlhbkdfmneaa.Pure (bs)
open Go.Proofs.Ytfenlhbkdfmneaa.Qput (add_bs)

set_option maxRecDepth 100000 in
set_option maxHeartbeats 4000000 in
theorem walk (a0 a1 : Int) (w : World) (w0 : (Lit.int .i64 a0).wf = true) (w1 : (Lit.int .i64 a1).wf = true) :
    Calls Try.prog 4 #[.int .i64 a0, .int .i64 a1] w fun e W' => e = .returned (.bool true) ∧ Below w.heap.size w W' := by
  obtain ⟨k, hk⟩ : ∃ k, k = place a0 12 := ⟨_, rfl⟩
  have hk12 : k < 12 := by rw [hk]; exact place_lt a0 12 (by decide)
  have HPk := Lib.hid (fun W => place_is a0 12 W (by decide) (by decide) w0)
  rw [← hk] at HPk
  obtain ⟨p, hp⟩ : ∃ p, p = place a1 6 := ⟨_, rfl⟩
  have hp6 : p < 6 := by rw [hp]; exact place_lt a1 6 (by decide)
  have HPp := Lib.hid (fun W => place_is a1 6 W (by decide) (by decide) w1)
  rw [← hp] at HPp
  obtain ⟨m, hd⟩ := deep_is (k := k) (w := p + 1) hk12 (by omega) (by omega)
  obtain ⟨kk, ss, ll⟩ := m
  obtain ⟨N, hN⟩ : ∃ N, N = 1 + k * (p + 1) := ⟨_, rfl⟩
  obtain ⟨B, hB⟩ : ∃ B, B = deepB (p + 1) k := ⟨_, rfl⟩
  have hlen := hd.len
  have hops := hd.ops
  rw [← hB, ← hN] at hlen hops
  have HPa : Hid (∀ W, Calls Try.prog 8 #[.string (bs (deepT (p + 1) k))] W fun e W' => ∃ A c, e = .returned (.tuple #[.agg #[.int .i64 (kk : Int), .string (bs ss), .slice A ll.length c], .int .i64 0]) ∧ NodeIn (fun b => W.heap.size ≤ b) W' (.agg #[.int .i64 (kk : Int), .string (bs ss), .slice A ll.length c]) (.mk kk ss ll) ∧ Below W.heap.size W W') := fun W => by
    have h := Qparse.refParse_is (deepT (p + 1) k) W (Nat.le_trans hd.txt (by decide))
    rw [hd.parse] at h
    refine h.mono fun e W' ⟨u, he, hu, hb⟩ => ?_
    have hu : NodeIn (fun b => W.heap.size ≤ b) W' u (.mk kk ss ll) := hu
    obtain ⟨A3, c3, rfl, _⟩ := NodeIn.inv hu
    exact ⟨A3, c3, he, hu, hb⟩
  have HC : Hid (∀ S v W, NodeIn S W v (.mk kk ss ll) → Calls Try.prog 15 #[v] W fun e W' => ∃ A c, e = .returned (.agg #[.slice A N c]) ∧ CodeIn (fun b => W.heap.size ≤ b) W' (.agg #[.slice A N c]) B ∧ Below W.heap.size W W') := fun S v W h => by
    have h2 := Ccm.compile_is S v (toZ (.mk kk ss ll)) W (Nz.NodeIn.toZ h) hd.frm hd.siz
    rw [hd.comp, ← hB, hlen] at h2
    exact h2
  have HOp : Hid (∀ S v W, CodeIn S W v B → Calls Try.prog 13 #[v] W fun e W' => e = .returned (.int .i64 (N : Int)) ∧ Below W.heap.size W W') := fun S v W h => by
    have h2 := Csf.ops_is B S v W h (by rw [hops]; have : k * (p + 1) ≤ 12 * 6 := Nat.mul_le_mul (by omega) (by omega); omega) (by rw [hlen]; have : k * (p + 1) ≤ 12 * 6 := Nat.mul_le_mul (by omega) (by omega); omega)
    rw [hops] at h2
    exact h2
  have HLz : Hid (∀ i, i < k → B[atB (p + 1) i]? = some [lazyO (p + 1) i]) := fun i hi => by rw [hB]; exact hd.lz i hi
  have HLast : Hid (B[atB (p + 1) k]? = some [⟨1, 0, [120], []⟩]) := by show _ = _; rw [hB]; exact hd.last
  have HLen := Lib.hid hlen
  have hkp : k * (p + 1) ≤ 66 := Nat.le_trans (Nat.mul_le_mul (Nat.le_of_lt_succ hk12) (by omega : p + 1 ≤ 6)) (by decide)
  have hkw : IntKind.i64.wrap ((k : Int) * (1 + (p : Int))) = (N : Int) - 1 := by
    have e : (k : Int) * (1 + (p : Int)) = ((k * (p + 1) : Nat) : Int) := by rw [Int.natCast_mul, Int.natCast_add, Int.add_comm]; rfl
    rw [e, IntWalk.i64_in _ (by omega)]
    omega
  have hNw : IntKind.i64.wrap (1 + ((N : Int) - 1)) = (N : Int) := by rw [show 1 + ((N : Int) - 1) = (N : Int) by omega]; exact IntWalk.i64_in _ (by omega)
  have HN := Lib.hid hN
  have hN200 : N ≤ 200 := by omega
  have HAw := Lib.hid Caw.awake_is
  have hpw : IntKind.i64.wrap (1 + (p : Int)) = 1 + (p : Int) := IntWalk.i64_in _ (by omega)
  clear hk hp w0 w1 hd hlen hops hB hkp hN
  go_enter Try.func4, Try.ntmps4
  go_wp2_with (first
    | (go_at_call 18; refine (HPk.out _).mono ?_; rintro e W' ⟨rfl, rfl⟩; clear HPk)
    | (go_at_call 18; refine (HPp.out _).mono ?_; rintro e W' ⟨rfl, rfl⟩; clear HPp))
  go_loopw [7, 8] (fun sv iv wr => ∃ i : Nat, i ≤ k ∧ sv = .string (bs (deepT (p + 1) i)) ∧ iv = .int .i64 (i : Int) ∧ w = wr) (fun _ iv _ => k - (intOf iv).toNat)
  case atStart => exact ⟨0, Nat.zero_le _, rfl, rfl, rfl⟩
  case round =>
    obtain ⟨i, hi, rfl, rfl, rfl⟩ := hrel
    have hdl := deep_len (w := p + 1) (by omega) (by omega) i
    by_cases hlt : i < k
    · have hik : (i : Int) < (k : Int) := by omega
      have b1 : ∀ W, (Op.stringOp .add ⟨#[36, 40, 111, 114, 32]⟩ (bs (deepT (p + 1) i))).run Try.prog W = .ok (.string (bs (argsT (deepT (p + 1) i) 0))) W := fun W => by
        rw [← args_zero]
        exact add_bs [36, 40, 111, 114, 32] _ W (by show 5 + _ ≤ _; omega)
      have HDn : Hid (argsT (deepT (p + 1) i) p ++ [41] = deepT (p + 1) (i + 1)) := args_done (p + 1) i
      have HDl : Hid ((deepT (p + 1) i).length ≤ 1000) := by show _ ≤ _; omega
      generalize deepT (p + 1) i = X at *
      clear hdl
      go_wp2_with fail
      go_loopw [7, 9] (fun sv jv wr => ∃ j : Nat, j ≤ p ∧ sv = .string (bs (argsT X j)) ∧ jv = .int .i64 ((1 + j : Nat) : Int) ∧ w = wr) (fun _ jv _ => p + 1 - (intOf jv).toNat)
      case atStart => exact ⟨0, Nat.zero_le _, rfl, rfl, rfl⟩
      case round =>
        obtain ⟨j, hj, rfl, rfl, rfl⟩ := hrel
        have hal := args_len X j
        have hXl := HDl.out
        by_cases hjp : j < p
        · have h1 : (1 : Int) + (j : Int) < 1 + (p : Int) := by omega
          have b2 : ∀ W, (Op.stringOp .add (bs (argsT X j)) ⟨#[44, 121]⟩).run Try.prog W = .ok (.string (bs (argsT X (j + 1)))) W := fun W => by
            rw [← args_succ]
            exact add_bs (argsT X j) [44, 121] W (by rw [hal]; show _ + 2 ≤ _; omega)
          clear hal hXl
          go_wp2_with fail
          go_roundw
          case rel => exact ⟨j + 1, hjp, rfl, by first | go_num | (congr 1; omega), trivial⟩
          case measure => simp [intOf]; omega
        · obtain rfl : j = p := by omega
          have b2 : ∀ W, (Op.stringOp .add (bs (argsT X j)) ⟨#[41]⟩).run Try.prog W = .ok (.string (bs (deepT (j + 1) (i + 1)))) W := fun W => by
            rw [← HDn.out]
            exact add_bs (argsT X j) [41] W (by rw [hal]; show _ + 1 ≤ _; omega)
          clear hal hXl
          go_wp2_with fail
          go_roundw
          case rel => exact ⟨i + 1, hlt, rfl, by go_num, trivial⟩
          case measure => simp [intOf]; omega
    · obtain rfl : k = i := by omega
      clear hdl
      go_upto_region 13 with (go_at_call 8; refine (HPa.out _).mono ?_; rintro e W1 ⟨A3, c3, rfl, hn1, hb1⟩; have HN1 := Lib.hid hn1; have HB1 := Lib.hid hb1; clear hn1 hb1)
      obtain ⟨W2, hW2⟩ : ∃ W2, W1.alloc (.cells #[.int .i64 (kk : Int), .string (bs ss), .slice A3 ll.length c3] 30) = W2 := ⟨_, rfl⟩
      have hx2 : W2.heap[W1.heap.size]? = some (.cells #[.int .i64 (kk : Int), .string (bs ss), .slice A3 ll.length c3] 30) := by rw [← hW2]; exact heap_alloc_new W1 _
      have hb12 : Below W1.heap.size W1 W2 := by rw [← hW2]; exact (Below.refl _ _).alloc (Nat.le_refl _) _
      rw [hW2]
      obtain ⟨d0, d1, d2⟩ := cells_three hx2
      have HC2 := Lib.hid (HC.out _ _ W2 (HN1.out.on hb12))
      have HB2 := Lib.hid (HB1.out.trans (hb12.mono HB1.out.size))
      clear hW2 hx2 hb12 HN1 HB1 HC HPa
      go_upto_region 14 with (go_at_call 15; refine HC2.out.mono ?_; rintro e W3 ⟨A, c, rfl, hc3, hb3⟩; have HC3 := Lib.hid hc3; have HB3 := Lib.hid (HB2.out.trans (hb3.mono HB2.out.size)); clear hc3 hb3)
      obtain ⟨W4, hW4⟩ : ∃ W4, W3.alloc (.cells #[.slice A N c] 25) = W4 := ⟨_, rfl⟩
      obtain ⟨G, hG⟩ : ∃ G, G = W3.heap.size := ⟨_, rfl⟩
      have hx4 : W4.heap[G]? = some (.cells #[.slice A N c] 25) := by rw [← hW4, hG]; exact heap_alloc_new W3 _
      have hb34 : Below G W3 W4 := by rw [← hW4, hG]; exact (Below.refl _ _).alloc (Nat.le_refl _) _
      rw [hW4, ← hG]
      have e0 := one_cell hx4
      have HX4 := Lib.hid hx4
      have HC4 := Lib.hid (HC3.out.on (hG ▸ hb34))
      have HB4 := Lib.hid (HB3.out.trans (hb34.mono (by rw [hG]; exact HB3.out.size)))
      have hgl : G < W4.heap.size := (Array.getElem?_eq_some_iff.1 hx4).1
      have HOC := Lib.hid (HOp.out _ _ W4 HC4.out)
      clear hW4 hG hx4 hb34 d0 d1 d2
      go_upto_region 16 with (go_at_call 13; refine HOC.out.mono ?_; rintro e W5 ⟨rfl, hb5⟩; have HB45 := Lib.hid hb5; have HB5 := Lib.hid (HB4.out.trans (hb5.mono HB4.out.size)); clear hb5)
      have hx5 := (HB45.out.block G hgl).trans HX4.out
      have e5 := one_cell hx5
      obtain ⟨A', c', hv, _, hr5⟩ := HC4.out.on HB45.out
      rw [HLen.out] at hv
      cases hv
      have HR5 := Lib.hid hr5
      clear e0 hx5 hr5 HOC HOp
      go_wp2_with fail
      go_loopw [13, 14] (fun av iv wr => ∃ i : Nat, i ≤ k ∧ av = .int .i64 ((atB (p + 1) i : Nat) : Int) ∧ iv = .int .i64 (i : Int) ∧ W5 = wr) (fun _ iv _ => k - (intOf iv).toNat)
      case atStart => exact ⟨0, Nat.zero_le _, rfl, rfl, rfl⟩
      case round =>
        obtain ⟨i, hi, rfl, rfl, rfl⟩ := hrel
        by_cases hlt : i < k
        · have hik : (i : Int) < (k : Int) := by omega
          have hat := HLz.out i hlt
          have hatl : atB (p + 1) i < N := by have := (List.getElem?_eq_some_iff.1 hat).1; have := HLen.out; omega
          obtain ⟨b, o, rfl, hb, A1, c1, hc1, hr1, e1⟩ := HR5.out.get hat
          obtain ⟨b1, o1, rfl, hb1, A2, c2, hc2, hn2, f0, f1, f2, f3⟩ := hr1.get (j := 0) rfl
          have hll : (lazyO (p + 1) i).l.length = p + 1 := by unfold lazyO; rw [List.length_map, List.length_range']
          rw [hll] at f3
          obtain ⟨X, hX⟩ : ∃ X, X = i * (p + 1) := ⟨_, rfl⟩
          have hX66 : X ≤ 66 := by rw [hX]; exact Nat.le_trans (Nat.mul_le_mul (by omega : i ≤ 11) (by omega : p + 1 ≤ 6)) (by decide)
          have hnum : ∀ j, j < p + 1 → (lazyO (p + 1) i).l[j]? = some ((1 + X + j : Nat) : Int) := fun j hj => by
            unfold lazyO
            rw [List.getElem?_map, List.getElem?_range' (by omega), hX]
            show some (Int.ofNat _) = _
            congr 1
            show ((_ : Nat) : Int) = _
            congr 1
            omega
          obtain ⟨b2, o2, rfl, g0⟩ := hn2.get (hnum 0 (by omega))
          have hcells : ∀ j, j < p + 1 → W5.cell? ⟨b2, o2 + j, none⟩ = some (.int .i64 (1 + (X : Int) + (j : Int))) := fun j hj => by
            obtain ⟨b3, o3, h1, h2⟩ := hn2.get (hnum j hj)
            cases h1
            rw [h2]
            congr 2
          have g0 : W5.cell? ⟨b2, o2, none⟩ = some (.int .i64 (1 + (X : Int))) := by have := hcells 0 (by omega); simpa using this
          have f0 : W5.cell? ⟨b1, o1, none⟩ = some (.int .i64 6) := f0
          have f3 : W5.cell? ⟨b1, o1 + 3, none⟩ = some (.slice (some ⟨b2, o2, none⟩) (p + 1) c2) := f3
          have e1 : W5.cell? ⟨b, o + atB (p + 1) i, none⟩ = some (.slice (some ⟨b1, o1, none⟩) 1 c1) := e1
          have m1 : IntKind.i64.wrap ((i : Int) * (1 + (p : Int))) = (X : Int) := by
            have e : (i : Int) * (1 + (p : Int)) = ((i * (p + 1) : Nat) : Int) := by rw [Int.natCast_mul, Int.natCast_add, Int.add_comm]; rfl
            rw [e, ← hX]
            exact IntWalk.i64_in _ (by omega)
          have m2 : IntKind.i64.wrap (1 + (X : Int)) = 1 + (X : Int) := IntWalk.i64_in _ (by omega)
          have hat1 : atB (p + 1) (i + 1) = 1 + X := by unfold atB; rw [if_neg (Nat.succ_ne_zero _), Nat.add_sub_cancel, hX]
          obtain ⟨y, hy⟩ : ∃ y, y = atB (p + 1) i := ⟨_, rfl⟩
          rw [← hy] at e1 hatl
          have hyN : (y : Int) < (N : Int) := by omega
          have HCe := Lib.hid hcells
          have HA1 := Lib.hid hat1
          have HY := Lib.hid hy
          have hppos : (0 : Int) < 1 + (p : Int) := by omega
          rw [← hy]
          clear hat hr1 hn2 hnum hcells hat1 hll hX hy hc1 hc2 hb1 hb hatl f1 f2
          go_wp2_with fail
          go_loopw [16] (fun jv wr => ∃ j : Nat, j ≤ p + 1 ∧ jv = .int .i64 (j : Int) ∧ W5 = wr) (fun jv _ => p + 1 - (intOf jv).toNat)
          case atStart => exact ⟨0, Nat.zero_le _, rfl, rfl⟩
          case round =>
            obtain ⟨j, hj, rfl, rfl⟩ := hrel
            by_cases hjp : j < p + 1
            · have h1 : (j : Int) < 1 + (p : Int) := by omega
              have g1 := HCe.out j hjp
              have m3 : IntKind.i64.wrap (1 + (X : Int) + (j : Int)) = 1 + (X : Int) + (j : Int) := IntWalk.i64_in _ (by omega)
              go_wp2_with fail
              go_roundw
              case rel => exact ⟨j + 1, hjp, by go_num, trivial⟩
              case measure => simp [intOf]; omega
            · obtain rfl : j = p + 1 := by omega
              go_wp2_with fail
              go_roundw
              case rel => exact ⟨i + 1, hlt, by rw [HA1.out]; rfl, by go_num, trivial⟩
              case measure => simp [intOf]; omega
        · obtain rfl : k = i := by omega
          have hat := HLast.out
          have hatl : atB (p + 1) k < N := by have := (List.getElem?_eq_some_iff.1 hat).1; have := HLen.out; omega
          obtain ⟨b, o, rfl, hb, A1, c1, hc1, hr1, e1⟩ := HR5.out.get hat
          obtain ⟨b1, o1, rfl, hb1, A2, c2, hc2, hn2, f0, f1, f2, f3⟩ := hr1.get (j := 0) rfl
          replace f2 : W5.cell? ⟨b1, o1 + 2, none⟩ = some (.string (bs [120])) := f2
          replace e1 : W5.cell? ⟨b, o + atB (p + 1) k, none⟩ = some (.slice (some ⟨b1, o1, none⟩) 1 c1) := e1
          obtain ⟨y, hy⟩ : ∃ y, y = atB (p + 1) k := ⟨_, rfl⟩
          rw [← hy] at e1 hatl ⊢
          have hyN : (y : Int) < (N : Int) := by omega
          have HA5 := Lib.hid (HAw.out W5)
          have hq : (bs [120]).toList = [120] := by rw [Lib.toList_data]; rfl
          clear hat hr1 hn2 hy hc1 hc2 hb1 hb hatl f0 f1 f3
          go_wp2_with (go_at_call 7; refine HA5.out.mono ?_; rintro e W6 ⟨rfl, hb6⟩; have HB6 := Lib.hid (HB5.out.trans (hb6.mono HB5.out.size)); clear hb6)
          go_ret
          exact ⟨rfl, HB6.out⟩

end Go.Proofs.Ytfenlhbkdfmneaa.CodeBlocks
