/- The walk of the law SyntaxDeep. -/
import Derived.Test.YtndnialpedocnaaSyntaxPlainWalk
import Derived.Test.YtndnialpedocnaaUdeep
import Derived.Test.YtndnialpedocnaaPlace
namespace Go.Proofs.Ytndnialpedocnaa.SyntaxDeep
open Go Go.RowKit Go.Proofs.Ytndnialpedocnaa.Spl Go.Proofs.Ytndnialpedocnaa.Spf Go.Proofs.Ytndnialpedocnaa.Nodm Go.Proofs.Ytndnialpedocnaa.Unod Go.Proofs.Ytndnialpedocnaa.Uargs Go.Proofs.Ytndnialpedocnaa.Uref Go.Proofs.Ytndnialpedocnaa.Urow Go.Proofs.Ytndnialpedocnaa.Uparse Go.Proofs.Ytndnialpedocnaa.Usam Go.Proofs.Ytndnialpedocnaa.Udeep Go.Proofs.Ytndnialpedocnaa.Place
open Go.Proofs.Ytndnialpedocnaa.Pure (bs)
open Go.Proofs.Ytndnialpedocnaa.SyntaxPlain (add_bs)

set_option maxRecDepth 100000 in
set_option maxHeartbeats 2000000 in
theorem walk_false (n : Int) (w : World) (hwf : (Lit.int .i64 n).wf = true) :
    Calls Try.prog 3 #[.int .i64 n, .bool false] w fun e W' => e = .returned (.bool true) ∧ Below w.heap.size w W' := by
  obtain ⟨j, hj⟩ : ∃ j, j = place n 60 := ⟨_, rfl⟩
  have hj60 : j < 60 := by rw [hj]; exact place_lt n 60 (by decide)
  have HPl := Lib.hid (fun W => place_is n 60 W (by decide) (by decide) hwf)
  rw [← hj] at HPl
  clear hj hwf
  go_enter Try.func3, Try.ntmps3
  go_wp2_with (go_at_call 6; refine (HPl.out _).mono ?_; rintro e W' ⟨rfl, rfl⟩)
  go_loop [8, 9] (fun sv i => ∃ q : Nat, q ≤ j + 1 ∧ sv = .string (bs (deepT false q)) ∧ i = .int .i64 q) (fun _ i => j + 1 - (intOf i).toNat)
  case atStart => exact ⟨0, Nat.zero_le _, rfl, rfl⟩
  case round =>
    obtain ⟨q, hq, rfl, rfl⟩ := hrel
    by_cases hlt : q < j + 1
    · have hdl := deep_len false q
      have h1 : (q : Int) < 1 + (j : Int) := by omega
      have a1 : ∀ W, (Op.stringOp .add ⟨#[36, 40]⟩ (bs (deepT false q))).run Try.prog W = .ok (.string (bs (openT false ++ deepT false q))) W := fun W => add_bs (openT false) _ W (by rw [List.length_append, hdl]; show 2 + _ ≤ _; omega)
      have a2 : ∀ W, (Op.stringOp .add (bs (openT false ++ deepT false q)) ⟨#[41]⟩).run Try.prog W = .ok (.string (bs (deepT false (q + 1)))) W := fun W => add_bs (openT false ++ deepT false q) (shutT false) W (by rw [List.length_append, List.length_append, hdl]; show 2 + _ + 1 ≤ _; omega)
      clear hdl
      go_wp2_with fail
      go_round
      case rel => exact ⟨q + 1, by omega, rfl, by go_num⟩
      case measure => simp [intOf]; omega
    · obtain rfl : q = j + 1 := by omega
      have h1 : ¬ ((j + 1 : Nat) : Int) < 1 + (j : Int) := by omega
      have hDl := deep_len false (j + 1)
      have hlb := less_bad false j
      have hmb := more_bad false j
      have hmo := more_ok false j
      have hdb := deep_bad false (j + 1)
      have hdo := deep_ok false (j + 1)
      generalize deepT false (j + 1) = D at *
      obtain ⟨m, hm⟩ : ∃ m, m = 3 * j + 3 := ⟨_, rfl⟩
      have hDm : D.length = m + 1 := by omega
      have hm300 : m ≤ 300 := by omega
      have hsz : (bs D).size = m + 1 := by rw [Pure.size_bs, hDm]
      have hex : (bs D).extract 0 m = bs D.dropLast := by
        rw [part_to, List.dropLast_eq_take, hDm, Nat.add_sub_cancel]
      have a3 : ∀ W, (Op.stringOp .add (bs D) ⟨#[41]⟩).run Try.prog W = .ok (.string (bs (D ++ shutT false))) W := fun W => add_bs D (shutT false) W (by rw [List.length_append, hDm]; show _ + 1 ≤ _; omega)
      have hl2 : D.dropLast.length ≤ 999999 := by rw [List.length_dropLast]; omega
      have hl3 : (D ++ shutT false).length ≤ 999999 := by rw [List.length_append, hDm]; show _ + 1 ≤ _; omega
      have H2 := Lib.hid (fun W => parse_bad D.dropLast .form 2 hlb rfl W hl2)
      by_cases h40 : j + 1 ≤ 40
      · have hk : ¬ (40 : Int) < 1 + (j : Int) := by omega
        have H1 := Lib.hid (fun W => parse_ok D (.mk 2 [] [chainN j]) (hdo h40) W (by omega))
        have H3 := Lib.hid (fun W => parse_ok (D ++ shutT false) _ (hmo h40) W hl3)
        have hq1 : ((bs (shutT false)).toList == [41]) = true := by rw [Lib.toList_data]; rfl
        have hq2 : ((bs [97]).toList == [97]) = true := by rw [Lib.toList_data]; rfl
        have HCf := Lib.hid (chain_form)
        clear hlb hmb hmo hdb hdo hl2 hl3 hDl hm hDm h40
        generalize D.dropLast = D2 at *
        generalize D ++ shutT false = D3 at *
        go_upto_region 11 with (go_at_call 7; refine (H1.out _).mono ?_; rintro e W1 ⟨⟨v, rfl, hv⟩, hb1⟩; obtain ⟨A1, c1, rfl, hn1⟩ := hv.inv; have HB1 := Lib.hid hb1; have HN1 := Lib.hid hn1; clear hv hn1 hb1)
        have hx1 := heap_alloc_new W1 (.cells #[.int .i64 2, .string (bs []), .slice A1 1 c1] 25)
        have hz2 : (W1.alloc (.cells #[.int .i64 2, .string (bs []), .slice A1 1 c1] 25)).heap.size = W1.heap.size + 1 := World.size_alloc _ _
        have hb12 := (Below.refl W1.heap.size W1).alloc (Nat.le_refl _) (.cells #[.int .i64 2, .string (bs []), .slice A1 1 c1] 25)
        obtain ⟨W2, hW2⟩ : ∃ W2, W1.alloc (.cells #[.int .i64 2, .string (bs []), .slice A1 1 c1] 25) = W2 := ⟨_, rfl⟩
        rw [hW2] at hx1 hz2 hb12
        first | rw [hW2] | (show Code.wp _ _ _ _ (W1.alloc (.cells #[.int .i64 2, .string (bs []), .slice A1 1 c1] 25)); rw [hW2])
        have HX1 := Lib.hid hx1
        have HB12 := Lib.hid hb12
        clear hW2 hx1 hb12
        go_upto_region 12 with (go_at_call 7; refine (H2.out _).mono ?_; rintro e W3 ⟨rfl, hb3⟩; have HB3 := Lib.hid hb3; clear hb3)
        obtain ⟨W4, hW4⟩ : ∃ W4, W4 = W3.alloc (.cells #[.int .i64 0, .string ByteArray.empty, .slice none 0 0] 25) := ⟨_, rfl⟩
        rw [← hW4]
        have hz4 : W4.heap.size = W3.heap.size + 1 := by rw [hW4, World.size_alloc]
        have hb34 : Below W3.heap.size W3 W4 := by rw [hW4]; exact (Below.refl _ _).alloc (Nat.le_refl _) _
        have HB34 := Lib.hid hb34
        clear hW4 hb34
        go_upto_region 13 with (go_at_call 7; refine (H3.out _).mono ?_; rintro e W5 ⟨⟨v5, rfl, hv5⟩, hb5⟩; obtain ⟨A3, c3, rfl, hn5⟩ := hv5.inv; have HB5 := Lib.hid hb5; have HN5 := Lib.hid hn5; clear hv5 hb5 hn5)
        have hx6 := heap_alloc_new W5 (.cells #[.int .i64 5, .string (bs []), .slice A3 2 c3] 25)
        have hz6 : (W5.alloc (.cells #[.int .i64 5, .string (bs []), .slice A3 2 c3] 25)).heap.size = W5.heap.size + 1 := World.size_alloc _ _
        have hb56 := (Below.refl W5.heap.size W5).alloc (Nat.le_refl _) (.cells #[.int .i64 5, .string (bs []), .slice A3 2 c3] 25)
        obtain ⟨W6, hW6⟩ : ∃ W6, W5.alloc (.cells #[.int .i64 5, .string (bs []), .slice A3 2 c3] 25) = W6 := ⟨_, rfl⟩
        rw [hW6] at hx6 hz6 hb56
        first | rw [hW6] | (show Code.wp _ _ _ _ (W5.alloc (.cells #[.int .i64 5, .string (bs []), .slice A3 2 c3] 25)); rw [hW6])
        have hb3 := HB3.out
        have hb5 := HB5.out
        have s1 := HB1.out.size
        have s3 := hb3.size
        have s5 := hb5.size
        have hb26 : Below W2.heap.size W2 W6 := hb3.trans ((HB34.out.mono (by omega)).trans ((hb5.mono (by omega)).trans (hb56.mono (by omega))))
        have hb16 : Below W1.heap.size W1 W6 := HB12.out.trans (hb26.mono (by omega))
        have hx16 : W6.heap[W1.heap.size]? = some (.cells #[.int .i64 2, .string (bs []), .slice A1 1 c1] 25) := (hb26.block _ (by omega)).trans HX1.out
        have HBf := Lib.hid (HB1.out.trans (hb16.mono s1))
        have hn1 : NodesIn (fun b => b ≠ W1.heap.size) W6 A1 c1 [chainN j] := HN1.out.move (fun b _ hl => ⟨by omega, hb16.block b hl⟩) hb16.size
        have hn5 : NodesIn (fun b => b ≠ W1.heap.size) W6 A3 c3 [chainN (j + 1), .mk 1 (shutT false) []] := HN5.out.move (fun b hb hl => ⟨by have := hb.1; omega, hb56.block b hl⟩) hb56.size
        obtain ⟨b5, o5, A5, c5, hA5, hb5l, hS5, _, hcell5⟩ := hn5.at_ (j := 1) rfl
        subst hA5
        have HC5 := Lib.hid hcell5
        have HX6 := Lib.hid hx6
        have HSt : Hid (∃ A c kk ss ll, chainN (j + 1) = .mk kk ss ll ∧ W6.heap[W1.heap.size]? = some (.cells #[.int .i64 (kk : Int), .string (bs ss), .slice A ll.length c] 25) ∧ NodesIn (fun b => b ≠ W1.heap.size) W6 A c ll) := ⟨A1, c1, 2, [], [chainN j], rfl, hx16, hn1⟩
        have hp13 : W1.heap.size ≠ W5.heap.size := by omega
        have hz16 : W1.heap.size < W6.heap.size := by omega
        clear hb3 hb5 hb26 hb16 hx16 hn1 hn5 hcell5 hx6 hb56 hW6 H1 H2 H3 HN1 HN5 HB3 HB5 HB34 HB12 HX1
        go_wp2_with fail
        go_loopw [16] (fun iv wr => ∃ d r : Nat, d + r = j + 1 ∧ iv = .int .i64 d ∧ Hid (Far W1.heap.size W6 wr) ∧ Hid (∃ A c kk ss ll, chainN r = .mk kk ss ll ∧ wr.heap[W1.heap.size]? = some (.cells #[.int .i64 (kk : Int), .string (bs ss), .slice A ll.length c] 25) ∧ NodesIn (fun b => b ≠ W1.heap.size) W6 A c ll)) (fun iv _ => j + 1 - (intOf iv).toNat)
        case atStart => exact ⟨0, j + 1, by omega, rfl, Far.refl _ _, HSt⟩
        case round =>
          obtain ⟨d, r, hdr, rfl, HFr, HCh⟩ := hrel
          obtain ⟨A, cc, kk, ss, ll, hch, hx, hns⟩ := HCh.out
          obtain ⟨k2, s2, l2, hf1, hf2, hf3⟩ := HCf.out r
          rw [hf1] at hch
          cases hch
          clear HCh HSt
          cases r with
          | zero =>
            obtain ⟨rfl, rfl, rfl⟩ := hf2 rfl
            obtain rfl : d = j + 1 := by omega
            obtain ⟨x0, x1, x2⟩ := cells_three hx
            have hx3 := (HFr.out.block W5.heap.size (by omega) hp13.symm).trans HX6.out
            obtain ⟨y0, y1, y2⟩ := cells_three hx3
            obtain ⟨z0, z1, z2⟩ := HC5.out wr (HFr.out.block b5 hb5l hS5)
            have hbe : Below w.heap.size w wr := HBf.out.trans (HFr.out.below s1 (by omega))
            have HBe := Lib.hid hbe
            have hdk : (((j + 1 : Nat) : Int) == 1 + (j : Int)) = true := by rw [beq_iff_eq]; omega
            have hdk2 : ((j + 1 : Nat) : Int) = 1 + (j : Int) := by omega
            clear hf1 hf2 hf3 hx hx3 hns hbe
            go_wp2_with (go_at_call 8; refine (awake_is _).mono ?_; rintro e W7 ⟨rfl, hb7⟩; have HB7 := Lib.hid hb7; clear hb7)
            go_ret
            exact ⟨rfl, HBe.out.trans (HB7.out.mono HBe.out.size)⟩
          | succ q =>
            obtain ⟨rfl, rfl⟩ := hf3 q rfl
            obtain ⟨k3, s3', l3, hg1, _, _⟩ := HCf.out q
            rw [hg1] at hns
            obtain ⟨bb, oo, A', c', rfl, hbl, hSb, hin, hcell⟩ := hns.at_ (j := 0) rfl
            obtain ⟨e0, e1, e2⟩ := hcell wr (HFr.out.block bb hbl hSb)
            rw [Nat.zero_mul, Nat.add_zero] at e0 e1 e2
            obtain ⟨x0, x1, x2⟩ := cells_three hx
            have f0 := frozen_of_row wr W1.heap.size 0 _ _ hx
            have f1 := frozen_of_row wr W1.heap.size 1 _ _ hx
            have f2 := frozen_of_row wr W1.heap.size 2 _ _ hx
            have HX := Lib.hid hx
            have HI := Lib.hid hin
            have HG1 := Lib.hid hg1
            clear hf1 hf2 hf3 hx hns hcell hin hg1
            go_wp2_with fail
            obtain ⟨W7, hW7⟩ : ∃ W7, ((wr.setCell ⟨W1.heap.size, 0, none⟩ (.int .i64 (k3 : Int))).setCell ⟨W1.heap.size, 1, none⟩ (.string (bs s3'))).setCell ⟨W1.heap.size, 2, none⟩ (.slice A' l3.length c') = W7 := ⟨_, rfl⟩
            obtain ⟨t1, t2, t3, t4⟩ := three_far wr W7 _ _ _ _ _ _ _ _ HX.out hW7
            have HF7 : Hid (Far W1.heap.size W6 W7) := HFr.out.trans ⟨t4.os, t4.tape, t4.output, t2, fun k _ hk => t3 k hk⟩
            rw [hW7]
            go_roundw
            case rel => exact ⟨d + 1, q, by omega, by go_num, HF7, ⟨A', c', k3, s3', l3, HG1.out, t1, HI.out⟩⟩
            case measure => simp [intOf]; omega
      · have hk : (40 : Int) < 1 + (j : Int) := by omega
        have H1 := Lib.hid (fun W => parse_bad D .deep 8 (hdb h40) rfl W (by omega))
        have H3 := Lib.hid (fun W => parse_bad (D ++ shutT false) .deep 8 (hmb h40) rfl W hl3)
        clear hlb hmb hmo hdb hdo hl2 hl3 hDl hm hDm h40
        generalize D.dropLast = D2 at *
        generalize D ++ shutT false = D3 at *
        go_wp2_with (first | (go_at_call 7; refine (H1.out _).mono ?_; rintro e W1 ⟨rfl, hb1⟩; have HB1 := Lib.hid hb1; clear hb1) | (go_at_call 7; refine (H2.out _).mono ?_; rintro e W2 ⟨rfl, hb2⟩; have HB2 := Lib.hid hb2; clear hb2) | (go_at_call 7; refine (H3.out _).mono ?_; rintro e W3 ⟨rfl, hb3⟩; have HB3 := Lib.hid hb3; clear hb3) | (go_at_call 8; refine (awake_is _).mono ?_; rintro e W4 ⟨rfl, hb4⟩; have HB4 := Lib.hid hb4; clear hb4))
        go_ret
        have hb1 := HB1.out
        have hb2 := HB2.out
        have hb3 := HB3.out
        have hb4 := HB4.out
        simp only [World.size_alloc] at hb2 hb3 hb4
        have s1 := hb1.size
        have s2 := hb2.size
        have s3 := hb3.size
        simp only [World.size_alloc] at s2 s3
        refine ⟨rfl, ?_⟩
        have g1 := (hb1.alloc s1 (.cells #[.int .i64 0, .string .empty, .slice none 0 0] 25)).trans (hb2.mono (by omega))
        have g2 := (g1.alloc (by omega) (.cells #[.int .i64 0, .string .empty, .slice none 0 0] 25)).trans (hb3.mono (by omega))
        exact (g2.alloc (by omega) (.cells #[.int .i64 0, .string .empty, .slice none 0 0] 25)).trans (hb4.mono (by omega))

set_option maxRecDepth 100000 in
set_option maxHeartbeats 2000000 in
theorem walk_true (n : Int) (w : World) (hwf : (Lit.int .i64 n).wf = true) :
    Calls Try.prog 3 #[.int .i64 n, .bool true] w fun e W' => e = .returned (.bool true) ∧ Below w.heap.size w W' := by
  obtain ⟨j, hj⟩ : ∃ j, j = place n 60 := ⟨_, rfl⟩
  have hj60 : j < 60 := by rw [hj]; exact place_lt n 60 (by decide)
  have HPl := Lib.hid (fun W => place_is n 60 W (by decide) (by decide) hwf)
  rw [← hj] at HPl
  clear hj hwf
  go_enter Try.func3, Try.ntmps3
  go_wp2_with (go_at_call 6; refine (HPl.out _).mono ?_; rintro e W' ⟨rfl, rfl⟩)
  go_loop [8, 9] (fun sv i => ∃ q : Nat, q ≤ j + 1 ∧ sv = .string (bs (deepT true q)) ∧ i = .int .i64 q) (fun _ i => j + 1 - (intOf i).toNat)
  case atStart => exact ⟨0, Nat.zero_le _, rfl, rfl⟩
  case round =>
    obtain ⟨q, hq, rfl, rfl⟩ := hrel
    by_cases hlt : q < j + 1
    · have hdl := deep_len true q
      have h1 : (q : Int) < 1 + (j : Int) := by omega
      have a1 : ∀ W, (Op.stringOp .add ⟨#[36, 123]⟩ (bs (deepT true q))).run Try.prog W = .ok (.string (bs (openT true ++ deepT true q))) W := fun W => add_bs (openT true) _ W (by rw [List.length_append, hdl]; show 2 + _ ≤ _; omega)
      have a2 : ∀ W, (Op.stringOp .add (bs (openT true ++ deepT true q)) ⟨#[125]⟩).run Try.prog W = .ok (.string (bs (deepT true (q + 1)))) W := fun W => add_bs (openT true ++ deepT true q) (shutT true) W (by rw [List.length_append, List.length_append, hdl]; show 2 + _ + 1 ≤ _; omega)
      clear hdl
      go_wp2_with fail
      go_round
      case rel => exact ⟨q + 1, by omega, rfl, by go_num⟩
      case measure => simp [intOf]; omega
    · obtain rfl : q = j + 1 := by omega
      have h1 : ¬ ((j + 1 : Nat) : Int) < 1 + (j : Int) := by omega
      have hDl := deep_len true (j + 1)
      have hlb := less_bad true j
      have hmb := more_bad true j
      have hmo := more_ok true j
      have hdb := deep_bad true (j + 1)
      have hdo := deep_ok true (j + 1)
      generalize deepT true (j + 1) = D at *
      obtain ⟨m, hm⟩ : ∃ m, m = 3 * j + 3 := ⟨_, rfl⟩
      have hDm : D.length = m + 1 := by omega
      have hm300 : m ≤ 300 := by omega
      have hsz : (bs D).size = m + 1 := by rw [Pure.size_bs, hDm]
      have hex : (bs D).extract 0 m = bs D.dropLast := by
        rw [part_to, List.dropLast_eq_take, hDm, Nat.add_sub_cancel]
      have a3 : ∀ W, (Op.stringOp .add (bs D) ⟨#[125]⟩).run Try.prog W = .ok (.string (bs (D ++ shutT true))) W := fun W => add_bs D (shutT true) W (by rw [List.length_append, hDm]; show _ + 1 ≤ _; omega)
      have hl2 : D.dropLast.length ≤ 999999 := by rw [List.length_dropLast]; omega
      have hl3 : (D ++ shutT true).length ≤ 999999 := by rw [List.length_append, hDm]; show _ + 1 ≤ _; omega
      have H2 := Lib.hid (fun W => parse_bad D.dropLast .form 2 hlb rfl W hl2)
      by_cases h40 : j + 1 ≤ 40
      · have hk : ¬ (40 : Int) < 1 + (j : Int) := by omega
        have H1 := Lib.hid (fun W => parse_ok D (.mk 2 [] [chainN j]) (hdo h40) W (by omega))
        have H3 := Lib.hid (fun W => parse_ok (D ++ shutT true) _ (hmo h40) W hl3)
        have hq1 : ((bs (shutT true)).toList == [125]) = true := by rw [Lib.toList_data]; rfl
        have hq2 : ((bs [97]).toList == [97]) = true := by rw [Lib.toList_data]; rfl
        have HCf := Lib.hid (chain_form)
        clear hlb hmb hmo hdb hdo hl2 hl3 hDl hm hDm h40
        generalize D.dropLast = D2 at *
        generalize D ++ shutT true = D3 at *
        go_upto_region 11 with (go_at_call 7; refine (H1.out _).mono ?_; rintro e W1 ⟨⟨v, rfl, hv⟩, hb1⟩; obtain ⟨A1, c1, rfl, hn1⟩ := hv.inv; have HB1 := Lib.hid hb1; have HN1 := Lib.hid hn1; clear hv hn1 hb1)
        have hx1 := heap_alloc_new W1 (.cells #[.int .i64 2, .string (bs []), .slice A1 1 c1] 25)
        have hz2 : (W1.alloc (.cells #[.int .i64 2, .string (bs []), .slice A1 1 c1] 25)).heap.size = W1.heap.size + 1 := World.size_alloc _ _
        have hb12 := (Below.refl W1.heap.size W1).alloc (Nat.le_refl _) (.cells #[.int .i64 2, .string (bs []), .slice A1 1 c1] 25)
        obtain ⟨W2, hW2⟩ : ∃ W2, W1.alloc (.cells #[.int .i64 2, .string (bs []), .slice A1 1 c1] 25) = W2 := ⟨_, rfl⟩
        rw [hW2] at hx1 hz2 hb12
        first | rw [hW2] | (show Code.wp _ _ _ _ (W1.alloc (.cells #[.int .i64 2, .string (bs []), .slice A1 1 c1] 25)); rw [hW2])
        have HX1 := Lib.hid hx1
        have HB12 := Lib.hid hb12
        clear hW2 hx1 hb12
        go_upto_region 12 with (go_at_call 7; refine (H2.out _).mono ?_; rintro e W3 ⟨rfl, hb3⟩; have HB3 := Lib.hid hb3; clear hb3)
        obtain ⟨W4, hW4⟩ : ∃ W4, W4 = W3.alloc (.cells #[.int .i64 0, .string ByteArray.empty, .slice none 0 0] 25) := ⟨_, rfl⟩
        rw [← hW4]
        have hz4 : W4.heap.size = W3.heap.size + 1 := by rw [hW4, World.size_alloc]
        have hb34 : Below W3.heap.size W3 W4 := by rw [hW4]; exact (Below.refl _ _).alloc (Nat.le_refl _) _
        have HB34 := Lib.hid hb34
        clear hW4 hb34
        go_upto_region 13 with (go_at_call 7; refine (H3.out _).mono ?_; rintro e W5 ⟨⟨v5, rfl, hv5⟩, hb5⟩; obtain ⟨A3, c3, rfl, hn5⟩ := hv5.inv; have HB5 := Lib.hid hb5; have HN5 := Lib.hid hn5; clear hv5 hb5 hn5)
        have hx6 := heap_alloc_new W5 (.cells #[.int .i64 5, .string (bs []), .slice A3 2 c3] 25)
        have hz6 : (W5.alloc (.cells #[.int .i64 5, .string (bs []), .slice A3 2 c3] 25)).heap.size = W5.heap.size + 1 := World.size_alloc _ _
        have hb56 := (Below.refl W5.heap.size W5).alloc (Nat.le_refl _) (.cells #[.int .i64 5, .string (bs []), .slice A3 2 c3] 25)
        obtain ⟨W6, hW6⟩ : ∃ W6, W5.alloc (.cells #[.int .i64 5, .string (bs []), .slice A3 2 c3] 25) = W6 := ⟨_, rfl⟩
        rw [hW6] at hx6 hz6 hb56
        first | rw [hW6] | (show Code.wp _ _ _ _ (W5.alloc (.cells #[.int .i64 5, .string (bs []), .slice A3 2 c3] 25)); rw [hW6])
        have hb3 := HB3.out
        have hb5 := HB5.out
        have s1 := HB1.out.size
        have s3 := hb3.size
        have s5 := hb5.size
        have hb26 : Below W2.heap.size W2 W6 := hb3.trans ((HB34.out.mono (by omega)).trans ((hb5.mono (by omega)).trans (hb56.mono (by omega))))
        have hb16 : Below W1.heap.size W1 W6 := HB12.out.trans (hb26.mono (by omega))
        have hx16 : W6.heap[W1.heap.size]? = some (.cells #[.int .i64 2, .string (bs []), .slice A1 1 c1] 25) := (hb26.block _ (by omega)).trans HX1.out
        have HBf := Lib.hid (HB1.out.trans (hb16.mono s1))
        have hn1 : NodesIn (fun b => b ≠ W1.heap.size) W6 A1 c1 [chainN j] := HN1.out.move (fun b _ hl => ⟨by omega, hb16.block b hl⟩) hb16.size
        have hn5 : NodesIn (fun b => b ≠ W1.heap.size) W6 A3 c3 [chainN (j + 1), .mk 1 (shutT true) []] := HN5.out.move (fun b hb hl => ⟨by have := hb.1; omega, hb56.block b hl⟩) hb56.size
        obtain ⟨b5, o5, A5, c5, hA5, hb5l, hS5, _, hcell5⟩ := hn5.at_ (j := 1) rfl
        subst hA5
        have HC5 := Lib.hid hcell5
        have HX6 := Lib.hid hx6
        have HSt : Hid (∃ A c kk ss ll, chainN (j + 1) = .mk kk ss ll ∧ W6.heap[W1.heap.size]? = some (.cells #[.int .i64 (kk : Int), .string (bs ss), .slice A ll.length c] 25) ∧ NodesIn (fun b => b ≠ W1.heap.size) W6 A c ll) := ⟨A1, c1, 2, [], [chainN j], rfl, hx16, hn1⟩
        have hp13 : W1.heap.size ≠ W5.heap.size := by omega
        have hz16 : W1.heap.size < W6.heap.size := by omega
        clear hb3 hb5 hb26 hb16 hx16 hn1 hn5 hcell5 hx6 hb56 hW6 H1 H2 H3 HN1 HN5 HB3 HB5 HB34 HB12 HX1
        go_wp2_with fail
        go_loopw [16] (fun iv wr => ∃ d r : Nat, d + r = j + 1 ∧ iv = .int .i64 d ∧ Hid (Far W1.heap.size W6 wr) ∧ Hid (∃ A c kk ss ll, chainN r = .mk kk ss ll ∧ wr.heap[W1.heap.size]? = some (.cells #[.int .i64 (kk : Int), .string (bs ss), .slice A ll.length c] 25) ∧ NodesIn (fun b => b ≠ W1.heap.size) W6 A c ll)) (fun iv _ => j + 1 - (intOf iv).toNat)
        case atStart => exact ⟨0, j + 1, by omega, rfl, Far.refl _ _, HSt⟩
        case round =>
          obtain ⟨d, r, hdr, rfl, HFr, HCh⟩ := hrel
          obtain ⟨A, cc, kk, ss, ll, hch, hx, hns⟩ := HCh.out
          obtain ⟨k2, s2, l2, hf1, hf2, hf3⟩ := HCf.out r
          rw [hf1] at hch
          cases hch
          clear HCh HSt
          cases r with
          | zero =>
            obtain ⟨rfl, rfl, rfl⟩ := hf2 rfl
            obtain rfl : d = j + 1 := by omega
            obtain ⟨x0, x1, x2⟩ := cells_three hx
            have hx3 := (HFr.out.block W5.heap.size (by omega) hp13.symm).trans HX6.out
            obtain ⟨y0, y1, y2⟩ := cells_three hx3
            obtain ⟨z0, z1, z2⟩ := HC5.out wr (HFr.out.block b5 hb5l hS5)
            have hbe : Below w.heap.size w wr := HBf.out.trans (HFr.out.below s1 (by omega))
            have HBe := Lib.hid hbe
            have hdk : (((j + 1 : Nat) : Int) == 1 + (j : Int)) = true := by rw [beq_iff_eq]; omega
            have hdk2 : ((j + 1 : Nat) : Int) = 1 + (j : Int) := by omega
            clear hf1 hf2 hf3 hx hx3 hns hbe
            go_wp2_with (go_at_call 8; refine (awake_is _).mono ?_; rintro e W7 ⟨rfl, hb7⟩; have HB7 := Lib.hid hb7; clear hb7)
            go_ret
            exact ⟨rfl, HBe.out.trans (HB7.out.mono HBe.out.size)⟩
          | succ q =>
            obtain ⟨rfl, rfl⟩ := hf3 q rfl
            obtain ⟨k3, s3', l3, hg1, _, _⟩ := HCf.out q
            rw [hg1] at hns
            obtain ⟨bb, oo, A', c', rfl, hbl, hSb, hin, hcell⟩ := hns.at_ (j := 0) rfl
            obtain ⟨e0, e1, e2⟩ := hcell wr (HFr.out.block bb hbl hSb)
            rw [Nat.zero_mul, Nat.add_zero] at e0 e1 e2
            obtain ⟨x0, x1, x2⟩ := cells_three hx
            have f0 := frozen_of_row wr W1.heap.size 0 _ _ hx
            have f1 := frozen_of_row wr W1.heap.size 1 _ _ hx
            have f2 := frozen_of_row wr W1.heap.size 2 _ _ hx
            have HX := Lib.hid hx
            have HI := Lib.hid hin
            have HG1 := Lib.hid hg1
            clear hf1 hf2 hf3 hx hns hcell hin hg1
            go_wp2_with fail
            obtain ⟨W7, hW7⟩ : ∃ W7, ((wr.setCell ⟨W1.heap.size, 0, none⟩ (.int .i64 (k3 : Int))).setCell ⟨W1.heap.size, 1, none⟩ (.string (bs s3'))).setCell ⟨W1.heap.size, 2, none⟩ (.slice A' l3.length c') = W7 := ⟨_, rfl⟩
            obtain ⟨t1, t2, t3, t4⟩ := three_far wr W7 _ _ _ _ _ _ _ _ HX.out hW7
            have HF7 : Hid (Far W1.heap.size W6 W7) := HFr.out.trans ⟨t4.os, t4.tape, t4.output, t2, fun k _ hk => t3 k hk⟩
            rw [hW7]
            go_roundw
            case rel => exact ⟨d + 1, q, by omega, by go_num, HF7, ⟨A', c', k3, s3', l3, HG1.out, t1, HI.out⟩⟩
            case measure => simp [intOf]; omega
      · have hk : (40 : Int) < 1 + (j : Int) := by omega
        have H1 := Lib.hid (fun W => parse_bad D .deep 8 (hdb h40) rfl W (by omega))
        have H3 := Lib.hid (fun W => parse_bad (D ++ shutT true) .deep 8 (hmb h40) rfl W hl3)
        clear hlb hmb hmo hdb hdo hl2 hl3 hDl hm hDm h40
        generalize D.dropLast = D2 at *
        generalize D ++ shutT true = D3 at *
        go_wp2_with (first | (go_at_call 7; refine (H1.out _).mono ?_; rintro e W1 ⟨rfl, hb1⟩; have HB1 := Lib.hid hb1; clear hb1) | (go_at_call 7; refine (H2.out _).mono ?_; rintro e W2 ⟨rfl, hb2⟩; have HB2 := Lib.hid hb2; clear hb2) | (go_at_call 7; refine (H3.out _).mono ?_; rintro e W3 ⟨rfl, hb3⟩; have HB3 := Lib.hid hb3; clear hb3) | (go_at_call 8; refine (awake_is _).mono ?_; rintro e W4 ⟨rfl, hb4⟩; have HB4 := Lib.hid hb4; clear hb4))
        go_ret
        have hb1 := HB1.out
        have hb2 := HB2.out
        have hb3 := HB3.out
        have hb4 := HB4.out
        simp only [World.size_alloc] at hb2 hb3 hb4
        have s1 := hb1.size
        have s2 := hb2.size
        have s3 := hb3.size
        simp only [World.size_alloc] at s2 s3
        refine ⟨rfl, ?_⟩
        have g1 := (hb1.alloc s1 (.cells #[.int .i64 0, .string .empty, .slice none 0 0] 25)).trans (hb2.mono (by omega))
        have g2 := (g1.alloc (by omega) (.cells #[.int .i64 0, .string .empty, .slice none 0 0] 25)).trans (hb3.mono (by omega))
        exact (g2.alloc (by omega) (.cells #[.int .i64 0, .string .empty, .slice none 0 0] 25)).trans (hb4.mono (by omega))

theorem walk (n : Int) (c : Bool) (w : World) (hwf : (Lit.int .i64 n).wf = true) :
    Calls Try.prog 3 #[.int .i64 n, .bool c] w fun e W' => e = .returned (.bool true) ∧ Below w.heap.size w W' := by
  cases c
  · exact walk_false n w hwf
  · exact walk_true n w hwf

end Go.Proofs.Ytndnialpedocnaa.SyntaxDeep
