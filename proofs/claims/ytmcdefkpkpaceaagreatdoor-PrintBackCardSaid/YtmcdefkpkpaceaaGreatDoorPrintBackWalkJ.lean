/- The walk of the law PrintBack. -/
import Derived.Test.YtmcdefkpkpaceaaGreatDoorPawJ
import Derived.Test.YtmcdefkpkpaceaaGreatDoorQbntJ
import Derived.Test.YtmcdefkpkpaceaaGreatDoorTtopJ
namespace Go.Proofs.YtmcdefkpkpaceaaGreatDoor.PrintBack
open Go.RowKit Go.Proofs.YtmcdefkpkpaceaaGreatDoor.Spl Go.Proofs.YtmcdefkpkpaceaaGreatDoor.Nodm Go.Proofs.YtmcdefkpkpaceaaGreatDoor.Nz Go.Proofs.YtmcdefkpkpaceaaGreatDoor.Qwhole Go.Proofs.YtmcdefkpkpaceaaGreatDoor.Qlist Go.Proofs.YtmcdefkpkpaceaaGreatDoor.Qtp Go.Proofs.YtmcdefkpkpaceaaGreatDoor.Qprt Go.Proofs.YtmcdefkpkpaceaaGreatDoor.Qsame Go.Proofs.YtmcdefkpkpaceaaGreatDoor.Paw
open Go.Proofs.YtmcdefkpkpaceaaGreatDoor.Pure (bs)
open Go.Proofs.YtmcdefkpkpaceaaGreatDoor.Nums (IntIs)

/-- what is written is read as it; else nothing is written -/
theorem pr_back (x : Nz) : (prB x = true ∧ prT x = textZ x ∧ ∃ m, parse (textZ x) = .ok m ∧ toZ m = x) ∨ (prB x = false ∧ prT x = []) := by
  cases hb : prB x with
  | false => exact .inr ⟨rfl, by rw [prT, hb]; rfl⟩
  | true =>
    refine .inl ⟨rfl, by rw [prT, hb]; rfl, ?_⟩
    unfold prB at hb
    split at hb
    · rename_i m hm
      exact ⟨m, hm, same_iff.1 hb⟩
    · cases hb

set_option maxRecDepth 100000 in
set_option maxHeartbeats 2000000 in
theorem walk (A : Option Addr) (n c : Nat) (zs : List Int) (w : World) (hl : IntIs w A n c zs) (hm : n ≤ maxLen) :
    Calls Tryz.prog 3 #[.slice A n c] w fun e W' => e = .returned (.bool true) ∧ Below w.heap.size w W' := by
  have HT := Lib.hid (Ttop.numText_is A n c zs w (by unfold maxLen at hm; omega) hl)
  clear hl hm
  go_enter Tryz.func3, Tryz.ntmps3
  go_upto_region 2 with (first | (go_at_call 5; refine HT.out.mono ?_; rintro e W1 ⟨s, hs, rfl, hb1, hg1⟩; have HG1 : Hid (0 < W1.heap.size) := Nat.lt_of_le_of_lt (Nat.zero_le _) hg1; clear hg1; obtain ⟨t, rfl⟩ : ∃ t, s = bs t := ⟨s.data.toList, (Pure.bs_self _).symm⟩; have HB1 := Lib.hid hb1; have HS := Lib.hid hs; clear hb1 hs) | (go_at_call 4; refine (Qparse.refParse_is t W1 (by have := HS.out; rw [Pure.size_bs] at this; omega)).mono ?_; rintro e W2 ⟨v, rfl, hv, hb2⟩; obtain ⟨kk, ss, A2, n2, c2, rfl⟩ := NodeOf.agg hv; have HV := Lib.hid hv; have HB2 := Lib.hid hb2; clear hv hb2))
  have htl : t.length ≤ 85908 := by have := HS.out; rw [Pure.size_bs] at this; exact this
  obtain ⟨W3, hW3⟩ : ∃ W3, W2.alloc (.cells #[.int .i64 (kk : Int), .string (bs ss), .slice A2 n2 c2] 25) = W3 := ⟨_, rfl⟩
  have hx3 : W3.heap[W2.heap.size]? = some (.cells #[.int .i64 (kk : Int), .string (bs ss), .slice A2 n2 c2] 25) := by rw [← hW3]; exact heap_alloc_new W2 _
  have hb23 : Below W2.heap.size W2 W3 := by rw [← hW3]; exact (Below.refl _ _).alloc (Nat.le_refl _) _
  have hz3 : W3.heap.size = W2.heap.size + 1 := by rw [← hW3]; exact World.size_alloc _ _
  rw [hW3]
  have hb1 := HB1.out
  have hb2 := HB2.out
  have s1 := hb1.size
  have s2 := hb2.size
  have hb3 : Below w.heap.size w W3 := hb1.trans ((hb2.mono s1).trans (hb23.mono (by omega)))
  have HB3 := Lib.hid hb3
  have HX3 := Lib.hid hx3
  have hs3 : w.heap.size ≤ W3.heap.size := hb3.size
  have HV3 : Hid (∀ nd, parse t = .ok nd → NzIn (fun b => W1.heap.size ≤ b) W3 (.agg #[.int .i64 (kk : Int), .string (bs ss), .slice A2 n2 c2]) (toZ nd)) := fun nd h => by
    have hv := HV.out
    rw [h] at hv
    exact Nz.NodeIn.toZ ((show NodeIn _ W2 _ nd from hv).on hb23)
  obtain ⟨d0, d1, d2⟩ := cells_three hx3
  clear hW3 hx3 hb23 hb1 hb2 hb3 HV HS HT
  cases hR : parse t with
  | bad er =>
    obtain ⟨ne, hne⟩ : ∃ ne, ne = errNo (.bad er : Rd Nod) := ⟨_, rfl⟩
    have hn1 : ¬ ne = 0 := by rw [hne]; cases er <;> decide
    have hn2 : ¬ ((ne : Nat) : Int) = 0 := by omega
    have hn0 : (((ne : Nat) : Int) == 0) = false := by rw [beq_eq_false_iff_ne]; exact hn2
    have hn3 : (((ne : Nat) : Int) != 0) = true := by rw [bne_iff_ne]; exact hn2
    rw [← hne]
    clear hne hR HV3
    go_wp2_with (go_at_call 6; refine (awake_is _).mono ?_; rintro e W5 ⟨rfl, hb5⟩; have HB5 := Lib.hid hb5; clear hb5)
    go_ret
    exact ⟨rfl, HB3.out.trans (HB5.out.mono hs3)⟩
  | ok nd =>
    rw [show ((errNo (Rd.ok nd) : Nat) : Int) = 0 from rfl]
    have hx := HV3.out nd hR
    have hwt := Qbnd.parse_wt hR
    have htx := Qbnt.parse_txt hR
    have hsz := Qbns.parse_siz hR
    clear HV3 hR
    generalize toZ nd = x at *
    have hpT : (prT x).length ≤ 999999 := by
      rcases pr_back x with ⟨_, e, _⟩ | ⟨_, e⟩
      · rw [e]; omega
      · rw [e]; decide
    have HK := Lib.hid (pr_back x)
    have HXn := Lib.hid hx
    have HP := Lib.hid (Kprint.print_is x _ (by have := HG1.out; show ¬ W1.heap.size ≤ 0; omega) _ W3 hx (by omega) (by omega) (by omega))
    have HR := Lib.hid (fun (W : World) (hW : Below W3.heap.size W3 W) => refPrint_is x _ _ W (hx.on hW) (by omega) (by omega))
    have HPa := Lib.hid (fun W => Qparse.refParse_is (prT x) W hpT)
    have HSm := Lib.hid (fun (m : Nod) (h : toZ m = x) (S' : Nat → Prop) (u : Value) (W : World) (hu : NodeIn S' W u m) (hW : Below W3.heap.size W3 W) => refSame_is (toZ m) x S' _ u _ W (Nz.NodeIn.toZ hu) (hx.on hW) (by rw [h]; have := Qbnd.siz_wt x; omega))
    have HTx := Lib.hid htx
    clear hx hwt htx hpT hsz
    have hqt : ((bs (prT x)).toList == (bs (prT x)).toList) = true := beq_self_eq_true _
    rcases HK.out with ⟨hb, hT, m, hpm, hmx⟩ | ⟨hb, hT⟩
    · rw [hT] at hqt HP HR HPa
      rw [hb] at HP HR
      rw [hpm] at HPa
      obtain ⟨mk, ms, ml⟩ := m
      obtain ⟨lz, hlz⟩ : ∃ lz, lz = ml.length := ⟨_, rfl⟩
      have HPb : Hid (∀ W : World, Calls Tryz.prog 4 #[.string (bs (textZ x))] W fun e W' => ∃ A3 c3, e = .returned (.tuple #[.agg #[.int .i64 (mk : Int), .string (bs ms), .slice A3 lz c3], .int .i64 0]) ∧ NodeIn (fun b => W.heap.size ≤ b) W' (.agg #[.int .i64 (mk : Int), .string (bs ms), .slice A3 lz c3]) (.mk mk ms ml) ∧ Below W.heap.size W W') := fun W => (HPa.out W).mono fun e W' ⟨u, he, hu, hb⟩ => by
        have hu : NodeIn (fun b => W.heap.size ≤ b) W' u (.mk mk ms ml) := hu
        obtain ⟨A3, c3, rfl, _⟩ := hu.inv
        rw [hlz]
        exact ⟨A3, c3, he, hu, hb⟩
      have HSm2 := Lib.hid (HSm.out _ hmx)
      rw [same_yes hmx] at HSm2
      generalize textZ x = p at *
      clear HPa HSm hb hT hpm hmx hlz HK HTx HXn
      go_upto_region 5 with (go_at_call 7; refine HP.out.mono ?_; rintro e W4 ⟨rfl, hb4⟩; have HB4 := Lib.hid hb4; clear hb4)
      have hb4 := HB4.out
      obtain ⟨e0, e1, e2⟩ := cells_three ((hb4.block W2.heap.size (by omega)).trans HX3.out)
      have HR4 := Lib.hid (HR.out W4 hb4)
      have s4 := hb4.size
      clear hb4 d0 d1 d2 HP HR
      go_upto_region 6 with (go_at_call 8; refine HR4.out.mono ?_; rintro e W5 ⟨rfl, hb5⟩; have HB5 := Lib.hid (HB4.out.trans (hb5.mono s4)); clear hb5)
      have s5 := HB5.out.size
      clear e0 e1 e2 HR4
      go_upto_region 7 with (go_at_call 4; refine (HPb.out W5).mono ?_; rintro e W6 ⟨A3, c3, rfl, hn6, hb6⟩; have HB6 := Lib.hid hb6; have HN6 := Lib.hid hn6; clear hb6 hn6)
      obtain ⟨W7, hW7⟩ : ∃ W7, W6.alloc (.cells #[.int .i64 (mk : Int), .string (bs ms), .slice A3 lz c3] 25) = W7 := ⟨_, rfl⟩
      have hx7 : W7.heap[W6.heap.size]? = some (.cells #[.int .i64 (mk : Int), .string (bs ms), .slice A3 lz c3] 25) := by rw [← hW7]; exact heap_alloc_new W6 _
      have hb67 : Below W6.heap.size W6 W7 := by rw [← hW7]; exact (Below.refl _ _).alloc (Nat.le_refl _) _
      rw [hW7]
      have hb6 := HB6.out
      have s6 := hb6.size
      have hb37 : Below W3.heap.size W3 W7 := HB5.out.trans ((hb6.mono s5).trans (hb67.mono (by omega)))
      have s7 := hb37.size
      obtain ⟨f0, f1, f2⟩ := cells_three ((hb37.block W2.heap.size (by omega)).trans HX3.out)
      obtain ⟨g0, g1, g2⟩ := cells_three hx7
      have HC := Lib.hid (HSm2.out (fun b => W5.heap.size ≤ b) _ W7 (HN6.out.on hb67) hb37)
      have HB7 := Lib.hid (HB3.out.trans (hb37.mono hs3))
      have hs7 : w.heap.size ≤ W7.heap.size := by omega
      clear hW7 hx7 hb67 hb6 hb37 HSm2 HN6 HPb
      go_wp2_with (first | (go_at_call 9; refine HC.out.mono ?_; rintro e W8 ⟨rfl, hb8⟩; have HB8 := Lib.hid (HB7.out.trans (hb8.mono hs7)); clear hb8) | (go_at_call 6; refine (awake_is _).mono ?_; rintro e W9 ⟨rfl, hb9⟩; have HB9 := Lib.hid hb9; clear hb9))
      go_ret
      exact ⟨rfl, HB8.out.trans (HB9.out.mono HB8.out.size)⟩
    · rw [hT] at hqt HP HR HPa
      rw [hb] at HP HR
      have HPb : Hid (∀ W : World, Calls Tryz.prog 4 #[.string (bs [])] W fun e W' => ∃ (k3 : Nat) (s3 : T) (A3 : Option Addr) (n3 c3 m3 : Nat), e = .returned (.tuple #[.agg #[.int .i64 (k3 : Int), .string (bs s3), .slice A3 n3 c3], .int .i64 (m3 : Int)]) ∧ Below W.heap.size W W') := fun W => (HPa.out W).mono fun e W' ⟨u, he, hu, hb⟩ => by
        obtain ⟨k3, s3, A3, n3, c3, rfl⟩ := NodeOf.agg hu
        exact ⟨k3, s3, A3, n3, c3, _, he, hb⟩
      clear HPa HSm hb hT HK HTx HXn
      go_upto_region 5 with (go_at_call 7; refine HP.out.mono ?_; rintro e W4 ⟨rfl, hb4⟩; have HB4 := Lib.hid hb4; clear hb4)
      have hb4 := HB4.out
      obtain ⟨e0, e1, e2⟩ := cells_three ((hb4.block W2.heap.size (by omega)).trans HX3.out)
      have HR4 := Lib.hid (HR.out W4 hb4)
      have s4 := hb4.size
      clear hb4 d0 d1 d2 HP HR
      go_upto_region 6 with (go_at_call 8; refine HR4.out.mono ?_; rintro e W5 ⟨rfl, hb5⟩; have HB5 := Lib.hid (HB4.out.trans (hb5.mono s4)); clear hb5)
      have s5 := HB5.out.size
      clear e0 e1 e2 HR4
      go_upto_region 7 with (go_at_call 4; refine (HPb.out W5).mono ?_; rintro e W6 ⟨k3, s3, A3, n3, c3, m3, rfl, hb6⟩; have HB6 := Lib.hid hb6; clear hb6)
      obtain ⟨W7, hW7⟩ : ∃ W7, W6.alloc (.cells #[.int .i64 (k3 : Int), .string (bs s3), .slice A3 n3 c3] 25) = W7 := ⟨_, rfl⟩
      have hb67 : Below W6.heap.size W6 W7 := by rw [← hW7]; exact (Below.refl _ _).alloc (Nat.le_refl _) _
      rw [hW7]
      have hb6 := HB6.out
      have s6 := hb6.size
      have hb37 : Below W3.heap.size W3 W7 := HB5.out.trans ((hb6.mono s5).trans (hb67.mono (by omega)))
      have s7 := hb37.size
      have HB7 := Lib.hid (HB3.out.trans (hb37.mono hs3))
      have hs7 : w.heap.size ≤ W7.heap.size := by omega
      clear hW7 hb67 hb6 hb37 HPb
      go_wp2_with (go_at_call 6; refine (awake_is _).mono ?_; rintro e W9 ⟨rfl, hb9⟩; have HB9 := Lib.hid hb9; clear hb9)
      go_ret
      exact ⟨rfl, HB7.out.trans (HB9.out.mono hs7)⟩

end Go.Proofs.YtmcdefkpkpaceaaGreatDoor.PrintBack
