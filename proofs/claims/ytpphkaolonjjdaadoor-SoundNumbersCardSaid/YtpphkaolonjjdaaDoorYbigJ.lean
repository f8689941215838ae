/- (By weight; written by wip/tools/mkmu.py.) Texts by numbers: one piece of a text, and texts, at each depth. -/
import Derived.Test.YtpphkaolonjjdaaDoorYctlJ
namespace Go.Proofs.YtpphkaolonjjdaaDoor.Ybig
open Go.RowKit Go.Proofs.YtpphkaolonjjdaaDoor.Pure Go.Proofs.YtpphkaolonjjdaaDoor.Place Go.Proofs.YtpphkaolonjjdaaDoor.Ymu Go.Proofs.YtpphkaolonjjdaaDoor.Nums Go.Proofs.YtpphkaolonjjdaaDoor.Range Go.Proofs.YtpphkaolonjjdaaDoor.Tnum Go.Proofs.YtpphkaolonjjdaaDoor.Yidx Go.Proofs.YtpphkaolonjjdaaDoor.Yone Go.Proofs.YtpphkaolonjjdaaDoor.Ytext Go.Proofs.YtpphkaolonjjdaaDoor.Yctl

theorem sub_idx (p : Nat) (hp : p < 3) : ∃ x : List UInt8, muL x ≤ 7 ∧ ∀ W, (Instr.index 71 (.agg #[.string ⟨#[46, 99, 61, 46, 111]⟩, .string ⟨#[37, 46, 99, 61, 37, 46, 111]⟩, .string ⟨#[97, 37, 61, 37, 98]⟩]) (.int .i64 (p : Int))).run Tryd.prog W = .ok (.string (bs x)) W := by
  obtain ⟨x, _, hx, h⟩ := index_lit 71 3 Tryd.underlying71 [[46, 99, 61, 46, 111], [37, 46, 99, 61, 37, 46, 111], [97, 37, 61, 37, 98]] rfl 7 (by decide) p hp
  exact ⟨x, hx, h⟩

theorem plain_aft {tp : Nat} {A : Option Addr} {n c : Nat} {zs : List Int} {a : Nat} {w W : World} {D d : Int} {T : Nat} (hw : IntKind.i64.wrap (D - 1) = d) (hT : T ≤ 100000000000) (ht : Hid (TextIs d T)) (h : After tp A n c zs a w W) :
    Calls Tryd.prog 47 #[.pointer (some ⟨tp, 0, none⟩), .int .i64 D] W (Said (3 * T + 1804) tp A n c zs a w) := by
  obtain ⟨a1, l1, p1, t1, o1⟩ := h
  refine (plain_is D d hw T hT ht.out tp A n c zs a1 W t1).mono ?_
  rintro e V ⟨s, hs, he, haf⟩
  exact ⟨s, hs, he, aft_comp l1 p1 o1 haf⟩
theorem control_aft {tp : Nat} {A : Option Addr} {n c : Nat} {zs : List Int} {a : Nat} {w W : World} {D d : Int} {T : Nat} (hw : IntKind.i64.wrap (D - 1) = d) (hT : T ≤ 100000000000) (ht : Hid (TextIs d T)) (k : Nat) (h1 : 26 ≤ k) (h2 : k < 40) (h : After tp A n c zs a w W) :
    Calls Tryd.prog 48 #[.pointer (some ⟨tp, 0, none⟩), .int .i64 (k : Int), .int .i64 D] W (Said (3 * T + 1804) tp A n c zs a w) := by
  obtain ⟨a1, l1, p1, t1, o1⟩ := h
  refine (control_is D d hw T hT ht.out k h1 h2 tp A n c zs a1 W t1).mono ?_
  rintro e V ⟨s, hs, he, haf⟩
  exact ⟨s, hs, he, aft_comp l1 p1 o1 haf⟩

set_option maxRecDepth 100000 in
/-- a name's first letter -/
theorem name_cut (x : List UInt8) (hx : x ∈ nameL) : ∃ y : List UInt8, muL y ≤ 1 ∧ ∀ W, (Instr.slice 9 (.string (bs x)) none (some (.int .i64 1)) none).run Tryd.prog W = .ok (.string (bs y)) W := by
  refine ⟨x.take 1, of_decide_eq_true (List.all_eq_true.1 (show (nameL.all fun x => decide (muL (x.take 1) ≤ 1)) = true by decide) x hx), fun W => ?_⟩
  unfold nameL at hx
  simp only [List.mem_cons, List.not_mem_nil, or_false] at hx
  rcases hx with rfl | rfl | rfl | rfl | rfl | rfl | rfl | rfl <;> kernel_rfl

set_option maxRecDepth 100000 in
set_option maxHeartbeats 8000000 in
/-- one piece, at a depth that is not 0 -/
theorem one_big (D d : Int) (hD : D ≠ 0) (hw : IntKind.i64.wrap (D - 1) = d) (T : Nat) (hT : T ≤ 100000000000) (ht : TextIs d T) : OneIs D (3 * T + 1824) := by
  intro tp A n c zs a w h
  have HT := Lib.hid ht
  have HN := Lib.hid (num_is tp A n c zs a 40 w (by omega) (by omega) h)
  clear ht h
  go_enter Tryd.func33, Tryd.ntmps33
  go_wp2_with fail
  refine HN.out.mono ?_
  rintro e w1 ⟨p, hp, rfl, haf⟩
  have HA := Lib.hid haf
  obtain ⟨a1, l1, p1, t1, o1⟩ := haf
  have h0 := t1.c0
  have h1 := t1.c1
  have hd : (D == 0) = false := by simpa using hD
  clear HN t1 o1 p1 l1
  by_cases ha : a1 < n
  · have hd1 : decide ((n : Int) ≤ (a1 : Int)) = false := decide_eq_false (by omega)
    have hd2 : decide (n ≤ a1) = false := decide_eq_false (by omega)
    go_wp2_with fail
    go_quiet (fail)
    clear hd1 hd2 h0 h1 hd ha
    have HA0 := HA
    clear HA
    have HA := Lib.hid (aft_below HA0.out (below_drew (Below.refl _ _) nq))
    clear HA0
    obtain hr | hr | hr | hr | hr | hr | hr | hr | hr : (0 ≤ p ∧ p < 6) ∨ (6 ≤ p ∧ p < 14) ∨ (14 ≤ p ∧ p < 15) ∨ (15 ≤ p ∧ p < 16) ∨ (16 ≤ p ∧ p < 17) ∨ (17 ≤ p ∧ p < 18) ∨ (18 ≤ p ∧ p < 19) ∨ (19 ≤ p ∧ p < 26) ∨ (26 ≤ p ∧ p < 40) := by omega
    · obtain ⟨r1, r2⟩ : 0 ≤ p ∧ p < 6 := hr
      have c6 : decide ((p : Int) < 6) = true := decide_eq_true (by omega)
      have c14 : decide ((p : Int) < 14) = true := decide_eq_true (by omega)
      have c26 : decide ((p : Int) < 26) = true := decide_eq_true (by omega)
      have e14 : ((p : Int) == 14) = false := by simp; omega
      have e15 : ((p : Int) == 15) = false := by simp; omega
      have e16 : ((p : Int) == 16) = false := by simp; omega
      have e17 : ((p : Int) == 17) = false := by simp; omega
      have e18 : ((p : Int) == 18) = false := by simp; omega
      clear hp r1 r2
      go_wp2_with fail
      refine (num_aft HA.out 99 (by omega) (by omega)).mono ?_
      rintro e u1 ⟨q1, hq1, rfl, haf⟩
      clear HA
      have HA := Lib.hid haf
      clear haf
      go_wp2_with fail
      refine (num_aft HA.out 99 (by omega) (by omega)).mono ?_
      rintro e u2 ⟨q2, hq2, rfl, haf⟩
      clear HA
      have HA := Lib.hid haf
      clear haf
      go_wp2_with fail
      refine (two_said u2 _ q2 q1 (by omega) (by omega) rfl _ rfl).mono ?_
      rintro e u3 ⟨s, hs, rfl, hb⟩
      have HB := Lib.hid hb
      have HS := Lib.hid hs
      clear hb hs
      go_wp2
      go_ret
      refine ⟨s, ?_, rfl, aft_below HA.out HB.out⟩
      have := HS.out
      omega
    · obtain ⟨r1, r2⟩ : 6 ≤ p ∧ p < 14 := hr
      have c6 : decide ((p : Int) < 6) = false := decide_eq_false (by omega)
      have c14 : decide ((p : Int) < 14) = true := decide_eq_true (by omega)
      have c26 : decide ((p : Int) < 26) = true := decide_eq_true (by omega)
      have e14 : ((p : Int) == 14) = false := by simp; omega
      have e15 : ((p : Int) == 15) = false := by simp; omega
      have e16 : ((p : Int) == 16) = false := by simp; omega
      have e17 : ((p : Int) == 17) = false := by simp; omega
      have e18 : ((p : Int) == 18) = false := by simp; omega
      clear hp r1 r2
      go_wp2_with fail
      refine (name_aft HA.out).mono ?_
      rintro e u1 ⟨x1, hx, rfl, haf⟩
      have Z1 := name_len hx
      clear HA hx
      have HA := Lib.hid haf
      clear haf
      obtain ⟨P1, y1, b1⟩ := glue ⟨#[36, 40]⟩ (bs x1) (Lib.hid (by decide : mu (⟨#[36, 40]⟩ : ByteArray) ≤ 506)) Z1 (by omega)
      obtain ⟨P2, y2, b2⟩ := glue P1 ⟨#[41]⟩ y1 (Lib.hid (by decide : mu (⟨#[41]⟩ : ByteArray) ≤ 1)) (by omega)
      go_wp2
      go_ret
      refine ⟨_, ?_, rfl, HA.out⟩
      have := y2.out
      omega
    · obtain ⟨r1, r2⟩ : 14 ≤ p ∧ p < 15 := hr
      obtain rfl : p = 14 := by omega
      clear hp r1 r2
      go_wp2_with fail
      refine (name_aft HA.out).mono ?_
      rintro e u1 ⟨x1, hx, rfl, haf⟩
      have Z1 := name_len hx
      clear HA hx
      have HA := Lib.hid haf
      clear haf
      obtain ⟨P1, y1, b1⟩ := glue ⟨#[36, 123]⟩ (bs x1) (Lib.hid (by decide : mu (⟨#[36, 123]⟩ : ByteArray) ≤ 506)) Z1 (by omega)
      obtain ⟨P2, y2, b2⟩ := glue P1 ⟨#[125]⟩ y1 (Lib.hid (by decide : mu (⟨#[125]⟩ : ByteArray) ≤ 1)) (by omega)
      go_wp2
      go_ret
      refine ⟨_, ?_, rfl, HA.out⟩
      have := y2.out
      omega
    · obtain ⟨r1, r2⟩ : 15 ≤ p ∧ p < 16 := hr
      obtain rfl : p = 15 := by omega
      clear hp r1 r2
      go_wp2_with fail
      refine (name_aft HA.out).mono ?_
      rintro e u0 ⟨x0, hx, rfl, haf⟩
      obtain ⟨y0, hy, i0⟩ := name_cut x0 hx
      have Z0 := hid_len y0 hy
      obtain ⟨P1, y1, b1⟩ := glue ⟨#[36]⟩ (bs y0) (Lib.hid (by decide : mu (⟨#[36]⟩ : ByteArray) ≤ 505)) Z0 (by omega)
      clear HA hx hy
      have HA := Lib.hid haf
      clear haf
      go_wp2
      go_ret
      refine ⟨_, ?_, rfl, HA.out⟩
      have := y1.out
      omega
    · obtain ⟨r1, r2⟩ : 16 ≤ p ∧ p < 17 := hr
      obtain rfl : p = 16 := by omega
      clear hp r1 r2
      go_wp2_with fail
      refine (name_aft HA.out).mono ?_
      rintro e u1 ⟨x1, hx, rfl, haf⟩
      have Z1 := name_len hx
      clear HA hx
      have HA := Lib.hid haf
      clear haf
      obtain ⟨P1, y1, b1⟩ := glue ⟨#[36, 36]⟩ (bs x1) (Lib.hid (by decide : mu (⟨#[36, 36]⟩ : ByteArray) ≤ 1010)) Z1 (by omega)
      go_wp2
      go_ret
      refine ⟨_, ?_, rfl, HA.out⟩
      have := y1.out
      omega
    · obtain ⟨r1, r2⟩ : 17 ≤ p ∧ p < 18 := hr
      obtain rfl : p = 17 := by omega
      clear hp r1 r2
      go_wp2_with fail
      refine (name_aft HA.out).mono ?_
      rintro e u1 ⟨x1, hx, rfl, haf⟩
      have Z1 := name_len hx
      clear HA hx
      have HA := Lib.hid haf
      clear haf
      obtain ⟨P1, y1, b1⟩ := glue ⟨#[36, 40]⟩ (bs x1) (Lib.hid (by decide : mu (⟨#[36, 40]⟩ : ByteArray) ≤ 506)) Z1 (by omega)
      obtain ⟨P2, y2, b2⟩ := glue P1 ⟨#[58]⟩ y1 (Lib.hid (by decide : mu (⟨#[58]⟩ : ByteArray) ≤ 1)) (by omega)
      go_wp2_with fail
      refine (num_aft HA.out 3 (by omega) (by omega)).mono ?_
      rintro e u3 ⟨q3, hq, rfl, haf⟩
      obtain ⟨x3, hx, i3⟩ := sub_idx q3 hq
      have Z3 := hid_len x3 hx
      clear HA hx hq
      have HA := Lib.hid haf
      clear haf
      obtain ⟨P3, y3, b3⟩ := glue P2 (bs x3) y2 Z3 (by omega)
      obtain ⟨P4, y4, b4⟩ := glue P3 ⟨#[41]⟩ y3 (Lib.hid (by decide : mu (⟨#[41]⟩ : ByteArray) ≤ 1)) (by omega)
      go_wp2
      go_ret
      refine ⟨_, ?_, rfl, HA.out⟩
      have := y4.out
      omega
    · obtain ⟨r1, r2⟩ : 18 ≤ p ∧ p < 19 := hr
      obtain rfl : p = 18 := by omega
      clear hp r1 r2
      go_wp2_with fail
      refine (name_aft HA.out).mono ?_
      rintro e u1 ⟨x1, hx, rfl, haf⟩
      have Z1 := name_len hx
      clear HA hx
      have HA := Lib.hid haf
      clear haf
      obtain ⟨P1, y1, b1⟩ := glue ⟨#[36, 40, 36, 40]⟩ (bs x1) (Lib.hid (by decide : mu (⟨#[36, 40, 36, 40]⟩ : ByteArray) ≤ 1012)) Z1 (by omega)
      obtain ⟨P2, y2, b2⟩ := glue P1 ⟨#[41, 41]⟩ y1 (Lib.hid (by decide : mu (⟨#[41, 41]⟩ : ByteArray) ≤ 2)) (by omega)
      go_wp2
      go_ret
      refine ⟨_, ?_, rfl, HA.out⟩
      have := y2.out
      omega
    · obtain ⟨r1, r2⟩ : 19 ≤ p ∧ p < 26 := hr
      have c6 : decide ((p : Int) < 6) = false := decide_eq_false (by omega)
      have c14 : decide ((p : Int) < 14) = false := decide_eq_false (by omega)
      have c26 : decide ((p : Int) < 26) = true := decide_eq_true (by omega)
      have e14 : ((p : Int) == 14) = false := by simp; omega
      have e15 : ((p : Int) == 15) = false := by simp; omega
      have e16 : ((p : Int) == 16) = false := by simp; omega
      have e17 : ((p : Int) == 17) = false := by simp; omega
      have e18 : ((p : Int) == 18) = false := by simp; omega
      clear hp r1 r2
      go_wp2_with fail
      refine (plain_aft hw hT HT HA.out).mono ?_
      rintro e u0 ⟨s, hs, rfl, haf⟩
      clear HA
      have HA := Lib.hid haf
      have HS := Lib.hid hs
      clear haf hs
      go_wp2
      go_ret
      refine ⟨s, ?_, rfl, HA.out⟩
      have := HS.out
      omega
    · obtain ⟨r1, r2⟩ : 26 ≤ p ∧ p < 40 := hr
      have c6 : decide ((p : Int) < 6) = false := decide_eq_false (by omega)
      have c14 : decide ((p : Int) < 14) = false := decide_eq_false (by omega)
      have c26 : decide ((p : Int) < 26) = false := decide_eq_false (by omega)
      have e14 : ((p : Int) == 14) = false := by simp; omega
      have e15 : ((p : Int) == 15) = false := by simp; omega
      have e16 : ((p : Int) == 16) = false := by simp; omega
      have e17 : ((p : Int) == 17) = false := by simp; omega
      have e18 : ((p : Int) == 18) = false := by simp; omega
      go_wp2_with fail
      refine (control_aft hw hT HT p r1 r2 HA.out).mono ?_
      rintro e u0 ⟨s, hs, rfl, haf⟩
      clear HA
      have HA := Lib.hid haf
      have HS := Lib.hid hs
      clear haf hs
      go_wp2
      go_ret
      refine ⟨s, ?_, rfl, HA.out⟩
      have := HS.out
      omega
  · have hd1 : decide ((n : Int) ≤ (a1 : Int)) = true := decide_eq_true (by omega)
    have hd2 : decide (n ≤ a1) = true := decide_eq_true (by omega)
    have hq : ((p : Int)).tdiv 3 = ((p / 3 : Nat) : Int) := by rw [Int.tdiv_eq_ediv_of_nonneg (by omega)]; simp
    go_wp2_with fail
    go_quiet (fail)
    go_wp2_with fail
    refine (two_said (w1.drewN nq) _ (p / 3) p (by omega) (by omega) rfl _ rfl).mono ?_
    rintro e w2 ⟨s, hs, rfl, hb⟩
    have HB := Lib.hid hb
    have HS := Lib.hid hs
    clear hb hs
    go_wp2
    go_ret
    refine ⟨s, ?_, rfl, aft_below HA.out ((below_drew (Below.refl _ _) nq).trans HB.out)⟩
    have := HS.out
    omega

theorem text_of {d : Int} {M : Nat} (hM : M ≤ 100000000000) (hM1 : 1 ≤ M) (ho : OneIs d M) : TextIs d (2 * M + 2) := fun tp A n c zs a w h => text_is d M hM hM1 ho tp A n c zs a w h
theorem one_0 : OneIs 0 20 := fun tp A n c zs a w h => one_zero tp A n c zs a w h
theorem text_0 : TextIs 0 42 := text_of (by decide) (by decide) one_0
theorem one_1 : OneIs 1 1950 := one_big 1 0 (by decide) rfl 42 (by decide) text_0
theorem text_1 : TextIs 1 3902 := text_of (by decide) (by decide) one_1
theorem one_2 : OneIs 2 13530 := one_big 2 1 (by decide) rfl 3902 (by decide) text_1
/-- texts at depth 2 -/
theorem text_2 : TextIs 2 27062 := text_of (by decide) (by decide) one_2

end Go.Proofs.YtpphkaolonjjdaaDoor.Ybig
