/- Texts by numbers: a makefile's line, case by case. -/
import Derived.Test.YtcopddepnphfmaaDoorTlh
namespace Go.Proofs.YtcopddepnphfmaaDoor.Tlb
open Go.RowKit Go.Proofs.YtcopddepnphfmaaDoor.Pure Go.Proofs.YtcopddepnphfmaaDoor.Place Go.Proofs.YtcopddepnphfmaaDoor.Nums Go.Proofs.YtcopddepnphfmaaDoor.Range Go.Proofs.YtcopddepnphfmaaDoor.Tnum Go.Proofs.YtcopddepnphfmaaDoor.Tidx Go.Proofs.YtcopddepnphfmaaDoor.Tone Go.Proofs.YtcopddepnphfmaaDoor.Ttext Go.Proofs.YtcopddepnphfmaaDoor.Tctl Go.Proofs.YtcopddepnphfmaaDoor.Tbig Go.Proofs.YtcopddepnphfmaaDoor.Tlh

set_option maxRecDepth 100000 in
set_option maxHeartbeats 4000000 in
theorem lineB (tp : Nat) (A : Option Addr) (n c : Nat) (zs : List Int) (a : Nat) (w : World) (p : Nat) (h8 : 8 ≤ p) (hp : p < 12) (hN : Calls Tryd.prog 52 #[.pointer (some ⟨tp, 0, none⟩), .int .i64 26] w fun e W => e = .returned (.int .i64 (p : Int)) ∧ After tp A n c zs a w W) :
    Calls Tryd.prog 38 #[.pointer (some ⟨tp, 0, none⟩)] w (Said 4100 tp A n c zs a w) := by
  have HN := Lib.hid hN
  have HT1 : Hid (TextIs 1 638) := text_1
  have HT2 : Hid (TextIs 2 3950) := text_2
  clear hN
  have c8 : decide ((p : Int) < 8) = false := decide_eq_false (by omega)
  have c12 : decide ((p : Int) < 12) = true := decide_eq_true (by omega)
  clear hp h8
  go_enter Tryd.func38, Tryd.ntmps38
  go_wp2_with fail
  refine HN.out.mono ?_
  rintro e w1 ⟨rfl, haf⟩
  have HA := Lib.hid haf
  clear haf HN
  go_wp2_with fail
  refine (num_aft HA.out 6 (by omega) (by omega)).mono ?_
  rintro e u00 ⟨q00, hq0, rfl, haf⟩
  clear HA
  have HA := Lib.hid haf
  clear haf
  go_wp2_with fail
  refine (num_aft HA.out 7 (by omega) (by omega)).mono ?_
  rintro e u01 ⟨q01, hq1, rfl, haf⟩
  clear HA
  have HA := Lib.hid haf
  clear haf
  go_wp2_with fail
  refine (two_said u01 _ q01 q00 (by omega) (by omega) rfl _ rfl).mono ?_
  rintro e u0 ⟨S0, hs, rfl, hb⟩
  have Z0 := Lib.hid hs
  have HA0 := HA
  clear HA
  have HA := Lib.hid (aft_below HA0.out hb)
  clear hs hb HA0 hq0 hq1
  obtain ⟨P1, y1, b1⟩ := glue S0 ⟨#[58, 32]⟩ Z0 (Lib.hid (by decide : ((⟨#[58, 32]⟩ : ByteArray)).size ≤ 2)) (by omega)
  go_wp2_with fail
  refine (text_aft HT2 HA.out).mono ?_
  rintro e u2 ⟨S2, hs, rfl, haf⟩
  have Z2 := Lib.hid hs
  clear HA hs
  have HA := Lib.hid haf
  clear haf
  obtain ⟨P2, y2, b2⟩ := glue P1 S2 y1 Z2 (by omega)
  obtain ⟨P3, y3, b3⟩ := glue P2 ⟨#[10]⟩ y2 (Lib.hid (by decide : ((⟨#[10]⟩ : ByteArray)).size ≤ 1)) (by omega)
  go_wp2_with fail
  refine (recipe_aft HA.out).mono ?_
  rintro e u4 ⟨x4, hx, rfl, haf⟩
  have Z4 := recipe_len hx
  clear HA hx
  have HA := Lib.hid haf
  clear haf
  obtain ⟨P4, y4, b4⟩ := glue P3 (bs x4) y3 Z4 (by omega)
  go_wp2
  go_ret
  refine ⟨_, ?_, rfl, HA.out⟩
  have := y4.out
  omega

set_option maxRecDepth 100000 in
set_option maxHeartbeats 4000000 in
theorem line12 (tp : Nat) (A : Option Addr) (n c : Nat) (zs : List Int) (a : Nat) (w : World) (hN : Calls Tryd.prog 52 #[.pointer (some ⟨tp, 0, none⟩), .int .i64 26] w fun e W => e = .returned (.int .i64 12) ∧ After tp A n c zs a w W) :
    Calls Tryd.prog 38 #[.pointer (some ⟨tp, 0, none⟩)] w (Said 4100 tp A n c zs a w) := by
  have HN := Lib.hid hN
  have HT1 : Hid (TextIs 1 638) := text_1
  have HT2 : Hid (TextIs 2 3950) := text_2
  clear hN
  go_enter Tryd.func38, Tryd.ntmps38
  go_wp2_with fail
  refine HN.out.mono ?_
  rintro e w1 ⟨rfl, haf⟩
  have HA := Lib.hid haf
  clear haf HN
  go_wp2_with fail
  refine (num_aft HA.out 6 (by omega) (by omega)).mono ?_
  rintro e u0 ⟨q0, hq, rfl, haf⟩
  obtain ⟨l0, Z0, hw⟩ := word_num q0 (by omega)
  have HW0 := Lib.hid hw
  clear HA hq hw
  have HA := Lib.hid haf
  clear haf
  go_wp2_with fail
  refine (HW0.out _).mono ?_
  rintro e v0 ⟨rfl, rfl⟩
  clear HW0
  obtain ⟨P1, y1, b1⟩ := glue (bs l0) ⟨#[58, 58, 32]⟩ Z0 (Lib.hid (by decide : ((⟨#[58, 58, 32]⟩ : ByteArray)).size ≤ 3)) (by omega)
  go_wp2_with fail
  refine (text_aft HT1 HA.out).mono ?_
  rintro e u2 ⟨S2, hs, rfl, haf⟩
  have Z2 := Lib.hid hs
  clear HA hs
  have HA := Lib.hid haf
  clear haf
  obtain ⟨P2, y2, b2⟩ := glue P1 S2 y1 Z2 (by omega)
  obtain ⟨P3, y3, b3⟩ := glue P2 ⟨#[32, 124, 32]⟩ y2 (Lib.hid (by decide : ((⟨#[32, 124, 32]⟩ : ByteArray)).size ≤ 3)) (by omega)
  go_wp2_with fail
  refine (num_aft HA.out 6 (by omega) (by omega)).mono ?_
  rintro e u4 ⟨q4, hq, rfl, haf⟩
  obtain ⟨l4, Z4, hw⟩ := word_num q4 (by omega)
  have HW4 := Lib.hid hw
  clear HA hq hw
  have HA := Lib.hid haf
  clear haf
  go_wp2_with fail
  refine (HW4.out _).mono ?_
  rintro e v4 ⟨rfl, rfl⟩
  clear HW4
  obtain ⟨P4, y4, b4⟩ := glue P3 (bs l4) y3 Z4 (by omega)
  obtain ⟨P5, y5, b5⟩ := glue P4 ⟨#[10]⟩ y4 (Lib.hid (by decide : ((⟨#[10]⟩ : ByteArray)).size ≤ 1)) (by omega)
  go_wp2_with fail
  refine (recipe_aft HA.out).mono ?_
  rintro e u6 ⟨x6, hx, rfl, haf⟩
  have Z6 := recipe_len hx
  clear HA hx
  have HA := Lib.hid haf
  clear haf
  obtain ⟨P6, y6, b6⟩ := glue P5 (bs x6) y5 Z6 (by omega)
  go_wp2
  go_ret
  refine ⟨_, ?_, rfl, HA.out⟩
  have := y6.out
  omega

set_option maxRecDepth 100000 in
set_option maxHeartbeats 4000000 in
theorem line13 (tp : Nat) (A : Option Addr) (n c : Nat) (zs : List Int) (a : Nat) (w : World) (hN : Calls Tryd.prog 52 #[.pointer (some ⟨tp, 0, none⟩), .int .i64 26] w fun e W => e = .returned (.int .i64 13) ∧ After tp A n c zs a w W) :
    Calls Tryd.prog 38 #[.pointer (some ⟨tp, 0, none⟩)] w (Said 4100 tp A n c zs a w) := by
  have HN := Lib.hid hN
  have HT1 : Hid (TextIs 1 638) := text_1
  have HT2 : Hid (TextIs 2 3950) := text_2
  clear hN
  go_enter Tryd.func38, Tryd.ntmps38
  go_wp2_with fail
  refine HN.out.mono ?_
  rintro e w1 ⟨rfl, haf⟩
  have HA := Lib.hid haf
  clear haf HN
  go_wp2_with fail
  refine (text_aft HT1 HA.out).mono ?_
  rintro e u1 ⟨S1, hs, rfl, haf⟩
  have Z1 := Lib.hid hs
  clear HA hs
  have HA := Lib.hid haf
  clear haf
  obtain ⟨P1, y1, b1⟩ := glue ⟨#[37, 46, 111, 58, 32, 37, 46, 99, 32]⟩ S1 (Lib.hid (by decide : ((⟨#[37, 46, 111, 58, 32, 37, 46, 99, 32]⟩ : ByteArray)).size ≤ 9)) Z1 (by omega)
  obtain ⟨P2, y2, b2⟩ := glue P1 ⟨#[10]⟩ y1 (Lib.hid (by decide : ((⟨#[10]⟩ : ByteArray)).size ≤ 1)) (by omega)
  go_wp2_with fail
  refine (recipe_aft HA.out).mono ?_
  rintro e u3 ⟨x3, hx, rfl, haf⟩
  have Z3 := recipe_len hx
  clear HA hx
  have HA := Lib.hid haf
  clear haf
  obtain ⟨P3, y3, b3⟩ := glue P2 (bs x3) y2 Z3 (by omega)
  go_wp2
  go_ret
  refine ⟨_, ?_, rfl, HA.out⟩
  have := y3.out
  omega

set_option maxRecDepth 100000 in
set_option maxHeartbeats 4000000 in
theorem line14 (tp : Nat) (A : Option Addr) (n c : Nat) (zs : List Int) (a : Nat) (w : World) (hN : Calls Tryd.prog 52 #[.pointer (some ⟨tp, 0, none⟩), .int .i64 26] w fun e W => e = .returned (.int .i64 14) ∧ After tp A n c zs a w W) :
    Calls Tryd.prog 38 #[.pointer (some ⟨tp, 0, none⟩)] w (Said 4100 tp A n c zs a w) := by
  have HN := Lib.hid hN
  have HT1 : Hid (TextIs 1 638) := text_1
  have HT2 : Hid (TextIs 2 3950) := text_2
  clear hN
  go_enter Tryd.func38, Tryd.ntmps38
  go_wp2_with fail
  refine HN.out.mono ?_
  rintro e w1 ⟨rfl, haf⟩
  have HA := Lib.hid haf
  clear haf HN
  go_wp2_with fail
  refine (text_aft HT1 HA.out).mono ?_
  rintro e u1 ⟨S1, hs, rfl, haf⟩
  have Z1 := Lib.hid hs
  clear HA hs
  have HA := Lib.hid haf
  clear haf
  obtain ⟨P1, y1, b1⟩ := glue ⟨#[97, 46, 111, 32, 98, 46, 111, 58, 32, 37, 46, 111, 58, 32, 37, 46, 99, 32]⟩ S1 (Lib.hid (by decide : ((⟨#[97, 46, 111, 32, 98, 46, 111, 58, 32, 37, 46, 111, 58, 32, 37, 46, 99, 32]⟩ : ByteArray)).size ≤ 18)) Z1 (by omega)
  obtain ⟨P2, y2, b2⟩ := glue P1 ⟨#[32, 59, 32, 99, 99, 32, 36, 64, 10]⟩ y1 (Lib.hid (by decide : ((⟨#[32, 59, 32, 99, 99, 32, 36, 64, 10]⟩ : ByteArray)).size ≤ 9)) (by omega)
  go_wp2
  go_ret
  refine ⟨_, ?_, rfl, HA.out⟩
  have := y2.out
  omega

end Go.Proofs.YtcopddepnphfmaaDoor.Tlb
