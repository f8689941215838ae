/- Texts by numbers: a makefile's line, case by case. -/
import Derived.Test.YtcopddepnphfmaaDoorTlh
namespace Go.Proofs.YtcopddepnphfmaaDoor.Tle
open Go.RowKit Go.Proofs.YtcopddepnphfmaaDoor.Pure Go.Proofs.YtcopddepnphfmaaDoor.Place Go.Proofs.YtcopddepnphfmaaDoor.Nums Go.Proofs.YtcopddepnphfmaaDoor.Range Go.Proofs.YtcopddepnphfmaaDoor.Tnum Go.Proofs.YtcopddepnphfmaaDoor.Tidx Go.Proofs.YtcopddepnphfmaaDoor.Tone Go.Proofs.YtcopddepnphfmaaDoor.Ttext Go.Proofs.YtcopddepnphfmaaDoor.Tctl Go.Proofs.YtcopddepnphfmaaDoor.Tbig Go.Proofs.YtcopddepnphfmaaDoor.Tlh

set_option maxRecDepth 100000 in
set_option maxHeartbeats 4000000 in
theorem line17 (tp : Nat) (A : Option Addr) (n c : Nat) (zs : List Int) (a : Nat) (w : World) (hN : Calls Tryd.prog 52 #[.pointer (some ⟨tp, 0, none⟩), .int .i64 26] w fun e W => e = .returned (.int .i64 17) ∧ After tp A n c zs a w W) :
    Calls Tryd.prog 38 #[.pointer (some ⟨tp, 0, none⟩)] w (Said 4100 tp A n c zs a w) := by
  have HN := Lib.hid hN
  have HT1 : Hid (TextIs 1 638) := text_1
  have HT2 : Hid (TextIs 2 3950) := text_2
  clear hN
  go_enter Tryd.func38, Tryd.ntmps38
  go_wp2_with fail
  refine HN.out.mono ?_
  rintro e w1 ⟨rfl, haf⟩
  have HA := Lib.hid haf
  clear haf HN
  go_wp2_with fail
  refine (name_aft HA.out).mono ?_
  rintro e u1 ⟨x1, hx, rfl, haf⟩
  have Z1 := name_len hx
  clear HA hx
  have HA := Lib.hid haf
  clear haf
  obtain ⟨P1, y1, b1⟩ := glue ⟨#[117, 110, 100, 101, 102, 105, 110, 101, 32]⟩ (bs x1) (Lib.hid (by decide : ((⟨#[117, 110, 100, 101, 102, 105, 110, 101, 32]⟩ : ByteArray)).size ≤ 9)) Z1 (by omega)
  obtain ⟨P2, y2, b2⟩ := glue P1 ⟨#[10]⟩ y1 (Lib.hid (by decide : ((⟨#[10]⟩ : ByteArray)).size ≤ 1)) (by omega)
  go_wp2
  go_ret
  refine ⟨_, ?_, rfl, HA.out⟩
  have := y2.out
  omega

set_option maxRecDepth 100000 in
set_option maxHeartbeats 4000000 in
theorem line18 (tp : Nat) (A : Option Addr) (n c : Nat) (zs : List Int) (a : Nat) (w : World) (hN : Calls Tryd.prog 52 #[.pointer (some ⟨tp, 0, none⟩), .int .i64 26] w fun e W => e = .returned (.int .i64 18) ∧ After tp A n c zs a w W) :
    Calls Tryd.prog 38 #[.pointer (some ⟨tp, 0, none⟩)] w (Said 4100 tp A n c zs a w) := by
  have HN := Lib.hid hN
  have HT1 : Hid (TextIs 1 638) := text_1
  have HT2 : Hid (TextIs 2 3950) := text_2
  clear hN
  go_enter Tryd.func38, Tryd.ntmps38
  go_wp2_with fail
  refine HN.out.mono ?_
  rintro e w1 ⟨rfl, haf⟩
  have HA := Lib.hid haf
  clear haf HN
  go_wp2_with fail
  refine (num_aft HA.out 3 (by omega) (by omega)).mono ?_
  rintro e u0 ⟨q0, hq, rfl, haf⟩
  obtain ⟨x0, hx, i0⟩ := idl5 q0 hq
  have Z0 := hid_len x0 hx
  clear HA hx hq
  have HA := Lib.hid haf
  clear haf
  go_wp2
  go_ret
  refine ⟨_, ?_, rfl, HA.out⟩
  have := Z0.out
  omega

set_option maxRecDepth 100000 in
set_option maxHeartbeats 4000000 in
theorem line19 (tp : Nat) (A : Option Addr) (n c : Nat) (zs : List Int) (a : Nat) (w : World) (hN : Calls Tryd.prog 52 #[.pointer (some ⟨tp, 0, none⟩), .int .i64 26] w fun e W => e = .returned (.int .i64 19) ∧ After tp A n c zs a w W) :
    Calls Tryd.prog 38 #[.pointer (some ⟨tp, 0, none⟩)] w (Said 4100 tp A n c zs a w) := by
  have HN := Lib.hid hN
  have HT1 : Hid (TextIs 1 638) := text_1
  have HT2 : Hid (TextIs 2 3950) := text_2
  clear hN
  go_enter Tryd.func38, Tryd.ntmps38
  go_wp2_with fail
  refine HN.out.mono ?_
  rintro e w1 ⟨rfl, haf⟩
  have HA := Lib.hid haf
  clear haf HN
  go_wp2
  go_ret
  exact ⟨_, by decide, rfl, HA.out⟩

set_option maxRecDepth 100000 in
set_option maxHeartbeats 4000000 in
theorem line20 (tp : Nat) (A : Option Addr) (n c : Nat) (zs : List Int) (a : Nat) (w : World) (hN : Calls Tryd.prog 52 #[.pointer (some ⟨tp, 0, none⟩), .int .i64 26] w fun e W => e = .returned (.int .i64 20) ∧ After tp A n c zs a w W) :
    Calls Tryd.prog 38 #[.pointer (some ⟨tp, 0, none⟩)] w (Said 4100 tp A n c zs a w) := by
  have HN := Lib.hid hN
  have HT1 : Hid (TextIs 1 638) := text_1
  have HT2 : Hid (TextIs 2 3950) := text_2
  clear hN
  go_enter Tryd.func38, Tryd.ntmps38
  go_wp2_with fail
  refine HN.out.mono ?_
  rintro e w1 ⟨rfl, haf⟩
  have HA := Lib.hid haf
  clear haf HN
  go_wp2
  go_ret
  exact ⟨_, by decide, rfl, HA.out⟩

set_option maxRecDepth 100000 in
set_option maxHeartbeats 4000000 in
theorem line21 (tp : Nat) (A : Option Addr) (n c : Nat) (zs : List Int) (a : Nat) (w : World) (hN : Calls Tryd.prog 52 #[.pointer (some ⟨tp, 0, none⟩), .int .i64 26] w fun e W => e = .returned (.int .i64 21) ∧ After tp A n c zs a w W) :
    Calls Tryd.prog 38 #[.pointer (some ⟨tp, 0, none⟩)] w (Said 4100 tp A n c zs a w) := by
  have HN := Lib.hid hN
  have HT1 : Hid (TextIs 1 638) := text_1
  have HT2 : Hid (TextIs 2 3950) := text_2
  clear hN
  go_enter Tryd.func38, Tryd.ntmps38
  go_wp2_with fail
  refine HN.out.mono ?_
  rintro e w1 ⟨rfl, haf⟩
  have HA := Lib.hid haf
  clear haf HN
  go_wp2
  go_ret
  exact ⟨_, by decide, rfl, HA.out⟩

set_option maxRecDepth 100000 in
set_option maxHeartbeats 4000000 in
theorem line22 (tp : Nat) (A : Option Addr) (n c : Nat) (zs : List Int) (a : Nat) (w : World) (hN : Calls Tryd.prog 52 #[.pointer (some ⟨tp, 0, none⟩), .int .i64 26] w fun e W => e = .returned (.int .i64 22) ∧ After tp A n c zs a w W) :
    Calls Tryd.prog 38 #[.pointer (some ⟨tp, 0, none⟩)] w (Said 4100 tp A n c zs a w) := by
  have HN := Lib.hid hN
  have HT1 : Hid (TextIs 1 638) := text_1
  have HT2 : Hid (TextIs 2 3950) := text_2
  clear hN
  go_enter Tryd.func38, Tryd.ntmps38
  go_wp2_with fail
  refine HN.out.mono ?_
  rintro e w1 ⟨rfl, haf⟩
  have HA := Lib.hid haf
  clear haf HN
  go_wp2_with fail
  refine (name_aft HA.out).mono ?_
  rintro e u0 ⟨x0, hx, rfl, haf⟩
  have Z0 := name_len hx
  clear HA hx
  have HA := Lib.hid haf
  clear haf
  obtain ⟨P1, y1, b1⟩ := glue (bs x0) ⟨#[32, 61, 32, 111, 110, 101, 32, 92, 10, 32, 32, 32, 116, 119, 111, 92, 35, 51, 32, 35, 32, 103, 111, 110, 101, 10]⟩ Z0 (Lib.hid (by decide : ((⟨#[32, 61, 32, 111, 110, 101, 32, 92, 10, 32, 32, 32, 116, 119, 111, 92, 35, 51, 32, 35, 32, 103, 111, 110, 101, 10]⟩ : ByteArray)).size ≤ 26)) (by omega)
  go_wp2
  go_ret
  refine ⟨_, ?_, rfl, HA.out⟩
  have := y1.out
  omega

set_option maxRecDepth 100000 in
set_option maxHeartbeats 4000000 in
theorem line23 (tp : Nat) (A : Option Addr) (n c : Nat) (zs : List Int) (a : Nat) (w : World) (hN : Calls Tryd.prog 52 #[.pointer (some ⟨tp, 0, none⟩), .int .i64 26] w fun e W => e = .returned (.int .i64 23) ∧ After tp A n c zs a w W) :
    Calls Tryd.prog 38 #[.pointer (some ⟨tp, 0, none⟩)] w (Said 4100 tp A n c zs a w) := by
  have HN := Lib.hid hN
  have HT1 : Hid (TextIs 1 638) := text_1
  have HT2 : Hid (TextIs 2 3950) := text_2
  clear hN
  go_enter Tryd.func38, Tryd.ntmps38
  go_wp2_with fail
  refine HN.out.mono ?_
  rintro e w1 ⟨rfl, haf⟩
  have HA := Lib.hid haf
  clear haf HN
  go_wp2_with fail
  refine (text_aft HT2 HA.out).mono ?_
  rintro e u0 ⟨S0, hs, rfl, haf⟩
  have Z0 := Lib.hid hs
  clear HA hs
  have HA := Lib.hid haf
  clear haf
  obtain ⟨P1, y1, b1⟩ := glue S0 ⟨#[10]⟩ Z0 (Lib.hid (by decide : ((⟨#[10]⟩ : ByteArray)).size ≤ 1)) (by omega)
  go_wp2
  go_ret
  refine ⟨_, ?_, rfl, HA.out⟩
  have := y1.out
  omega

end Go.Proofs.YtcopddepnphfmaaDoor.Tle
