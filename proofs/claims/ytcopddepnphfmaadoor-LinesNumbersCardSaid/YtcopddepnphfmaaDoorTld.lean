/- Texts by numbers: a makefile's line, case by case. -/
import Derived.Test.YtcopddepnphfmaaDoorTlh
namespace Go.Proofs.YtcopddepnphfmaaDoor.Tld
open Go.RowKit Go.Proofs.YtcopddepnphfmaaDoor.Pure Go.Proofs.YtcopddepnphfmaaDoor.Place Go.Proofs.YtcopddepnphfmaaDoor.Nums Go.Proofs.YtcopddepnphfmaaDoor.Range Go.Proofs.YtcopddepnphfmaaDoor.Tnum Go.Proofs.YtcopddepnphfmaaDoor.Tidx Go.Proofs.YtcopddepnphfmaaDoor.Tone Go.Proofs.YtcopddepnphfmaaDoor.Ttext Go.Proofs.YtcopddepnphfmaaDoor.Tctl Go.Proofs.YtcopddepnphfmaaDoor.Tbig Go.Proofs.YtcopddepnphfmaaDoor.Tlh

set_option maxRecDepth 100000 in
set_option maxHeartbeats 4000000 in
theorem line16 (tp : Nat) (A : Option Addr) (n c : Nat) (zs : List Int) (a : Nat) (w : World) (hN : Calls Tryd.prog 52 #[.pointer (some ⟨tp, 0, none⟩), .int .i64 26] w fun e W => e = .returned (.int .i64 16) ∧ After tp A n c zs a w W) :
    Calls Tryd.prog 38 #[.pointer (some ⟨tp, 0, none⟩)] w (Said 4100 tp A n c zs a w) := by
  have HN := Lib.hid hN
  have HT1 : Hid (TextIs 1 638) := text_1
  have HT2 : Hid (TextIs 2 3950) := text_2
  clear hN
  go_enter Tryd.func38, Tryd.ntmps38
  go_wp2_with fail
  refine HN.out.mono ?_
  rintro e w1 ⟨rfl, haf⟩
  have HA := Lib.hid haf
  clear haf HN
  go_upto_region 15 with fail
  have K0 : Hid True := Lib.hid trivial
  have K1 : Hid True := Lib.hid trivial
  have K2 : Hid True := Lib.hid trivial
  have K3 : Hid True := Lib.hid trivial
  go_region_held3 (fun _ => True) (trivial) (first
    | (clear K0
       go_at_call 53
       refine (name_aft (by first | exact HA.out | exact aft_drew HA.out)).mono ?_
       rintro e u1 ⟨x1, hx, rfl, haf⟩
       have Z1 := name_len hx
       clear HA hx
       have HA := Lib.hid haf
       clear haf
       obtain ⟨P1, y1, b1⟩ := glue ⟨#[100, 101, 102, 105, 110, 101, 32]⟩ (bs x1) (Lib.hid (by decide : ((⟨#[100, 101, 102, 105, 110, 101, 32]⟩ : ByteArray)).size ≤ 7)) Z1 (by omega))
    | (clear K1
       go_at_call 52
       refine (num_aft (by first | exact HA.out | exact aft_drew HA.out) 3 (by omega) (by omega)).mono ?_
       rintro e u2 ⟨q2, hq, rfl, haf⟩
       obtain ⟨x2, hx, i2⟩ := idl4 q2 hq
       have Z2 := hid_len x2 hx
       clear HA hx hq
       have HA := Lib.hid haf
       clear haf
       obtain ⟨P2, y2, b2⟩ := glue P1 (bs x2) y1 Z2 (by omega)
       obtain ⟨P3, y3, b3⟩ := glue P2 ⟨#[10]⟩ y2 (Lib.hid (by decide : ((⟨#[10]⟩ : ByteArray)).size ≤ 1)) (by omega))
    | (clear K2
       go_at_call 54
       refine (text_aft HT1 (by first | exact HA.out | exact aft_drew HA.out)).mono ?_
       rintro e u4 ⟨S4, hs, rfl, haf⟩
       have Z4 := Lib.hid hs
       clear HA hs
       have HA := Lib.hid haf
       clear haf
       obtain ⟨P4, y4, b4⟩ := glue P3 S4 y3 Z4 (by omega)
       obtain ⟨P5, y5, b5⟩ := glue P4 ⟨#[10]⟩ y4 (Lib.hid (by decide : ((⟨#[10]⟩ : ByteArray)).size ≤ 1)) (by omega))
    | (clear K3
       go_at_call 54
       refine (text_aft HT1 (by first | exact HA.out | exact aft_drew HA.out)).mono ?_
       rintro e u6 ⟨S6, hs, rfl, haf⟩
       have Z6 := Lib.hid hs
       clear HA hs
       have HA := Lib.hid haf
       clear haf
       obtain ⟨P6, y6, b6⟩ := glue P5 S6 y5 Z6 (by omega)
       obtain ⟨P7, y7, b7⟩ := glue P6 ⟨#[10, 101, 110, 100, 101, 102, 10]⟩ y6 (Lib.hid (by decide : ((⟨#[10, 101, 110, 100, 101, 102, 10]⟩ : ByteArray)).size ≤ 7)) (by omega)))
  all_goals
    go_wp2
    go_ret
    refine ⟨_, ?_, rfl, by first | exact HA.out | exact aft_drew HA.out⟩
    have := y7.out
    omega

end Go.Proofs.YtcopddepnphfmaaDoor.Tld
