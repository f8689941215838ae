/- Texts by numbers: a makefile's line, case by case. -/
import Derived.Test.YtcopddepnphfmaaDoorTlh
namespace Go.Proofs.YtcopddepnphfmaaDoor.Tlc
open Go.RowKit Go.Proofs.YtcopddepnphfmaaDoor.Pure Go.Proofs.YtcopddepnphfmaaDoor.Place Go.Proofs.YtcopddepnphfmaaDoor.Nums Go.Proofs.YtcopddepnphfmaaDoor.Range Go.Proofs.YtcopddepnphfmaaDoor.Tnum Go.Proofs.YtcopddepnphfmaaDoor.Tidx Go.Proofs.YtcopddepnphfmaaDoor.Tone Go.Proofs.YtcopddepnphfmaaDoor.Ttext Go.Proofs.YtcopddepnphfmaaDoor.Tctl Go.Proofs.YtcopddepnphfmaaDoor.Tbig Go.Proofs.YtcopddepnphfmaaDoor.Tlh

set_option maxRecDepth 100000 in
set_option maxHeartbeats 4000000 in
theorem line15 (tp : Nat) (A : Option Addr) (n c : Nat) (zs : List Int) (a : Nat) (w : World) (hN : Calls Tryd.prog 52 #[.pointer (some ⟨tp, 0, none⟩), .int .i64 26] w fun e W => e = .returned (.int .i64 15) ∧ After tp A n c zs a w W) :
    Calls Tryd.prog 38 #[.pointer (some ⟨tp, 0, none⟩)] w (Said 4100 tp A n c zs a w) := by
  have HN := Lib.hid hN
  have HT1 : Hid (TextIs 1 638) := text_1
  have HT2 : Hid (TextIs 2 3950) := text_2
  clear hN
  go_enter Tryd.func38, Tryd.ntmps38
  go_wp2_with fail
  refine HN.out.mono ?_
  rintro e w1 ⟨rfl, haf⟩
  have HA := Lib.hid haf
  clear haf HN
  go_upto_region 13 with fail
  have K0 : Hid True := Lib.hid trivial
  have K1 : Hid True := Lib.hid trivial
  have K2 : Hid True := Lib.hid trivial
  have K3 : Hid True := Lib.hid trivial
  have K4 : Hid True := Lib.hid trivial
  have K5 : Hid True := Lib.hid trivial
  go_region_held3 (fun _ => True) (trivial) (first
    | (clear K0
       go_at_call 52
       refine (num_aft (by first | exact HA.out | exact aft_drew HA.out) 6 (by omega) (by omega)).mono ?_
       rintro e u0 ⟨q0, hq, rfl, haf⟩
       obtain ⟨l0, Z0, hw⟩ := word_num q0 (by omega)
       have HW0 := Lib.hid hw
       clear HA hq hw
       have HA := Lib.hid haf
       clear haf)
    | (clear K1
       go_at_call 20
       refine (HW0.out _).mono ?_
       rintro e v0 ⟨rfl, rfl⟩
       clear HW0)
    | (clear K2
       go_at_call 52
       refine (num_aft (by first | exact HA.out | exact aft_drew HA.out) 4 (by omega) (by omega)).mono ?_
       rintro e u1 ⟨q1, hq, rfl, haf⟩
       obtain ⟨r1, hr1, d1⟩ := quo3 q1
       obtain ⟨x1, hx, i1⟩ := idl2 r1 (by omega)
       have e1 : IntKind.i64.wrap (r1 : Int) = (r1 : Int) := IntWalk.i64_in _ (by omega)
       clear hr1
       have Z1 := hid_len x1 hx
       clear HA hx hq
       have HA := Lib.hid haf
       clear haf
       obtain ⟨P1, y1, b1⟩ := glue (bs l0) (bs x1) Z0 Z1 (by omega)
       obtain ⟨P2, y2, b2⟩ := glue P1 ⟨#[58, 32]⟩ y1 (Lib.hid (by decide : ((⟨#[58, 32]⟩ : ByteArray)).size ≤ 2)) (by omega))
    | (clear K3
       go_at_call 53
       refine (name_aft (by first | exact HA.out | exact aft_drew HA.out)).mono ?_
       rintro e u3 ⟨x3, hx, rfl, haf⟩
       have Z3 := name_len hx
       clear HA hx
       have HA := Lib.hid haf
       clear haf
       obtain ⟨P3, y3, b3⟩ := glue P2 (bs x3) y2 Z3 (by omega))
    | (clear K4
       go_at_call 52
       refine (num_aft (by first | exact HA.out | exact aft_drew HA.out) 3 (by omega) (by omega)).mono ?_
       rintro e u4 ⟨q4, hq, rfl, haf⟩
       obtain ⟨x4, hx, i4⟩ := idl3 q4 hq
       have Z4 := hid_len x4 hx
       clear HA hx hq
       have HA := Lib.hid haf
       clear haf
       obtain ⟨P4, y4, b4⟩ := glue P3 (bs x4) y3 Z4 (by omega))
    | (clear K5
       go_at_call 54
       refine (text_aft HT1 (by first | exact HA.out | exact aft_drew HA.out)).mono ?_
       rintro e u5 ⟨S5, hs, rfl, haf⟩
       have Z5 := Lib.hid hs
       clear HA hs
       have HA := Lib.hid haf
       clear haf
       obtain ⟨P5, y5, b5⟩ := glue P4 S5 y4 Z5 (by omega)
       obtain ⟨P6, y6, b6⟩ := glue P5 ⟨#[10]⟩ y5 (Lib.hid (by decide : ((⟨#[10]⟩ : ByteArray)).size ≤ 1)) (by omega)))
  all_goals
    go_wp2
    go_ret
    refine ⟨_, ?_, rfl, by first | exact HA.out | exact aft_drew HA.out⟩
    have := y6.out
    omega

end Go.Proofs.YtcopddepnphfmaaDoor.Tlc
