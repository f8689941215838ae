/- Texts by numbers: a makefile's line, case by case. -/
import Derived.Test.YtcopddepnphfmaaDoorTlh
namespace Go.Proofs.YtcopddepnphfmaaDoor.Tla
open Go.RowKit Go.Proofs.YtcopddepnphfmaaDoor.Pure Go.Proofs.YtcopddepnphfmaaDoor.Place Go.Proofs.YtcopddepnphfmaaDoor.Nums Go.Proofs.YtcopddepnphfmaaDoor.Range Go.Proofs.YtcopddepnphfmaaDoor.Tnum Go.Proofs.YtcopddepnphfmaaDoor.Tidx Go.Proofs.YtcopddepnphfmaaDoor.Tone Go.Proofs.YtcopddepnphfmaaDoor.Ttext Go.Proofs.YtcopddepnphfmaaDoor.Tctl Go.Proofs.YtcopddepnphfmaaDoor.Tbig Go.Proofs.YtcopddepnphfmaaDoor.Tlh

set_option maxRecDepth 100000 in
set_option maxHeartbeats 4000000 in
theorem lineA (tp : Nat) (A : Option Addr) (n c : Nat) (zs : List Int) (a : Nat) (w : World) (p : Nat) (hp : p < 8) (hN : Calls Tryd.prog 52 #[.pointer (some ⟨tp, 0, none⟩), .int .i64 26] w fun e W => e = .returned (.int .i64 (p : Int)) ∧ After tp A n c zs a w W) :
    Calls Tryd.prog 38 #[.pointer (some ⟨tp, 0, none⟩)] w (Said 4100 tp A n c zs a w) := by
  have HN := Lib.hid hN
  have HT1 : Hid (TextIs 1 638) := text_1
  have HT2 : Hid (TextIs 2 3950) := text_2
  clear hN
  have c8 : decide ((p : Int) < 8) = true := decide_eq_true (by omega)
  clear hp
  go_enter Tryd.func38, Tryd.ntmps38
  go_wp2_with fail
  refine HN.out.mono ?_
  rintro e w1 ⟨rfl, haf⟩
  have HA := Lib.hid haf
  clear haf HN
  go_upto_region 3 with fail
  have K0 : Hid True := Lib.hid trivial
  have K1 : Hid True := Lib.hid trivial
  have K2 : Hid True := Lib.hid trivial
  go_region_with (first
    | (clear K0
       go_at_call 53
       refine (name_aft (by first | exact HA.out | exact aft_drew HA.out)).mono ?_
       rintro e u0 ⟨x0, hx, rfl, haf⟩
       have Z0 := name_len hx
       clear HA hx
       have HA := Lib.hid haf
       clear haf)
    | (clear K1
       go_at_call 52
       refine (num_aft (by first | exact HA.out | exact aft_drew HA.out) 5 (by omega) (by omega)).mono ?_
       rintro e u1 ⟨q1, hq, rfl, haf⟩
       obtain ⟨x1, hx, i1⟩ := idl1 q1 hq
       have Z1 := hid_len x1 hx
       clear HA hx hq
       have HA := Lib.hid haf
       clear haf
       obtain ⟨P1, y1, b1⟩ := glue (bs x0) (bs x1) Z0 Z1 (by omega))
    | (clear K2
       go_at_call 54
       refine (text_aft HT2 (by first | exact HA.out | exact aft_drew HA.out)).mono ?_
       rintro e u2 ⟨S2, hs, rfl, haf⟩
       have Z2 := Lib.hid hs
       clear HA hs
       have HA := Lib.hid haf
       clear haf
       obtain ⟨P2, y2, b2⟩ := glue P1 S2 y1 Z2 (by omega)
       obtain ⟨P3, y3, b3⟩ := glue P2 ⟨#[10]⟩ y2 (Lib.hid (by decide : ((⟨#[10]⟩ : ByteArray)).size ≤ 1)) (by omega)))
  all_goals
    go_wp2
    go_ret
    refine ⟨_, ?_, rfl, by first | exact HA.out | exact aft_drew HA.out⟩
    have := y3.out
    omega

end Go.Proofs.YtcopddepnphfmaaDoor.Tla
