/- Texts by numbers: a makefile's line, case by case. -/
import Derived.Test.YtcopddepnphfmaaDoorTlh
namespace Go.Proofs.YtcopddepnphfmaaDoor.Tlf
open Go.RowKit Go.Proofs.YtcopddepnphfmaaDoor.Pure Go.Proofs.YtcopddepnphfmaaDoor.Place Go.Proofs.YtcopddepnphfmaaDoor.Nums Go.Proofs.YtcopddepnphfmaaDoor.Range Go.Proofs.YtcopddepnphfmaaDoor.Tnum Go.Proofs.YtcopddepnphfmaaDoor.Tidx Go.Proofs.YtcopddepnphfmaaDoor.Tone Go.Proofs.YtcopddepnphfmaaDoor.Ttext Go.Proofs.YtcopddepnphfmaaDoor.Tctl Go.Proofs.YtcopddepnphfmaaDoor.Tbig Go.Proofs.YtcopddepnphfmaaDoor.Tlh

set_option maxRecDepth 100000 in
set_option maxHeartbeats 4000000 in
theorem line24 (tp : Nat) (A : Option Addr) (n c : Nat) (zs : List Int) (a : Nat) (w : World) (hn : n ≤ 17592186044416) (ha : a < n) (hi : ∀ b, a < b → ∀ W, TS tp A n c zs b W → Calls Tryd.prog 38 #[.pointer (some ⟨tp, 0, none⟩)] W (SaidL tp A n c zs b W)) (hN : Calls Tryd.prog 52 #[.pointer (some ⟨tp, 0, none⟩), .int .i64 26] w fun e W => e = .returned (.int .i64 24) ∧ After tp A n c zs a w W) :
    Calls Tryd.prog 38 #[.pointer (some ⟨tp, 0, none⟩)] w (SaidL tp A n c zs a w) := by
  have HN := Lib.hid hN
  have HT1 : Hid (TextIs 1 638) := text_1
  have HT2 : Hid (TextIs 2 3950) := text_2
  clear hN
  have HI := Lib.hid hi
  have HR := Lib.hid (And.intro hn ha)
  clear hi hn ha
  go_enter Tryd.func38, Tryd.ntmps38
  go_wp2_with fail
  refine HN.out.mono ?_
  rintro e w1 ⟨rfl, haf⟩
  have HA := Lib.hid haf
  clear haf HN
  go_wp2_with fail
  refine (name_aft HA.out).mono ?_
  rintro e u1 ⟨x1, hx, rfl, haf⟩
  have Z1 := name_len hx
  clear HA hx
  have HA := Lib.hid haf
  clear haf
  obtain ⟨P1, y1, b1⟩ := glue2 ⟨#[105, 102, 101, 113, 32, 40, 36, 40]⟩ (bs x1) (Lib.hid (by decide : ((⟨#[105, 102, 101, 113, 32, 40, 36, 40]⟩ : ByteArray)).size ≤ 8)) Z1 (by omega)
  obtain ⟨P2, y2, b2⟩ := glue2 P1 ⟨#[41, 44]⟩ y1 (Lib.hid (by decide : ((⟨#[41, 44]⟩ : ByteArray)).size ≤ 2)) (by omega)
  go_wp2_with fail
  refine (num_aft HA.out 16 (by omega) (by omega)).mono ?_
  rintro e u3 ⟨q3, hq, rfl, haf⟩
  obtain ⟨l3, Z3, hw⟩ := word_num q3 (by omega)
  have HW3 := Lib.hid hw
  clear HA hq hw
  have HA := Lib.hid haf
  clear haf
  go_wp2_with fail
  refine (HW3.out _).mono ?_
  rintro e v3 ⟨rfl, rfl⟩
  clear HW3
  obtain ⟨P3, y3, b3⟩ := glue2 P2 (bs l3) y2 Z3 (by omega)
  obtain ⟨P4, y4, b4⟩ := glue2 P3 ⟨#[41, 10]⟩ y3 (Lib.hid (by decide : ((⟨#[41, 10]⟩ : ByteArray)).size ≤ 2)) (by omega)
  go_wp2_with fail
  obtain ⟨a2, l2, p2, t2, o2⟩ := HA.out
  have hlt : a < a2 := p2 HR.out.2
  refine (HI.out a2 hlt _ t2).mono ?_
  rintro e u5 ⟨S5, c1, hs, rfl, hb1, t1, o1⟩
  have Z5 := Lib.hid hs
  have HR1 := Lib.hid (And.intro hlt (And.intro hb1 t1.le))
  have HB1 := Lib.hid t1
  have HO1 := Lib.hid (o2.trans o1)
  clear HA hs t1 o1 t2 o2 p2 l2 hlt hb1
  obtain ⟨P5, y5, b5⟩ := glue2 P4 S5 y4 Z5 (by have := HR.out; have := HR1.out; omega)
  obtain ⟨P6, y6, b6⟩ := glue2 P5 ⟨#[101, 108, 115, 101, 10]⟩ y5 (Lib.hid (by decide : ((⟨#[101, 108, 115, 101, 10]⟩ : ByteArray)).size ≤ 5)) (by have := HR.out; have := HR1.out; omega)
  go_wp2_with fail
  refine (HI.out c1 (by have := HR1.out; omega) _ HB1.out).mono ?_
  rintro e u7 ⟨S7, c2, hs, rfl, hb2, t1, o1⟩
  have Z7 := Lib.hid hs
  have HR2 := Lib.hid (And.intro hb2 t1.le)
  have HB2 := Lib.hid t1
  have HO2 := Lib.hid (HO1.out.trans o1)
  clear hs t1 o1 hb2
  obtain ⟨P7, y7, b7⟩ := glue2 P6 S7 y6 Z7 (by have := HR.out; have := HR1.out; have := HR2.out; omega)
  obtain ⟨P8, y8, b8⟩ := glue2 P7 ⟨#[101, 110, 100, 105, 102, 10]⟩ y7 (Lib.hid (by decide : ((⟨#[101, 110, 100, 105, 102, 10]⟩ : ByteArray)).size ≤ 6)) (by have := HR.out; have := HR1.out; have := HR2.out; omega)
  go_wp2
  go_ret
  refine ⟨_, c2, ?_, rfl, by have := HR1.out; have := HR2.out; omega, HB2.out, HO2.out⟩
  have := y8.out
  have := HR1.out
  have := HR2.out
  omega

set_option maxRecDepth 100000 in
set_option maxHeartbeats 4000000 in
theorem line25 (tp : Nat) (A : Option Addr) (n c : Nat) (zs : List Int) (a : Nat) (w : World) (hn : n ≤ 17592186044416) (ha : a < n) (hi : ∀ b, a < b → ∀ W, TS tp A n c zs b W → Calls Tryd.prog 38 #[.pointer (some ⟨tp, 0, none⟩)] W (SaidL tp A n c zs b W)) (hN : Calls Tryd.prog 52 #[.pointer (some ⟨tp, 0, none⟩), .int .i64 26] w fun e W => e = .returned (.int .i64 25) ∧ After tp A n c zs a w W) :
    Calls Tryd.prog 38 #[.pointer (some ⟨tp, 0, none⟩)] w (SaidL tp A n c zs a w) := by
  have HN := Lib.hid hN
  have HT1 : Hid (TextIs 1 638) := text_1
  have HT2 : Hid (TextIs 2 3950) := text_2
  clear hN
  have HI := Lib.hid hi
  have HR := Lib.hid (And.intro hn ha)
  clear hi hn ha
  go_enter Tryd.func38, Tryd.ntmps38
  go_wp2_with fail
  refine HN.out.mono ?_
  rintro e w1 ⟨rfl, haf⟩
  have HA := Lib.hid haf
  clear haf HN
  go_wp2_with fail
  refine (name_aft HA.out).mono ?_
  rintro e u1 ⟨x1, hx, rfl, haf⟩
  have Z1 := name_len hx
  clear HA hx
  have HA := Lib.hid haf
  clear haf
  obtain ⟨P1, y1, b1⟩ := glue2 ⟨#[105, 102, 100, 101, 102, 32]⟩ (bs x1) (Lib.hid (by decide : ((⟨#[105, 102, 100, 101, 102, 32]⟩ : ByteArray)).size ≤ 6)) Z1 (by omega)
  obtain ⟨P2, y2, b2⟩ := glue2 P1 ⟨#[10]⟩ y1 (Lib.hid (by decide : ((⟨#[10]⟩ : ByteArray)).size ≤ 1)) (by omega)
  go_wp2_with fail
  obtain ⟨a2, l2, p2, t2, o2⟩ := HA.out
  have hlt : a < a2 := p2 HR.out.2
  refine (HI.out a2 hlt _ t2).mono ?_
  rintro e u3 ⟨S3, c1, hs, rfl, hb1, t1, o1⟩
  have Z3 := Lib.hid hs
  have HR1 := Lib.hid (And.intro hlt (And.intro hb1 t1.le))
  have HB1 := Lib.hid t1
  have HO1 := Lib.hid (o2.trans o1)
  clear HA hs t1 o1 t2 o2 p2 l2 hlt hb1
  obtain ⟨P3, y3, b3⟩ := glue2 P2 S3 y2 Z3 (by have := HR.out; have := HR1.out; omega)
  go_wp2_with fail
  refine (num_is tp A n c zs c1 2 _ (by omega) (by omega) HB1.out).mono ?_
  rintro e u4 ⟨q4, hq, rfl, haf⟩
  obtain ⟨x4, hx, i4⟩ := idl6 q4 hq
  have Z4 := hid_len x4 hx
  clear hx hq
  have HE := Lib.hid haf
  clear haf
  obtain ⟨P4, y4, b4⟩ := glue2 P3 (bs x4) y3 Z4 (by have := HR.out; have := HR1.out; omega)
  go_wp2
  go_ret
  obtain ⟨c2, l3, _, t3, o3⟩ := HE.out
  refine ⟨_, c2, ?_, rfl, by have := HR1.out; omega, t3, HO1.out.trans o3⟩
  have := y4.out
  have := HR1.out
  omega

end Go.Proofs.YtcopddepnphfmaaDoor.Tlf
