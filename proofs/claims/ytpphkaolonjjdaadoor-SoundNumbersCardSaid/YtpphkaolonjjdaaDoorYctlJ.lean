/- (By weight; written by wip/tools/mkmu.py.) Texts by numbers: a function's call around a text. -/
import Derived.Test.YtpphkaolonjjdaaDoorRangeJ
namespace Go.Proofs.YtpphkaolonjjdaaDoor.Yctl
open Go.RowKit Go.Proofs.YtpphkaolonjjdaaDoor.Pure Go.Proofs.YtpphkaolonjjdaaDoor.Place Go.Proofs.YtpphkaolonjjdaaDoor.Ymu Go.Proofs.YtpphkaolonjjdaaDoor.Nums Go.Proofs.YtpphkaolonjjdaaDoor.Range Go.Proofs.YtpphkaolonjjdaaDoor.Tnum Go.Proofs.YtpphkaolonjjdaaDoor.Yidx Go.Proofs.YtpphkaolonjjdaaDoor.Yone Go.Proofs.YtpphkaolonjjdaaDoor.Ytext

/-- two texts, one behind the other -/
theorem glue (x y : ByteArray) {m k : Nat} (hx : Hid (mu x ≤ m)) (hy : Hid (mu y ≤ k)) (h : m + k ≤ 1099511627776) : ∃ z : ByteArray, Hid (mu z ≤ m + k) ∧ ∀ W, (Op.stringOp .add x y).run Tryd.prog W = .ok (.string z) W := by
  have hx := hx.out
  have hy := hy.out
  exact ⟨x ++ y, by show _ ≤ _; rw [mu_append]; omega, fun W => cat _ _ W (by omega)⟩
theorem hid_len (x : List UInt8) {m : Nat} (h : muL x ≤ m) : Hid (mu (bs x) ≤ m) := by show _ ≤ _; rw [mu_bs]; exact h
theorem name_len {x : List UInt8} (h : x ∈ nameL) : Hid (mu (bs x) ≤ 2) := hid_len x (by
  have : (nameL.all fun x => decide (muL x ≤ 2)) = true := by decide
  simpa using List.all_eq_true.1 this _ h)
/-- a text at depth d is of at most T bytes -/
def TextIs (d : Int) (T : Nat) : Prop := ∀ (tp : Nat) (A : Option Addr) (n c : Nat) (zs : List Int) (a : Nat) (w : World), TS tp A n c zs a w →
  Calls Tryd.prog 23 #[.pointer (some ⟨tp, 0, none⟩), .int .i64 d] w (Said T tp A n c zs a w)
theorem text_aft {tp : Nat} {A : Option Addr} {n c : Nat} {zs : List Int} {a : Nat} {w W : World} {d : Int} {T : Nat} (ho : Hid (TextIs d T)) (h : After tp A n c zs a w W) :
    Calls Tryd.prog 23 #[.pointer (some ⟨tp, 0, none⟩), .int .i64 d] W (Said T tp A n c zs a w) := by
  obtain ⟨a1, l1, p1, t1, o1⟩ := h
  refine (ho.out tp A n c zs a1 W t1).mono ?_
  rintro e V ⟨s, hs, he, haf⟩
  exact ⟨s, hs, he, aft_comp l1 p1 o1 haf⟩

theorem idx1 (p : Nat) (hp : p < 22) : ∃ x : List UInt8, muL x ≤ 269 ∧ ∀ W, (Instr.index 97 (.agg #[.string ⟨#[115, 116, 114, 105, 112, 32]⟩, .string ⟨#[115, 111, 114, 116, 32]⟩, .string ⟨#[119, 111, 114, 100, 115, 32]⟩, .string ⟨#[102, 105, 114, 115, 116, 119, 111, 114, 100, 32]⟩, .string ⟨#[108, 97, 115, 116, 119, 111, 114, 100, 32]⟩, .string ⟨#[100, 105, 114, 32]⟩, .string ⟨#[110, 111, 116, 100, 105, 114, 32]⟩, .string ⟨#[115, 117, 102, 102, 105, 120, 32]⟩, .string ⟨#[98, 97, 115, 101, 110, 97, 109, 101, 32]⟩, .string ⟨#[97, 98, 115, 112, 97, 116, 104, 32]⟩, .string ⟨#[119, 105, 108, 100, 99, 97, 114, 100, 32]⟩, .string ⟨#[102, 105, 110, 100, 115, 116, 114, 105, 110, 103, 32, 97, 44]⟩, .string ⟨#[102, 105, 108, 116, 101, 114, 32, 37, 46, 99, 32, 97, 44]⟩, .string ⟨#[102, 105, 108, 116, 101, 114, 45, 111, 117, 116, 32, 37, 46, 99, 44]⟩, .string ⟨#[119, 111, 114, 100, 32, 50, 44]⟩, .string ⟨#[97, 100, 100, 115, 117, 102, 102, 105, 120, 32, 46, 120, 44]⟩, .string ⟨#[97, 100, 100, 112, 114, 101, 102, 105, 120, 32, 112, 45, 44]⟩, .string ⟨#[106, 111, 105, 110, 32, 49, 32, 50, 32, 51, 44]⟩, .string ⟨#[115, 117, 98, 115, 116, 32, 97, 44, 98, 44]⟩, .string ⟨#[112, 97, 116, 115, 117, 98, 115, 116, 32, 37, 46, 99, 44, 37, 46, 111, 44]⟩, .string ⟨#[119, 111, 114, 100, 108, 105, 115, 116, 32, 49, 44, 50, 44]⟩, .string ⟨#[119, 111, 114, 100, 32, 48, 44]⟩]) (.int .i64 (p : Int))).run Tryd.prog W = .ok (.string (bs x)) W := by
  obtain ⟨x, _, hx, h⟩ := index_lit 97 22 Tryd.underlying97 [[115, 116, 114, 105, 112, 32], [115, 111, 114, 116, 32], [119, 111, 114, 100, 115, 32], [102, 105, 114, 115, 116, 119, 111, 114, 100, 32], [108, 97, 115, 116, 119, 111, 114, 100, 32], [100, 105, 114, 32], [110, 111, 116, 100, 105, 114, 32], [115, 117, 102, 102, 105, 120, 32], [98, 97, 115, 101, 110, 97, 109, 101, 32], [97, 98, 115, 112, 97, 116, 104, 32], [119, 105, 108, 100, 99, 97, 114, 100, 32], [102, 105, 110, 100, 115, 116, 114, 105, 110, 103, 32, 97, 44], [102, 105, 108, 116, 101, 114, 32, 37, 46, 99, 32, 97, 44], [102, 105, 108, 116, 101, 114, 45, 111, 117, 116, 32, 37, 46, 99, 44], [119, 111, 114, 100, 32, 50, 44], [97, 100, 100, 115, 117, 102, 102, 105, 120, 32, 46, 120, 44], [97, 100, 100, 112, 114, 101, 102, 105, 120, 32, 112, 45, 44], [106, 111, 105, 110, 32, 49, 32, 50, 32, 51, 44], [115, 117, 98, 115, 116, 32, 97, 44, 98, 44], [112, 97, 116, 115, 117, 98, 115, 116, 32, 37, 46, 99, 44, 37, 46, 111, 44], [119, 111, 114, 100, 108, 105, 115, 116, 32, 49, 44, 50, 44], [119, 111, 114, 100, 32, 48, 44]] rfl 269 (by decide) p hp
  exact ⟨x, hx, h⟩
theorem idx2 (p : Nat) (hp : p < 3) : ∃ x : List UInt8, muL x ≤ 6 ∧ ∀ W, (Instr.index 71 (.agg #[.string ⟨#[118, 97, 108, 117, 101]⟩, .string ⟨#[111, 114, 105, 103, 105, 110]⟩, .string ⟨#[102, 108, 97, 118, 111, 114]⟩]) (.int .i64 (p : Int))).run Tryd.prog W = .ok (.string (bs x)) W := by
  obtain ⟨x, _, hx, h⟩ := index_lit 71 3 Tryd.underlying71 [[118, 97, 108, 117, 101], [111, 114, 105, 103, 105, 110], [102, 108, 97, 118, 111, 114]] rfl 6 (by decide) p hp
  exact ⟨x, hx, h⟩
theorem idx3 (p : Nat) (hp : p < 3) : ∃ x : List UInt8, muL x ≤ 2 ∧ ∀ W, (Instr.index 71 (.agg #[.string ⟨#[61]⟩, .string ⟨#[58, 61]⟩, .string ⟨#[43, 61]⟩]) (.int .i64 (p : Int))).run Tryd.prog W = .ok (.string (bs x)) W := by
  obtain ⟨x, _, hx, h⟩ := index_lit 71 3 Tryd.underlying71 [[61], [58, 61], [43, 61]] rfl 2 (by decide) p hp
  exact ⟨x, hx, h⟩
theorem idx4 (p : Nat) (hp : p < 4) : ∃ x : List UInt8, muL x ≤ 1016 ∧ ∀ W, (Instr.index 41 (.agg #[.string ⟨#[36, 40, 119, 97, 114, 110, 105, 110, 103, 32, 119, 41]⟩, .string ⟨#[36, 40, 49, 41]⟩, .string ⟨#[36, 40, 48, 41, 36, 40, 50, 41]⟩, .string ⟨#[36, 40, 101, 114, 114, 111, 114, 32, 115, 116, 111, 112, 41]⟩]) (.int .i64 (p : Int))).run Tryd.prog W = .ok (.string (bs x)) W := by
  obtain ⟨x, _, hx, h⟩ := index_lit 41 4 Tryd.underlying41 [[36, 40, 119, 97, 114, 110, 105, 110, 103, 32, 119, 41], [36, 40, 49, 41], [36, 40, 48, 41, 36, 40, 50, 41], [36, 40, 101, 114, 114, 111, 114, 32, 115, 116, 111, 112, 41]] rfl 1016 (by decide) p hp
  exact ⟨x, hx, h⟩

set_option maxRecDepth 100000 in
set_option maxHeartbeats 2000000 in
/-- a plain function around a text -/
theorem plain_is (D d : Int) (hw : IntKind.i64.wrap (D - 1) = d) (T : Nat) (hT : T ≤ 100000000000) (ht : TextIs d T) (tp : Nat) (A : Option Addr) (n c : Nat) (zs : List Int) (a : Nat) (w : World) (h : TS tp A n c zs a w) :
    Calls Tryd.prog 47 #[.pointer (some ⟨tp, 0, none⟩), .int .i64 D] w (Said (3 * T + 1804) tp A n c zs a w) := by
  have HT := Lib.hid ht
  have HF := Lib.hid (ht tp A n c zs a w h)
  clear ht h
  go_enter Tryd.func47, Tryd.ntmps47
  go_wp2_with fail
  refine HF.out.mono ?_
  rintro e w1 ⟨S, hS, rfl, haf⟩
  have HS := Lib.hid hS
  have HA := Lib.hid haf
  clear haf hS HF
  go_wp2_with fail
  refine (num_aft HA.out 22 (by omega) (by omega)).mono ?_
  rintro e w2 ⟨q, hq, rfl, haf⟩
  obtain ⟨f, hf, hi⟩ := idx1 q hq
  have zf := hid_len f hf
  clear HA hf hq
  have HA := Lib.hid haf
  clear haf
  obtain ⟨P1, y1, b1⟩ := glue ⟨#[36, 40]⟩ (bs f) (Lib.hid (by decide : mu (⟨#[36, 40]⟩ : ByteArray) ≤ 506)) zf (by omega)
  obtain ⟨P2, y2, b2⟩ := glue P1 S y1 HS (by omega)
  obtain ⟨P3, y3, b3⟩ := glue P2 ⟨#[41]⟩ y2 (Lib.hid (by decide : mu (⟨#[41]⟩ : ByteArray) ≤ 1)) (by omega)
  go_wp2
  go_ret
  refine ⟨_, ?_, rfl, HA.out⟩
  have := y3.out
  omega

set_option maxRecDepth 100000 in
set_option maxHeartbeats 2000000 in
theorem ctl26 (D d : Int) (hw : IntKind.i64.wrap (D - 1) = d) (T : Nat) (hT : T ≤ 100000000000) (ht : TextIs d T) (tp : Nat) (A : Option Addr) (n c : Nat) (zs : List Int) (a : Nat) (w : World) (h : TS tp A n c zs a w) :
    Calls Tryd.prog 48 #[.pointer (some ⟨tp, 0, none⟩), .int .i64 26, .int .i64 D] w (Said (3 * T + 1804) tp A n c zs a w) := by
  have HT := Lib.hid ht
  have HF := Lib.hid (ht tp A n c zs a w h)
  clear ht h
  go_enter Tryd.func48, Tryd.ntmps48
  go_wp2_with fail
  refine HF.out.mono ?_
  rintro e w1 ⟨S, hS, rfl, haf⟩
  have HS := Lib.hid hS
  have HA := Lib.hid haf
  clear haf hS HF
  obtain ⟨P1, y1, b1⟩ := glue ⟨#[36, 40, 105, 102, 32]⟩ S (Lib.hid (by decide : mu (⟨#[36, 40, 105, 102, 32]⟩ : ByteArray) ≤ 509)) HS (by omega)
  obtain ⟨P2, y2, b2⟩ := glue P1 ⟨#[44]⟩ y1 (Lib.hid (by decide : mu (⟨#[44]⟩ : ByteArray) ≤ 127)) (by omega)
  go_wp2_with fail
  refine (text_aft HT HA.out).mono ?_
  rintro e u3 ⟨S3, hs, rfl, haf⟩
  have Z3 := Lib.hid hs
  clear HA hs
  have HA := Lib.hid haf
  clear haf
  obtain ⟨P3, y3, b3⟩ := glue P2 S3 y2 Z3 (by omega)
  obtain ⟨P4, y4, b4⟩ := glue P3 ⟨#[44]⟩ y3 (Lib.hid (by decide : mu (⟨#[44]⟩ : ByteArray) ≤ 127)) (by omega)
  go_wp2_with fail
  refine (text_aft HT HA.out).mono ?_
  rintro e u5 ⟨S5, hs, rfl, haf⟩
  have Z5 := Lib.hid hs
  clear HA hs
  have HA := Lib.hid haf
  clear haf
  obtain ⟨P5, y5, b5⟩ := glue P4 S5 y4 Z5 (by omega)
  obtain ⟨P6, y6, b6⟩ := glue P5 ⟨#[41]⟩ y5 (Lib.hid (by decide : mu (⟨#[41]⟩ : ByteArray) ≤ 1)) (by omega)
  go_wp2
  go_ret
  refine ⟨_, ?_, rfl, HA.out⟩
  have := y6.out
  omega

set_option maxRecDepth 100000 in
set_option maxHeartbeats 2000000 in
theorem ctl27 (D d : Int) (hw : IntKind.i64.wrap (D - 1) = d) (T : Nat) (hT : T ≤ 100000000000) (ht : TextIs d T) (tp : Nat) (A : Option Addr) (n c : Nat) (zs : List Int) (a : Nat) (w : World) (h : TS tp A n c zs a w) :
    Calls Tryd.prog 48 #[.pointer (some ⟨tp, 0, none⟩), .int .i64 27, .int .i64 D] w (Said (3 * T + 1804) tp A n c zs a w) := by
  have HT := Lib.hid ht
  have HF := Lib.hid (ht tp A n c zs a w h)
  clear ht h
  go_enter Tryd.func48, Tryd.ntmps48
  go_wp2_with fail
  refine HF.out.mono ?_
  rintro e w1 ⟨S, hS, rfl, haf⟩
  have HS := Lib.hid hS
  have HA := Lib.hid haf
  clear haf hS HF
  obtain ⟨P1, y1, b1⟩ := glue ⟨#[36, 40, 105, 102, 32]⟩ S (Lib.hid (by decide : mu (⟨#[36, 40, 105, 102, 32]⟩ : ByteArray) ≤ 509)) HS (by omega)
  obtain ⟨P2, y2, b2⟩ := glue P1 ⟨#[44]⟩ y1 (Lib.hid (by decide : mu (⟨#[44]⟩ : ByteArray) ≤ 127)) (by omega)
  go_wp2_with fail
  refine (text_aft HT HA.out).mono ?_
  rintro e u3 ⟨S3, hs, rfl, haf⟩
  have Z3 := Lib.hid hs
  clear HA hs
  have HA := Lib.hid haf
  clear haf
  obtain ⟨P3, y3, b3⟩ := glue P2 S3 y2 Z3 (by omega)
  obtain ⟨P4, y4, b4⟩ := glue P3 ⟨#[44]⟩ y3 (Lib.hid (by decide : mu (⟨#[44]⟩ : ByteArray) ≤ 127)) (by omega)
  go_wp2_with fail
  refine (text_aft HT HA.out).mono ?_
  rintro e u5 ⟨S5, hs, rfl, haf⟩
  have Z5 := Lib.hid hs
  clear HA hs
  have HA := Lib.hid haf
  clear haf
  obtain ⟨P5, y5, b5⟩ := glue P4 S5 y4 Z5 (by omega)
  obtain ⟨P6, y6, b6⟩ := glue P5 ⟨#[41]⟩ y5 (Lib.hid (by decide : mu (⟨#[41]⟩ : ByteArray) ≤ 1)) (by omega)
  go_wp2
  go_ret
  refine ⟨_, ?_, rfl, HA.out⟩
  have := y6.out
  omega

set_option maxRecDepth 100000 in
set_option maxHeartbeats 2000000 in
theorem ctl28 (D d : Int) (hw : IntKind.i64.wrap (D - 1) = d) (T : Nat) (hT : T ≤ 100000000000) (ht : TextIs d T) (tp : Nat) (A : Option Addr) (n c : Nat) (zs : List Int) (a : Nat) (w : World) (h : TS tp A n c zs a w) :
    Calls Tryd.prog 48 #[.pointer (some ⟨tp, 0, none⟩), .int .i64 28, .int .i64 D] w (Said (3 * T + 1804) tp A n c zs a w) := by
  have HT := Lib.hid ht
  have HF := Lib.hid (ht tp A n c zs a w h)
  clear ht h
  go_enter Tryd.func48, Tryd.ntmps48
  go_wp2_with fail
  refine HF.out.mono ?_
  rintro e w1 ⟨S, hS, rfl, haf⟩
  have HS := Lib.hid hS
  have HA := Lib.hid haf
  clear haf hS HF
  obtain ⟨P1, y1, b1⟩ := glue ⟨#[36, 40, 111, 114, 32, 44]⟩ S (Lib.hid (by decide : mu (⟨#[36, 40, 111, 114, 32, 44]⟩ : ByteArray) ≤ 636)) HS (by omega)
  obtain ⟨P2, y2, b2⟩ := glue P1 ⟨#[44]⟩ y1 (Lib.hid (by decide : mu (⟨#[44]⟩ : ByteArray) ≤ 127)) (by omega)
  go_wp2_with fail
  refine (text_aft HT HA.out).mono ?_
  rintro e u3 ⟨S3, hs, rfl, haf⟩
  have Z3 := Lib.hid hs
  clear HA hs
  have HA := Lib.hid haf
  clear haf
  obtain ⟨P3, y3, b3⟩ := glue P2 S3 y2 Z3 (by omega)
  obtain ⟨P4, y4, b4⟩ := glue P3 ⟨#[41]⟩ y3 (Lib.hid (by decide : mu (⟨#[41]⟩ : ByteArray) ≤ 1)) (by omega)
  go_wp2
  go_ret
  refine ⟨_, ?_, rfl, HA.out⟩
  have := y4.out
  omega

set_option maxRecDepth 100000 in
set_option maxHeartbeats 2000000 in
theorem ctl29 (D d : Int) (hw : IntKind.i64.wrap (D - 1) = d) (T : Nat) (hT : T ≤ 100000000000) (ht : TextIs d T) (tp : Nat) (A : Option Addr) (n c : Nat) (zs : List Int) (a : Nat) (w : World) (h : TS tp A n c zs a w) :
    Calls Tryd.prog 48 #[.pointer (some ⟨tp, 0, none⟩), .int .i64 29, .int .i64 D] w (Said (3 * T + 1804) tp A n c zs a w) := by
  have HT := Lib.hid ht
  have HF := Lib.hid (ht tp A n c zs a w h)
  clear ht h
  go_enter Tryd.func48, Tryd.ntmps48
  go_wp2_with fail
  refine HF.out.mono ?_
  rintro e w1 ⟨S, hS, rfl, haf⟩
  have HS := Lib.hid hS
  have HA := Lib.hid haf
  clear haf hS HF
  obtain ⟨P1, y1, b1⟩ := glue ⟨#[36, 40, 97, 110, 100, 32]⟩ S (Lib.hid (by decide : mu (⟨#[36, 40, 97, 110, 100, 32]⟩ : ByteArray) ≤ 510)) HS (by omega)
  obtain ⟨P2, y2, b2⟩ := glue P1 ⟨#[44]⟩ y1 (Lib.hid (by decide : mu (⟨#[44]⟩ : ByteArray) ≤ 127)) (by omega)
  go_wp2_with fail
  refine (text_aft HT HA.out).mono ?_
  rintro e u3 ⟨S3, hs, rfl, haf⟩
  have Z3 := Lib.hid hs
  clear HA hs
  have HA := Lib.hid haf
  clear haf
  obtain ⟨P3, y3, b3⟩ := glue P2 S3 y2 Z3 (by omega)
  obtain ⟨P4, y4, b4⟩ := glue P3 ⟨#[41]⟩ y3 (Lib.hid (by decide : mu (⟨#[41]⟩ : ByteArray) ≤ 1)) (by omega)
  go_wp2
  go_ret
  refine ⟨_, ?_, rfl, HA.out⟩
  have := y4.out
  omega

set_option maxRecDepth 100000 in
set_option maxHeartbeats 2000000 in
theorem ctl30 (D d : Int) (hw : IntKind.i64.wrap (D - 1) = d) (T : Nat) (hT : T ≤ 100000000000) (ht : TextIs d T) (tp : Nat) (A : Option Addr) (n c : Nat) (zs : List Int) (a : Nat) (w : World) (h : TS tp A n c zs a w) :
    Calls Tryd.prog 48 #[.pointer (some ⟨tp, 0, none⟩), .int .i64 30, .int .i64 D] w (Said (3 * T + 1804) tp A n c zs a w) := by
  have HT := Lib.hid ht
  have HF := Lib.hid (ht tp A n c zs a w h)
  clear ht h
  go_enter Tryd.func48, Tryd.ntmps48
  go_wp2_with fail
  refine HF.out.mono ?_
  rintro e w1 ⟨S, hS, rfl, haf⟩
  have HS := Lib.hid hS
  have HA := Lib.hid haf
  clear haf hS HF
  obtain ⟨P1, y1, b1⟩ := glue ⟨#[36, 40, 105, 110, 116, 99, 109, 112, 32, 36, 40, 119, 111, 114, 100, 115, 32]⟩ S (Lib.hid (by decide : mu (⟨#[36, 40, 105, 110, 116, 99, 109, 112, 32, 36, 40, 119, 111, 114, 100, 115, 32]⟩ : ByteArray) ≤ 1025)) HS (by omega)
  obtain ⟨P2, y2, b2⟩ := glue P1 ⟨#[41, 44, 49, 44]⟩ y1 (Lib.hid (by decide : mu (⟨#[41, 44, 49, 44]⟩ : ByteArray) ≤ 256)) (by omega)
  go_wp2_with fail
  refine (text_aft HT HA.out).mono ?_
  rintro e u3 ⟨S3, hs, rfl, haf⟩
  have Z3 := Lib.hid hs
  clear HA hs
  have HA := Lib.hid haf
  clear haf
  obtain ⟨P3, y3, b3⟩ := glue P2 S3 y2 Z3 (by omega)
  obtain ⟨P4, y4, b4⟩ := glue P3 ⟨#[44, 115, 97, 109, 101, 44, 109, 111, 114, 101, 41]⟩ y3 (Lib.hid (by decide : mu (⟨#[44, 115, 97, 109, 101, 44, 109, 111, 114, 101, 41]⟩ : ByteArray) ≤ 263)) (by omega)
  go_wp2
  go_ret
  refine ⟨_, ?_, rfl, HA.out⟩
  have := y4.out
  omega

set_option maxRecDepth 100000 in
set_option maxHeartbeats 2000000 in
theorem ctl31 (D d : Int) (hw : IntKind.i64.wrap (D - 1) = d) (T : Nat) (hT : T ≤ 100000000000) (ht : TextIs d T) (tp : Nat) (A : Option Addr) (n c : Nat) (zs : List Int) (a : Nat) (w : World) (h : TS tp A n c zs a w) :
    Calls Tryd.prog 48 #[.pointer (some ⟨tp, 0, none⟩), .int .i64 31, .int .i64 D] w (Said (3 * T + 1804) tp A n c zs a w) := by
  have HT := Lib.hid ht
  have HF := Lib.hid (ht tp A n c zs a w h)
  clear ht h
  go_enter Tryd.func48, Tryd.ntmps48
  go_wp2_with fail
  refine HF.out.mono ?_
  rintro e w1 ⟨S, hS, rfl, haf⟩
  have HS := Lib.hid hS
  have HA := Lib.hid haf
  clear haf hS HF
  obtain ⟨P1, y1, b1⟩ := glue ⟨#[36, 40, 102, 111, 114, 101, 97, 99, 104, 32, 105, 44]⟩ S (Lib.hid (by decide : mu (⟨#[36, 40, 102, 111, 114, 101, 97, 99, 104, 32, 105, 44]⟩ : ByteArray) ≤ 642)) HS (by omega)
  obtain ⟨P2, y2, b2⟩ := glue P1 ⟨#[44, 36, 40, 105, 41]⟩ y1 (Lib.hid (by decide : mu (⟨#[44, 36, 40, 105, 41]⟩ : ByteArray) ≤ 635)) (by omega)
  go_wp2_with fail
  refine (text_aft HT HA.out).mono ?_
  rintro e u3 ⟨S3, hs, rfl, haf⟩
  have Z3 := Lib.hid hs
  clear HA hs
  have HA := Lib.hid haf
  clear haf
  obtain ⟨P3, y3, b3⟩ := glue P2 S3 y2 Z3 (by omega)
  obtain ⟨P4, y4, b4⟩ := glue P3 ⟨#[41]⟩ y3 (Lib.hid (by decide : mu (⟨#[41]⟩ : ByteArray) ≤ 1)) (by omega)
  go_wp2
  go_ret
  refine ⟨_, ?_, rfl, HA.out⟩
  have := y4.out
  omega

set_option maxRecDepth 100000 in
set_option maxHeartbeats 2000000 in
theorem ctl32 (D d : Int) (hw : IntKind.i64.wrap (D - 1) = d) (T : Nat) (hT : T ≤ 100000000000) (ht : TextIs d T) (tp : Nat) (A : Option Addr) (n c : Nat) (zs : List Int) (a : Nat) (w : World) (h : TS tp A n c zs a w) :
    Calls Tryd.prog 48 #[.pointer (some ⟨tp, 0, none⟩), .int .i64 32, .int .i64 D] w (Said (3 * T + 1804) tp A n c zs a w) := by
  have HT := Lib.hid ht
  have HF := Lib.hid (ht tp A n c zs a w h)
  clear ht h
  go_enter Tryd.func48, Tryd.ntmps48
  go_wp2_with fail
  refine HF.out.mono ?_
  rintro e w1 ⟨S, hS, rfl, haf⟩
  have HS := Lib.hid hS
  have HA := Lib.hid haf
  clear haf hS HF
  obtain ⟨P1, y1, b1⟩ := glue ⟨#[36, 40, 102, 111, 114, 101, 97, 99, 104, 32, 105, 44]⟩ S (Lib.hid (by decide : mu (⟨#[36, 40, 102, 111, 114, 101, 97, 99, 104, 32, 105, 44]⟩ : ByteArray) ≤ 642)) HS (by omega)
  obtain ⟨P2, y2, b2⟩ := glue P1 ⟨#[44, 36, 40, 105, 41]⟩ y1 (Lib.hid (by decide : mu (⟨#[44, 36, 40, 105, 41]⟩ : ByteArray) ≤ 635)) (by omega)
  go_wp2_with fail
  refine (text_aft HT HA.out).mono ?_
  rintro e u3 ⟨S3, hs, rfl, haf⟩
  have Z3 := Lib.hid hs
  clear HA hs
  have HA := Lib.hid haf
  clear haf
  obtain ⟨P3, y3, b3⟩ := glue P2 S3 y2 Z3 (by omega)
  obtain ⟨P4, y4, b4⟩ := glue P3 ⟨#[41]⟩ y3 (Lib.hid (by decide : mu (⟨#[41]⟩ : ByteArray) ≤ 1)) (by omega)
  go_wp2
  go_ret
  refine ⟨_, ?_, rfl, HA.out⟩
  have := y4.out
  omega

set_option maxRecDepth 100000 in
set_option maxHeartbeats 2000000 in
theorem ctl33 (D d : Int) (hw : IntKind.i64.wrap (D - 1) = d) (T : Nat) (hT : T ≤ 100000000000) (ht : TextIs d T) (tp : Nat) (A : Option Addr) (n c : Nat) (zs : List Int) (a : Nat) (w : World) (h : TS tp A n c zs a w) :
    Calls Tryd.prog 48 #[.pointer (some ⟨tp, 0, none⟩), .int .i64 33, .int .i64 D] w (Said (3 * T + 1804) tp A n c zs a w) := by
  have HT := Lib.hid ht
  have HF := Lib.hid (ht tp A n c zs a w h)
  clear ht h
  go_enter Tryd.func48, Tryd.ntmps48
  go_wp2_with fail
  refine HF.out.mono ?_
  rintro e w1 ⟨S, hS, rfl, haf⟩
  have HS := Lib.hid hS
  have HA := Lib.hid haf
  clear haf hS HF
  obtain ⟨P1, y1, b1⟩ := glue ⟨#[36, 40, 108, 101, 116, 32, 120, 32, 121, 44]⟩ S (Lib.hid (by decide : mu (⟨#[36, 40, 108, 101, 116, 32, 120, 32, 121, 44]⟩ : ByteArray) ≤ 640)) HS (by omega)
  obtain ⟨P2, y2, b2⟩ := glue P1 ⟨#[44, 36, 40, 121, 41, 45, 36, 40, 120, 41, 41]⟩ y1 (Lib.hid (by decide : mu (⟨#[44, 36, 40, 121, 41, 45, 36, 40, 120, 41, 41]⟩ : ByteArray) ≤ 1145)) (by omega)
  go_wp2
  go_ret
  refine ⟨_, ?_, rfl, HA.out⟩
  have := y2.out
  omega

set_option maxRecDepth 100000 in
set_option maxHeartbeats 2000000 in
theorem ctl34 (D d : Int) (hw : IntKind.i64.wrap (D - 1) = d) (T : Nat) (hT : T ≤ 100000000000) (ht : TextIs d T) (tp : Nat) (A : Option Addr) (n c : Nat) (zs : List Int) (a : Nat) (w : World) (h : TS tp A n c zs a w) :
    Calls Tryd.prog 48 #[.pointer (some ⟨tp, 0, none⟩), .int .i64 34, .int .i64 D] w (Said (3 * T + 1804) tp A n c zs a w) := by
  have HT := Lib.hid ht
  have HF := Lib.hid (ht tp A n c zs a w h)
  clear ht h
  go_enter Tryd.func48, Tryd.ntmps48
  go_wp2_with fail
  refine HF.out.mono ?_
  rintro e w1 ⟨S, hS, rfl, haf⟩
  have HS := Lib.hid hS
  have HA := Lib.hid haf
  clear haf hS HF
  go_wp2_with fail
  refine (name_aft HA.out).mono ?_
  rintro e u1 ⟨x1, hx, rfl, haf⟩
  have Z1 := name_len hx
  clear HA hx
  have HA := Lib.hid haf
  clear haf
  obtain ⟨P1, y1, b1⟩ := glue ⟨#[36, 40, 99, 97, 108, 108, 32]⟩ (bs x1) (Lib.hid (by decide : mu (⟨#[36, 40, 99, 97, 108, 108, 32]⟩ : ByteArray) ≤ 511)) Z1 (by omega)
  obtain ⟨P2, y2, b2⟩ := glue P1 ⟨#[44]⟩ y1 (Lib.hid (by decide : mu (⟨#[44]⟩ : ByteArray) ≤ 127)) (by omega)
  obtain ⟨P3, y3, b3⟩ := glue P2 S y2 HS (by omega)
  obtain ⟨P4, y4, b4⟩ := glue P3 ⟨#[44]⟩ y3 (Lib.hid (by decide : mu (⟨#[44]⟩ : ByteArray) ≤ 127)) (by omega)
  go_wp2_with fail
  refine (text_aft HT HA.out).mono ?_
  rintro e u5 ⟨S5, hs, rfl, haf⟩
  have Z5 := Lib.hid hs
  clear HA hs
  have HA := Lib.hid haf
  clear haf
  obtain ⟨P5, y5, b5⟩ := glue P4 S5 y4 Z5 (by omega)
  obtain ⟨P6, y6, b6⟩ := glue P5 ⟨#[41]⟩ y5 (Lib.hid (by decide : mu (⟨#[41]⟩ : ByteArray) ≤ 1)) (by omega)
  go_wp2
  go_ret
  refine ⟨_, ?_, rfl, HA.out⟩
  have := y6.out
  omega

set_option maxRecDepth 100000 in
set_option maxHeartbeats 2000000 in
theorem ctl35 (D d : Int) (hw : IntKind.i64.wrap (D - 1) = d) (T : Nat) (hT : T ≤ 100000000000) (ht : TextIs d T) (tp : Nat) (A : Option Addr) (n c : Nat) (zs : List Int) (a : Nat) (w : World) (h : TS tp A n c zs a w) :
    Calls Tryd.prog 48 #[.pointer (some ⟨tp, 0, none⟩), .int .i64 35, .int .i64 D] w (Said (3 * T + 1804) tp A n c zs a w) := by
  have HT := Lib.hid ht
  have HF := Lib.hid (ht tp A n c zs a w h)
  clear ht h
  go_enter Tryd.func48, Tryd.ntmps48
  go_wp2_with fail
  refine HF.out.mono ?_
  rintro e w1 ⟨S, hS, rfl, haf⟩
  have HS := Lib.hid hS
  have HA := Lib.hid haf
  clear haf hS HF
  go_wp2_with fail
  refine (name_aft HA.out).mono ?_
  rintro e u1 ⟨x1, hx, rfl, haf⟩
  have Z1 := name_len hx
  clear HA hx
  have HA := Lib.hid haf
  clear haf
  obtain ⟨P1, y1, b1⟩ := glue ⟨#[36, 40, 99, 97, 108, 108, 32]⟩ (bs x1) (Lib.hid (by decide : mu (⟨#[36, 40, 99, 97, 108, 108, 32]⟩ : ByteArray) ≤ 511)) Z1 (by omega)
  obtain ⟨P2, y2, b2⟩ := glue P1 ⟨#[44]⟩ y1 (Lib.hid (by decide : mu (⟨#[44]⟩ : ByteArray) ≤ 127)) (by omega)
  obtain ⟨P3, y3, b3⟩ := glue P2 S y2 HS (by omega)
  obtain ⟨P4, y4, b4⟩ := glue P3 ⟨#[44]⟩ y3 (Lib.hid (by decide : mu (⟨#[44]⟩ : ByteArray) ≤ 127)) (by omega)
  go_wp2_with fail
  refine (text_aft HT HA.out).mono ?_
  rintro e u5 ⟨S5, hs, rfl, haf⟩
  have Z5 := Lib.hid hs
  clear HA hs
  have HA := Lib.hid haf
  clear haf
  obtain ⟨P5, y5, b5⟩ := glue P4 S5 y4 Z5 (by omega)
  obtain ⟨P6, y6, b6⟩ := glue P5 ⟨#[41]⟩ y5 (Lib.hid (by decide : mu (⟨#[41]⟩ : ByteArray) ≤ 1)) (by omega)
  go_wp2
  go_ret
  refine ⟨_, ?_, rfl, HA.out⟩
  have := y6.out
  omega

set_option maxRecDepth 100000 in
set_option maxHeartbeats 2000000 in
theorem ctl37 (D d : Int) (hw : IntKind.i64.wrap (D - 1) = d) (T : Nat) (hT : T ≤ 100000000000) (ht : TextIs d T) (tp : Nat) (A : Option Addr) (n c : Nat) (zs : List Int) (a : Nat) (w : World) (h : TS tp A n c zs a w) :
    Calls Tryd.prog 48 #[.pointer (some ⟨tp, 0, none⟩), .int .i64 37, .int .i64 D] w (Said (3 * T + 1804) tp A n c zs a w) := by
  have HT := Lib.hid ht
  have HF := Lib.hid (ht tp A n c zs a w h)
  clear ht h
  go_enter Tryd.func48, Tryd.ntmps48
  go_wp2_with fail
  refine HF.out.mono ?_
  rintro e w1 ⟨S, hS, rfl, haf⟩
  have HS := Lib.hid hS
  have HA := Lib.hid haf
  clear haf hS HF
  obtain ⟨P1, y1, b1⟩ := glue ⟨#[36, 40, 105, 110, 102, 111, 32]⟩ S (Lib.hid (by decide : mu (⟨#[36, 40, 105, 110, 102, 111, 32]⟩ : ByteArray) ≤ 511)) HS (by omega)
  obtain ⟨P2, y2, b2⟩ := glue P1 ⟨#[41]⟩ y1 (Lib.hid (by decide : mu (⟨#[41]⟩ : ByteArray) ≤ 1)) (by omega)
  go_wp2
  go_ret
  refine ⟨_, ?_, rfl, HA.out⟩
  have := y2.out
  omega

set_option maxRecDepth 100000 in
set_option maxHeartbeats 2000000 in
theorem ctl38 (D d : Int) (hw : IntKind.i64.wrap (D - 1) = d) (T : Nat) (hT : T ≤ 100000000000) (ht : TextIs d T) (tp : Nat) (A : Option Addr) (n c : Nat) (zs : List Int) (a : Nat) (w : World) (h : TS tp A n c zs a w) :
    Calls Tryd.prog 48 #[.pointer (some ⟨tp, 0, none⟩), .int .i64 38, .int .i64 D] w (Said (3 * T + 1804) tp A n c zs a w) := by
  have HT := Lib.hid ht
  have HF := Lib.hid (ht tp A n c zs a w h)
  clear ht h
  go_enter Tryd.func48, Tryd.ntmps48
  go_wp2_with fail
  refine HF.out.mono ?_
  rintro e w1 ⟨S, hS, rfl, haf⟩
  have HS := Lib.hid hS
  have HA := Lib.hid haf
  clear haf hS HF
  go_wp2_with fail
  refine (name_aft HA.out).mono ?_
  rintro e u1 ⟨x1, hx, rfl, haf⟩
  have Z1 := name_len hx
  clear HA hx
  have HA := Lib.hid haf
  clear haf
  obtain ⟨P1, y1, b1⟩ := glue ⟨#[36, 40, 101, 118, 97, 108, 32]⟩ (bs x1) (Lib.hid (by decide : mu (⟨#[36, 40, 101, 118, 97, 108, 32]⟩ : ByteArray) ≤ 511)) Z1 (by omega)
  go_wp2_with fail
  refine (num_aft HA.out 3 (by omega) (by omega)).mono ?_
  rintro e u2 ⟨q2, hq, rfl, haf⟩
  obtain ⟨x2, hx, i2⟩ := idx3 q2 hq
  have Z2 := hid_len x2 hx
  clear HA hx hq
  have HA := Lib.hid haf
  clear haf
  obtain ⟨P2, y2, b2⟩ := glue P1 (bs x2) y1 Z2 (by omega)
  obtain ⟨P3, y3, b3⟩ := glue P2 S y2 HS (by omega)
  obtain ⟨P4, y4, b4⟩ := glue P3 ⟨#[41]⟩ y3 (Lib.hid (by decide : mu (⟨#[41]⟩ : ByteArray) ≤ 1)) (by omega)
  go_wp2
  go_ret
  refine ⟨_, ?_, rfl, HA.out⟩
  have := y4.out
  omega

set_option maxRecDepth 100000 in
set_option maxHeartbeats 2000000 in
theorem ctl39 (D d : Int) (hw : IntKind.i64.wrap (D - 1) = d) (T : Nat) (hT : T ≤ 100000000000) (ht : TextIs d T) (tp : Nat) (A : Option Addr) (n c : Nat) (zs : List Int) (a : Nat) (w : World) (h : TS tp A n c zs a w) :
    Calls Tryd.prog 48 #[.pointer (some ⟨tp, 0, none⟩), .int .i64 39, .int .i64 D] w (Said (3 * T + 1804) tp A n c zs a w) := by
  have HT := Lib.hid ht
  have HF := Lib.hid (ht tp A n c zs a w h)
  clear ht h
  go_enter Tryd.func48, Tryd.ntmps48
  go_wp2_with fail
  refine HF.out.mono ?_
  rintro e w1 ⟨S, hS, rfl, haf⟩
  have HS := Lib.hid hS
  have HA := Lib.hid haf
  clear haf hS HF
  go_wp2_with fail
  refine (num_aft HA.out 4 (by omega) (by omega)).mono ?_
  rintro e u0 ⟨q0, hq, rfl, haf⟩
  obtain ⟨x0, hx, i0⟩ := idx4 q0 hq
  have Z0 := hid_len x0 hx
  clear HA hx hq
  have HA := Lib.hid haf
  clear haf
  go_wp2
  go_ret
  refine ⟨_, ?_, rfl, HA.out⟩
  have := Z0.out
  omega

set_option maxRecDepth 100000 in
set_option maxHeartbeats 2000000 in
theorem ctl36 (D d : Int) (hw : IntKind.i64.wrap (D - 1) = d) (T : Nat) (hT : T ≤ 100000000000) (ht : TextIs d T) (tp : Nat) (A : Option Addr) (n c : Nat) (zs : List Int) (a : Nat) (w : World) (h : TS tp A n c zs a w) :
    Calls Tryd.prog 48 #[.pointer (some ⟨tp, 0, none⟩), .int .i64 36, .int .i64 D] w (Said (3 * T + 1804) tp A n c zs a w) := by
  have HT := Lib.hid ht
  have HF := Lib.hid (ht tp A n c zs a w h)
  clear ht h
  go_enter Tryd.func48, Tryd.ntmps48
  go_wp2_with fail
  refine HF.out.mono ?_
  rintro e w1 ⟨S, hS, rfl, haf⟩
  have HS := Lib.hid hS
  have HA := Lib.hid haf
  clear haf hS HF
  go_upto_region 21 with fail
  go_region_with (first
    | (go_at_call 34
       refine (num_aft (by first | exact HA.out | exact aft_drew HA.out) 3 (by omega) (by omega)).mono ?_
       rintro e w3 ⟨q, hq, rfl, haf⟩
       obtain ⟨x, hx, hi⟩ := idx2 q hq
       have zx := hid_len x hx
       obtain ⟨P1, y1, b1⟩ := glue ⟨#[36, 40]⟩ (bs x) (Lib.hid (by decide : mu (⟨#[36, 40]⟩ : ByteArray) ≤ 506)) zx (by omega)
       obtain ⟨P2, y2, b2⟩ := glue P1 ⟨#[32]⟩ y1 (Lib.hid (by decide : mu (⟨#[32]⟩ : ByteArray) ≤ 1)) (by omega)
       clear HA hx hq
       have HA := Lib.hid haf
       clear haf)
    | (go_at_call 46
       refine (name_aft (by first | exact HA.out | exact aft_drew HA.out)).mono ?_
       rintro e w4 ⟨v, hv, rfl, haf⟩
       have zv := name_len hv
       obtain ⟨P3, y3, b3⟩ := glue P2 (bs v) y2 zv (by omega)
       obtain ⟨P4, y4, b4⟩ := glue P3 ⟨#[41]⟩ y3 (Lib.hid (by decide : mu (⟨#[41]⟩ : ByteArray) ≤ 1)) (by omega)
       clear HA hv
       have HA := Lib.hid haf
       clear haf))
  all_goals
    go_wp2
    go_ret
    refine ⟨_, ?_, rfl, by first | exact HA.out | exact aft_drew HA.out⟩
    have := y4.out
    omega

/-- a control's call around a text -/
theorem control_is (D d : Int) (hw : IntKind.i64.wrap (D - 1) = d) (T : Nat) (hT : T ≤ 100000000000) (ht : TextIs d T) (k : Nat) (h1 : 26 ≤ k) (h2 : k < 40) (tp : Nat) (A : Option Addr) (n c : Nat) (zs : List Int) (a : Nat) (w : World) (h : TS tp A n c zs a w) :
    Calls Tryd.prog 48 #[.pointer (some ⟨tp, 0, none⟩), .int .i64 (k : Int), .int .i64 D] w (Said (3 * T + 1804) tp A n c zs a w) := by
  obtain rfl | rfl | rfl | rfl | rfl | rfl | rfl | rfl | rfl | rfl | rfl | rfl | rfl | rfl : k = 26 ∨ k = 27 ∨ k = 28 ∨ k = 29 ∨ k = 30 ∨ k = 31 ∨ k = 32 ∨ k = 33 ∨ k = 34 ∨ k = 35 ∨ k = 36 ∨ k = 37 ∨ k = 38 ∨ k = 39 := by omega
  · exact ctl26 D d hw T hT ht tp A n c zs a w h
  · exact ctl27 D d hw T hT ht tp A n c zs a w h
  · exact ctl28 D d hw T hT ht tp A n c zs a w h
  · exact ctl29 D d hw T hT ht tp A n c zs a w h
  · exact ctl30 D d hw T hT ht tp A n c zs a w h
  · exact ctl31 D d hw T hT ht tp A n c zs a w h
  · exact ctl32 D d hw T hT ht tp A n c zs a w h
  · exact ctl33 D d hw T hT ht tp A n c zs a w h
  · exact ctl34 D d hw T hT ht tp A n c zs a w h
  · exact ctl35 D d hw T hT ht tp A n c zs a w h
  · exact ctl36 D d hw T hT ht tp A n c zs a w h
  · exact ctl37 D d hw T hT ht tp A n c zs a w h
  · exact ctl38 D d hw T hT ht tp A n c zs a w h
  · exact ctl39 D d hw T hT ht tp A n c zs a w h

end Go.Proofs.YtpphkaolonjjdaaDoor.Yctl
