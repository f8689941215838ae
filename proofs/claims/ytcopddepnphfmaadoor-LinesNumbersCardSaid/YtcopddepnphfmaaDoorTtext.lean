/- Texts by numbers: a text, out of its pieces. -/
import Derived.Deep.RegionWith
import Derived.Test.YtcopddepnphfmaaDoorTone
namespace Go.Proofs.YtcopddepnphfmaaDoor.Ttext
open Go.RowKit Go.Proofs.YtcopddepnphfmaaDoor.Pure Go.Proofs.YtcopddepnphfmaaDoor.Place Go.Proofs.YtcopddepnphfmaaDoor.Nums Go.Proofs.YtcopddepnphfmaaDoor.Range Go.Proofs.YtcopddepnphfmaaDoor.Tnum Go.Proofs.YtcopddepnphfmaaDoor.Tidx Go.Proofs.YtcopddepnphfmaaDoor.Tone

section
variable {tp : Nat} {A : Option Addr} {n c : Nat} {zs : List Int} {a : Nat} {w W : World}
theorem aft_pre {V : World} (o1 : Out [tp] w W) (h : After tp A n c zs a W V) : After tp A n c zs a w V := by
  obtain ⟨a2, l2, p2, t2, o2⟩ := h
  exact ⟨a2, l2, p2, t2, o1.trans o2⟩
theorem aft_drew (h : After tp A n c zs a w W) : After tp A n c zs a w W.drew := by
  obtain ⟨a1, l1, p1, t1, o1⟩ := h
  exact ⟨a1, l1, p1, ts_drew t1, ⟨o1.os, o1.tape, o1.output, o1.size, o1.block⟩⟩
/-- the next number, further on -/
theorem num_aft (h : After tp A n c zs a w W) (k : Nat) (hk : 0 < k) (hk2 : k ≤ 1000) :
    Calls Tryd.prog 52 #[.pointer (some ⟨tp, 0, none⟩), .int .i64 (k : Int)] W fun e V => ∃ p : Nat, p < k ∧ e = .returned (.int .i64 (p : Int)) ∧ After tp A n c zs a w V := by
  obtain ⟨a1, l1, p1, t1, o1⟩ := h
  refine (num_is tp A n c zs a1 k W hk hk2 t1).mono ?_
  rintro e V ⟨p, hp, he, haf⟩
  exact ⟨p, hp, he, aft_comp l1 p1 o1 haf⟩
theorem name_aft (h : After tp A n c zs a w W) :
    Calls Tryd.prog 53 #[.pointer (some ⟨tp, 0, none⟩)] W fun e V => ∃ x, x ∈ nameL ∧ e = .returned (.string (bs x)) ∧ After tp A n c zs a w V := by
  obtain ⟨a1, l1, p1, t1, o1⟩ := h
  refine (name_is tp A n c zs a1 W t1).mono ?_
  rintro e V ⟨x, hx, he, haf⟩
  exact ⟨x, hx, he, aft_comp l1 p1 o1 haf⟩
end
/-- one piece at depth d is a text of at most M bytes -/
def OneIs (d : Int) (M : Nat) : Prop := ∀ (tp : Nat) (A : Option Addr) (n c : Nat) (zs : List Int) (a : Nat) (w : World), TS tp A n c zs a w →
  Calls Tryd.prog 66 #[.pointer (some ⟨tp, 0, none⟩), .int .i64 d] w (Said M tp A n c zs a w)
theorem one_aft {tp : Nat} {A : Option Addr} {n c : Nat} {zs : List Int} {a : Nat} {w W : World} {d : Int} {M : Nat} (ho : OneIs d M) (h : After tp A n c zs a w W) :
    Calls Tryd.prog 66 #[.pointer (some ⟨tp, 0, none⟩), .int .i64 d] W (Said M tp A n c zs a w) := by
  obtain ⟨a1, l1, p1, t1, o1⟩ := h
  refine (ho tp A n c zs a1 W t1).mono ?_
  rintro e V ⟨s, hs, he, haf⟩
  exact ⟨s, hs, he, aft_comp l1 p1 o1 haf⟩

/-- what a text's call leaves: as Said, but with no number left nothing goes on -/
theorem sep_idx (p : Nat) (hp : p < 3) : ∃ x : List UInt8, x ∈ [[32], [], [32, 32]] ∧ x.length ≤ 2 ∧ ∀ W, (Instr.index 79 (.agg #[.string ⟨#[32]⟩, .string ⟨#[]⟩, .string ⟨#[32, 32]⟩]) (.int .i64 (p : Int))).run Tryd.prog W = .ok (.string (bs x)) W :=
  index_lit 79 3 Tryd.underlying79 [[32], [], [32, 32]] rfl 2 (by decide) p hp

set_option maxRecDepth 100000 in
set_option maxHeartbeats 4000000 in
theorem text_is (d : Int) (M : Nat) (hM : M ≤ 100000000000) (hM1 : 1 ≤ M) (ho : OneIs d M) (tp : Nat) (A : Option Addr) (n c : Nat) (zs : List Int) (a : Nat) (w : World) (h : TS tp A n c zs a w) :
    Calls Tryd.prog 54 #[.pointer (some ⟨tp, 0, none⟩), .int .i64 d] w (Said (2 * M + 2) tp A n c zs a w) := by
  have h0 := h.c0
  have h1 := h.c1
  by_cases ha : a < n
  · have HO := Lib.hid (ho tp A n c zs a w h)
    have HW := Lib.hid ho
    have hd : decide ((n : Int) ≤ (a : Int)) = false := decide_eq_false (by omega)
    have hd2 : decide (n ≤ a) = false := decide_eq_false (by omega)
    have HT := Lib.hid h
    clear h ho
    go_enter Tryd.func54, Tryd.ntmps54
    go_wp2_with fail
    go_quiet (fail)
    go_wp2_with fail
    refine (HW.out tp A n c zs a _ (HT.out.below (below_drew (Below.refl _ _) _))).mono ?_
    rintro e w1 ⟨S, hS, rfl, haf⟩
    have HA := Lib.hid (aft_pre (Out.of_below (below_drew (Below.refl _ w) nq)) haf)
    have HS := Lib.hid hS
    clear hS haf
    go_wp2_with fail
    refine (num_aft HA.out 4 (by omega) (by omega)).mono ?_
    rintro e w2 ⟨p, hp, rfl, haf⟩
    have HA2 := Lib.hid haf
    clear haf HA HT h0 h1 hd hd2
    by_cases h0 : p = 0
    · have hd : ((p : Int) == 0) = true := by simpa using h0
      clear h0 hp
      go_wp2_with fail
      go_upto_region 5 with fail
      go_region_with (first
        | (go_at_call 52
           refine (num_aft (by first | exact HA2.out | exact aft_drew HA2.out) 3 (by omega) (by omega)).mono ?_
           rintro e w3 ⟨q, hq, rfl, haf⟩
           clear HA2
           have HA2 := Lib.hid haf
           clear haf
           obtain ⟨x, hx, hxl, hix⟩ := sep_idx q hq
           have z3 : (bs x).size ≤ 2 := by rw [size_bs]; exact hxl
           have a1 : ∀ W, (Op.stringOp .add S (bs x)).run Tryd.prog W = .ok (.string (S ++ bs x)) W := fun W => cat _ _ W (by have := HS.out; omega)
           try have a2 : ∀ W, (Op.stringOp .add (S ++ bs x) Z).run Tryd.prog W = .ok (.string (S ++ bs x ++ Z)) W := fun W => cat _ _ W (by rw [ByteArray.size_append]; have := HS.out; have := HZ.out; omega)
           clear hx hxl hq)
        | (go_at_call 66
           refine (one_aft HW.out (by first | exact HA2.out | exact aft_drew HA2.out)).mono ?_
           rintro e w3 ⟨Z, hZ, rfl, haf⟩
           clear HA2
           have HA2 := Lib.hid haf
           clear haf
           have HZ := Lib.hid hZ
           try have a2 : ∀ W, (Op.stringOp .add (S ++ bs x) Z).run Tryd.prog W = .ok (.string (S ++ bs x ++ Z)) W := fun W => cat _ _ W (by rw [ByteArray.size_append]; have := HS.out; have := HZ.out; omega)
           clear hZ))
      all_goals
        go_wp2
        go_ret
        refine ⟨_, ?_, rfl, by first | exact HA2.out | exact aft_drew HA2.out⟩
        rw [ByteArray.size_append, ByteArray.size_append]
        have := HS.out
        have := HZ.out
        omega
    · have hd : ((p : Int) == 0) = false := by simpa using h0
      clear h0 hp
      go_wp2
      go_ret
      refine ⟨S, ?_, rfl, HA2.out⟩
      have := HS.out
      omega
  · have hd : decide ((n : Int) ≤ (a : Int)) = true := decide_eq_true (by omega)
    have hd2 : decide (n ≤ a) = true := decide_eq_true (by omega)
    have HT := Lib.hid h
    clear h
    go_enter Tryd.func54, Tryd.ntmps54
    go_wp2_with fail
    go_quiet (fail)
    go_wp2
    go_ret
    refine ⟨_, ?_, rfl, a, Nat.le_refl _, fun h => absurd h ha, ?_, ?_⟩
    · show 1 ≤ _; omega
    · exact HT.out.below (below_drew (Below.refl _ _) _)
    · exact Out.of_below (below_drew (Below.refl _ _) _)

end Go.Proofs.YtcopddepnphfmaaDoor.Ttext
