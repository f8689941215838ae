/- The document's ends: where a bracket is closed. -/
import Derived.WalkKit
import Derived.WalkSpells
import Derived.IntWalk
import Derived.Lib.Hide
import Derived.Deep.DeepCutAuto
import Derived.Test.YtfenlhbkdfmneaaProg
import Derived.Test.YtfenlhbkdfmneaaSpl
namespace Go.Proofs.Ytfenlhbkdfmneaa.Qends
open Go.RowKit Go.Proofs.Ytfenlhbkdfmneaa.Spl
open Go.Proofs.Ytfenlhbkdfmneaa.Pure (bs)

theorem u8_eq (c d : UInt8) : (((c.toNat : Nat) : Int) == ((d.toNat : Nat) : Int)) = decide (c = d) := by
  rw [Bool.eq_iff_iff, beq_iff_eq, decide_eq_true_iff, ← UInt8.toNat_inj]; omega
/-- from here on, as far as here -/
def endI (o c : UInt8) (d : Nat) (s : T) (k : Nat) : Int := match endsP o c d (s.drop k) with
  | none => -1
  | some e => ((k + e : Nat) : Int)
theorem endI_end {o c : UInt8} {d : Nat} {s : T} {k : Nat} (h : s.length ≤ k) : endI o c d s k = -1 := by
  unfold endI; rw [List.drop_of_length_le h]; rfl
theorem endI_step {o c : UInt8} {d d' : Nat} {s : T} {k : Nat} (h : endsP o c d (s.drop k) = (endsP o c d' (s.drop (k + 1))).map (· + 1)) : endI o c d s k = endI o c d' s (k + 1) := by
  unfold endI
  rw [h]
  cases endsP o c d' (s.drop (k + 1)) with
  | none => rfl
  | some e =>
    show ((k + (e + 1) : Nat) : Int) = ((k + 1 + e : Nat) : Int)
    omega
theorem drop_at {s : T} {k : Nat} (h : k < s.length) : s.drop k = s[k] :: s.drop (k + 1) := List.drop_eq_getElem_cons h

set_option maxHeartbeats 2000000 in
theorem ends_is (s : T) (at0 : Nat) (o c : UInt8) (w : World) (hne : c ≠ o) (hs : s.length ≤ 1000000) (ha : at0 ≤ s.length) :
    Calls Try.prog 33 #[.string (bs s), .int .i64 at0, .int .u8 ((o.toNat : Nat) : Int), .int .u8 ((c.toNat : Nat) : Int)] w fun e w' => e = .returned (.int .i64 (endI o c 1 s at0)) ∧ w = w' := by
  have hsz : (bs s).size = s.length := Pure.size_bs s
  have HS := Lib.hid hsz
  go_enter Try.func33, Try.ntmps33
  go_wp2_with fail
  go_loop [9, 10] (fun dv i => ∃ d k : Nat, 1 ≤ d ∧ d ≤ k + 1 ∧ k ≤ s.length ∧ dv = .int .i64 d ∧ i = .int .i64 k ∧ Hid (endI o c d s k = endI o c 1 s at0)) (fun _ i => s.length - (intOf i).toNat)
  case atStart => exact ⟨1, at0, Nat.le_refl _, by omega, ha, rfl, rfl, rfl⟩
  case round =>
    obtain ⟨d, k, hd, hdk, hk, rfl, rfl, HE⟩ := hrel
    by_cases hlt : k < s.length
    · have hb : ((((bs s)[k]'(by rw [hsz]; exact hlt)).toNat : Nat) : Int) = (((s[k]).toNat : Nat) : Int) := rfl
      have e1 := u8_eq s[k] o
      have e2 := u8_eq s[k] c
      have hdr := drop_at hlt
      by_cases h1 : s[k] = o
      · rw [decide_eq_true h1] at e1
        have HN : Hid (endI o c (d + 1) s (k + 1) = endI o c 1 s at0) := by
          show _ = _
          rw [← HE.out]
          exact (endI_step (by rw [hdr, endsP, if_pos h1])).symm
        generalize s[k] = x at *
        clear hdr h1
        go_wp2_with fail
        go_round
        case rel => exact ⟨d + 1, k + 1, by omega, by omega, by omega, by go_num, by go_num, HN⟩
        case measure => simp [intOf]; omega
      · rw [decide_eq_false h1] at e1
        by_cases h2 : s[k] = c
        · rw [decide_eq_true h2] at e2
          by_cases h3 : d = 1
          · subst h3
            have HN : Hid (endI o c 1 s at0 = (k : Int)) := by
              show _ = _
              rw [← HE.out]
              unfold endI
              rw [hdr, h2, endsP, if_neg hne, if_pos rfl, if_pos (Nat.le_refl _)]
              rfl
            generalize s[k] = x at *
            clear hdr h1 h2
            go_wp2
            go_ret
            rw [HN.out]
            exact ⟨rfl, rfl⟩
          · have HN : Hid (endI o c (d - 1) s (k + 1) = endI o c 1 s at0) := by
              show _ = _
              rw [← HE.out]
              exact (endI_step (by rw [hdr, h2, endsP, if_neg hne, if_pos rfl, if_neg (by omega)])).symm
            have hd1 : (((d : Nat) : Int) - 1 == 0) = false := by rw [beq_eq_false_iff_ne]; omega
            have hd2 : ((d : Nat) : Int) - 1 = ((d - 1 : Nat) : Int) := by omega
            generalize s[k] = x at *
            clear hdr h1 h2
            go_wp2_with fail
            go_round
            case rel => exact ⟨d - 1, k + 1, by omega, by omega, by omega, by first | rfl | (rw [hd2]) | go_num, by go_num, HN⟩
            case measure => simp [intOf]; omega
        · rw [decide_eq_false h2] at e2
          have HN : Hid (endI o c d s (k + 1) = endI o c 1 s at0) := by
            show _ = _
            rw [← HE.out]
            exact (endI_step (by rw [hdr, endsP, if_neg h1, if_neg h2])).symm
          generalize s[k] = x at *
          clear hdr h1 h2
          go_wp2_with fail
          go_round
          case rel => exact ⟨d, k + 1, hd, by omega, by omega, rfl, by go_num, HN⟩
          case measure => simp [intOf]; omega
    · have HN : Hid (endI o c 1 s at0 = -1) := by
        show _ = _
        rw [← HE.out, endI_end (by omega)]
      go_wp2
      go_ret
      rw [HN.out]
      exact ⟨rfl, rfl⟩

end Go.Proofs.Ytfenlhbkdfmneaa.Qends
