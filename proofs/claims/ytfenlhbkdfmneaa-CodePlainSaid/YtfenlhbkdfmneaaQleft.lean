/- The document's Left: without the blanks ahead. -/
import Derived.Test.YtfenlhbkdfmneaaFrs
namespace Go.Proofs.Ytfenlhbkdfmneaa.Qleft
open Go.RowKit Go.Proofs.Ytfenlhbkdfmneaa.Pure Go.Proofs.Ytfenlhbkdfmneaa.Frs
open Go.Proofs.Ytfenlhbkdfmneaa.Strs (ret_str)

def strLen : Value → Nat
  | .string s => s.size
  | _ => 0

set_option maxHeartbeats 800000 in
/-- the document's Left -/
theorem refLeft_any (s : ByteArray) (w : World) (_hs : s.size ≤ maxLen) :
    Calls Try.prog 50 #[.string s] w fun e w' => e = .returned (.string (leftB s)) ∧ w = w' := by
  go_enter Try.func50, Try.ntmps50
  go_wp2
  go_loop [0] (fun v => ∃ u : ByteArray, u.size ≤ s.size ∧ v = .string u ∧ Hid (leftB u = leftB s)) (fun v => strLen v)
  case atStart => exact ⟨s, Nat.le_refl _, rfl, rfl⟩
  case round =>
    obtain ⟨u, hk, rfl, hinv⟩ := hrel
    by_cases hlt : 0 < u.size
    · cases hb : isBl u[0] with
      | true =>
        have HS := Lib.hid (leftB_tail u hlt hb)
        go_wp2_with (go_at_call 63; refine (refBlank_num _ true _ (isBl_mk hb)).mono ?_; rintro e w' ⟨rfl, rfl⟩)
        go_round
        case rel => exact ⟨u.extract 1 u.size, by rw [ByteArray.size_extract]; omega, rfl, HS.out.trans hinv.out⟩
        case measure => simp [strLen]; omega
      | false =>
        have HS := Lib.hid ((leftB_stop u hlt hb).symm.trans hinv.out)
        go_wp2_with (go_at_call 63; refine (refBlank_num _ false _ (isBl_mk hb)).mono ?_; rintro e w' ⟨rfl, rfl⟩)
        go_ret
        exact ⟨ret_str HS.out, rfl⟩
    · have HS := Lib.hid ((leftB_end u (by omega)).symm.trans hinv.out)
      go_wp2
      go_ret
      exact ⟨ret_str HS.out, rfl⟩


end Go.Proofs.Ytfenlhbkdfmneaa.Qleft
