/- What the program's Magic and Plain answer. -/
import Derived.Test.YtgfpdaaofhanoaaGreatDoorGmatch
namespace Go.Proofs.YtgfpdaaofhanoaaGreatDoor.Gmagic
open Go.RowKit Go.Proofs.YtgfpdaaofhanoaaGreatDoor.Gset Go.Proofs.YtgfpdaaofhanoaaGreatDoor.Gops Go.Proofs.YtgfpdaaofhanoaaGreatDoor.Glb Go.Proofs.YtgfpdaaofhanoaaGreatDoor.Gread Go.Proofs.YtgfpdaaofhanoaaGreatDoor.Gnext Go.Proofs.YtgfpdaaofhanoaaGreatDoor.Gpiece Go.Proofs.YtgfpdaaofhanoaaGreatDoor.Gnextis Go.Proofs.YtgfpdaaofhanoaaGreatDoor.Gfit Go.Proofs.YtgfpdaaofhanoaaGreatDoor.Gmatch

theorem field_wild (a b c d e f : Value) (W : World) : (Instr.field 118 (.agg #[a, b, c, d, e, f]) 0).run Tryz.prog W = .ok a W := by kernel_rfl
def magicL (p : List UInt8) : Bool := (pieces p).any (·.wild)

set_option maxRecDepth 100000 in
set_option maxHeartbeats 2000000 in
/-- the program's Magic -/
theorem magic_is (p : ByteArray) (w : World) (hp : p.size ≤ 1000000) :
    Calls Tryz.prog 47 #[.string p] w fun e W' => e = .returned (.bool (magicL p.data.toList)) ∧ Below w.heap.size w W' := by
  have hfd := field_wild
  go_enter Tryz.func47, Tryz.ntmps47
  go_wp2_with fail
  go_loopg [3] (p.size + 1) (fun g s3 wx => ∃ (gb n : Nat) (u : ByteArray) (o : Bool), s3 = .pointer (some ⟨gb, 0, none⟩) ∧ u.size < g ∧ u.size ≤ n ∧ u.size ≤ p.size ∧ Hid (w.heap.size ≤ gb ∧ RdAt gb u o wx ∧ Below w.heap.size w wx ∧ (pcs n u.data.toList o).any (·.wild) = magicL p.data.toList))
  case atStart =>
    refine ⟨w.heap.size, p.size, p, false, rfl, by omega, Nat.le_refl _, Nat.le_refl _, ⟨Nat.le_refl _, heap_alloc_new _ _, (Below.refl _ _).alloc (Nat.le_refl _) _, ?_⟩⟩
    rw [magicL, pieces, len_data]
  case round =>
    obtain ⟨gb, n, u, o, rfl, hug, hun, hqs, H⟩ := hrel
    obtain ⟨g, rfl⟩ : ∃ g, gk = g + 1 := ⟨gk - 1, by omega⟩
    have c0 := H.out.2.1.rest
    by_cases hz : u.size = 0
    · have e1 := empty_of u hz
      have HP : Hid (false = magicL p.data.toList) := by have := H.out.2.2.2; rw [pcs_nil hz] at this; exact this
      go_wp2_with fail
      go_ret
      exact ⟨ret_bool HP.out, H.out.2.2.1⟩
    · have hz : 0 < u.size := by omega
      have e1 := full_of u hz
      have HN := Lib.hid (fun W hW => next_is gb u o W hW hz (by omega))
      have hrl : (bs (nextR u.data.toList o)).size < u.size := by
        rw [size_bs, Lib.size_eq]
        exact nextR_lt (by intro e; rw [Lib.size_eq, e] at hz; exact absurd hz (Nat.lt_irrefl _)) o
      have HP : Hid (((nextP u.data.toList o).wild || (pcs (n - 1) (nextR u.data.toList o) (nextO u.data.toList o)).any (·.wild)) = magicL p.data.toList) := by
        have := H.out.2.2.2; rw [pcs_step hun hz, List.any_cons] at this; exact this
      go_wp2_with fail
      refine (HN.out _ H.out.2.1).mono ?_
      rintro e w1 ⟨rfl, hR1, hO1⟩
      clear HN c0
      generalize nextP u.data.toList o = x at HP
      have hr2 : (bs (nextR u.data.toList o)).data.toList = nextR u.data.toList o := rfl
      rw [← hr2] at HP
      clear hr2
      generalize bs (nextR u.data.toList o) = u1 at HP hR1 hrl
      generalize nextO u.data.toList o = o1 at HP hR1
      have B1 := Lib.hid (hO1.below H.out.2.2.1 H.out.1 H.out.2.2.1.size)
      have d0 := hR1.rest
      have d1 := hR1.flag
      have hge := H.out.1
      clear hO1 hR1
      unfold pcV
      cases hw : x.wild with
      | true =>
        rw [hw] at HP
        go_wp2_with fail
        go_ret
        exact ⟨ret_bool HP.out, B1.out⟩
      | false =>
        rw [hw] at HP
        go_wp2_with fail
        go_roundg g
        case measure => omega
        case rel => exact ⟨w1.heap.size, n - 1, u1, o1, rfl, by omega, by omega, by omega, ⟨B1.out.size, heap_alloc_new _ _, B1.out.alloc B1.out.size _, HP.out⟩⟩
end Go.Proofs.YtgfpdaaofhanoaaGreatDoor.Gmagic
