/- What the program's Plain answers; the document's example. -/
import Derived.Test.YtgfpdaaofhanoaaGreatDoorGmagic
import Derived.Test.YtgfpdaaofhanoaaGreatDoorGbuild
namespace Go.Proofs.YtgfpdaaofhanoaaGreatDoor.Gplain
open Go.RowKit Go.Proofs.YtgfpdaaofhanoaaGreatDoor.Gset Go.Proofs.YtgfpdaaofhanoaaGreatDoor.Gops Go.Proofs.YtgfpdaaofhanoaaGreatDoor.Glb Go.Proofs.YtgfpdaaofhanoaaGreatDoor.Gread Go.Proofs.YtgfpdaaofhanoaaGreatDoor.Gnext Go.Proofs.YtgfpdaaofhanoaaGreatDoor.Gpiece Go.Proofs.YtgfpdaaofhanoaaGreatDoor.Gnextis Go.Proofs.YtgfpdaaofhanoaaGreatDoor.Gfit Go.Proofs.YtgfpdaaofhanoaaGreatDoor.Gmatch Go.Proofs.YtgfpdaaofhanoaaGreatDoor.Gmagic Go.Proofs.YtgfpdaaofhanoaaGreatDoor.Gbuild

theorem plain_nil {n : Nat} {u : ByteArray} (hz : u.size = 0) : plain n u.data.toList = [] := by
  have : u.data.toList = [] := List.eq_nil_of_length_eq_zero (by rw [← Lib.size_eq]; exact hz)
  rw [this]
  cases n <;> rfl
theorem plain_step {n : Nat} {u : ByteArray} (hn : u.size ≤ n) (hz : 0 < u.size) : plain n u.data.toList = unqC u.data.toList :: plain (n - 1) (unqR u.data.toList) := by
  obtain ⟨m, rfl⟩ : ∃ m, n = m + 1 := ⟨n - 1, by omega⟩
  rw [head_of u hz, plain]
  rfl
theorem new_holds (w : World) : Holds w.heap.size w.heap.size [] (w.alloc (.cells #[.pointer none, .slice none 0 0] 104)) :=
  .inl ⟨Nat.le_refl _, _, heap_alloc_new w _, World.ownsRow_nil _ _ _ _, by simp [Value.ownBlock]⟩
theorem holds_drew {B b : Nat} {l : List UInt8} {w : World} (h : Holds B b l w) : Holds B b l w.drew := h

set_option maxRecDepth 100000 in
set_option maxHeartbeats 2000000 in
/-- the program's Plain -/
theorem plain_is (p : ByteArray) (w : World) (hp : p.size ≤ 1000000) :
    Calls Tryz.prog 48 #[.string p] w fun e W' => e = .returned (.string (bs (plainL p.data.toList))) ∧ Below w.heap.size w W' := by
  go_enter Tryz.func48, Tryz.ntmps48
  go_wp2_with fail
  go_loopg [0] (p.size + 1) (fun g s0 wx => ∃ (n : Nat) (u : ByteArray) (acc : List UInt8), s0 = .string u ∧ u.size < g ∧ u.size ≤ n ∧ acc.length + u.size ≤ p.size ∧ Hid (Holds w.heap.size w.heap.size acc wx ∧ Below w.heap.size w wx ∧ acc ++ plain n u.data.toList = plainL p.data.toList))
  case atStart =>
    refine ⟨p.size, p, [], rfl, by omega, Nat.le_refl _, by simp, ⟨new_holds w, (Below.refl _ _).alloc (Nat.le_refl _) _, ?_⟩⟩
    rw [plainL, len_data]; rfl
  case round =>
    obtain ⟨n, u, acc, rfl, hug, hun, hqs, H⟩ := hrel
    obtain ⟨g, rfl⟩ : ∃ g, gk = g + 1 := ⟨gk - 1, by omega⟩
    by_cases hz : u.size = 0
    · have e1 := empty_of u hz
      have HP : Hid (acc = plainL p.data.toList) := by have := H.out.2.2; rw [plain_nil hz, List.append_nil] at this; exact this
      have HT := Lib.hid (text_is _ _ acc wr H.out.1 H.out.2.1.size)
      go_wp2_with fail
      refine HT.out.mono ?_
      rintro e w1 ⟨rfl, hb1⟩
      go_wp2_with fail
      go_ret
      exact ⟨by rw [← HP.out]; rfl, H.out.2.1.trans hb1⟩
    · have hz : 0 < u.size := by omega
      have e1 := full_of u hz
      have HP : Hid (acc ++ unqC u.data.toList :: plain (n - 1) (unqR u.data.toList) = plainL p.data.toList) := by
        have := H.out.2.2; rw [plain_step hun hz] at this; exact this
      have hrl : (bs (unqR u.data.toList)).size < u.size := by
        rw [size_bs, Lib.size_eq]
        exact unqR_lt (by intro e; rw [Lib.size_eq, e] at hz; exact absurd hz (Nat.lt_irrefl _))
      go_wp2_with fail
      refine (unq_is u _ hz (by unfold maxLen; omega)).mono ?_
      rintro e w' ⟨rfl, rfl⟩
      generalize unqC u.data.toList = c at HP
      have hr2 : (bs (unqR u.data.toList)).data.toList = unqR u.data.toList := rfl
      rw [← hr2] at HP
      clear hr2
      generalize bs (unqR u.data.toList) = u1 at HP hrl
      have HW := Lib.hid (write_byte w.heap.size w.heap.size acc c _ wr.drew rfl (holds_drew H.out.1) (by omega) H.out.2.1.size)
      go_wp2_with fail
      refine HW.out.mono ?_
      rintro e w1 ⟨rfl, hh1, hb1⟩
      have H1 := Lib.hid hh1
      have B1 := Lib.hid ((below_drewN H.out.2.1 1).trans hb1)
      clear hh1 hb1 HW
      go_wp2_with fail
      go_roundg g
      case measure => omega
      case rel => exact ⟨n - 1, u1, acc ++ [c], rfl, by omega, by omega, by simp; omega, ⟨H1.out, B1.out, by rw [List.append_assoc]; exact HP.out⟩⟩

/-! ### at given texts -/
theorem m_lit (p s : ByteArray) (b : Bool) (w : World) (hp : p.size ≤ 1000000) (hs : s.size ≤ 1000000) (h : matchL p.data.toList s.data.toList = b) :
    Calls Tryz.prog 89 #[.string p, .string s] w fun e W' => e = .returned (.bool b) ∧ Below w.heap.size w W' :=
  (match_is p s w hp hs).mono fun _ _ ⟨he, hb⟩ => ⟨he.trans (ret_bool h), hb⟩
theorem g_lit (p : ByteArray) (b : Bool) (w : World) (hp : p.size ≤ 1000000) (h : magicL p.data.toList = b) :
    Calls Tryz.prog 47 #[.string p] w fun e W' => e = .returned (.bool b) ∧ Below w.heap.size w W' :=
  (magic_is p w hp).mono fun _ _ ⟨he, hb⟩ => ⟨he.trans (ret_bool h), hb⟩
theorem p_lit (p q : ByteArray) (w : World) (hp : p.size ≤ 1000000) (h : bs (plainL p.data.toList) = q) :
    Calls Tryz.prog 48 #[.string p] w fun e W' => e = .returned (.string q) ∧ Below w.heap.size w W' :=
  (plain_is p w hp).mono fun _ _ ⟨he, hb⟩ => ⟨he.trans (by rw [h]), hb⟩
end Go.Proofs.YtgfpdaaofhanoaaGreatDoor.Gplain
