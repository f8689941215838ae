/- What the library's text builder does in this program: its check, how a byte is written, its text. -/
import Derived.WalkKit
import Derived.WalkSpells
import Derived.OwnWalk
import Derived.IntWalk
import Derived.Below
import Derived.Lib.Hide
import Derived.Lib.Builder
import Derived.Lib.AppendStr
import Derived.Laws.Externs
import Derived.Maps.AppendAt
import Derived.Test.YtghfmbmdfojapaaGreatDoorShelf
import Derived.Test.YtghfmbmdfojapaaGreatDoorGsetJ
import Derived.Test.YtghfmbmdfojapaaGreatDoorGmatchJ
namespace Go.Proofs.YtghfmbmdfojapaaGreatDoor.Gbuild
open Go.RowKit Go.Proofs.YtghfmbmdfojapaaGreatDoor.Glb

theorem infoByte : (Tryz.prog.info? 5).map (fun i => (i.zero, i.size, i.bytes)) = some (some (.int .u8 0), 1, 1) := by kernel_rfl
theorem sizeBuilder : (Tryz.prog.info? 97).map (·.size) = some 2 := by kernel_rfl
theorem liesBuilder : liesAt Tryz.prog Tryz.prog.depth 97 (2 / Tryz.prog.cellsOf 97) 0 97 1 = true := by kernel_rfl

/-- a builder of this call's own (from B on) in block b that holds the bytes l -/
def Holds (B b : Nat) (l : List UInt8) (w : World) : Prop := Lib.IsBuilder 97 5 B b (Lib.byteCells l) w

set_option maxRecDepth 100000 in
set_option maxHeartbeats 400000 in
/-- the check, of a builder that was written already -/
theorem check_used (b : Nat) (w : World) (h0 : w.cell? ⟨b, 0, none⟩ = some (.pointer (some ⟨b, 0, none⟩))) :
    Calls Tryz.prog 72 #[.pointer (some ⟨b, 0, none⟩)] w fun e w' => e = .returned (.tuple #[]) ∧ w' = w := by
  obtain ⟨j, hj, _⟩ := Option.map_eq_some_iff.1 sizeBuilder
  go_enter Tryz.func72, Tryz.ntmps72
  go_wp2
  rw [Lib.run_neq_ptr_same w _ Tryz.underlying95 hj]
  go_wp2
  go_end0
  exact ⟨rfl, rfl⟩

set_option maxRecDepth 100000 in
set_option maxHeartbeats 400000 in
/-- the check, of a new builder: it keeps its own address -/
theorem check_new (b : Nat) (w : World) (h0 : w.cell? ⟨b, 0, none⟩ = some (.pointer none)) (hsh : w.shape? b = some (97, 2)) (hfz : w.frozen? ⟨b, 0, none⟩ = false) :
    Calls Tryz.prog 72 #[.pointer (some ⟨b, 0, none⟩)] w fun e w' => e = .returned (.tuple #[]) ∧ w' = w.setCell ⟨b, 0, none⟩ (.pointer (some ⟨b, 0, none⟩)) := by
  obtain ⟨j, hj, hjs⟩ := Option.map_eq_some_iff.1 sizeBuilder
  go_enter Tryz.func72, Tryz.ntmps72
  go_wp2
  rw [Lib.run_to_unsafe w ⟨b, 0, none⟩ Tryz.underlying95 Tryz.underlying158 hj (by rw [hjs]; decide) hsh (Nat.zero_lt_succ 1)]
  simp only [Result.andThen]
  rw [Oper.upon_value]
  go_wp2
  rw [run_callFunc_extern Tryz.func98 (by kernel_rfl) (by kernel_rfl) (by kernel_rfl) (e := Extern.AbiNoEscape.same) (by kernel_rfl), Lib.run_noEscape]
  simp only [Result.andThen]
  rw [Oper.upon_value]
  go_wp2
  rw [Lib.run_from_unsafe w ⟨b, 0, none⟩ Tryz.underlying158 Tryz.underlying95 hj hsh liesBuilder]
  simp only [Result.andThen]
  rw [Oper.upon_value]
  go_wp2
  go_end0
  exact ⟨rfl, rfl⟩

theorem check_any (B b : Nat) (l : List UInt8) (w : World) (h : Holds B b l w) :
    Calls Tryz.prog 72 #[.pointer (some ⟨b, 0, none⟩)] w fun e w' => e = .returned (.tuple #[]) ∧ Lib.BuilderAt 97 5 B b (.pointer (some ⟨b, 0, none⟩)) (Lib.byteCells l) w' ∧ Below B w w' := by
  rcases h with h | h
  · refine (check_new b w h.cell0 h.shape h.frozen0).mono ?_
    rintro e w' ⟨rfl, rfl⟩
    exact ⟨rfl, h.used _, (Below.refl B w).setCell (p := ⟨b, 0, none⟩) h.1 _⟩
  · refine (check_used b w h.cell0).mono ?_
    rintro e w' ⟨rfl, rfl⟩
    exact ⟨rfl, h, Below.refl B _⟩

theorem heap_lt {w : World} {b : Nat} {o : Obj} (h : w.heap[b]? = some o) : b < w.heap.size := (Array.getElem?_eq_some_iff.1 h).1

set_option maxRecDepth 100000 in
set_option maxRecDepth 100000 in
set_option maxHeartbeats 1000000 in
/-- a byte is written -/
theorem write_byte (B b : Nat) (l : List UInt8) (c : UInt8) (n : Int) (w : World) (hc : ((c.toNat : Nat) : Int) = n) (h : Holds B b l w) (hlen : l.length + 1 ≤ 140737488355328) (hBw : B ≤ w.heap.size) :
    Calls Tryz.prog 60 #[.pointer (some ⟨b, 0, none⟩), .int .u8 n] w fun e w' => e = .returned .nilIface ∧ Holds B b (l ++ [c]) w' ∧ Below B w w' := by
  obtain ⟨i0, hi, hz0, hz1, hz2⟩ := info_parts infoByte
  have hcl : (Lib.byteCells l).length = l.length := List.length_map _
  have HC := Lib.hid hcl
  have HN := Lib.hid hc
  clear hcl hc
  go_enter Tryz.func60, Tryz.ntmps60
  go_wp2_with fail
  refine (check_any B b l _ h).mono ?_
  rintro e w1 ⟨rfl, ⟨hB, v, hbk, hown, hne⟩, hb1⟩
  have hs1 := hb1.size
  have c1 : w1.cell? ⟨b, 1, none⟩ = some v := by rw [Lib.cell_of_heap hbk]; rfl
  go_wp2_with (at_builtin; refine wpList_append_own _ rfl _ _ 92 rfl B 5 i0 (.int .u8 0) 1 1 Tryz.underlying92 hi hz0 hz1 hz2 rfl (by decide) _ _ _ rfl (hown.alloc _) ⟨w1.heap.size, 0, none⟩ 1 1 [.int .u8 n] rfl rfl (cell_one_new _ _ _) (by simp [Value.oneCell']) ?c3 ?c4 ?c5 ?_)
  case c3 => have := HC.out; unfold maxLen; omega
  case c4 => have := HC.out; omega
  case c5 => simp; omega
  intro v' w2 hown' hgrow _
  have hlt := heap_lt hbk
  have hb2 : w2.heap[b]? = some (.cells #[.pointer (some ⟨b, 0, none⟩), v] 97 (0, 0)) := by
    rw [hgrow.block b (by simp; omega) (fun e => hne e.symm), Lib.alloc_old w1 _ b hlt]
    exact hbk
  have d0 : w2.cell? ⟨b, 0, none⟩ = some (.pointer (some ⟨b, 0, none⟩)) := by rw [Lib.cell_of_heap hb2]; rfl
  have d1 : w2.cell? ⟨b, 1, none⟩ = some v := by rw [Lib.cell_of_heap hb2]; rfl
  have f1 : w2.frozen? ⟨b, 1, none⟩ = false := Lib.frozen_of_heap hb2 1
  obtain ⟨ao, n', cap, rfl⟩ : ∃ ao n' cap, v' = .slice ao n' cap := by
    rcases hown'.2 with ⟨hv, _⟩ | ⟨g, cap, cur, hv, _⟩
    · exact ⟨_, _, _, hv⟩
    · exact ⟨_, _, _, hv⟩
  go_wp2
  go_ret
  refine ⟨rfl, .inr ?_, ?_⟩
  · exact Lib.BuilderAt.put hB hb2 (bs' := Lib.byteCells (l ++ [c])) (by
      have e1 : Lib.byteCells (l ++ [c]) = Lib.byteCells l ++ [.int .u8 n] := by rw [← HN.out]; exact List.map_append
      rw [e1, List.length_append]
      exact hown') (by decide)
  · exact ((hb1.alloc (by omega) _).grown hgrow (by simp; omega) (fun k hk => (hown.lt k hk).1)).setCell (p := ⟨b, 1, none⟩) hB _

/-- its text -/
theorem text_is (B b : Nat) (l : List UInt8) (w : World) (h : Holds B b l w) (hBw : B ≤ w.heap.size) :
    Calls Tryz.prog 56 #[.pointer (some ⟨b, 0, none⟩)] w fun e w' => e = .returned (.string (bs l)) ∧ Below B w w' :=
  Tryz.Builder_String_any B b l w h hBw

end Go.Proofs.YtghfmbmdfojapaaGreatDoor.Gbuild

/- What the program's Plain answers; the document's example. -/
namespace Go.Proofs.YtghfmbmdfojapaaGreatDoor.Gplain
open Go.RowKit Go.Proofs.YtghfmbmdfojapaaGreatDoor.Gset Go.Proofs.YtghfmbmdfojapaaGreatDoor.Gops Go.Proofs.YtghfmbmdfojapaaGreatDoor.Glb Go.Proofs.YtghfmbmdfojapaaGreatDoor.Gread Go.Proofs.YtghfmbmdfojapaaGreatDoor.Gnext Go.Proofs.YtghfmbmdfojapaaGreatDoor.Gpiece Go.Proofs.YtghfmbmdfojapaaGreatDoor.Gnextis Go.Proofs.YtghfmbmdfojapaaGreatDoor.Gfit Go.Proofs.YtghfmbmdfojapaaGreatDoor.Gmatch Go.Proofs.YtghfmbmdfojapaaGreatDoor.Gmagic Go.Proofs.YtghfmbmdfojapaaGreatDoor.Gbuild

theorem plain_nil {n : Nat} {u : ByteArray} (hz : u.size = 0) : plain n u.data.toList = [] := by
  have : u.data.toList = [] := List.eq_nil_of_length_eq_zero (by rw [← Lib.size_eq]; exact hz)
  rw [this]
  cases n <;> rfl
theorem plain_step {n : Nat} {u : ByteArray} (hn : u.size ≤ n) (hz : 0 < u.size) : plain n u.data.toList = unqC u.data.toList :: plain (n - 1) (unqR u.data.toList) := by
  obtain ⟨m, rfl⟩ : ∃ m, n = m + 1 := ⟨n - 1, by omega⟩
  rw [head_of u hz, plain]
  rfl
theorem new_holds (w : World) : Holds w.heap.size w.heap.size [] (w.alloc (.cells #[.pointer none, .slice none 0 0] 97)) :=
  .inl ⟨Nat.le_refl _, _, heap_alloc_new w _, World.ownsRow_nil _ _ _ _, by simp [Value.ownBlock]⟩
theorem holds_drew {B b : Nat} {l : List UInt8} {w : World} (h : Holds B b l w) : Holds B b l w.drew := h

set_option maxRecDepth 100000 in
set_option maxHeartbeats 2000000 in
/-- the program's Plain -/
theorem plain_is (p : ByteArray) (w : World) (hp : p.size ≤ 1000000) :
    Calls Tryz.prog 42 #[.string p] w fun e W' => e = .returned (.string (bs (plainL p.data.toList))) ∧ Below w.heap.size w W' := by
  go_enter Tryz.func42, Tryz.ntmps42
  go_wp2_with fail
  go_loopg [0] (p.size + 1) (fun g s0 wx => ∃ (n : Nat) (u : ByteArray) (acc : List UInt8), s0 = .string u ∧ u.size < g ∧ u.size ≤ n ∧ acc.length + u.size ≤ p.size ∧ Hid (Holds w.heap.size w.heap.size acc wx ∧ Below w.heap.size w wx ∧ acc ++ plain n u.data.toList = plainL p.data.toList))
  case atStart =>
    refine ⟨p.size, p, [], rfl, by omega, Nat.le_refl _, by simp, ⟨new_holds w, (Below.refl _ _).alloc (Nat.le_refl _) _, ?_⟩⟩
    rw [plainL, len_data]; rfl
  case round =>
    obtain ⟨n, u, acc, rfl, hug, hun, hqs, H⟩ := hrel
    obtain ⟨g, rfl⟩ : ∃ g, gk = g + 1 := ⟨gk - 1, by omega⟩
    by_cases hz : u.size = 0
    · have e1 := empty_of u hz
      have HP : Hid (acc = plainL p.data.toList) := by have := H.out.2.2; rw [plain_nil hz, List.append_nil] at this; exact this
      have HT := Lib.hid (text_is _ _ acc wr H.out.1 H.out.2.1.size)
      go_wp2_with fail
      refine HT.out.mono ?_
      rintro e w1 ⟨rfl, hb1⟩
      go_wp2_with fail
      go_ret
      exact ⟨by rw [← HP.out]; rfl, H.out.2.1.trans hb1⟩
    · have hz : 0 < u.size := by omega
      have e1 := full_of u hz
      have HP : Hid (acc ++ unqC u.data.toList :: plain (n - 1) (unqR u.data.toList) = plainL p.data.toList) := by
        have := H.out.2.2; rw [plain_step hun hz] at this; exact this
      have hrl : (bs (unqR u.data.toList)).size < u.size := by
        rw [size_bs, Lib.size_eq]
        exact unqR_lt (by intro e; rw [Lib.size_eq, e] at hz; exact absurd hz (Nat.lt_irrefl _))
      go_wp2_with fail
      refine (unq_is u _ hz (by unfold maxLen; omega)).mono ?_
      rintro e w' ⟨rfl, rfl⟩
      generalize unqC u.data.toList = c at HP
      have hr2 : (bs (unqR u.data.toList)).data.toList = unqR u.data.toList := rfl
      rw [← hr2] at HP
      clear hr2
      generalize bs (unqR u.data.toList) = u1 at HP hrl
      have HW := Lib.hid (write_byte w.heap.size w.heap.size acc c _ wr.drew rfl (holds_drew H.out.1) (by omega) H.out.2.1.size)
      go_wp2_with fail
      refine HW.out.mono ?_
      rintro e w1 ⟨rfl, hh1, hb1⟩
      have H1 := Lib.hid hh1
      have B1 := Lib.hid ((below_drewN H.out.2.1 1).trans hb1)
      clear hh1 hb1 HW
      go_wp2_with fail
      go_roundg g
      case measure => omega
      case rel => exact ⟨n - 1, u1, acc ++ [c], rfl, by omega, by omega, by simp; omega, ⟨H1.out, B1.out, by rw [List.append_assoc]; exact HP.out⟩⟩

/-! ### at given texts -/
theorem m_lit (p s : ByteArray) (b : Bool) (w : World) (hp : p.size ≤ 1000000) (hs : s.size ≤ 1000000) (h : matchL p.data.toList s.data.toList = b) :
    Calls Tryz.prog 83 #[.string p, .string s] w fun e W' => e = .returned (.bool b) ∧ Below w.heap.size w W' :=
  (match_is p s w hp hs).mono fun _ _ ⟨he, hb⟩ => ⟨he.trans (ret_bool h), hb⟩
theorem g_lit (p : ByteArray) (b : Bool) (w : World) (hp : p.size ≤ 1000000) (h : magicL p.data.toList = b) :
    Calls Tryz.prog 41 #[.string p] w fun e W' => e = .returned (.bool b) ∧ Below w.heap.size w W' :=
  (magic_is p w hp).mono fun _ _ ⟨he, hb⟩ => ⟨he.trans (ret_bool h), hb⟩
theorem p_lit (p q : ByteArray) (w : World) (hp : p.size ≤ 1000000) (h : bs (plainL p.data.toList) = q) :
    Calls Tryz.prog 42 #[.string p] w fun e W' => e = .returned (.string q) ∧ Below w.heap.size w W' :=
  (plain_is p w hp).mono fun _ _ ⟨he, hb⟩ => ⟨he.trans (by rw [h]), hb⟩
end Go.Proofs.YtghfmbmdfojapaaGreatDoor.Gplain
