/- What the program's fit answers: pieces that lie in a slice fit a text, by a walk back to the last star. -/
import Derived.Deep.LoopGhost
import Derived.Deep.Light
import Derived.Deep.RegionHeld3
import Derived.Deep.RegionWith
import Derived.Test.YtghfmbmdfojapaaGreatDoorGnextJ
namespace Go.Proofs.YtghfmbmdfojapaaGreatDoor.Gfit
open Go.RowKit Go.Proofs.YtghfmbmdfojapaaGreatDoor.Gset Go.Proofs.YtghfmbmdfojapaaGreatDoor.Gops Go.Proofs.YtghfmbmdfojapaaGreatDoor.Glb Go.Proofs.YtghfmbmdfojapaaGreatDoor.Gread Go.Proofs.YtghfmbmdfojapaaGreatDoor.Gnext Go.Proofs.YtghfmbmdfojapaaGreatDoor.Gpiece Go.Proofs.YtghfmbmdfojapaaGreatDoor.Gnextis

/-- a piece's six cells from o on -/
def PcIn (w : World) (b o : Nat) (x : Pc) : Prop :=
  w.cell? ⟨b, o, none⟩ = some (.bool x.wild) ∧ w.cell? ⟨b, o + 1, none⟩ = some (.bool x.star) ∧ w.cell? ⟨b, o + 2, none⟩ = some (.int .u64 (word x.has 0 : Nat)) ∧ w.cell? ⟨b, o + 3, none⟩ = some (.int .u64 (word x.has 1 : Nat)) ∧ w.cell? ⟨b, o + 4, none⟩ = some (.int .u64 (word x.has 2 : Nat)) ∧ w.cell? ⟨b, o + 5, none⟩ = some (.int .u64 (word x.has 3 : Nat))
/-- a slice of the pieces ps -/
def SlPc (w : World) (A : Option Addr) (m c : Nat) (ps : List Pc) : Prop :=
  ps.length = m ∧ m ≤ c ∧ c ≤ 9223372036854775807 ∧ (m = 0 ∨ ∃ b o, A = some ⟨b, o, none⟩ ∧ b < w.heap.size ∧ ∀ (j : Nat) x, ps[j]? = some x → PcIn w b (o + j * 6) x)
theorem PcIn.on {w W : World} {b o : Nat} {x : Pc} (h : PcIn w b o x) (hb : Below w.heap.size w W) (hl : b < w.heap.size) : PcIn W b o x :=
  ⟨(hb.cell (p := ⟨b, o, none⟩) hl).trans h.1, (hb.cell (p := ⟨b, o + 1, none⟩) hl).trans h.2.1, (hb.cell (p := ⟨b, o + 2, none⟩) hl).trans h.2.2.1, (hb.cell (p := ⟨b, o + 3, none⟩) hl).trans h.2.2.2.1, (hb.cell (p := ⟨b, o + 4, none⟩) hl).trans h.2.2.2.2.1, (hb.cell (p := ⟨b, o + 5, none⟩) hl).trans h.2.2.2.2.2⟩
theorem SlPc.tail {w : World} {b o m c i : Nat} {ps : List Pc} (h : SlPc w (some ⟨b, o, none⟩) m c ps) (hi : i < m) : SlPc w (some ⟨b, o + (i + 1) * 6, none⟩) (m - (i + 1)) (c - (i + 1)) (ps.drop (i + 1)) := by
  obtain ⟨h1, h2, h3, h4⟩ := h
  refine ⟨by rw [List.length_drop]; omega, by omega, by omega, .inr ?_⟩
  rcases h4 with h0 | ⟨b', o', e, hb, hc⟩
  · omega
  · cases e
    refine ⟨b, _, rfl, hb, fun j x hx => ?_⟩
    rw [List.getElem?_drop] at hx
    have := hc _ x hx
    rw [show o + (i + 1 + j) * 6 = o + (i + 1) * 6 + j * 6 by omega] at this
    exact this
theorem SlPc.none_ {w : World} {A A' : Option Addr} {m c i : Nat} {ps : List Pc} (h : SlPc w A m c ps) (hi : i < m) (hc : c = i + 1) : SlPc w A' (m - (i + 1)) 0 (ps.drop (i + 1)) := by
  obtain ⟨h1, h2, h3, h4⟩ := h
  exact ⟨by rw [List.length_drop]; omega, by omega, by omega, .inl (by omega)⟩
theorem parted {ps : List Pc} {i : Nat} {x : Pc} (h : ps[i]? = some x) : ps = ps.take i ++ x :: ps.drop (i + 1) := by
  obtain ⟨hi, e⟩ := List.getElem?_eq_some_iff.1 h
  rw [← e, ← List.drop_eq_getElem_cons hi, List.take_append_drop]
theorem take_len {ps : List Pc} {i : Nat} {x : Pc} (h : ps[i]? = some x) : (ps.take i).length = i := by
  have := (List.getElem?_eq_some_iff.1 h).1
  rw [List.length_take]; omega
theorem star_on {ps : List Pc} {i fr : Nat} {x : Pc} {st : Bool} {s : List UInt8} (h : ps[i]? = some x) (hx : x.star = true) (ht : takes (ps.take i) (s.drop fr)) : Glb.ask st ps (s.drop fr) = Glb.ask true (ps.drop (i + 1)) (s.drop (fr + i)) := by
  have := ask_star st (ps.take i) (ps.drop (i + 1)) x (s.drop fr) ht hx
  rw [← parted h, take_len h, List.drop_drop] at this
  exact this
theorem over_on {ps : List Pc} {i fr : Nat} {x : Pc} {st : Bool} {s : List UInt8} (h : ps[i]? = some x) (hx : x.star = false) (ht : takes (ps.take i) (s.drop fr)) (he : fr + i = s.length) : Glb.ask st ps (s.drop fr) = false := by
  have := ask_over st (ps.take i) (ps.drop (i + 1)) x (s.drop fr) ht hx (by rw [take_len h, List.length_drop]; omega)
  rw [← parted h] at this
  exact this
theorem at_on {s : List UInt8} {fr i : Nat} {c : UInt8} (h : s[fr + i]? = some c) : (s.drop fr)[i]? = some c := by rw [List.getElem?_drop]; exact h
theorem miss_false {ps : List Pc} {i fr : Nat} {x : Pc} {s : List UInt8} {c : UInt8} (h : ps[i]? = some x) (hx : x.star = false) (ht : takes (ps.take i) (s.drop fr)) (hc : s[fr + i]? = some c) (hm : x.has c.toNat = false) : Glb.ask false ps (s.drop fr) = false := by
  have := fit_miss (ps.take i) (ps.drop (i + 1)) x (s.drop fr) c ht hx (by rw [take_len h]; exact at_on hc) hm
  rw [← parted h] at this
  exact this
theorem miss_on {ps : List Pc} {i fr : Nat} {x : Pc} {s : List UInt8} {c : UInt8} (h : ps[i]? = some x) (hx : x.star = false) (ht : takes (ps.take i) (s.drop fr)) (hc : s[fr + i]? = some c) (hm : x.has c.toNat = false) : Glb.ask true ps (s.drop fr) = Glb.ask true ps (s.drop (fr + 1)) := by
  have := ask_miss (ps.take i) (ps.drop (i + 1)) x (s.drop fr) c ht hx (by rw [take_len h]; exact at_on hc) hm
  rw [← parted h, List.drop_drop] at this
  exact this
theorem hit_on {ps : List Pc} {i fr : Nat} {x : Pc} {s : List UInt8} {c : UInt8} (h : ps[i]? = some x) (hx : x.star = false) (ht : takes (ps.take i) (s.drop fr)) (hc : s[fr + i]? = some c) (hm : x.has c.toNat = true) : takes (ps.take (i + 1)) (s.drop fr) := by
  have := takes_snoc (ps.take i) x (s.drop fr) c ht (by rw [take_len h]; exact at_on hc) hx hm
  obtain ⟨hi, e⟩ := List.getElem?_eq_some_iff.1 h
  rw [← e] at this
  rw [List.take_succ_eq_append_getElem hi]
  exact this
theorem cell_on {w w' : World} (hb : Below w.heap.size w w') {a : Addr} {v : Value} (h : w.cell? a = some v) : w'.cell? a = some v :=
  (hb.cell (p := a) (World.block_lt_of_cell? w a h)).trans h
theorem keep4 {w w' : World} {g : Nat} {a b c d : Value} (hb : Below w.heap.size w w') (h : w.cell? ⟨g, 2, none⟩ = some a ∧ w.cell? ⟨g, 3, none⟩ = some b ∧ w.cell? ⟨g, 4, none⟩ = some c ∧ w.cell? ⟨g, 5, none⟩ = some d) :
    w'.cell? ⟨g, 2, none⟩ = some a ∧ w'.cell? ⟨g, 3, none⟩ = some b ∧ w'.cell? ⟨g, 4, none⟩ = some c ∧ w'.cell? ⟨g, 5, none⟩ = some d :=
  ⟨cell_on hb h.1, cell_on hb h.2.1, cell_on hb h.2.2.1, cell_on hb h.2.2.2⟩
theorem on_drew {B : Nat} {w w1 w2 : World} (h1 : Below B w w1) (h2 : Below w1.drew.heap.size w1.drew w2) (hB : B ≤ w1.heap.size) : Below B w w2 :=
  (below_drewN h1 1).trans (h2.mono hB)
theorem byte_at (s : ByteArray) (k : Nat) (h : k < s.size) : s.data.toList[k]? = some s[k] := by
  have h2 : k < s.data.toList.length := by rw [← Lib.size_eq]; exact h
  rw [List.getElem?_eq_getElem h2]; rfl
theorem len_data (s : ByteArray) : s.data.toList.length = s.size := (Lib.size_eq s).symm
theorem all_on {ps : List Pc} {i : Nat} {s : List UInt8} (hi : ps.length = i) (ht : takes (ps.take i) s) : takes ps s := by
  rw [List.take_of_length_le (by omega)] at ht; exact ht

set_option maxRecDepth 100000 in
set_option maxHeartbeats 2000000 in
theorem fit_is (A : Option Addr) (m c : Nat) (ps : List Pc) (s : ByteArray) (w : World) (hp : SlPc w A m c ps) (hm : m ≤ 1000000) (hs : s.size ≤ 1000000) :
    Calls Tryz.prog 108 #[.slice A m c, .string s] w fun e W' => e = .returned (.bool (fitL ps s.data.toList)) ∧ Below w.heap.size w W' := by
  go_enter Tryz.func108, Tryz.ntmps108
  go_wp2
  go_step3
  go_wp2
  go_step3
  go_wp2
  go_loopg [0, 5, 6] (m + s.size + 1) (fun g s0 s5 s6 wx => ∃ (A' : Option Addr) (m' c' : Nat) (qs : List Pc) (st : Bool) (fr : Nat), s0 = .slice A' m' c' ∧ s5 = .bool st ∧ s6 = .int .i64 fr ∧ fr ≤ s.size ∧ m' + (s.size - fr) < g ∧ m' ≤ 1000000 ∧ Hid (SlPc w A' m' c' qs ∧ Below w.heap.size w wx ∧ Glb.ask st qs (s.data.toList.drop fr) = fitL ps s.data.toList))
  case atStart => exact ⟨A, m, c, ps, false, 0, rfl, rfl, rfl, Nat.zero_le _, by omega, hm, ⟨hp, Below.refl _ _, rfl⟩⟩
  case round =>
    obtain ⟨A', m', c', qs, st, fr, rfl, rfl, rfl, hfr, hg, hm', H⟩ := hrel
    obtain ⟨g, rfl⟩ : ∃ g, gk = g + 1 := ⟨gk - 1, by omega⟩
    obtain ⟨wo, rfl⟩ : ∃ wo : World, wo = wr := ⟨_, rfl⟩
    go_wp2
    go_loopg [0, 5, 6, 7, 13] (m' + 1) (fun g2 s0 s5 s6 s7 s13 wy => ∃ i k : Nat, s0 = .slice A' m' c' ∧ s5 = .bool st ∧ s6 = .int .i64 fr ∧ i ≤ m' ∧ s13 = .int .i64 i ∧ s7 = .int .i64 k ∧ m' - i < g2 ∧ k ≤ s.size ∧ Hid (k = fr + i) ∧ Hid (Below w.heap.size w wy ∧ takes (qs.take i) (s.data.toList.drop fr)))
    case atStart => exact ⟨0, fr, rfl, rfl, rfl, Nat.zero_le _, rfl, rfl, by omega, hfr, rfl, ⟨H.out.2.1, trivial⟩⟩
    case round =>
      obtain ⟨i, k, rfl, rfl, rfl, hi, rfl, rfl, hg2, hfi, HK, HI⟩ := hrel
      obtain ⟨g2, rfl⟩ : ∃ g, gk = g + 1 := ⟨gk - 1, by omega⟩
      by_cases hlt : i < m'
      · obtain ⟨x, hx⟩ : ∃ x, qs[i]? = some x := ⟨_, List.getElem?_eq_getElem (by have := H.out.1.1; omega)⟩
        rcases H.out.1.2.2.2 with h0 | ⟨b, o, rfl, hb, hcs⟩
        · omega
        have hcc := H.out.1.2.1
        have hcc2 := H.out.1.2.2.1
        obtain ⟨e0, e1, e2, e3, e4, e5⟩ := (hcs i x hx).on HI.out.1 hb
        have HX := Lib.hid hx
        clear hcs hx
        have eA : o + i * 6 + 0 = o + i * 6 := rfl
        cases hst : x.star with
        | true =>
          rw [hst] at e1
          have HS : Hid (fitL ps s.data.toList = Glb.ask true (qs.drop (i + 1)) (s.data.toList.drop k)) := by
            show _ = _
            rw [HK.out]
            exact H.out.2.2.symm.trans (star_on (st := st) HX.out hst HI.out.2)
          have hki : fr ≤ k := by have := HK.out; omega
          have HB := Lib.hid HI.out.1
          clear hst
          go_wp2
          go_region
          go_wp2
          · go_roundg g
            case measure => omega
            case rel =>
              exact ⟨_, _, _, qs.drop (i + 1), true, k, rfl, rfl, rfl, hfi, by omega, by omega, ⟨SlPc.none_ H.out.1 hlt (by omega), below_drewN (HB.out.alloc HB.out.size _) 1, HS.out.symm⟩⟩
          · go_roundg g
            case measure => omega
            case rel =>
              exact ⟨_, _, _, qs.drop (i + 1), true, k, rfl, rfl, rfl, hfi, by omega, by omega, ⟨SlPc.tail H.out.1 hlt, below_drewN (HB.out.alloc HB.out.size _) 1, HS.out.symm⟩⟩
        | false =>
          rw [hst] at e1
          by_cases hend : k = s.size
          · have HS := Lib.hid (H.out.2.2.symm.trans (over_on (st := st) HX.out hst HI.out.2 (by rw [len_data, ← HK.out]; exact hend)))
            have HB := Lib.hid HI.out.1
            clear hst
            go_wp2
            rw [Exit.noGoto_ret]
            go_ret
            exact ⟨ret_bool HS.out.symm, HB.out.alloc HB.out.size _⟩
          · have hlt2 : k < s.size := by omega
            have hb8 : s[k].toNat < 256 := s[k].toNat_lt
            have HC : Hid (s.data.toList[fr + i]? = some s[k]) := by show _ = _; rw [← HK.out]; exact byte_at s k hlt2
            have HH := Lib.hid (fun W => has_is x.has s[k].toNat hb8 W)
            have HB := Lib.hid HI.out.1
            have HT := Lib.hid hst
            clear hst
            go_upto_region 10 with fail
            go_cut [35] (fun b wx => b = .bool (!x.has s[k].toNat) ∧ Hid (Below w.heap.size w wx))
            case first =>
              go_region_held3 (fun w' => w'.cell? ⟨wr.heap.size, 2, none⟩ = some (.int .u64 (word x.has 0 : Nat)) ∧ w'.cell? ⟨wr.heap.size, 3, none⟩ = some (.int .u64 (word x.has 1 : Nat)) ∧ w'.cell? ⟨wr.heap.size, 4, none⟩ = some (.int .u64 (word x.has 2 : Nat)) ∧ w'.cell? ⟨wr.heap.size, 5, none⟩ = some (.int .u64 (word x.has 3 : Nat))) (first | go_keep | exact keep4 hb1 (by go_keep)) (first | (go_at_call 122; refine (HH.out _).mono ?_; rintro e w1 ⟨rfl, hb1⟩))
              go_wp2_with fail
              go_meet
              exact ⟨rfl, on_drew (HB.out.alloc HB.out.size _) hb1 (by have := HB.out.size; simp; omega)⟩
            case rest =>
              obtain ⟨rfl, BW⟩ := hcut
              have hki : fr ≤ k := by have := HK.out; omega
              cases hh : x.has s[k].toNat with
              | true =>
                have HS := Lib.hid (hit_on HX.out HT.out HI.out.2 HC.out hh)
                go_wp2_with fail
                go_roundg g2
                case measure => omega
                case rel => exact ⟨i + 1, k + 1, rfl, rfl, rfl, by omega, by go_num, by go_num, by omega, by omega, by have := HK.out; show _ = _; omega, ⟨BW.out, HS.out⟩⟩
              | false =>
                cases st with
                | false =>
                  have HS := Lib.hid (H.out.2.2.symm.trans (miss_false HX.out HT.out HI.out.2 HC.out hh))
                  go_wp2_with fail
                  rw [Exit.noGoto_ret]
                  go_ret
                  exact ⟨ret_bool HS.out.symm, BW.out⟩
                | true =>
                  have HS := Lib.hid (H.out.2.2.symm.trans (miss_on HX.out HT.out HI.out.2 HC.out hh))
                  go_wp2_with fail
                  go_roundg g
                  case measure => omega
                  case rel => exact ⟨_, _, _, qs, true, fr + 1, rfl, rfl, by go_num, by omega, by omega, hm', ⟨H.out.1, BW.out, HS.out.symm⟩⟩
      · have him : i = m' := by omega
        have HT : Hid (takes qs (s.data.toList.drop fr)) := all_on (by rw [H.out.1.1]; exact him.symm) HI.out.2
        have HB := Lib.hid HI.out.1
        have HL : Hid (qs.length = m') := H.out.1.1
        have HKK : Hid (k = fr + m') := by show _ = _; rw [← him]; exact HK.out
        by_cases hend : k = s.size
        · have HS := Lib.hid (H.out.2.2.symm.trans (ask_all st qs _ HT.out (by rw [List.length_drop, len_data, HL.out]; have := HKK.out; omega)))
          go_wp2_with fail
          rw [Exit.noGoto_ret]
          go_ret
          exact ⟨ret_bool HS.out.symm, HB.out⟩
        · cases st with
          | false =>
            have HS := Lib.hid (H.out.2.2.symm.trans (ask_more qs _ HT.out (by rw [List.length_drop, len_data, HL.out]; have := HKK.out; omega)))
            have hend' : (((k : Nat) : Int) == ((s.size : Nat) : Int)) = false := by rw [beq_eq_false_iff_ne]; omega
            go_wp2_with fail
            rw [Exit.noGoto_ret]
            go_ret
            exact ⟨ret_bool HS.out.symm, HB.out⟩
          | true =>
            have HS : Hid (fitL ps s.data.toList = Glb.ask true qs (s.data.toList.drop (fr + (s.size - k)))) := by
              have h := H.out.2.2.symm.trans (ask_end qs _ HT.out)
              rw [List.drop_drop, List.length_drop, len_data, HL.out] at h
              have := HKK.out
              rw [show fr + (s.size - fr - m') = fr + (s.size - k) by omega] at h
              exact h
            have hend' : (((k : Nat) : Int) == ((s.size : Nat) : Int)) = false := by rw [beq_eq_false_iff_ne]; omega
            go_wp2_with fail
            go_roundg g
            case measure => omega
            case rel =>
              have := HKK.out
              exact ⟨_, _, _, qs, true, fr + (s.size - k), rfl, rfl, by go_num, by omega, by omega, hm', ⟨H.out.1, HB.out, HS.out.symm⟩⟩
end Go.Proofs.YtghfmbmdfojapaaGreatDoor.Gfit
