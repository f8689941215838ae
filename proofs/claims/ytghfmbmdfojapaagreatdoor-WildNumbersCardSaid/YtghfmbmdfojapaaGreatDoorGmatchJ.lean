/- What the program's Match answers. -/
import Derived.Laws.AppendOwn
import Derived.OwnWalk
import Derived.Maps.AppendAt
import Derived.Lib.Builder
import Derived.Test.YtghfmbmdfojapaaGreatDoorGfitJ
namespace Go.Proofs.YtghfmbmdfojapaaGreatDoor.Gmatch
open Go.RowKit Go.Proofs.YtghfmbmdfojapaaGreatDoor.Gset Go.Proofs.YtghfmbmdfojapaaGreatDoor.Gops Go.Proofs.YtghfmbmdfojapaaGreatDoor.Glb Go.Proofs.YtghfmbmdfojapaaGreatDoor.Gread Go.Proofs.YtghfmbmdfojapaaGreatDoor.Gnext Go.Proofs.YtghfmbmdfojapaaGreatDoor.Gpiece Go.Proofs.YtghfmbmdfojapaaGreatDoor.Gnextis Go.Proofs.YtghfmbmdfojapaaGreatDoor.Gfit

/-! ### how a text begins -/
def begins (t s : List UInt8) : Bool := t.isPrefixOf s
theorem begins_eq (s t : ByteArray) : ((s.extract 0 t.size).toList == t.toList) = begins t.data.toList s.data.toList := by
  rw [Lib.toList_data, Lib.toList_data, Lib.extract_data, begins, Bool.eq_iff_iff, beq_iff_eq, List.isPrefixOf_iff_prefix, List.prefix_iff_eq_take, Lib.size_eq]
  simp only [List.drop_zero, Nat.sub_zero]
  exact ⟨fun h => h.symm, fun h => h.symm⟩
theorem begins_short (s t : ByteArray) (h : s.size < t.size) : begins t.data.toList s.data.toList = false := by
  rw [← Bool.not_eq_true, begins, List.isPrefixOf_iff_prefix]
  intro hp
  have := hp.length_le
  rw [← Lib.size_eq, ← Lib.size_eq] at this
  omega

set_option maxHeartbeats 400000 in
theorem lite_is (s t : ByteArray) (r : Bool) (w : World) (h : begins t.data.toList s.data.toList = r) :
    Calls Tryz.prog 43 #[.string s, .string t] w fun e w' => e = .returned (.bool r) ∧ w = w' := by
  by_cases hl : t.size ≤ s.size
  · have HE := Lib.hid ((begins_eq s t).trans h)
    clear h
    go_enter Tryz.func43, Tryz.ntmps43
    go_wp2
    go_ret
    exact ⟨ret_bool HE.out, rfl⟩
  · have HE : Hid (false = r) := (begins_short s t (by omega)).symm.trans h
    clear h
    go_enter Tryz.func43, Tryz.ntmps43
    go_wp2
    go_ret
    exact ⟨ret_bool HE.out, rfl⟩
set_option maxHeartbeats 400000 in
theorem prefix_is (s t : ByteArray) (w : World) :
    Calls Tryz.prog 19 #[.string s, .string t] w fun e w' => e = .returned (.bool (begins t.data.toList s.data.toList)) ∧ w = w' := by
  have HC := Lib.hid (fun W => lite_is s t _ W rfl)
  generalize begins t.data.toList s.data.toList = r at HC
  go_enter Tryz.func19, Tryz.ntmps19
  go_wp2_with fail
  refine (HC.out _).mono ?_
  rintro e w' ⟨rfl, rfl⟩
  go_wp2
  go_ret
  exact ⟨rfl, rfl⟩

/-- a name that begins with a dot, a pattern that does not -/
def barred (p s : List UInt8) : Bool := begins [46] s && !begins [46] p && !begins [92, 46] p
def matchL (p s : List UInt8) : Bool := if barred p s then false else fitL (pieces p) s
def flat (ps : List Pc) : List Value := ps.flatMap fun x => (pcCells x).toList

theorem infoPc : (Tryz.prog.info? 111).map (fun i => (i.zero, i.size, i.bytes)) = some (some (pcV noPc), 6, 40) := by kernel_rfl
theorem Only.grown {g : Nat} {w W : World} (h : Only g w W) : w.grownBy W (some g) := ⟨h.os, h.tape, h.output, h.size, fun k hk hne => h.block k hk (fun e => hne (by rw [e]))⟩
theorem flat_snoc (qs : List Pc) (x : Pc) : flat (qs ++ [x]) = flat qs ++ (pcCells x).toList := by simp [flat]
theorem cells_new (w : World) (x : Pc) (t : TypeId) (j : Nat) (u : Value) (h : (pcCells x).toList[j]? = some u) : (w.alloc (.cells (pcCells x) t)).cell? ((⟨w.heap.size, 0, none⟩ : Addr).add j) = some u := by
  have hadd : (⟨w.heap.size, 0, none⟩ : Addr).add j = ⟨w.heap.size, j, none⟩ := by unfold Addr.add; split <;> simp_all
  rw [hadd, cell_of_row _ _ _ _ _ _ (heap_alloc_new _ _)]
  simpa using h
theorem one_cells (x : Pc) : ∀ u ∈ (pcCells x).toList, u.oneCell' = true := by
  intro u hu
  simp [pcCells] at hu
  rcases hu with rfl | rfl | rfl | rfl | rfl | rfl <;> rfl
theorem pcs_step {n : Nat} {u : ByteArray} {o : Bool} (hn : u.size ≤ n) (hz : 0 < u.size) : pcs n u.data.toList o = nextP u.data.toList o :: pcs (n - 1) (nextR u.data.toList o) (nextO u.data.toList o) := by
  obtain ⟨m, rfl⟩ : ∃ m, n = m + 1 := ⟨n - 1, by omega⟩
  rw [head_of u hz, pcs]
  rfl
theorem pcs_nil {n : Nat} {u : ByteArray} {o : Bool} (hz : u.size = 0) : pcs n u.data.toList o = [] := by
  have : u.data.toList = [] := List.eq_nil_of_length_eq_zero (by rw [← Lib.size_eq]; exact hz)
  rw [this]
  cases n <;> rfl
theorem flat_at : ∀ (qs : List Pc) (j k : Nat) (x : Pc) (v : Value), qs[j]? = some x → (pcCells x)[k]? = some v → (flat qs)[j * 6 + k]? = some v := by
  intro qs
  induction qs with
  | nil => intro j k x v h; simp at h
  | cons y qs ih =>
    intro j k x v h hv
    have hl : (pcCells y).toList.length = 6 := rfl
    have hk : k < 6 := by have := (Array.getElem?_eq_some_iff.1 hv).1; exact this
    rw [flat, List.flatMap_cons]
    cases j with
    | zero =>
      simp at h
      subst h
      rw [List.getElem?_append_left (by rw [hl]; omega)]
      simpa using hv
    | succ j =>
      rw [List.getElem?_append_right (by rw [hl]; omega), hl, show (j + 1) * 6 + k - 6 = j * 6 + k by omega]
      exact ih j k x v (by simpa using h) hv
theorem sl_of {w : World} {B : Nat} {v : Value} {qs : List Pc} (h : w.ownsRow B 111 6 v qs.length (flat qs)) : ∃ A c, v = .slice A qs.length c ∧ SlPc w A qs.length c qs := by
  rcases h.2 with ⟨h0, h1⟩ | ⟨g, cap, cur, hv, hb, hg, hn, hm, hc, ht⟩
  · exact ⟨none, 0, by rw [h0, h1], rfl, by omega, by omega, .inl h1⟩
  · refine ⟨some ⟨g, 0, none⟩, cap, hv, rfl, hn, by unfold maxLen at hm; omega, .inr ⟨g, 0, rfl, (Array.getElem?_eq_some_iff.1 hg).1, fun j x hx => ?_⟩⟩
    have key : ∀ k u, (pcCells x)[k]? = some u → w.cell? ⟨g, 0 + j * 6 + k, none⟩ = some u := by
      intro k u hu
      have h1 := flat_at qs j k x u hx hu
      have h2 := h.cells (g := g) (by rw [hv]; rfl) _ _ h1
      have hadd : (⟨g, 0, none⟩ : Addr).add (j * 6 + k) = ⟨g, 0 + j * 6 + k, none⟩ := by
        unfold Addr.add
        split
        · simp
        · simp_all
      rw [hadd] at h2
      exact h2
    exact ⟨key 0 _ rfl, key 1 _ rfl, key 2 _ rfl, key 3 _ rfl, key 4 _ rfl, key 5 _ rfl⟩

set_option maxRecDepth 100000 in
set_option maxHeartbeats 2000000 in
/-- the program's Match -/
theorem match_is (p s : ByteArray) (w : World) (hp : p.size ≤ 1000000) (hs : s.size ≤ 1000000) :
    Calls Tryz.prog 83 #[.string p, .string s] w fun e W' => e = .returned (.bool (matchL p.data.toList s.data.toList)) ∧ Below w.heap.size w W' := by
  obtain ⟨i0, hi, hz0, hz1, hz2⟩ := info_parts infoPc
  obtain ⟨b1, E1⟩ : ∃ b, Hid (begins [46] s.data.toList = b) := ⟨_, rfl⟩
  obtain ⟨b2, E2⟩ : ∃ b, Hid (begins [46] p.data.toList = b) := ⟨_, rfl⟩
  obtain ⟨b3, E3⟩ : ∃ b, Hid (begins [92, 46] p.data.toList = b) := ⟨_, rfl⟩
  have H1 : Hid (∀ W, Calls Tryz.prog 19 #[.string s, .string ⟨#[46]⟩] W fun e w' => e = .returned (.bool b1) ∧ W = w') := fun W => (prefix_is s ⟨#[46]⟩ W).mono fun e w' ⟨he, hw⟩ => ⟨he.trans (ret_bool E1.out), hw⟩
  have H2 : Hid (∀ W, Calls Tryz.prog 19 #[.string p, .string ⟨#[46]⟩] W fun e w' => e = .returned (.bool b2) ∧ W = w') := fun W => (prefix_is p ⟨#[46]⟩ W).mono fun e w' ⟨he, hw⟩ => ⟨he.trans (ret_bool E2.out), hw⟩
  have H3 : Hid (∀ W, Calls Tryz.prog 19 #[.string p, .string ⟨#[92, 46]⟩] W fun e w' => e = .returned (.bool b3) ∧ W = w') := fun W => (prefix_is p ⟨#[92, 46]⟩ W).mono fun e w' ⟨he, hw⟩ => ⟨he.trans (ret_bool E3.out), hw⟩
  have HB : Hid (barred p.data.toList s.data.toList = (b1 && !b2 && !b3)) := by show _ = _; rw [barred, E1.out, E2.out, E3.out]
  clear E1 E2 E3
  go_enter Tryz.func83, Tryz.ntmps83
  go_upto_region 1 with fail
  go_cut [18] (fun b wx => b = .bool (b1 && !b2 && !b3) ∧ w = wx)
  case first =>
    cases b1 with
    | false =>
      go_wp2_with fail
      refine (H1.out _).mono ?_
      rintro e w' ⟨rfl, rfl⟩
      go_wp2_with fail
      go_meet
      exact ⟨rfl, rfl⟩
    | true =>
      go_wp2_with fail
      refine (H1.out _).mono ?_
      rintro e w' ⟨rfl, rfl⟩
      go_wp2_with fail
      refine (H2.out _).mono ?_
      rintro e w' ⟨rfl, rfl⟩
      cases b2 with
      | true =>
        go_wp2_with fail
        go_meet
        exact ⟨rfl, rfl⟩
      | false =>
        go_wp2_with fail
        refine (H3.out _).mono ?_
        rintro e w' ⟨rfl, rfl⟩
        go_wp2_with fail
        go_meet
        exact ⟨rfl, rfl⟩
  case rest =>
    obtain ⟨rfl, rfl⟩ := hcut
    clear H1 H2 H3
    generalize (b1 && !b2 && !b3) = bar at HB
    cases bar with
    | true =>
      go_wp2_with fail
      go_ret
      exact ⟨ret_bool (by rw [matchL, HB.out]; rfl), Below.refl _ _⟩
    | false =>
      go_wp2_with fail
      go_loopg [5, 6] (p.size + 1) (fun g s5 s6 wx => ∃ (gb n : Nat) (u : ByteArray) (o : Bool) (qs : List Pc), s6 = .pointer (some ⟨gb, 0, none⟩) ∧ u.size < g ∧ u.size ≤ n ∧ qs.length + u.size ≤ p.size ∧ Hid (wx.ownsRow w.heap.size 111 6 s5 qs.length (flat qs) ∧ w.heap.size ≤ gb ∧ s5.ownBlock ≠ some gb ∧ RdAt gb u o wx ∧ Below w.heap.size w wx ∧ qs ++ pcs n u.data.toList o = pieces p.data.toList))
      case atStart =>
        refine ⟨w.heap.size, p.size, p, false, [], rfl, by omega, Nat.le_refl _, by simp, ⟨World.ownsRow_nil _ _ _ _, Nat.le_refl _, by simp [Value.ownBlock], heap_alloc_new _ _, (Below.refl _ _).alloc (Nat.le_refl _) _, ?_⟩⟩
        rw [pieces, len_data]; rfl
      case round =>
        obtain ⟨gb, n, u, o, qs, rfl, hug, hun, hqs, H⟩ := hrel
        obtain ⟨g, rfl⟩ : ∃ g, gk = g + 1 := ⟨gk - 1, by omega⟩
        have c0 := H.out.2.2.2.1.rest
        by_cases hz : u.size = 0
        · have e1 := empty_of u hz
          obtain ⟨A, c, hv, hsl⟩ := sl_of H.out.1
          have HV := Lib.hid hv
          have HS := Lib.hid hsl
          have HP : Hid (qs = pieces p.data.toList) := by have := H.out.2.2.2.2.2; rw [pcs_nil hz, List.append_nil] at this; exact this
          clear hv hsl
          rw [HV.out]
          go_wp2_with fail
          refine (fit_is A qs.length c qs s wr HS.out (by omega) hs).mono ?_
          rintro e w1 ⟨rfl, hb1⟩
          have B1 := Lib.hid (H.out.2.2.2.2.1.trans (hb1.mono H.out.2.2.2.2.1.size))
          clear hb1
          go_wp2_with fail
          go_ret
          exact ⟨ret_bool (by rw [matchL, HB.out, HP.out]; rfl), B1.out⟩
        · have hz : 0 < u.size := by omega
          have e1 := full_of u hz
          have HN := Lib.hid (fun W hW => next_is gb u o W hW hz (by omega))
          have hrl : (bs (nextR u.data.toList o)).size < u.size := by
            rw [size_bs, Lib.size_eq]
            exact nextR_lt (by intro e; rw [Lib.size_eq, e] at hz; exact absurd hz (Nat.lt_irrefl _)) o
          have HP : Hid (qs ++ nextP u.data.toList o :: pcs (n - 1) (nextR u.data.toList o) (nextO u.data.toList o) = pieces p.data.toList) := by
            have := H.out.2.2.2.2.2; rw [pcs_step hun hz] at this; exact this
          go_wp2_with fail
          refine (HN.out _ H.out.2.2.2.1).mono ?_
          rintro e w1 ⟨rfl, hR1, hO1⟩
          clear HN c0
          generalize nextP u.data.toList o = x at HP
          have hr2 : (bs (nextR u.data.toList o)).data.toList = nextR u.data.toList o := rfl
          rw [← hr2] at HP
          clear hr2
          generalize bs (nextR u.data.toList o) = u1 at HP hR1 hrl
          generalize nextO u.data.toList o = o1 at HP hR1
          have hs1 : gb < w1.heap.size := hR1.lt
          have hw1 := Lib.hid (H.out.1.kept (Only.grown hO1) (.inr H.out.2.2.1))
          have B1 := Lib.hid (hO1.below H.out.2.2.2.2.1 H.out.2.1 H.out.2.2.2.2.1.size)
          have HR := Lib.hid hR1
          have hne := Lib.hid H.out.2.2.1
          have hge := H.out.2.1
          clear hO1 hR1
          unfold pcV
          go_wp2_with (at_builtin; refine wpList_append_own _ rfl _ _ 171 rfl w.heap.size 111 i0 (pcV noPc) 6 40 Tryz.underlying171 hi hz0 hz1 hz2 rfl (by decide) _ qs.length (flat qs) rfl ?own ⟨w1.heap.size, 0, none⟩ 1 1 (pcCells x).toList rfl rfl ?c1 ?c2 ?c3 ?c4 ?c5 ?_)
          case own => exact hw1.out.alloc _
          case c1 => exact fun j u h => cells_new w1 x _ j u h
          case c2 => exact one_cells x
          case c3 => unfold maxLen; omega
          case c4 => omega
          case c5 => have := B1.out.size; simp; omega
          intro v' w2 hown' hgrow _
          have hR2 : RdAt gb u1 o1 w2 := (hgrow.block gb (by simp; omega) (fun e => hne.out e.symm)).trans (HR.out.alloc _)
          have hs2 := hgrow.size
          rw [World.size_alloc] at hs2
          have d0 := hR2.rest
          have d1 := hR2.flag
          have B2 : Hid (Below w.heap.size w w2) := (B1.out.alloc B1.out.size _).grown hgrow (by have := B1.out.size; simp; omega) (fun k hk => (hw1.out.lt k hk).1)
          have HO : Hid (w2.ownsRow w.heap.size 111 6 v' (qs ++ [x]).length (flat (qs ++ [x]))) := by
            show World.ownsRow _ _ _ _ _ _ _
            rw [flat_snoc, List.length_append]
            exact hown'
          have HL := Lib.hid (fun k hk => (hown'.lt k hk).2)
          clear hown' hgrow hR2
          go_wp2_with fail
          go_roundg g
          case measure => omega
          case rel =>
            refine ⟨w2.heap.size, n - 1, u1, o1, qs ++ [x], rfl, by omega, by omega, by simp; omega, ⟨HO.out.alloc _, B2.out.size, ?_, heap_alloc_new _ _, B2.out.alloc B2.out.size _, ?_⟩⟩
            · intro e
              exact absurd (HL.out _ e) (Nat.lt_irrefl _)
            · rw [List.append_assoc]; exact HP.out
end Go.Proofs.YtghfmbmdfojapaaGreatDoor.Gmatch

/- What the program's Magic and Plain answer. -/
namespace Go.Proofs.YtghfmbmdfojapaaGreatDoor.Gmagic
open Go.RowKit Go.Proofs.YtghfmbmdfojapaaGreatDoor.Gset Go.Proofs.YtghfmbmdfojapaaGreatDoor.Gops Go.Proofs.YtghfmbmdfojapaaGreatDoor.Glb Go.Proofs.YtghfmbmdfojapaaGreatDoor.Gread Go.Proofs.YtghfmbmdfojapaaGreatDoor.Gnext Go.Proofs.YtghfmbmdfojapaaGreatDoor.Gpiece Go.Proofs.YtghfmbmdfojapaaGreatDoor.Gnextis Go.Proofs.YtghfmbmdfojapaaGreatDoor.Gfit Go.Proofs.YtghfmbmdfojapaaGreatDoor.Gmatch

theorem field_wild (a b c d e f : Value) (W : World) : (Instr.field 111 (.agg #[a, b, c, d, e, f]) 0).run Tryz.prog W = .ok a W := by kernel_rfl
def magicL (p : List UInt8) : Bool := (pieces p).any (·.wild)

set_option maxRecDepth 100000 in
set_option maxHeartbeats 2000000 in
/-- the program's Magic -/
theorem magic_is (p : ByteArray) (w : World) (hp : p.size ≤ 1000000) :
    Calls Tryz.prog 41 #[.string p] w fun e W' => e = .returned (.bool (magicL p.data.toList)) ∧ Below w.heap.size w W' := by
  have hfd := field_wild
  go_enter Tryz.func41, Tryz.ntmps41
  go_wp2_with fail
  go_loopg [3] (p.size + 1) (fun g s3 wx => ∃ (gb n : Nat) (u : ByteArray) (o : Bool), s3 = .pointer (some ⟨gb, 0, none⟩) ∧ u.size < g ∧ u.size ≤ n ∧ u.size ≤ p.size ∧ Hid (w.heap.size ≤ gb ∧ RdAt gb u o wx ∧ Below w.heap.size w wx ∧ (pcs n u.data.toList o).any (·.wild) = magicL p.data.toList))
  case atStart =>
    refine ⟨w.heap.size, p.size, p, false, rfl, by omega, Nat.le_refl _, Nat.le_refl _, ⟨Nat.le_refl _, heap_alloc_new _ _, (Below.refl _ _).alloc (Nat.le_refl _) _, ?_⟩⟩
    rw [magicL, pieces, len_data]
  case round =>
    obtain ⟨gb, n, u, o, rfl, hug, hun, hqs, H⟩ := hrel
    obtain ⟨g, rfl⟩ : ∃ g, gk = g + 1 := ⟨gk - 1, by omega⟩
    have c0 := H.out.2.1.rest
    by_cases hz : u.size = 0
    · have e1 := empty_of u hz
      have HP : Hid (false = magicL p.data.toList) := by have := H.out.2.2.2; rw [pcs_nil hz] at this; exact this
      go_wp2_with fail
      go_ret
      exact ⟨ret_bool HP.out, H.out.2.2.1⟩
    · have hz : 0 < u.size := by omega
      have e1 := full_of u hz
      have HN := Lib.hid (fun W hW => next_is gb u o W hW hz (by omega))
      have hrl : (bs (nextR u.data.toList o)).size < u.size := by
        rw [size_bs, Lib.size_eq]
        exact nextR_lt (by intro e; rw [Lib.size_eq, e] at hz; exact absurd hz (Nat.lt_irrefl _)) o
      have HP : Hid (((nextP u.data.toList o).wild || (pcs (n - 1) (nextR u.data.toList o) (nextO u.data.toList o)).any (·.wild)) = magicL p.data.toList) := by
        have := H.out.2.2.2; rw [pcs_step hun hz, List.any_cons] at this; exact this
      go_wp2_with fail
      refine (HN.out _ H.out.2.1).mono ?_
      rintro e w1 ⟨rfl, hR1, hO1⟩
      clear HN c0
      generalize nextP u.data.toList o = x at HP
      have hr2 : (bs (nextR u.data.toList o)).data.toList = nextR u.data.toList o := rfl
      rw [← hr2] at HP
      clear hr2
      generalize bs (nextR u.data.toList o) = u1 at HP hR1 hrl
      generalize nextO u.data.toList o = o1 at HP hR1
      have B1 := Lib.hid (hO1.below H.out.2.2.1 H.out.1 H.out.2.2.1.size)
      have d0 := hR1.rest
      have d1 := hR1.flag
      have hge := H.out.1
      clear hO1 hR1
      unfold pcV
      cases hw : x.wild with
      | true =>
        rw [hw] at HP
        go_wp2_with fail
        go_ret
        exact ⟨ret_bool HP.out, B1.out⟩
      | false =>
        rw [hw] at HP
        go_wp2_with fail
        go_roundg g
        case measure => omega
        case rel => exact ⟨w1.heap.size, n - 1, u1, o1, rfl, by omega, by omega, by omega, ⟨B1.out.size, heap_alloc_new _ _, B1.out.alloc B1.out.size _, HP.out⟩⟩
end Go.Proofs.YtghfmbmdfojapaaGreatDoor.Gmagic
