/- The document's List. -/
import Derived.Deep.DeepCutAuto
import Derived.Test.YtghfmbmdfojapaaGreatDoorPfnJ
import Derived.Test.YtghfmbmdfojapaaGreatDoorWputJ
import Derived.Test.YtghfmbmdfojapaaGreatDoorWsortJ
namespace Go.Proofs.YtghfmbmdfojapaaGreatDoor.Wlist
open Go.RowKit Go.Proofs.YtghfmbmdfojapaaGreatDoor.Pth Go.Proofs.YtghfmbmdfojapaaGreatDoor.Strs Go.Proofs.YtghfmbmdfojapaaGreatDoor.Vfs Go.Proofs.YtghfmbmdfojapaaGreatDoor.Vmap Go.Proofs.YtghfmbmdfojapaaGreatDoor.Vnew Go.Proofs.YtghfmbmdfojapaaGreatDoor.Vsort Go.Proofs.YtghfmbmdfojapaaGreatDoor.Vall Go.Proofs.YtghfmbmdfojapaaGreatDoor.Wfind Go.Proofs.YtghfmbmdfojapaaGreatDoor.Wlook Go.Proofs.YtghfmbmdfojapaaGreatDoor.Wsort

/-- the way to a thing, as the document takes it -/
theorem own_to {w : World} {a b e k n : Nat} {v : Value} {xs : List Value} (h : w.ownsRow a e k v n xs) (hb : b ≤ a) : w.ownsRow b e k v n xs :=
  ⟨h.1, h.2.imp id fun ⟨g, cap, cur, e1, e2, e3⟩ => ⟨g, cap, cur, e1, Nat.le_trans hb e2, e3⟩⟩
def upOf (t : ByteArray) : ByteArray := if (t.extract 0 (wayB t - 1)).size = 0 then ⟨#[47]⟩ else t.extract 0 (wayB t - 1)
def kidsR (R : List Raw) (d : ByteArray) : List ByteArray := R.filterMap fun x => if upOf x.path = d then some (notdirB x.path) else none
theorem kidsR_snoc (R : List Raw) (x : Raw) (d : ByteArray) : kidsR (R ++ [x]) d = kidsR R d ++ (if upOf x.path = d then [notdirB x.path] else []) := by
  unfold kidsR
  rw [List.filterMap_append]
  congr 1
  by_cases h : upOf x.path = d <;> simp [h]
theorem kidsR_len (R : List Raw) (d : ByteArray) : (kidsR R d).length ≤ R.length := List.length_filterMap_le ..
/-- what List answers -/
def listR (R : List Raw) (s : ByteArray) : List ByteArray := match lk R s with
  | some x => if x.dir then sortB (kidsR R.tail x.path) else []
  | none => []

set_option maxRecDepth 100000 in
set_option maxHeartbeats 8000000 in
theorem list_own (f : Nat) (R : List Raw) (s : ByteArray) (w : World) (h : FAt w f R) (hm : R.length ≤ 1000000) (hs : s.size ≤ 1000000) (hp : ∀ x ∈ R.tail, 1 ≤ wayB x.path ∧ x.path.size ≤ 3000000) :
    Calls Tryz.prog 52 #[.pointer (some ⟨f, 0, none⟩), .string s] w fun e W' => ∃ A c k, k = (listR R s).length ∧ e = .returned (.slice A k c) ∧ W'.ownsRow w.heap.size 9 1 (.slice A k c) k ((listR R s).map Value.string) ∧ Below w.heap.size w W' := by
  obtain ⟨i0, hi0, hz0, hz1, hz2⟩ := info_parts infoString
  have HLook := Lib.hid (look_is f R s w h (by omega) hs)
  have HH := Lib.hid h
  have HP := Lib.hid hp
  obtain ⟨hf, A0, c0, hc0, hE0⟩ := h
  have HE0 := Lib.hid hE0
  obtain ⟨n, hn⟩ : ∃ n, n = R.length := ⟨_, rfl⟩
  have HN := Lib.hid hn
  rw [← hn] at hc0 hm
  clear hn hE0 hp
  go_enter Tryz.func52, Tryz.ntmps52
  go_wp2_with fail
  refine HLook.out.mono ?_
  rintro e W2 ⟨q, r, HQ, rfl, hb2⟩
  obtain ⟨dp, dd, dt⟩ := q
  have HB2 := Lib.hid (hb2.alloc hb2.size (.cells #[.string dp, .bool dd, .string dt] 33))
  have hg := heap_alloc_new W2 (.cells #[.string dp, .bool dd, .string dt] 33)
  have HG := Lib.hid hg
  have hgs : W2.heap.size < (W2.alloc (.cells #[.string dp, .bool dd, .string dt] 33)).heap.size := by simp
  clear hg hb2 HLook
  cases r with
  | false =>
    have HE : Hid (listR R s = []) := by
      show _ = _
      unfold listR
      cases hl : lk R s with
      | none => rfl
      | some x => have := HQ.out.2; rw [hl] at this; cases this
    go_wp2
    go_ret
    exact ⟨none, 0, 0, by rw [HE.out]; rfl, rfl, by rw [HE.out]; exact World.ownsRow_nil _ _ _ _, HB2.out⟩
  | true =>
    obtain ⟨x0, hx0⟩ : ∃ x0, lk R s = some x0 := by
      cases hl : lk R s with
      | none => have := HQ.out.2; rw [hl] at this; cases this
      | some x => exact ⟨x, rfl⟩
    have hx1 : (⟨dp, dd, dt⟩ : Raw) = x0 := by have := HQ.out.1; rw [hx0] at this; exact this
    cases dd with
    | false =>
      have HE : Hid (listR R s = []) := by
        show _ = _
        unfold listR
        rw [hx0, ← hx1]; rfl
      clear hx0 hx1
      go_wp2
      go_ret
      exact ⟨none, 0, 0, by rw [HE.out]; rfl, rfl, by rw [HE.out]; exact World.ownsRow_nil _ _ _ _, HB2.out⟩
    | true =>
      have HE : Hid (listR R s = sortB (kidsR R.tail dp)) := by
        show _ = _
        unfold listR
        rw [hx0, ← hx1]; rfl
      have HR1 : Hid (1 ≤ R.length) := by
        show _ ≤ _
        cases hR : R with
        | nil => rw [hR] at hx0; unfold lk at hx0; split at hx0 <;> cases hx0
        | cons a b => simp
      clear hx0 hx1 HQ
      go_wp2_with fail
      generalize hw3 : W2.alloc (.cells #[.string dp, .bool true, .string dt] 33) = w3 at *
      clear hw3
      have hc0' := (HB2.out.cell (p := ⟨f, 0, none⟩) hf).trans hc0
      go_loopw [7, 8, 9, 10, 11] (fun v i _ _ _ wr => ∃ k m j : Nat, m ≤ n ∧ Hid (m = k + 1) ∧ j ≤ k ∧ Hid (j = (kidsR (R.tail.take k) dp).length) ∧ i = .int .i64 m ∧ wr.ownsRow w3.heap.size 9 1 v j ((kidsR (R.tail.take k) dp).map Value.string) ∧ Hid (Below w3.heap.size w3 wr)) (fun _ i _ _ _ _ => n - (intOf i).toNat)
      case atStart => exact ⟨0, 1, 0, by have := HN.out; have := HR1.out; omega, rfl, Nat.le_refl _, rfl, rfl, World.ownsRow_nil _ _ _ _, Below.refl _ _⟩
      case round =>
        obtain ⟨k, m, j, hk, HM, hjk, HJ, rfl, hown, HB⟩ := hrel
        have hBs := HB.out.size
        have c1 : wr.cell? ⟨f, 0, none⟩ = some (.slice A0 n c0) := (HB.out.cell (p := ⟨f, 0, none⟩) (Nat.lt_of_lt_of_le hf HB2.out.size)).trans hc0'
        have d1 : wr.cell? ⟨W2.heap.size, 0, none⟩ = some (.string dp) := (HB.out.cell (p := ⟨W2.heap.size, 0, none⟩) hgs).trans (by rw [Lib.cell_of_heap HG.out]; rfl)
        by_cases hlt : m < n
        · have hl : k < R.tail.length := by have := HN.out; have := HM.out; rw [List.length_tail]; omega
          have hx : R[m]? = some R.tail[k] := by rw [HM.out, ← List.getElem?_eq_getElem hl, List.getElem?_tail]
          obtain ⟨b, o, rfl, _, hcc⟩ := HE0.out.at_ hx
          obtain ⟨c2, _, _⟩ := hcc wr (HB2.out.trans (HB.out.mono HB2.out.size))
          obtain ⟨hw1, hw2⟩ := HP.out _ (List.getElem_mem hl)
          have hS := kidsR_snoc (R.tail.take k) R.tail[k] dp
          rw [← List.take_succ_eq_append_getElem hl] at hS
          have HNd := Lib.hid (fun W => Prf.refNotdir_is R.tail[k].path W (by omega))
          have HUp : Hid (upOf R.tail[k].path = if (R.tail[k].path.extract 0 (wayB R.tail[k].path - 1)).size = 0 then ⟨#[47]⟩ else R.tail[k].path.extract 0 (wayB R.tail[k].path - 1)) := rfl
          have HSn := Lib.hid hS
          have hns := notdirB_size R.tail[k].path
          have hwl := wayB_le R.tail[k].path
          clear hS hx hcc
          generalize R.tail[k].path = t at *
          have q1 : (t.size : Int) - ((notdirB t).size : Int) = (wayB t : Int) := by omega
          obtain ⟨u, hu⟩ : ∃ u, u = wayB t - 1 := ⟨_, rfl⟩
          have q2 : (wayB t : Int) - 1 = (u : Int) := by omega
          have hut : u ≤ t.size := by omega
          rw [← hu] at HUp
          clear hu
          generalize notdirB t = nm at *
          generalize upOf t = up at *
          go_wp2_with fail
          refine (HNd.out _).mono ?_
          rintro e wb ⟨rfl, rfl⟩
          go_upto_region 11 with fail
          have e9 : t.size - (t.size - wayB t) - 1 = u := by omega
          rw [e9]
          clear e9 q1 q2 hns HNd
          generalize t.extract 0 u = y at *
          go_upto_region 11 with fail
          go_cut [52, 53] (fun _ s53 wx => ∃ bb : Bool, s53 = .bool bb ∧ Hid (bb = decide (y.size = 0)) ∧ wr = wx)
          case first =>
            by_cases h0 : y.size = 0
            · have he := Wput.abs_empty y h0
              have HE0' : Hid (true = decide (y.size = 0)) := (decide_eq_true h0).symm
              clear h0
              go_wp2_with fail
              go_meet
              exact ⟨true, rfl, HE0', rfl⟩
            · have he := Wput.abs_full y h0
              have HE0' : Hid (false = decide (y.size = 0)) := (decide_eq_false h0).symm
              clear h0
              go_wp2_with fail
              go_meet
              exact ⟨false, rfl, HE0', rfl⟩
          obtain ⟨bb, rfl, HBB, rfl⟩ := hcut
          go_upto_if 53 with fail
          go_cut [11] (fun s11 wx => s11 = .string up ∧ wr = wx)
          case first =>
            cases bb with
            | true =>
              have HE0' : Hid (up = ⟨#[47]⟩) := by show _ = _; rw [HUp.out, if_pos (of_decide_eq_true HBB.out.symm)]
              clear HBB
              go_wp2_with fail
              go_meet
              exact ⟨by rw [HE0'.out], rfl⟩
            | false =>
              have HE0' : Hid (up = y) := by show _ = _; rw [HUp.out, if_neg (of_decide_eq_false HBB.out.symm)]
              clear HBB
              go_wp2_with fail
              go_meet
              exact ⟨by rw [HE0'.out], rfl⟩
          case rest =>
            obtain ⟨rfl, rfl⟩ := hcut
            have hbe := bool_arr up dp
            by_cases hud : up = dp
            · rw [decide_eq_true hud] at hbe
              have HS2 : Hid ((kidsR (R.tail.take k) dp).map Value.string ++ [.string nm] = (kidsR (R.tail.take (k + 1)) dp).map Value.string ∧ (kidsR (R.tail.take (k + 1)) dp).length = j + 1) := by
                rw [HSn.out, if_pos hud, List.map_append, List.length_append, ← HJ.out]
                exact ⟨rfl, rfl⟩
              clear hud HSn HUp HJ
              have hjb : j ≤ 1000000 := by have := HM.out; omega
              go_wp2_with (at_builtin; refine wpList_append_own _ rfl _ _ 30 rfl w3.heap.size 9 i0 (.string .empty) 1 16 Tryz.underlying30 hi0 hz0 hz1 hz2 rfl (by decide) _ _ _ rfl (hown.alloc _) ⟨wr.heap.size, 0, none⟩ 1 1 [.string nm] rfl rfl (cell_one_new _ _ _) (by simp [Value.oneCell']) (by unfold maxLen; omega) (by omega) (by simp; omega) ?_; intro v' w4 hown' hgrow _; have HO := Lib.hid hown'; have HGr := Lib.hid (below_append HB.out hBs hown hgrow); clear hown' hgrow)
              go_roundw
              case rel => exact ⟨k + 1, m + 1, j + 1, by omega, by have := HM.out; show _ = _; omega, by omega, HS2.out.2.symm, by go_num, by rw [← HS2.out.1]; exact HO.out, HGr.out⟩
              case measure => simp [intOf]; omega
            · rw [decide_eq_false hud] at hbe
              have HS2 : Hid (kidsR (R.tail.take (k + 1)) dp = kidsR (R.tail.take k) dp) := by
                show _ = _
                rw [HSn.out, if_neg hud, List.append_nil]
              have HO := Lib.hid hown
              clear hud HSn HUp hown
              go_wp2_with fail
              go_roundw
              case rel => exact ⟨k + 1, m + 1, j, by omega, by have := HM.out; show _ = _; omega, by omega, by rw [HS2.out]; exact HJ, by go_num, by rw [HS2.out]; exact HO.out, HB⟩
              case measure => simp [intOf]; omega
        · have hall : R.tail.take k = R.tail := List.take_of_length_le (by rw [List.length_tail]; have := HN.out; have := HM.out; omega)
          rw [hall] at hown HJ
          obtain ⟨A3, c3, rfl, hs3⟩ := slIs_of_own HJ.out.symm hown
          have HSort := Lib.hid (refSort_own A3 j c3 (kidsR R.tail dp) wr HJ.out.symm hs3 (by have := HM.out; omega))
          clear hown hs3 hall
          go_wp2_with fail
          refine HSort.out.mono ?_
          rintro e w5 ⟨A5, c5, rfl, hs5, hb5⟩
          have HS5 := Lib.hid hs5
          have HB5 := Lib.hid (HB2.out.trans ((HB.out.trans (hb5.mono HB.out.size)).mono HB2.out.size))
          obtain ⟨z, hz⟩ : ∃ z, z = (sortB (kidsR R.tail dp)).length := ⟨_, rfl⟩
          have HZ := Lib.hid hz
          rw [← hz] at HS5 ⊢
          clear hs5 hb5 HSort hz
          go_wp2
          go_ret
          exact ⟨A5, c5, z, by rw [HE.out]; exact HZ.out, rfl, by rw [HE.out]; exact own_to HS5.out (HB2.out.trans (HB.out.mono HB2.out.size)).size, HB5.out⟩
theorem list_is (f : Nat) (R : List Raw) (s : ByteArray) (w : World) (h : FAt w f R) (hm : R.length ≤ 1000000) (hs : s.size ≤ 1000000) (hp : ∀ x ∈ R.tail, 1 ≤ wayB x.path ∧ x.path.size ≤ 3000000) :
    Calls Tryz.prog 52 #[.pointer (some ⟨f, 0, none⟩), .string s] w fun e W' => ∃ A c k, k = (listR R s).length ∧ e = .returned (.slice A k c) ∧ SlIs W' A c (listR R s) ∧ Below w.heap.size w W' :=
  (list_own f R s w h hm hs hp).mono fun e W' ⟨A, c, k, hk, he, ho, hb⟩ => by
    obtain ⟨A2, c2, h2, hs⟩ := slIs_of_own hk.symm ho
    cases h2
    exact ⟨A, c, k, hk, he, hs, hb⟩

end Go.Proofs.YtghfmbmdfojapaaGreatDoor.Wlist
