/- stepsOf; whether a part is Magic. -/
import Derived.Deep.RegionLaw
import Derived.Test.YtghfmbmdfojapaaGreatDoorStepAny
import Derived.Test.YtghfmbmdfojapaaGreatDoorWdpJ
namespace Go.Proofs.YtghfmbmdfojapaaGreatDoor.Wsp
open Go.RowKit Go.Proofs.YtghfmbmdfojapaaGreatDoor.Pth Go.Proofs.YtghfmbmdfojapaaGreatDoor.Strs Go.Proofs.YtghfmbmdfojapaaGreatDoor.StepAny Go.Proofs.YtghfmbmdfojapaaGreatDoor.Wdp Go.Proofs.YtghfmbmdfojapaaGreatDoor.Wst

/-! ### the steps (no program) -/
def goSteps : Nat → List Pt → List Pt
  | _, [] => []
  | 0, _ :: _ => []
  | n + 1, a :: r => ⟨joinT ((a :: r).take (endP (a :: r))), a.magic⟩ :: goSteps n ((a :: r).drop (endP (a :: r)))
theorem goSteps_nil (n : Nat) : goSteps n [] = [] := by cases n <;> rfl
theorem goSteps_cons (n : Nat) (a : Pt) (r : List Pt) : goSteps (n + 1) (a :: r) = ⟨joinT ((a :: r).take (endP (a :: r))), a.magic⟩ :: goSteps n ((a :: r).drop (endP (a :: r))) := rfl
def emptyP : Pt := ⟨[], false⟩
def preP (s : T) : List Pt := if Lib.hasPrefix s [47] then [emptyP] else []
def sufP (s : T) : List Pt := if Lib.hasSuffix s [47] then [emptyP] else []
def stepsP (s : T) (l : List Pt) : List Pt := preP s ++ goSteps l.length l ++ sufP s
theorem runP_le : ∀ (a : Pt) (r : List Pt), runP a r ≤ r.length
  | _, [] => Nat.le_refl _
  | a, b :: r => by
    have := runP_le b r
    rw [runP, List.length_cons]
    split <;> omega
theorem endP_le {l : List Pt} (h : l ≠ []) : endP l ≤ l.length := by
  cases l with
  | nil => exact absurd rfl h
  | cons a r => have := runP_le a r; show runP a r + 1 ≤ r.length + 1; omega
theorem endP_pos (l : List Pt) : 1 ≤ endP l := by
  cases l with
  | nil => exact Nat.le_refl _
  | cons a r => exact Nat.le_add_left _ _
theorem goSteps_len : ∀ (n : Nat) (l : List Pt), (goSteps n l).length ≤ n
  | n, [] => by rw [goSteps_nil]; exact Nat.zero_le _
  | 0, _ :: _ => Nat.le_refl _
  | n + 1, a :: r => by rw [goSteps_cons, List.length_cons]; have := goSteps_len n ((a :: r).drop (endP (a :: r))); omega
theorem lens_join_le (xs : List T) : (Lib.join xs [47]).length ≤ Lib.lens xs + xs.length := join_length_le xs
theorem lens_app (a b : List T) : Lib.lens (a ++ b) = Lib.lens a + Lib.lens b := by simp [Lib.lens]
def sizeP (l : List Pt) : Nat := Lib.lens (l.map Pt.text) + l.length
theorem sizeP_take (l : List Pt) (k : Nat) : sizeP (l.take k) ≤ sizeP l := by
  unfold sizeP
  have h : l.map Pt.text = (l.take k).map Pt.text ++ (l.drop k).map Pt.text := by rw [← List.map_append, List.take_append_drop]
  have h2 : Lib.lens (l.map Pt.text) = Lib.lens ((l.take k).map Pt.text) + Lib.lens ((l.drop k).map Pt.text) := by
    rw [h, lens_app]
  rw [h2, List.length_take]
  omega
theorem sizeP_drop (l : List Pt) (k : Nat) : sizeP (l.drop k) ≤ sizeP l := by
  unfold sizeP
  have h : l.map Pt.text = (l.take k).map Pt.text ++ (l.drop k).map Pt.text := by rw [← List.map_append, List.take_append_drop]
  have h2 : Lib.lens (l.map Pt.text) = Lib.lens ((l.take k).map Pt.text) + Lib.lens ((l.drop k).map Pt.text) := by
    rw [h, lens_app]
  rw [h2, List.length_drop]
  omega
theorem join_size (l : List Pt) : (joinT l).length ≤ sizeP l := by
  have := lens_join_le (l.map Pt.text)
  rw [List.length_map] at this
  exact this

/-! ### Magic parts -/
set_option maxRecDepth 100000 in
set_option maxHeartbeats 400000 in
theorem isMagic_is (x : T) (m : Bool) (w : World) :
    Calls Tryz.prog 21 #[.agg #[.string (bs x), .bool m]] w fun e W' => e = .returned (.bool m) ∧ Below w.heap.size w W' := by
  go_enter Tryz.func21, Tryz.ntmps21
  go_wp2
  go_ret
  exact ⟨rfl, (Below.refl _ _).alloc (Nat.le_refl _) _⟩

def firstM (l : List Pt) : Int := match l.findIdx? (·.magic) with
  | some i => (i : Int)
  | none => -1
theorem firstM_at {l : List Pt} {k : Nat} {x : Pt} (hx : l[k]? = some x) (hm : x.magic = true) (hn : ∀ j, j < k → ∀ y, l[j]? = some y → y.magic = false) : firstM l = k := by
  have h : l.findIdx? (·.magic) = some k := by
    rw [List.findIdx?_eq_some_iff_getElem]
    obtain ⟨hl, rfl⟩ := List.getElem?_eq_some_iff.1 hx
    exact ⟨hl, hm, fun j hj => by rw [hn j hj _ (List.getElem?_eq_getElem (by omega))]; exact Bool.false_ne_true⟩
  unfold firstM
  rw [h]
theorem firstM_none {l : List Pt} (hn : ∀ (j : Nat) (y : Pt), l[j]? = some y → y.magic = false) : firstM l = -1 := by
  have h : l.findIdx? (·.magic) = none := List.findIdx?_eq_none_iff.2 fun x hx => by
    obtain ⟨j, hj⟩ := List.getElem?_of_mem hx
    exact hn j x hj
  unfold firstM
  rw [h]

set_option maxRecDepth 100000 in
set_option maxHeartbeats 2000000 in
theorem indexM_is (A : Option Addr) (n c : Nat) (l : List Pt) (w : World) (hn : l.length = n) (h : PtIs w A c l) (hm : n ≤ 1000001) :
    Calls Tryz.prog 44 #[.slice A n c, .func (.func 21) #[] #[]] w fun e W' => e = .returned (.int .i64 (firstM l)) ∧ Below w.heap.size w W' := by
  have HN := Lib.hid hn
  have HL := Lib.hid h
  have HM := Lib.hid isMagic_is
  clear hn h
  go_enter Tryz.func44, Tryz.ntmps44
  go_wp2_with fail
  go_loopw [8] (fun i wr => ∃ k : Nat, k ≤ n ∧ i = .int .i64 k ∧ Hid (∀ j, j < k → ∀ y, l[j]? = some y → y.magic = false) ∧ Hid (Below w.heap.size w wr)) (fun i _ => n - (intOf i).toNat)
  case atStart => exact ⟨0, Nat.zero_le _, rfl, fun j h => absurd h (Nat.not_lt_zero _), Below.refl _ _⟩
  case round =>
    obtain ⟨k, hk, rfl, HF, HB⟩ := hrel
    by_cases hlt : k < n
    · have hx : l[k]? = some (l[k]'(by rw [HN.out]; exact hlt)) := List.getElem?_eq_getElem _
      obtain ⟨b, o, rfl, hb, hc⟩ := HL.out.at_ hx
      obtain ⟨d0, d1⟩ := hc wr HB.out
      have HAt := Lib.hid (fun hm => firstM_at hx hm HF.out)
      have HNext : Hid ((l[k]'(by rw [HN.out]; exact hlt)).magic = false → ∀ j, j < k + 1 → ∀ y, l[j]? = some y → y.magic = false) := fun hm j hj y hy => by
        rcases Nat.lt_or_ge j k with h1 | h1
        · exact HF.out j h1 y hy
        · obtain rfl : j = k := by omega
          obtain rfl := Option.some.inj (hx.symm.trans hy)
          exact hm
      clear hc hb hx
      generalize (l[k]'(by rw [HN.out]; exact hlt)) = x at *
      obtain ⟨xt, xm⟩ := x
      go_wp2_with fail
      refine (HM.out _ _ _).mono ?_
      rintro e w3 ⟨rfl, hb3⟩
      have HB3 := Lib.hid (HB.out.trans (hb3.mono HB.out.size))
      clear hb3 HB d0 d1
      cases xm with
      | true =>
        have HE := Lib.hid (HAt.out rfl)
        go_wp2
        go_ret
        exact ⟨by rw [HE.out]; rfl, HB3.out⟩
      | false =>
        have HE := Lib.hid (HNext.out rfl)
        go_wp2_with fail
        go_roundw
        case rel => exact ⟨k + 1, by omega, by go_num, HE.out, HB3.out⟩
        case measure => simp [intOf]; omega
    · have HE := Lib.hid (firstM_none (l := l) (fun j y hy => HF.out j (by have := (List.getElem?_eq_some_iff.1 hy).1; rw [HN.out] at this; omega) y hy))
      go_wp2
      go_ret
      exact ⟨by rw [HE.out]; rfl, HB.out⟩

def anyM (l : List Pt) : Bool := l.any (·.magic)
theorem anyM_is (l : List Pt) : decide (firstM l ≥ 0) = anyM l := by
  unfold firstM anyM
  cases h : l.findIdx? (·.magic) with
  | none =>
    have := List.findIdx?_eq_none_iff.1 h
    rw [show l.any (·.magic) = false from List.any_eq_false.2 fun x hx => by rw [this x hx]; exact Bool.false_ne_true]
    rfl
  | some i =>
    have := (List.findIdx?_eq_some_iff_getElem.1 h)
    obtain ⟨h1, h2, _⟩ := this
    rw [show l.any (·.magic) = true from List.any_eq_true.2 ⟨_, List.getElem_mem h1, h2⟩]
    exact decide_eq_true (Int.natCast_nonneg i)

set_option maxRecDepth 100000 in
set_option maxHeartbeats 400000 in
theorem contains_is (A : Option Addr) (n c : Nat) (l : List Pt) (w : World) (hn : l.length = n) (h : PtIs w A c l) (hm : n ≤ 1000001) :
    Calls Tryz.prog 20 #[.slice A n c, .func (.func 21) #[] #[]] w fun e W' => e = .returned (.bool (anyM l)) ∧ Below w.heap.size w W' := by
  have HI := Lib.hid (indexM_is A n c l w hn h hm)
  have HA := Lib.hid (anyM_is l)
  generalize firstM l = z at *
  clear hn h
  go_enter Tryz.func20, Tryz.ntmps20
  go_wp2_with fail
  refine HI.out.mono ?_
  rintro e w3 ⟨rfl, hb3⟩
  have HB3 := Lib.hid hb3
  clear hb3
  by_cases hz : 0 ≤ z
  · have HE : Hid (anyM l = true) := by show _ = _; rw [← HA.out]; exact decide_eq_true hz
    go_wp2
    go_ret
    exact ⟨by rw [HE.out]; rfl, HB3.out⟩
  · have HE : Hid (anyM l = false) := by show _ = _; rw [← HA.out]; exact decide_eq_false hz
    have hd : decide (0 ≤ z) = false := decide_eq_false hz
    go_wp2
    go_ret
    exact ⟨by rw [HE.out]; first | rfl | exact ret_bool hd, HB3.out⟩

/-! ### the steps -/
def sliceLen : Value → Nat
  | .slice _ n _ => n
  | _ => 0
theorem cut_pt {W : World} {b o c e : Nat} {r : List Pt} (h : PtIs W (some ⟨b, o, none⟩) c r) (he : e ≤ r.length) : PtIs W (if c = e then some ⟨b, o, none⟩ else some ⟨b, o + e * 2, none⟩) (c - e) (r.drop e) := by
  split
  · rename_i hc
    have h1 := h.1
    have h2 : r.drop e = [] := List.drop_eq_nil_of_le (by omega)
    rw [h2]
    exact ⟨Nat.zero_le _, .inl rfl⟩
  · exact h.drop e he

set_option maxRecDepth 100000 in
set_option maxHeartbeats 8000000 in
theorem stepsOf_is (s : ByteArray) (A : Option Addr) (n c : Nat) (l : List Pt) (w : World) (hs : s.size ≤ 1000000) (hn : l.length = n) (h : PtIs w A c l) (hm : n ≤ 1000001) (hz : sizeP l ≤ 140737488355328) :
    Calls Tryz.prog 24 #[.string s, .slice A n c] w fun e W' => ∃ A' c', e = .returned (.slice A' (stepsP s.data.toList l).length c') ∧ PtIs W' A' c' (stepsP s.data.toList l) ∧ Below w.heap.size w W' := by
  obtain ⟨i0, hi0, hz0, hz1, hz2⟩ := info_parts infoStep
  have HN := Lib.hid hn
  have HL := Lib.hid h
  have HZ := Lib.hid hz
  have HPre := Lib.hid (fun W => Tryz.strings_HasPrefix s ⟨#[47]⟩ W)
  have HSuf := Lib.hid (fun W => Tryz.strings_HasSuffix s ⟨#[47]⟩ W (by omega))
  have e47 : (⟨#[47]⟩ : ByteArray).data.toList = [47] := rfl
  rw [e47] at HPre HSuf
  have HP : Hid (preP s.data.toList = if Lib.hasPrefix s.data.toList [47] then [emptyP] else []) := rfl
  have HS : Hid (sufP s.data.toList = if Lib.hasSuffix s.data.toList [47] then [emptyP] else []) := rfl
  have HSt : Hid (stepsP s.data.toList l = preP s.data.toList ++ goSteps l.length l ++ sufP s.data.toList) := rfl
  generalize stepsP s.data.toList l = sts at *
  generalize preP s.data.toList = pre at *
  generalize sufP s.data.toList = suf at *
  generalize Lib.hasPrefix s.data.toList [47] = bp at *
  generalize Lib.hasSuffix s.data.toList [47] = bsf at *
  clear e47 hn h hz
  have HOne := Lib.hid (encP_one emptyP)
  have hzE : (encP emptyP).length = 1 * 2 := rfl
  go_enter Tryz.func24, Tryz.ntmps24
  go_wp2_with fail
  refine (HPre.out _).mono ?_
  rintro e w0 ⟨rfl, rfl⟩
  go_upto_if 8 with fail
  go_cut [5] (fun v wx => ∃ W, W = wx ∧ Hid (W.ownsRow w0.heap.size 82 2 v pre.length (cellsP pre)) ∧ Hid (Below w0.heap.size w0 W))
  case first =>
    have HNW := Lib.hid (newsP w0 emptyP 82)
    cases bp with
    | true =>
      go_wp2_with (at_builtin; refine wpList_append_own _ rfl _ _ 62 rfl w0.heap.size 82 i0 (.agg #[.string .empty, .bool false]) 2 24 Tryz.underlying62 hi0 hz0 hz1 hz2 rfl (by decide) _ _ _ rfl (World.ownsRow_nil _ _ _ _) ⟨w0.heap.size, 0, none⟩ 1 1 (encP emptyP) rfl hzE HNW.out HOne.out (by unfold maxLen; omega) (by omega) (by simp) ?_; intro v' w4 hown' hgrow _; have HO := Lib.hid hown'; have HG : Hid (Below w0.heap.size w0 w4) := ((Below.refl _ _).alloc (Nat.le_refl _) _).grown hgrow (by simp) (fun k e => by cases e); clear hown' hgrow)
      go_meet
      exact ⟨_, rfl, by rw [HP.out]; exact HO.out, HG.out⟩
    | false =>
      go_wp2_with fail
      go_meet
      exact ⟨_, rfl, by rw [HP.out]; exact World.ownsRow_nil _ _ _ _, Below.refl _ _⟩
  case rest =>
    obtain ⟨w1, rfl, HO1, HB1⟩ := hcut
    have hpl : pre.length ≤ 1 := by rw [HP.out]; split <;> simp [emptyP]
    go_wp2_with fail
    go_loopw [1, 5] (fun v1 v5 wr => ∃ (rn : Nat) (r : List Pt) (A' : Option Addr) (c' : Nat) (sts' : List Pt), v1 = .slice A' rn c' ∧ rn ≤ n ∧ sts'.length + rn ≤ n + 1 ∧ wr.ownsRow w0.heap.size 82 2 v5 sts'.length (cellsP sts') ∧ Hid (r.length = rn ∧ PtIs w0 A' c' r ∧ sizeP r ≤ 140737488355328) ∧ Hid (∃ m, rn ≤ m ∧ pre ++ goSteps l.length l = sts' ++ goSteps m r) ∧ Hid (Below w0.heap.size w0 wr)) (fun v1 _ _ => sliceLen v1)
    case atStart => exact ⟨n, l, A, c, pre, rfl, Nat.le_refl _, by omega, HO1.out, ⟨HN.out, HL.out, HZ.out⟩, ⟨l.length, by rw [HN.out]; exact Nat.le_refl _, rfl⟩, HB1.out⟩
    case round =>
      obtain ⟨rn, r, A', c', sts', rfl, hrn, hst, hown, HR, HG, HB⟩ := hrel
      by_cases h0 : 0 < rn
      · obtain ⟨hrl, hrp, hrz⟩ := HR.out
        have hx : r[0]? = some (r[0]'(by omega)) := List.getElem?_eq_getElem _
        obtain ⟨b, o, rfl, hb, hc⟩ := hrp.at_ hx
        have hrne : r ≠ [] := fun e => by rw [e] at hrl; simp at hrl; omega
        have he1 := endP_pos r
        have he2 := endP_le hrne
        rw [hrl] at he2
        have HEnd := Lib.hid (goEnd_is (some ⟨b, o, none⟩) rn c' r wr hrl (hrp.below HB.out) h0 (by omega))
        have hrc : rn ≤ c' := by rw [← hrl]; exact hrp.1
        have HJoin := Lib.hid (fun W (hW : Below w0.heap.size w0 W) => join_is (some ⟨b, o, none⟩) (endP r) c' (r.take (endP r)) W (by rw [List.length_take, hrl]; omega) ((hrp.below hW).take _) (by omega) (Nat.le_trans (join_size _) (Nat.le_trans (sizeP_take _ _) hrz)))
        have HCell := Lib.hid (fun W (hW : Below w0.heap.size w0 W) => (hc W hW).2)
        have HDrop := Lib.hid (fun W (hW : Below w0.heap.size w0 W) => cut_pt (e := endP r) (hrp.below hW) (by rw [hrl]; exact he2))
        have HG2 : Hid (∃ m', rn - endP r ≤ m' ∧ pre ++ goSteps l.length l = (sts' ++ [⟨joinT (r.take (endP r)), (r[0]'(by omega)).magic⟩]) ++ goSteps m' (r.drop (endP r))) := by
          obtain ⟨m, hm1, hm2⟩ := HG.out
          cases r with
          | nil => exact absurd rfl hrne
          | cons a rr =>
            obtain ⟨m', rfl⟩ : ∃ m', m = m' + 1 := ⟨m - 1, by omega⟩
            refine ⟨m', by omega, ?_⟩
            rw [hm2, goSteps_cons, List.append_assoc]
            rfl
        have HR2 : Hid ((r.drop (endP r)).length = rn - endP r ∧ sizeP (r.drop (endP r)) ≤ 140737488355328) := ⟨by rw [List.length_drop, hrl], Nat.le_trans (sizeP_drop _ _) hrz⟩
        clear hx hc hrp hrz hrne HG HR
        obtain ⟨jt, hjt⟩ : ∃ jt, jt = joinT (r.take (endP r)) := ⟨_, rfl⟩
        obtain ⟨mg, hmg⟩ : ∃ mg, mg = (r[0]'(by omega)).magic := ⟨_, rfl⟩
        rw [← hjt] at HJoin HG2
        rw [← hmg] at HCell HG2
        obtain ⟨ee, hee⟩ : ∃ ee, ee = endP r := ⟨_, rfl⟩
        rw [← hee] at HJoin HG2 HR2 HDrop HEnd he1 he2
        have HOw := Lib.hid hown
        clear hjt hmg hee hown hrl
        go_wp2_with fail
        refine HEnd.out.mono ?_
        rintro e w2 ⟨rfl, hb2⟩
        have hb02 : Below w0.heap.size w0 w2 := HB.out.trans (hb2.mono HB.out.size)
        have HB2 := Lib.hid hb02
        have HOw2 := Lib.hid (rows_below (W := w2) HOw.out (fun g hg => hb2.block g (HOw.out.lt g hg).2))
        have cA : w2.cell? ⟨b, o + 1, none⟩ = some (.bool mg) := HCell.out w2 hb02
        have hec : ee ≤ c' := by omega
        clear hb2 hb02 HEnd HOw HB
        go_upto_region 6 with fail
        go_cut [5] (fun v wx => ∃ W, W = wx ∧ Hid (W.ownsRow w0.heap.size 82 2 v (sts'.length + 1) (cellsP (sts' ++ [⟨jt, mg⟩]))) ∧ Hid (Below w0.heap.size w0 W))
        case first =>
          have hb2d : Below w0.heap.size w0 w2.drew := HB2.out.drew
          have HN2 := Lib.hid (fun W => newsP W ⟨jt, mg⟩ 82)
          have hz4 : (encP ⟨jt, mg⟩).length = 1 * 2 := rfl
          have HOn := Lib.hid (encP_one ⟨jt, mg⟩)
          have HHb := Lib.hid hb
          have HJ2 := Lib.hid (fun W (hW : Below w0.heap.size w0 W) => HJoin.out W hW)
          have HApp : Hid (∀ l : List Pt, cellsP l ++ encP ⟨jt, mg⟩ = cellsP (l ++ [⟨jt, mg⟩])) := fun l => by rw [cellsP_app]; rfl
          go_region_law (first
            | (go_simp; go_at_call 22; refine (HJ2.out _ (by first | exact hb2d | assumption)).mono ?_; rintro e w3 ⟨rfl, hb3⟩; have cB : w3.cell? ⟨b, o + 1, none⟩ = some (.bool mg) := HCell.out w3 (hb2d.trans (hb3.mono hb2d.size)); have HB3 : Hid (Below w0.heap.size w0 w3) := hb2d.trans (hb3.mono hb2d.size); have HOw3 := Lib.hid (rows_below (W := w3) HOw2.out (fun g hg => hb3.block g (HOw2.out.lt g hg).2)); have hs3 := HB3.out.size; clear hb3)
            | (refine step_append_any rfl _ _ 62 rfl w0.heap.size 82 i0 (.agg #[.string .empty, .bool false]) 2 24 Tryz.underlying62 hi0 hz0 hz1 hz2 rfl (by decide) u5 sts'.length (cellsP sts') (by simp [Act.eval]) (HOw3.out.alloc _) (some ⟨w3.heap.size, 0, none⟩) 1 1 (encP ⟨jt, mg⟩) (by simp [Act.eval]) (fun h => by cases h) hz4 (fun ad h => by cases h; exact HN2.out w3) HOn.out (by unfold maxLen; omega) (by omega) (Nat.le_trans hs3 (by simp)) ?_; intro v4 w4 hown4 hgrow4; have HO4 := Lib.hid hown4; have HB4 : Hid (Below w0.heap.size w0 w4) := (HB3.out.alloc HB3.out.size _).grown hgrow4 (Nat.le_trans HB3.out.size (by simp)) (fun k e => (HOw3.out.lt k e).1); clear hown4 hgrow4))
          all_goals go_wp2_with fail
          all_goals go_meet
          all_goals exact ⟨_, rfl, by rw [← HApp.out]; exact HO4.out, HB4.out⟩
        case rest =>
          obtain ⟨w5, rfl, HO5, HB5⟩ := hcut
          clear cA
          go_wp2_with fail
          go_roundw
          case rel => exact ⟨rn - ee, r.drop ee, _, c' - ee, sts' ++ [Pt.mk jt mg], rfl, by omega, by rw [List.length_append]; simp; omega, by rw [List.length_append]; exact HO5.out, ⟨HR2.out.1, HDrop.out w0 (Below.refl _ _), HR2.out.2⟩, HG2.out, HB5.out⟩
          case measure => simp [sliceLen]; omega
      · obtain rfl : rn = 0 := by omega
        have HE : Hid (pre ++ goSteps l.length l = sts') := by
          show _ = _
          obtain ⟨m, _, hm2⟩ := HG.out
          obtain rfl : r = [] := List.eq_nil_of_length_eq_zero HR.out.1
          rw [goSteps_nil, List.append_nil] at hm2
          exact hm2
        have HOw := Lib.hid hown
        clear HR HG hown
        go_wp2_with fail
        refine (HSuf.out _).mono ?_
        rintro e w2 ⟨rfl, rfl⟩
        cases bsf with
        | true =>
          have HNW := Lib.hid (newsP w2 emptyP 82)
          have hs2 := HB.out.size
          go_wp2_with (at_builtin; refine wpList_append_own _ rfl _ _ 62 rfl w0.heap.size 82 i0 (.agg #[.string .empty, .bool false]) 2 24 Tryz.underlying62 hi0 hz0 hz1 hz2 rfl (by decide) _ _ _ rfl (HOw.out.alloc _) ⟨w2.heap.size, 0, none⟩ 1 1 (encP emptyP) rfl hzE HNW.out HOne.out (by unfold maxLen; omega) (by omega) (by simp; omega) ?_; intro v' w4 hown' hgrow _; have HO := Lib.hid hown'; have HGe : Hid (Below w0.heap.size w0 w4) := (HB.out.alloc hs2 _).grown hgrow (by simp; omega) (fun k e => (HOw.out.lt k e).1); clear hown' hgrow)
          have HE2 : Hid (sts' ++ [emptyP] = sts) := by show _ = _; rw [HSt.out, HE.out, HS.out]; rfl
          have hown := HO.out
          rw [show cellsP sts' ++ encP emptyP = cellsP (sts' ++ [emptyP]) by rw [cellsP_app]; rfl, show sts'.length + 1 = (sts' ++ [emptyP]).length by simp, HE2.out] at hown
          obtain ⟨A9, c9, rfl, hP9⟩ := ptIs_of_own rfl hown
          have HP9 := Lib.hid hP9
          clear hP9 hown HO
          go_wp2
          go_ret
          exact ⟨A9, c9, rfl, HP9.out, HGe.out⟩
        | false =>
          have HE2 : Hid (sts' = sts) := by show _ = _; rw [HSt.out, HE.out, HS.out]; simp
          have hown := HOw.out
          rw [HE2.out] at hown
          obtain ⟨A9, c9, rfl, hP9⟩ := ptIs_of_own rfl hown
          have HP9 := Lib.hid hP9
          clear hP9 hown HOw
          go_wp2
          go_ret
          exact ⟨A9, c9, rfl, HP9.out, HB.out⟩

end Go.Proofs.YtghfmbmdfojapaaGreatDoor.Wsp
