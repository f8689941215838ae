/- LinesPlain walked: plain lines, some of which go on. -/
import Derived.Deep.RegionHeld3
import Derived.Deep.DeepCutAuto
import Derived.Deep.QuietTactic
import Derived.BigQuiet
import Derived.Laws.OwnMore
import Derived.Test.YtcopddepnphfmaaDoorNums
import Derived.Test.YtcopddepnphfmaaDoorBopen
import Derived.Test.YtcopddepnphfmaaDoorLplain
import Derived.Test.YtcopddepnphfmaaDoorLrefa
namespace Go.Proofs.YtcopddepnphfmaaDoor.LinesPlain
open Go.RowKit Go.Proofs.YtcopddepnphfmaaDoor.Pure Go.Proofs.YtcopddepnphfmaaDoor.Ends Go.Proofs.YtcopddepnphfmaaDoor.Ln Go.Proofs.YtcopddepnphfmaaDoor.Lall Go.Proofs.YtcopddepnphfmaaDoor.Lalls Go.Proofs.YtcopddepnphfmaaDoor.Lmem Go.Proofs.YtcopddepnphfmaaDoor.Lrows Go.Proofs.YtcopddepnphfmaaDoor.Lwords Go.Proofs.YtcopddepnphfmaaDoor.Lplain Go.Proofs.YtcopddepnphfmaaDoor.Nums Go.Proofs.YtcopddepnphfmaaDoor.Bopen
open Go.Proofs.YtcopddepnphfmaaDoor.Strs (SlIs slIs_of_own infoString below_append)

def strs (l : List Bs) : List Value := l.map (fun x => Value.string (bs x))
theorem strs_len (l : List Bs) : (strs l).length = l.length := List.length_map _
theorem strs_bs (l : List Bs) : strs l = (l.map bs).map Value.string := by unfold strs; rw [List.map_map]; rfl
theorem joinS_len (g : List Bs) (h : ∀ x ∈ g, Gw x) : (joinS g).length ≤ g.length * 22 := by
  have := Ltext.join_bound 20 [32] g (fun x hx => (h x hx).len)
  unfold joinS
  have e : ([32] : Bs).length = 1 := rfl
  rw [e] at this
  omega
theorem set_last (done : List (List Bs)) (x y : Bs) : (strs (done.map joinS ++ [x])).set done.length (.string (bs y)) = strs (done.map joinS ++ [y]) := by
  unfold strs
  rw [List.map_append, List.map_append, List.set_append_right _ _ (by simp)]
  simp
theorem get_last (done : List (List Bs)) (x : Bs) : (strs (done.map joinS ++ [x]))[done.length]? = some (.string (bs x)) := by
  unfold strs
  rw [List.map_append, List.getElem?_append_right (by simp)]
  simp
theorem trim_x : trimB (bs [32, 120, 32]) = bs [120] := by decide
theorem below_drewN {B : Nat} {a w : World} (h : Below B a w) (n : Nat) : Below B a (w.drewN n) := ⟨h.os, h.tape, h.output, h.size, h.block⟩

theorem rows_more (done : List (List Bs)) (cur : List Bs) (l : Bs) : strs (wants done (cur ++ [l])) = strs (done.map joinS ++ [joinS (cur ++ [l])]) ∧ (wants done (cur ++ [l])).length = done.length + 1 := by
  rw [wants_put _ _ (by simp)]; exact ⟨rfl, by simp⟩
theorem rows_end (done : List (List Bs)) (cur : List Bs) (l : Bs) : strs (wants (done ++ [cur ++ [l]]) []) = strs (done.map joinS ++ [joinS (cur ++ [l])]) ∧ (wants (done ++ [cur ++ [l]]) []).length = done.length + 1 := by
  rw [wants_nil, List.map_append]; exact ⟨rfl, by simp⟩

structure St (done : List (List Bs)) (cur : List Bs) (n0 q : Nat) : Prop where
  dn : ∀ g ∈ done, OkG g
  cr : ∀ x ∈ cur, Gw x
  op : cur ≠ [] → q < n0 ∧ q < 30
  tl : (textD done ++ openT cur).length ≤ q * 25
  wl : (wants done cur).length ≤ q
  cl : cur.length ≤ q
theorem st_more {done : List (List Bs)} {cur : List Bs} {n0 q : Nat} {l : Bs} (h : St done cur n0 q) (hl : Gw l) (h1 : q + 1 < n0) (h2 : q + 1 < 30) : St done (cur ++ [l]) n0 (q + 1) := by
  have hw := h.wl
  refine ⟨h.dn, fun x hx => (List.mem_append.1 hx).elim (h.cr x) (fun e => by rw [List.mem_singleton.1 e]; exact hl), fun _ => ⟨h1, h2⟩, ?_, ?_, by have := h.cl; simp; omega⟩
  · have := h.tl
    have h3 := hl.len
    rw [openT_snoc]
    simp only [List.length_append, List.length_cons, List.length_nil] at this ⊢
    omega
  · rw [wants_put _ _ (by simp)]
    by_cases hc : cur = []
    · rw [hc, wants_nil] at hw; simp at hw ⊢; omega
    · rw [wants_put _ _ hc] at hw; simp at hw ⊢; omega
theorem st_end {done : List (List Bs)} {cur : List Bs} {n0 q : Nat} {l : Bs} (h : St done cur n0 q) (hl : Gw l) : St (done ++ [cur ++ [l]]) [] n0 (q + 1) := by
  have hw := h.wl
  refine ⟨fun g hg => (List.mem_append.1 hg).elim (h.dn g) (fun e => by rw [List.mem_singleton.1 e]; exact ⟨by simp, fun x hx => (List.mem_append.1 hx).elim (h.cr x) (fun e => by rw [List.mem_singleton.1 e]; exact hl)⟩), fun x hx => absurd hx (by simp), fun e => absurd rfl e, ?_, ?_, by simp⟩
  · have := h.tl
    have h3 := hl.len
    have e : openT [] = [] := rfl
    rw [textD_snoc, e]
    simp only [List.length_append, List.length_cons, List.length_nil] at this ⊢
    omega
  · rw [wants_nil]
    by_cases hc : cur = []
    · rw [hc, wants_nil] at hw; simp at hw ⊢; omega
    · rw [wants_put _ _ hc] at hw; simp at hw ⊢; omega

set_option maxRecDepth 100000 in
set_option maxHeartbeats 6000000 in
theorem walk (A0 : Option Addr) (n0 c0 : Nat) (zs0 : List Int) (A1 : Option Addr) (n1 c1 : Nat) (B1 : Nat → Bool) (w : World) (hl0 : IntIs w A0 n0 c0 zs0) (_hm0 : n0 ≤ maxLen) (hl1 : BoolIs w A1 n1 c1 B1) (_hm1 : n1 ≤ maxLen) :
    Calls Tryd.prog 5 #[.slice A0 n0 c0, .slice A1 n1 c1] w fun e W' => e = .returned (.bool true) ∧ Below w.heap.size w W' := by
  obtain ⟨i0, hi, hz0, hz1, hz2⟩ := info_parts infoString
  have hm0 : n0 ≤ 9223372036854775807 := by unfold maxLen at _hm0; omega
  have hm1 : n1 ≤ 9223372036854775807 := by unfold maxLen at _hm1; omega
  have HL0 := Lib.hid hl0
  have HL1 := Lib.hid hl1
  clear hl0 hl1 _hm0 _hm1
  go_enter Tryd.func5, Tryd.ntmps5
  go_wp2_with fail
  go_loopw [5, 6, 7, 8] (fun vs v vo i wr => ∃ (done : List (List Bs)) (cur : List Bs) (q : Nat), vs = .string (bs (textD done ++ openT cur)) ∧ vo = .bool (!cur.isEmpty) ∧ i = .int .i64 (q : Int) ∧ q ≤ n0 ∧ q ≤ 30 ∧ wr.ownsRow w.heap.size 9 1 v (wants done cur).length (strs (wants done cur)) ∧ Hid (St done cur n0 q) ∧ Hid (Below w.heap.size w wr))
    (fun _ _ _ i _ => 30 - (intOf i).toNat)
  case atStart => exact ⟨[], [], 0, rfl, rfl, rfl, Nat.zero_le _, by omega, World.ownsRow_nil _ _ _ _, ⟨fun g hg => absurd hg (by simp), fun x hx => absurd hx (by simp), fun e => absurd rfl e, by simp [textD, openT], by simp [wants], by simp⟩, Below.refl _ _⟩
  case round =>
    obtain ⟨done, cur, q, rfl, rfl, rfl, hq0, hq30, hown, HS, HB⟩ := hrel
    have hBs := HB.out.size
    have htl := HS.out.tl
    have hwl := HS.out.wl
    by_cases hlt : q < n0 ∧ q < 30
    · obtain ⟨hlt0, hlt30⟩ := hlt
      obtain ⟨b, o, z, rfl, hz, hc⟩ := HL0.out.at_ hlt0
      have k0 := hc wr HB.out
      obtain ⟨l, hgw, hW⟩ := word_gw z hz
      have HW := Lib.hid hW
      have hll := hgw.len
      have HGW := Lib.hid hgw
      have HO := Lib.hid hown
      obtain ⟨mb, hmb⟩ : ∃ mb : Bool, mb = (decide (q < n1) && (decide (q < n1) && B1 q) && decide (q + 1 < n0) && decide (q + 1 < 30)) := ⟨_, rfl⟩
      have HMB := Lib.hid hmb
      have hjl := joinS_len cur HS.out.cr
      have hcl := HS.out.cl
      have a1 : ∀ W, (Op.stringOp .add (bs (textD done ++ openT cur)) (bs l)).run Tryd.prog W = .ok (.string (bs (textD done ++ openT cur ++ l))) W := fun W => add_l (textD done ++ openT cur) l W (by omega)
      have a2 : ∀ W, (Op.stringOp .add (bs (textD done ++ openT cur ++ l)) ⟨#[32, 32, 92]⟩).run Tryd.prog W = .ok (.string (bs (textD done ++ openT cur ++ l ++ [32, 32, 92]))) W := fun W => add_l (textD done ++ openT cur ++ l) [32, 32, 92] W (by rw [List.length_append]; simp only [List.length_cons, List.length_nil]; omega)
      have a3 : ∀ W, (Op.stringOp .add (bs (textD done ++ openT cur ++ l ++ [32, 32, 92])) ⟨#[10]⟩).run Tryd.prog W = .ok (.string (bs (textD done ++ openT (cur ++ [l])))) W := fun W => by
        have := add_l (textD done ++ openT cur ++ l ++ [32, 32, 92]) [10] W (by rw [List.length_append, List.length_append]; simp only [List.length_cons, List.length_nil]; omega)
        rw [openT_snoc]
        rw [show textD done ++ (openT cur ++ l ++ [32, 32, 92] ++ [10]) = textD done ++ openT cur ++ l ++ [32, 32, 92] ++ [10] by simp]
        exact this
      have a4 : ∀ W, (Op.stringOp .add (bs (textD done ++ openT cur ++ l)) ⟨#[10]⟩).run Tryd.prog W = .ok (.string (bs (textD (done ++ [cur ++ [l]]) ++ openT []))) W := fun W => by
        have := add_l (textD done ++ openT cur ++ l) [10] W (by rw [List.length_append]; simp only [List.length_cons, List.length_nil]; omega)
        have e : openT [] = [] := rfl
        rw [e, List.append_nil, textD_snoc]
        exact this
      have e1 : ∀ W, (Op.stringOp .add (bs (joinS cur)) ⟨#[32]⟩).run Tryd.prog W = .ok (.string (bs (joinS cur ++ [32]))) W := fun W => add_l (joinS cur) [32] W (by simp only [List.length_cons, List.length_nil]; omega)
      have e2 : ∀ W, (Op.stringOp .add (bs (joinS cur ++ [32])) (bs l)).run Tryd.prog W = .ok (.string (bs (joinS cur ++ [32] ++ l))) W := fun W => add_l (joinS cur ++ [32]) l W (by rw [List.length_append]; simp only [List.length_cons, List.length_nil]; omega)
      obtain ⟨Z3, hZ3⟩ : ∃ Z, bs (textD done ++ openT (cur ++ [l])) = Z := ⟨_, rfl⟩
      obtain ⟨Z4, hZ4⟩ : ∃ Z, bs (textD (done ++ [cur ++ [l]]) ++ openT []) = Z := ⟨_, rfl⟩
      rw [hZ3] at a3
      rw [hZ4] at a4
      have HZ3 := Lib.hid hZ3
      have HZ4 := Lib.hid hZ4
      obtain ⟨E2, hE2⟩ : ∃ E, bs (joinS cur ++ [32] ++ l) = E := ⟨_, rfl⟩
      rw [hE2] at e2
      have HE2 := Lib.hid hE2
      obtain ⟨E0, hE0⟩ : ∃ E, bs (joinS cur) = E := ⟨_, rfl⟩
      rw [hE0] at e1
      have HE0 := Lib.hid hE0
      obtain ⟨Lw, hLw⟩ : ∃ L, bs l = L := ⟨_, rfl⟩
      rw [hLw] at a1 e2 HW
      have HLw := Lib.hid hLw
      clear hmb hjl hcl htl hll hW hgw hown hc hZ3 hZ4 hE2 hE0 hLw
      generalize bs (joinS cur ++ [32]) = E1 at *
      generalize bs (textD done ++ openT cur ++ l ++ [32, 32, 92]) = X2 at *
      generalize bs (textD done ++ openT cur ++ l) = X1 at *
      generalize bs (textD done ++ openT cur) = X0 at *
      have HB1 : Hid (q < n1 → ∃ b2 o2, A1 = some ⟨b2, o2, none⟩ ∧ wr.cell? ⟨b2, o2 + q, none⟩ = some (.bool (B1 q))) := fun h => by
        obtain ⟨b2, o2, h1, h2⟩ := HL1.out.at_ h
        exact ⟨b2, o2, h1, h2 wr HB.out⟩
      go_wp2_with fail
      refine (HW.out _).mono ?_
      rintro e w' ⟨rfl, rfl⟩
      go_upto_region 6 with fail
      go_cut [10] from 28 to 49 (fun b wx => b = .bool mb ∧ wr = wx)
      case first =>
        have HM0 : ∀ b1 b2 b3 b4 : Bool, decide (q < n1) = b1 → B1 q = b2 → decide (q + 1 < n0) = b3 → decide (q + 1 < 30) = b4 → mb = (b1 && (b1 && b2) && b3 && b4) := fun b1 b2 b3 b4 h1 h2 h3 h4 => by rw [HMB.out, h1, h2, h3, h4]
        have HM := Lib.hid HM0
        clear HM0
        by_cases hq1 : q < n1
        · obtain ⟨b2, o2, rfl, k1⟩ := HB1.out hq1
          cases hbq : B1 q with
          | true =>
            rw [hbq] at k1
            have HBQ := Lib.hid hbq
            clear hbq
            by_cases h1 : q + 1 < n0
            · by_cases h2 : q + 1 < 30
              · have HE := Lib.hid (HM.out _ _ _ _ (decide_eq_true hq1) HBQ.out (decide_eq_true h1) (decide_eq_true h2))
                have t2 : decide ((q : Int) + 1 < 30) = true := decide_eq_true (by omega)
                go_wp2
                go_meet
                case rel => exact ⟨congrArg Value.bool HE.out.symm, rfl⟩
              · have HE := Lib.hid (HM.out _ _ _ _ (decide_eq_true hq1) HBQ.out (decide_eq_true h1) (decide_eq_false h2))
                have t2 : decide ((q : Int) + 1 < 30) = false := decide_eq_false (by omega)
                go_wp2
                go_meet
                case rel => exact ⟨congrArg Value.bool HE.out.symm, rfl⟩
            · have HE := Lib.hid (HM.out _ _ _ (decide (q + 1 < 30)) (decide_eq_true hq1) HBQ.out (decide_eq_false h1) rfl)
              have HE2 : Hid (mb = false) := by show _ = _; rw [HE.out, Bool.and_false, Bool.false_and]
              have t1 : decide ((q : Int) + 1 < (n0 : Int)) = false := decide_eq_false (by omega)
              clear HE
              go_wp2
              go_meet
              case rel => exact ⟨congrArg Value.bool HE2.out.symm, rfl⟩
          | false =>
            rw [hbq] at k1
            have HE := Lib.hid (HM.out _ _ (decide (q + 1 < n0)) (decide (q + 1 < 30)) (decide_eq_true hq1) hbq rfl rfl)
            have HE2 : Hid (mb = false) := by show _ = _; rw [HE.out]; simp
            clear hbq HE
            go_wp2
            go_meet
            case rel => exact ⟨congrArg Value.bool HE2.out.symm, rfl⟩
        · have HE := Lib.hid (HM.out _ (B1 q) (decide (q + 1 < n0)) (decide (q + 1 < 30)) (decide_eq_false hq1) rfl rfl rfl)
          have HE2 : Hid (mb = false) := by show _ = _; rw [HE.out]; rfl
          have t1 : decide ((q : Int) < (n1 : Int)) = false := decide_eq_false (by omega)
          clear HE
          go_wp2
          go_meet
          case rel => exact ⟨congrArg Value.bool HE2.out.symm, rfl⟩
      case rest =>
        obtain ⟨rfl, rfl⟩ := hcut
        have HM2 : Hid (mb = true → q + 1 < n0 ∧ q + 1 < 30) := fun e => by
          have h := HMB.out
          rw [e] at h
          simp at h
          exact ⟨h.1.2, h.2⟩
        have hdl : done.length ≤ 30 := by
          by_cases hc : cur = []
          · rw [hc, wants_nil, List.length_map] at hwl; omega
          · rw [wants_put _ _ hc, List.length_append, List.length_map] at hwl; omega
        by_cases hcur : cur = []
        · have eo : (!cur.isEmpty) = false := by rw [hcur]; rfl
          have HO1 := HO.out
          rw [hcur, wants_nil, List.length_map] at HO1
          have HEE : Hid (strs (done.map joinS) ++ [.string Lw] = strs (done.map joinS ++ [joinS (cur ++ [l])])) := by
            show _ = _
            rw [hcur, List.nil_append, joinS_one, ← HLw.out]
            unfold strs
            rw [List.map_append]; rfl
          rw [eo]
          clear HO eo hcur
          have hBs2 := HB.out.size
          cases mb with
          | true =>
            have hmq := HM2.out rfl
            go_wp2_with (at_builtin; refine wpList_append_own _ rfl _ _ 39 rfl w.heap.size 9 i0 (.string .empty) 1 16 Tryd.underlying39 hi hz0 hz1 hz2 rfl (by decide) _ _ _ rfl (HO1.alloc _) ⟨wr.heap.size, 0, none⟩ 1 1 [.string Lw] rfl rfl (cell_one_new _ _ _) (by simp [Value.oneCell']) (by unfold maxLen; omega) (by omega) (by simp; omega) ?_; intro v' w2 hown' hgrow _; rw [HEE.out] at hown'; have HO2 := Lib.hid hown'; have HG := Lib.hid (below_append HB.out hBs2 HO1 hgrow); clear hown' hgrow HO1)
            go_roundw
            case rel => exact ⟨done, cur ++ [l], q + 1, by rw [HZ3.out], by simp, by go_num, by omega, by omega, by rw [(rows_more done cur l).1, (rows_more done cur l).2]; exact HO2.out, st_more HS.out HGW.out hmq.1 hmq.2, HG.out⟩
            case measure => simp [intOf]; omega
          | false =>
            go_wp2_with (at_builtin; refine wpList_append_own _ rfl _ _ 39 rfl w.heap.size 9 i0 (.string .empty) 1 16 Tryd.underlying39 hi hz0 hz1 hz2 rfl (by decide) _ _ _ rfl (HO1.alloc _) ⟨wr.heap.size, 0, none⟩ 1 1 [.string Lw] rfl rfl (cell_one_new _ _ _) (by simp [Value.oneCell']) (by unfold maxLen; omega) (by omega) (by simp; omega) ?_; intro v' w2 hown' hgrow _; rw [HEE.out] at hown'; have HO2 := Lib.hid hown'; have HG := Lib.hid (below_append HB.out hBs2 HO1 hgrow); clear hown' hgrow HO1)
            go_roundw
            case rel => exact ⟨done ++ [cur ++ [l]], [], q + 1, by rw [HZ4.out], rfl, by go_num, by omega, by omega, by rw [(rows_end done cur l).1, (rows_end done cur l).2]; exact HO2.out, st_end HS.out HGW.out, HG.out⟩
            case measure => simp [intOf]; omega
        · have eo : (!cur.isEmpty) = true := by
            cases cur with
            | nil => exact absurd rfl hcur
            | cons a b => rfl
          have HO1 := HO.out
          rw [wants_put _ _ hcur, List.length_append, List.length_map] at HO1
          obtain ⟨g', cap', rfl⟩ := Go.ownsRow_succ HO1
          have k9 : wr.cell? ⟨g', done.length, none⟩ = some (.string E0) := by rw [← HE0.out, ← get_last done (joinS cur)]; exact HO1.cellAt done.length (by simp)
          have f9 := HO1.frozenAt done.length
          obtain ⟨s1, s2⟩ := HO1.stored done.length (.string E2)
          rw [← HE2.out, ← joinS_snoc cur l hcur, set_last] at s1
          rw [joinS_snoc cur l hcur, HE2.out] at s1
          have hgb := (HO1.lt g' rfl).1
          have HO2 := Lib.hid s1
          have HG := Lib.hid (HB.out.setCell (p := ⟨g', done.length, none⟩) hgb (.string E2))
          rw [eo]
          have HCUR : Hid (cur ≠ []) := hcur
          clear HO eo hcur HO1 s1 s2
          generalize hd : done.length = d at *
          cases mb with
          | true =>
            have hmq := HM2.out rfl
            go_wp2
            go_roundw
            case rel => exact ⟨done, cur ++ [l], q + 1, by rw [HZ3.out], by simp, by go_num, by omega, by omega, by rw [(rows_more done cur l).1, (rows_more done cur l).2, hd, joinS_snoc cur l HCUR.out]; exact HO2.out, st_more HS.out HGW.out hmq.1 hmq.2, HG.out⟩
            case measure => simp [intOf]; omega
          | false =>
            go_wp2
            go_roundw
            case rel => exact ⟨done ++ [cur ++ [l]], [], q + 1, by rw [HZ4.out], rfl, by go_num, by omega, by omega, by rw [(rows_end done cur l).1, (rows_end done cur l).2, hd, joinS_snoc cur l HCUR.out]; exact HO2.out, st_end HS.out HGW.out, HG.out⟩
            case measure => simp [intOf]; omega
    · have hcur : cur = [] := by
        rcases Classical.em (cur = []) with h | h
        · exact h
        · exact absurd (HS.out.op h) hlt
      have HO1 := hown
      rw [hcur, wants_nil, List.length_map] at HO1
      have hdl : done.length ≤ 30 := by rw [hcur, wants_nil, List.length_map] at hwl; omega
      have HD := Lib.hid HS.out.dn
      have eo : openT [] = [] := rfl
      rw [hcur, eo, List.append_nil] at htl
      rw [hcur, eo, List.append_nil]
      obtain ⟨ls, hls, hln, hlj⟩ := all_groups done 1 HS.out.dn
      have HA := Lib.hid (fun W => all_sl (bs (textD done)) W (by rw [size_bs]; omega))
      have hdt : (bs (textD done)).data.toList = textD done := rfl
      rw [hdt, hls, hln] at HA
      have HLJ := Lib.hid hlj
      have HLN := Lib.hid hln
      rw [strs_bs] at HO1
      obtain ⟨Aw, cw, hv, hsl⟩ := slIs_of_own (xs := (done.map joinS).map bs) (n := done.length) (by simp) HO1
      subst hv
      have HSL := Lib.hid hsl
      have hx : decide ((q : Int) < (n0 : Int)) = false ∨ decide ((q : Int) < 30) = false := by
        by_cases h : q < n0
        · exact .inr (decide_eq_false (by have : ¬ q < 30 := fun h2 => hlt ⟨h, h2⟩; omega))
        · exact .inl (decide_eq_false (by omega))
      have HT := Lib.hid (fun W => refTrim_any (bs [32, 120, 32]) W (by decide))
      rw [trim_x] at HT
      have HAw := Lib.hid (fun W => awake_is W)
      clear hls hln hlj hdt hown HO1 hwl htl eo hsl HS HL0 HL1
      obtain ⟨d, hd⟩ : ∃ d, done.length = d := ⟨_, rfl⟩
      have HDD := Lib.hid hd
      rw [hd] at HA hdl ⊢
      clear hd hcur
      generalize bs (textD done) = X0 at *
      by_cases hq : q < n0
      · have hq3 : q = 30 := by omega
        subst hq3
        go_wp2_with fail
        refine (HA.out _).mono ?_
        rintro e w1 ⟨Aa, ca, rfl, hla, hb1⟩
        have HLA := Lib.hid hla
        have HSL1 := Lib.hid (HSL.out.below hb1)
        have B1 := Lib.hid (HB.out.trans (hb1.mono hBs))
        clear hla hb1 HA HSL
        go_wp2_with fail
        go_loopw [12] (fun i wr2 => ∃ k m : Nat, k ≤ d ∧ i = .int .i64 (k : Int) ∧ wr2 = w1.drewN m) (fun i _ => d - (intOf i).toNat)
        case atStart => exact ⟨0, 0, Nat.zero_le _, rfl, rfl⟩
        case round =>
          obtain ⟨k, m, hk, rfl, rfl⟩ := hrel
          by_cases hkd : k < d
          · have hkl : k < done.length := by have := HDD.out; omega
            have hg : done[k]? = some done[k] := List.getElem?_eq_getElem hkl
            obtain ⟨N, hN⟩ := HLJ.out k _ hg
            obtain ⟨ba, rfl, _, hca⟩ := HLA.out.at_ hN
            obtain ⟨c1, c2, c3⟩ := hca w1 (Below.refl _ _)
            have hgs : ((done.map joinS).map bs)[k]? = some (bs (joinS done[k])) := by rw [List.getElem?_map, List.getElem?_map, hg]; rfl
            obtain ⟨bw, ow, rfl, _, hcw⟩ := HSL1.out.at_ hgs
            have c4 := hcw w1 (Below.refl _ _)
            clear hca hcw hg hN hgs HLJ HLA HSL1 c2
            have e1 : bs (joinS done[k], N, false).1 = bs (joinS done[k]) := rfl
            rw [e1] at c1
            have e3 : (joinS done[k], N, false).2.2 = false := rfl
            rw [e3] at c3
            clear e1 e3
            generalize bs (joinS done[k]) = T at *
            go_wp2
            go_quiet (fail)
            go_wp2
            go_roundw
            case rel => exact ⟨k + 1, _, by omega, by go_num, rfl⟩
            case measure => simp [intOf]; omega
          · have hkd2 : k = d := by omega
            subst hkd2
            have B2 := Lib.hid (below_drewN B1.out m)
            go_wp2_with fail
            refine (HT.out _).mono ?_
            rintro e w' ⟨rfl, rfl⟩
            have e9 : bs [120] = (⟨#[120]⟩ : ByteArray) := rfl
            rw [e9]
            clear e9 HT
            go_wp2_with fail
            refine (HAw.out _).mono ?_
            rintro e w3 ⟨rfl, hb3⟩
            have B3 := Lib.hid (B2.out.trans (hb3.mono B2.out.size))
            clear hb3 HAw
            go_wp2
            go_ret
            exact ⟨rfl, B3.out⟩
      · have hq3 : q = n0 := by omega
        subst hq3
        go_wp2_with fail
        refine (HA.out _).mono ?_
        rintro e w1 ⟨Aa, ca, rfl, hla, hb1⟩
        have HLA := Lib.hid hla
        have HSL1 := Lib.hid (HSL.out.below hb1)
        have B1 := Lib.hid (HB.out.trans (hb1.mono hBs))
        clear hla hb1 HA HSL
        go_wp2_with fail
        go_loopw [12] (fun i wr2 => ∃ k m : Nat, k ≤ d ∧ i = .int .i64 (k : Int) ∧ wr2 = w1.drewN m) (fun i _ => d - (intOf i).toNat)
        case atStart => exact ⟨0, 0, Nat.zero_le _, rfl, rfl⟩
        case round =>
          obtain ⟨k, m, hk, rfl, rfl⟩ := hrel
          by_cases hkd : k < d
          · have hkl : k < done.length := by have := HDD.out; omega
            have hg : done[k]? = some done[k] := List.getElem?_eq_getElem hkl
            obtain ⟨N, hN⟩ := HLJ.out k _ hg
            obtain ⟨ba, rfl, _, hca⟩ := HLA.out.at_ hN
            obtain ⟨c1, c2, c3⟩ := hca w1 (Below.refl _ _)
            have hgs : ((done.map joinS).map bs)[k]? = some (bs (joinS done[k])) := by rw [List.getElem?_map, List.getElem?_map, hg]; rfl
            obtain ⟨bw, ow, rfl, _, hcw⟩ := HSL1.out.at_ hgs
            have c4 := hcw w1 (Below.refl _ _)
            clear hca hcw hg hN hgs HLJ HLA HSL1 c2
            have e1 : bs (joinS done[k], N, false).1 = bs (joinS done[k]) := rfl
            rw [e1] at c1
            have e3 : (joinS done[k], N, false).2.2 = false := rfl
            rw [e3] at c3
            clear e1 e3
            generalize bs (joinS done[k]) = T at *
            go_wp2
            go_quiet (fail)
            go_wp2
            go_roundw
            case rel => exact ⟨k + 1, _, by omega, by go_num, rfl⟩
            case measure => simp [intOf]; omega
          · have hkd2 : k = d := by omega
            subst hkd2
            have B2 := Lib.hid (below_drewN B1.out m)
            go_wp2_with fail
            refine (HT.out _).mono ?_
            rintro e w' ⟨rfl, rfl⟩
            have e9 : bs [120] = (⟨#[120]⟩ : ByteArray) := rfl
            rw [e9]
            clear e9 HT
            go_wp2_with fail
            refine (HAw.out _).mono ?_
            rintro e w3 ⟨rfl, hb3⟩
            have B3 := Lib.hid (B2.out.trans (hb3.mono B2.out.size))
            clear hb3 HAw
            go_wp2
            go_ret
            exact ⟨rfl, B3.out⟩

end Go.Proofs.YtcopddepnphfmaaDoor.LinesPlain
