/- The law ListsHalves, walked. -/
import Derived.Deep.DeepCutAuto
import Derived.Test.YtmallbgmpmdjiaaDoorLawake
import Derived.Test.YtmallbgmpmdjiaaDoorWord
import Derived.Test.YtmallbgmpmdjiaaDoorNums
import Derived.Test.YtmallbgmpmdjiaaDoorAppend
namespace Go.Proofs.YtmallbgmpmdjiaaDoor.ListsHalves
open Go.RowKit Go.Proofs.YtmallbgmpmdjiaaDoor.Strs Go.Proofs.YtmallbgmpmdjiaaDoor.Srt Go.Proofs.YtmallbgmpmdjiaaDoor.Sort Go.Proofs.YtmallbgmpmdjiaaDoor.Slice Go.Proofs.YtmallbgmpmdjiaaDoor.Fits Go.Proofs.YtmallbgmpmdjiaaDoor.Filter Go.Proofs.YtmallbgmpmdjiaaDoor.Lawake Go.Proofs.YtmallbgmpmdjiaaDoor.Nums Go.Proofs.YtmallbgmpmdjiaaDoor.Append
open Go.Proofs.YtmallbgmpmdjiaaDoor.Place (place place_lt place_is)
open Go.Proofs.YtmallbgmpmdjiaaDoor.Word (wordAt word_is)
open Go.Proofs.YtmallbgmpmdjiaaDoor.Pat (bs)

/-! ### facts without the program -/
theorem word_size (p : Nat) (hp : p < 16) : (wordAt p).size ≤ 1000000 := by
  have h : p = 0 ∨ p = 1 ∨ p = 2 ∨ p = 3 ∨ p = 4 ∨ p = 5 ∨ p = 6 ∨ p = 7 ∨ p = 8 ∨ p = 9 ∨ p = 10 ∨ p = 11 ∨ p = 12 ∨ p = 13 ∨ p = 14 ∨ p = 15 := by omega
  rcases h with rfl | rfl | rfl | rfl | rfl | rfl | rfl | rfl | rfl | rfl | rfl | rfl | rfl | rfl | rfl | rfl <;> decide +kernel
def patList : List (List UInt8) := [[37, 46, 99], [97, 37], [37], [98], [37, 97, 37], [120, 46, 111]]
def patAt (p : Nat) : ByteArray := bs (patList.getD p [])
theorem pat_size (p : Nat) (hp : p < 6) : (patAt p).size ≤ 1000000 := by
  have h : p = 0 ∨ p = 1 ∨ p = 2 ∨ p = 3 ∨ p = 4 ∨ p = 5 := by omega
  rcases h with rfl | rfl | rfl | rfl | rfl | rfl <;> decide +kernel
set_option maxHeartbeats 400000 in
theorem index_pat (p : Nat) (hp : p < 6) (W : World) : (Instr.index 34 (.agg #[.string ⟨#[37, 46, 99]⟩, .string ⟨#[97, 37]⟩, .string ⟨#[37]⟩, .string ⟨#[98]⟩, .string ⟨#[37, 97, 37]⟩, .string ⟨#[120, 46, 111]⟩]) (.int .i64 (p : Int))).run Tryd.prog W = .ok (.string (patAt p)) W := by
  have h : p = 0 ∨ p = 1 ∨ p = 2 ∨ p = 3 ∨ p = 4 ∨ p = 5 := by omega
  rcases h with rfl | rfl | rfl | rfl | rfl | rfl <;> (show _ = _; kernel_rfl)

/-- how many of the first k the filter takes -/
def cnt (qs : List ByteArray) (out : Bool) (xs : List ByteArray) (k : Nat) : Nat := (filterB qs out (xs.take k)).length
theorem cnt_zero (qs : List ByteArray) (out : Bool) (xs : List ByteArray) : cnt qs out xs 0 = 0 := rfl
theorem cnt_all (qs : List ByteArray) (out : Bool) (xs : List ByteArray) (k : Nat) (h : xs.length ≤ k) : cnt qs out xs k = (filterB qs out xs).length := by
  rw [cnt, List.take_of_length_le h]
theorem cnt_le (qs : List ByteArray) (out : Bool) (xs : List ByteArray) (k : Nat) : cnt qs out xs k ≤ k :=
  Nat.le_trans (List.length_filter_le _ _) (by rw [List.length_take]; omega)
theorem filterB_app (qs : List ByteArray) (out : Bool) (a b : List ByteArray) : filterB qs out (a ++ b) = filterB qs out a ++ filterB qs out b := List.filter_append ..
theorem filterB_one (qs : List ByteArray) (out : Bool) (x : ByteArray) : filterB qs out [x] = if fitB qs x != out then [x] else [] := by
  unfold filterB
  rw [List.filter_cons]
  rfl
theorem take_succ' {xs : List ByteArray} {k : Nat} {x : ByteArray} (hx : xs[k]? = some x) : xs.take (k + 1) = xs.take k ++ [x] := by
  obtain ⟨h, rfl⟩ := List.getElem?_eq_some_iff.1 hx
  exact List.take_succ_eq_append_getElem h
theorem cnt_succ {qs : List ByteArray} {out : Bool} {xs : List ByteArray} {k : Nat} {x : ByteArray} (hx : xs[k]? = some x) : cnt qs out xs (k + 1) = cnt qs out xs k + if fitB qs x != out then 1 else 0 := by
  rw [cnt, take_succ' hx, filterB_app, List.length_append, filterB_one, cnt]
  congr 1
  split <;> rfl
/-- one that is taken stands where it is told -/
theorem cnt_at {qs : List ByteArray} {out : Bool} {xs : List ByteArray} {k : Nat} {x : ByteArray} (hx : xs[k]? = some x) (hf : (fitB qs x != out) = true) : (filterB qs out xs)[cnt qs out xs k]? = some x := by
  have e : xs = xs.take (k + 1) ++ xs.drop (k + 1) := (List.take_append_drop _ _).symm
  have e2 : filterB qs out xs = filterB qs out (xs.take k) ++ ([x] ++ filterB qs out (xs.drop (k + 1))) := by
    conv => lhs; rw [e]
    rw [filterB_app, take_succ' hx, filterB_app, filterB_one, if_pos hf, List.append_assoc]
  rw [e2, cnt, List.getElem?_append_right (Nat.le_refl _), Nat.sub_self]
  rfl
theorem filterB_fits {qs : List ByteArray} {out : Bool} {xs : List ByteArray} {i : Nat} {y : ByteArray} (h : (filterB qs out xs)[i]? = some y) : (fitB qs y != out) = true :=
  (List.mem_filter.1 (List.mem_of_getElem? h)).2

theorem beq_same (x : ByteArray) : (x.toList == x.toList) = true := by simp
theorem beq_other {x y : ByteArray} (h : y ≠ x) : (y.toList == x.toList) = false := by
  rw [Lib.toList_data, Lib.toList_data, beq_eq_false_iff_ne]
  intro e
  exact h (Pat.ext_data e)

theorem sort_less {xs : List ByteArray} {k : Nat} {x y : ByteArray} (hx : (sortB xs)[k]? = some x) (hy : (sortB xs)[k + 1]? = some y) : Op.bytesLess x.toList y.toList = true := by
  unfold sortB at hx hy
  rw [List.getElem?_map] at hx hy
  obtain ⟨a, ha, rfl⟩ := Option.map_eq_some_iff.1 hx
  obtain ⟨b, hb, rfl⟩ := Option.map_eq_some_iff.1 hy
  have := up_get (sortT_up _) (Nat.lt_succ_self k) ha hb
  rw [bytesLess_eq, Lib.toList_data, Lib.toList_data]
  exact decide_eq_true this
theorem binOp_geq (t : TypeId) (a b : ByteArray) (h : Op.bytesLess a.toList b.toList = true) (W : World) : (binOp .geq t (.string a) (.string b)).run Tryd.prog W = .ok (.bool false) W := by
  simp [binOp, Op.stringOp, h]

theorem sortB_none (xs : List ByteArray) (h : xs.length = 0) : (sortB xs).length = 0 := by
  rw [List.eq_nil_of_length_eq_zero h]
  have : sortT [] = [] := (sortT_nil []).2 rfl
  show ((sortT []).map bs).length = 0
  rw [this]; rfl
theorem sortB_some (xs : List ByteArray) (h : 0 < xs.length) : 0 < (sortB xs).length := by
  rcases Nat.eq_zero_or_pos (sortB xs).length with h0 | h0
  · have h1 : sortT (xs.map (·.data.toList)) = [] := by
      have := List.eq_nil_of_length_eq_zero h0
      unfold sortB at this
      exact List.map_eq_nil_iff.1 this
    have h2 := (sortT_nil _).1 h1
    rw [List.map_eq_nil_iff.1 h2] at h
    exact absurd h (Nat.lt_irrefl _)
  · exact h0
theorem sortB_len (xs : List ByteArray) : (sortB xs).length ≤ xs.length := by
  have := sortT_len (xs.map (·.data.toList))
  rw [List.length_map] at this
  rw [sortB, List.length_map]; exact this
theorem two_slices (xs : List ByteArray) (k : Nat) (hk : k ≤ xs.length + 1) : sliceB xs 1 k ++ sliceB xs ((k : Int) + 1) xs.length = xs := by
  unfold sliceB
  have e1 : (max (1 : Int) 1 - 1).toNat = 0 := by decide
  have e2 : (max ((k : Int) + 1) 1 - 1).toNat = k := by omega
  have e3 : (min (xs.length : Int) (xs.length : Int)).toNat = xs.length := by omega
  rw [e1, e2, e3, List.drop_zero, List.take_length]
  rcases Nat.lt_or_ge xs.length k with h | h
  · rw [show (min (k : Int) (xs.length : Int)).toNat = xs.length by omega, List.take_length, List.drop_eq_nil_of_le (by omega), List.append_nil]
  · rw [show (min (k : Int) (xs.length : Int)).toNat = k by omega, List.take_append_drop]

set_option maxHeartbeats 1000000 in
/-- Slice, as a row of the call's own -/
theorem slice_own (A : Option Addr) (n c : Nat) (xs ys : List ByteArray) (f t : Int) (w : World) (hn : xs.length = n) (h : SlIs w A c xs) (hm : n ≤ 1000000) (hf1 : -9223372036854775808 ≤ f) (hf2 : f ≤ 9223372036854775807) (_ : -9223372036854775808 ≤ t) (_ : t ≤ 9223372036854775807) (hy : sliceB xs f t = ys) :
    Calls Tryd.prog 16 #[.slice A n c, .int .i64 f, .int .i64 t] w fun e W' => ∃ v, e = .returned v ∧ W'.ownsRow w.heap.size 9 1 v ys.length (ys.map Value.string) ∧ Below w.heap.size w W' := by
  have HN := Lib.hid hn
  have HL := Lib.hid h
  have HY := Lib.hid hy
  have hcap := h.1
  clear hn h hy
  by_cases hgt : max f 1 > min t n
  · have HE : Hid (ys = []) := by
      show _ = _
      rw [← HY.out]
      unfold sliceB
      rw [HN.out]
      apply List.drop_eq_nil_of_le
      rw [List.length_take]
      omega
    go_enter Tryd.func16, Tryd.ntmps16
    go_wp2
    go_ret
    rw [HE.out]
    exact ⟨_, rfl, World.ownsRow_nil _ _ _ _, Below.refl _ _⟩
  · obtain ⟨i, hi⟩ : ∃ i : Nat, max f 1 = (i : Int) + 1 := ⟨(max f 1 - 1).toNat, by omega⟩
    obtain ⟨j, hj⟩ : ∃ j : Nat, min t n = (j : Int) := ⟨(min t n).toNat, by omega⟩
    have HE : Hid (ys = (xs.take j).drop i) := by
      show _ = _
      rw [← HY.out]
      unfold sliceB
      rw [HN.out, hi, hj]
      congr 1
      omega
    have hij : i < j := by omega
    have hjn : j ≤ n := by omega
    obtain ⟨b, o, rfl, hb, hc0⟩ := HL.out.at_ (k := 0) (x := xs[0]'(by have := HN.out; omega)) (List.getElem?_eq_getElem _)
    clear hc0
    rw [HN.out] at hcap
    have hlen : ((xs.take j).drop i).length = j - i := by rw [List.length_drop, List.length_take, HN.out]; omega
    have hcl := clone_is (some ⟨b, o + i, none⟩) (j - i) (c - i) ((xs.take j).drop i) w hlen (slIs_cut HL.out i j hij (by rw [HN.out]; exact hjn)) (by omega)
    have HC := Lib.hid hcl
    clear hcl HL HY
    go_enter Tryd.func16, Tryd.ntmps16
    go_wp2_with fail
    refine HC.out.mono ?_
    rintro e w1 ⟨v', rfl, ho, hb1⟩
    have HO := Lib.hid ho
    have HB := Lib.hid hb1
    clear hb1 ho
    go_wp2
    go_ret
    rw [HE.out, hlen]
    exact ⟨v', rfl, HO.out, HB.out⟩

theorem strs_one (ys : List ByteArray) : ∀ u ∈ ys.map Value.string, u.oneCell' = true := fun u hu => by
  obtain ⟨x, _, rfl⟩ := List.mem_map.1 hu
  rfl

set_option maxRecDepth 100000 in
set_option maxHeartbeats 8000000 in
theorem walk (A0 : Option Addr) (n0 c0 : Nat) (zs0 : List Int) (A1 : Option Addr) (n1 c1 : Nat) (zs1 : List Int) (a2 : Int) (w : World)
    (hl0 : IntIs w A0 n0 c0 zs0) (_ : n0 ≤ maxLen) (hl1 : IntIs w A1 n1 c1 zs1) (_ : n1 ≤ maxLen) (w2 : (Lit.int .i64 a2).wf = true) :
    Calls Tryd.prog 4 #[.slice A0 n0 c0, .slice A1 n1 c1, .int .i64 a2] w fun e W' => e = .returned (.bool true) ∧ Below w.heap.size w W' := by
  obtain ⟨i0, hi, hz0, hz1, hz2⟩ := info_parts infoString
  have HL0 := Lib.hid hl0
  have HL1 := Lib.hid hl1
  have HW2 := Lib.hid w2
  have HIX := Lib.hid index_pat
  clear hl0 hl1 w2
  go_enter Tryd.func4, Tryd.ntmps4
  go_wp2_with fail
  go_loopw [7, 9] (fun v i wr => ∃ (k : Nat) (xs : List ByteArray), k ≤ n0 ∧ k ≤ 40 ∧ i = .int .i64 k ∧ wr.ownsRow w.heap.size 9 1 v k (xs.map Value.string) ∧ Hid (Below w.heap.size w wr ∧ ∀ x ∈ xs, x.size ≤ 1000000)) (fun _ i _ => 40 - (intOf i).toNat)
  case atStart => exact ⟨0, [], Nat.zero_le _, Nat.zero_le _, rfl, World.ownsRow_nil _ _ _ _, Below.refl _ _, fun x hx => by cases hx⟩
  case round =>
    obtain ⟨k, xs, hk, hk2, rfl, hown, H⟩ := hrel
    have hBs := H.out.1.size
    by_cases hlt : k < n0 ∧ k < 40
    · obtain ⟨hlt1, hlt2⟩ := hlt
      obtain ⟨b, o, z, rfl, hz, hc⟩ := HL0.out.at_ hlt1
      have c0' := hc wr H.out.1
      have HW := Lib.hid (fun W => word_is z W hz)
      have hp := place_lt z 16 (by omega)
      have HZ := Lib.hid (word_size _ hp)
      clear hc hz hp
      generalize wordAt (place z 16) = x at HW HZ
      have HNS : Hid (xs.map Value.string ++ [.string x] = (xs ++ [x]).map Value.string) := by
        show _ = _
        rw [List.map_append]; rfl
      go_wp2_with fail
      refine (HW.out _).mono ?_
      rintro e w' ⟨rfl, rfl⟩
      clear HW c0'
      go_wp2_with (at_builtin; refine wpList_append_own _ rfl _ _ 22 rfl w.heap.size 9 i0 (.string .empty) 1 16 Tryd.underlying22 hi hz0 hz1 hz2 rfl (by decide) _ _ _ rfl (hown.alloc _) ⟨wr.heap.size, 0, none⟩ 1 1 [.string x] rfl rfl (cell_one_new _ _ _) (by simp [Value.oneCell']) (by unfold maxLen; omega) (by omega) (by simp; omega) ?_; intro v' w3 hown' hgrow _; have HO := Lib.hid hown'; have HG := Lib.hid (below_append H.out.1 hBs hown hgrow); clear hown' hgrow)
      go_roundw
      case rel =>
        refine ⟨k + 1, xs ++ [x], by omega, by omega, by go_num, by rw [← HNS.out]; exact HO.out, HG.out, fun y hy => ?_⟩
        rcases List.mem_append.1 hy with h | h
        · exact H.out.2 y h
        · rw [List.mem_singleton.1 h]; exact HZ.out
      case measure => simp [intOf]; omega
    · have hle : Hid (¬ (k < n0 ∧ k < 40)) := hlt
      clear hlt
      have hxl : xs.length = k := by have := hown.1; rw [List.length_map, Nat.mul_one] at this; exact this
      obtain ⟨WA, cw, rfl, hsW⟩ := slIs_of_own hxl hown
      have HXL := Lib.hid hxl
      have HSW := Lib.hid hsW
      have HB := Lib.hid H.out.1
      have HXZ := Lib.hid H.out.2
      clear hown hxl hsW H hk
      obtain ⟨wA, rfl⟩ : ∃ wA, wA = wr := ⟨_, rfl⟩
      have hg : (k < n0 ∧ ¬ k < 40) ∨ ¬ k < n0 := by have := hle.out; omega
      clear hle
      go_upto_region 3 with fail
      go_cut [27] (fun v wx => v = .bool false ∧ wA = wx)
      case first =>
        rcases hg with ⟨h1, h2⟩ | h1
        · have h3 : ¬ ((k : Int) < 40) := by omega
          go_wp2_with fail
          go_meet
          exact ⟨rfl, rfl⟩
        · go_wp2_with fail
          go_meet
          exact ⟨rfl, rfl⟩
      case rest =>
        obtain ⟨rfl, rfl⟩ := hcut
        go_wp2_with fail
        go_loopw [8, 10] (fun v i wr => ∃ (j : Nat) (qs : List ByteArray), j ≤ n1 ∧ j ≤ 5 ∧ i = .int .i64 j ∧ wr.ownsRow wA.heap.size 9 1 v j (qs.map Value.string) ∧ Hid (Below wA.heap.size wA wr ∧ ∀ q ∈ qs, q.size ≤ 1000000)) (fun _ i _ => 5 - (intOf i).toNat)
        case atStart => exact ⟨0, [], Nat.zero_le _, Nat.zero_le _, rfl, World.ownsRow_nil _ _ _ _, Below.refl _ _, fun x hx => by cases hx⟩
        case round =>
          obtain ⟨j, qs, hj, hj2, rfl, hown, H⟩ := hrel
          have hBs2 := H.out.1.size
          by_cases hlt : j < n1 ∧ j < 5
          · obtain ⟨hlt1, hlt2⟩ := hlt
            obtain ⟨b, o, z, rfl, hz, hc⟩ := HL1.out.at_ hlt1
            have c1' := hc wr (HB.out.trans (H.out.1.mono HB.out.size))
            have HW := Lib.hid (fun W => place_is z 6 W (by omega) (by omega) hz)
            have hp := place_lt z 6 (by omega)
            have HZ := Lib.hid (pat_size _ hp)
            have hix := HIX.out _ hp
            clear hc hz
            generalize place z 6 = pz at HW HZ hix
            generalize patAt pz = x at HZ hix
            have HNS : Hid (qs.map Value.string ++ [.string x] = (qs ++ [x]).map Value.string) := by
              show _ = _
              rw [List.map_append]; rfl
            go_wp2_with fail
            refine (HW.out _).mono ?_
            rintro e w' ⟨rfl, rfl⟩
            clear HW c1'
            go_wp2_with (at_builtin; refine wpList_append_own _ rfl _ _ 22 rfl wA.heap.size 9 i0 (.string .empty) 1 16 Tryd.underlying22 hi hz0 hz1 hz2 rfl (by decide) _ _ _ rfl (hown.alloc _) ⟨wr.heap.size, 0, none⟩ 1 1 [.string x] rfl rfl (cell_one_new _ _ _) (by simp [Value.oneCell']) (by unfold maxLen; omega) (by omega) (by simp; omega) ?_; intro v' w3 hown' hgrow _; have HO := Lib.hid hown'; have HG := Lib.hid (below_append H.out.1 hBs2 hown hgrow); clear hown' hgrow)
            go_roundw
            case rel =>
              refine ⟨j + 1, qs ++ [x], by omega, by omega, by go_num, by rw [← HNS.out]; exact HO.out, HG.out, fun y hy => ?_⟩
              rcases List.mem_append.1 hy with h | h
              · exact H.out.2 y h
              · rw [List.mem_singleton.1 h]; exact HZ.out
            case measure => simp [intOf]; omega
          · have hle : Hid (¬ (j < n1 ∧ j < 5)) := hlt
            clear hlt
            have hql : qs.length = j := by have := hown.1; rw [List.length_map, Nat.mul_one] at this; exact this
            obtain ⟨QA, cq, rfl, hsQ⟩ := slIs_of_own hql hown
            have HQL := Lib.hid hql
            have HSQ := Lib.hid hsQ
            have HSW2 := Lib.hid (HSW.out.below H.out.1)
            have HB2 := Lib.hid (HB.out.trans (H.out.1.mono HB.out.size))
            have HQZ := Lib.hid H.out.2
            clear hown hql hsQ H hj HSW HB hBs hBs2
            obtain ⟨wB, rfl⟩ : ∃ wB, wB = wr := ⟨_, rfl⟩
            have hg2 : (j < n1 ∧ ¬ j < 5) ∨ ¬ j < n1 := by have := hle.out; omega
            clear hle hg HL0 HL1
            go_upto_region 7 with fail
            go_cut [45] (fun v wy => v = .bool false ∧ wB = wy)
            case first =>
              rcases hg2 with ⟨h1, h2⟩ | h1
              · have h3 : ¬ ((j : Int) < 5) := by omega
                go_wp2_with fail
                go_meet
                exact ⟨rfl, rfl⟩
              · go_wp2_with fail
                go_meet
                exact ⟨rfl, rfl⟩
            case rest =>
              obtain ⟨rfl, rfl⟩ := hcut
              clear hg2
              have HF := Lib.hid (filter_is WA QA k cw j cq false xs qs wB HQL.out HSQ.out (by omega) HQZ.out HXL.out HSW2.out (by omega) HXZ.out)
              go_wp2_with fail
              refine HF.out.mono ?_
              rintro e w3 ⟨FA, cf, rfl, hsF, hb3⟩
              have HSF := Lib.hid hsF
              have HSW3 := Lib.hid (HSW2.out.below hb3)
              have HB3 := Lib.hid (HB2.out.trans (hb3.mono HB2.out.size))
              have HF2 := Lib.hid (filter_is WA QA k cw j cq true xs qs w3 HQL.out (HSQ.out.below hb3) (by omega) HQZ.out HXL.out HSW3.out (by omega) HXZ.out)
              clear hsF hb3 HF HSQ HSW2 HB2
              go_wp2_with fail
              refine HF2.out.mono ?_
              rintro e w4 ⟨GA, cg, rfl, hsG, hb4⟩
              have HSG := Lib.hid hsG
              have HSF4 := Lib.hid (HSF.out.below hb4)
              have HSW4 := Lib.hid (HSW3.out.below hb4)
              have HB4 := Lib.hid (HB3.out.trans (hb4.mono HB3.out.size))
              clear hsG hb4 HF2 HSW3 HB3 HSF HQZ HQL
              obtain ⟨fl, hfl⟩ : ∃ fl, fl = (filterB qs false xs).length := ⟨_, rfl⟩
              obtain ⟨gl, hgl⟩ : ∃ gl, gl = (filterB qs true xs).length := ⟨_, rfl⟩
              rw [← hfl, ← hgl]
              have HFL := Lib.hid hfl
              have HGL := Lib.hid hgl
              clear hfl hgl
              have hk40 : k ≤ 40 := hk2
              go_wp2_with fail
              go_loopw [13, 14, 15] (fun a b i wx => ∃ t m ca cb : Nat, t ≤ k ∧ ca ≤ t ∧ cb ≤ t ∧ a = .int .i64 ca ∧ b = .int .i64 cb ∧ i = .int .i64 t ∧ wx = w4.drewN m ∧ Hid (ca = cnt qs false xs t ∧ cb = cnt qs true xs t)) (fun _ _ i _ => k - (intOf i).toNat)
              case atStart => exact ⟨0, 0, 0, 0, Nat.zero_le _, Nat.le_refl _, Nat.le_refl _, rfl, rfl, rfl, rfl, rfl, rfl⟩
              case round =>
                obtain ⟨t, m, ca, cb, ht, hca, hcb, rfl, rfl, rfl, rfl, HC⟩ := hrel
                by_cases hlt : t < k
                · have hx : xs[t]? = some (xs[t]'(by have := HXL.out; omega)) := List.getElem?_eq_getElem _
                  obtain ⟨bw, ow, rfl, hbw, hcw⟩ := HSW4.out.at_ hx
                  have cw1 := hcw w4 (Below.refl _ _)
                  have hs0 := cnt_succ (qs := qs) (out := false) hx
                  have hs1 := cnt_succ (qs := qs) (out := true) hx
                  cases hfit : fitB qs (xs[t]'(by have := HXL.out; omega)) with
                  | true =>
                    have hat := cnt_at (qs := qs) (out := false) hx (by rw [hfit]; rfl)
                    rw [← HC.out.1] at hat
                    have hlf : ca < fl := by rw [HFL.out]; exact (List.getElem?_eq_some_iff.1 hat).1
                    obtain ⟨bf, of, rfl, hbf, hcf⟩ := HSF4.out.at_ hat
                    have cf1 := hcf w4 (Below.refl _ _)
                    have HN : Hid (ca + 1 = cnt qs false xs (t + 1) ∧ cb = cnt qs true xs (t + 1)) := ⟨by rw [hs0, hfit, ← HC.out.1]; rfl, by rw [hs1, hfit, ← HC.out.2]; rfl⟩
                    have hbe := beq_same (xs[t]'(by have := HXL.out; omega))
                    clear hcw hcf hbw hbf hs0 hs1 hat hx HC hfit
                    generalize (xs[t]'(by have := HXL.out; omega)) = x at *
                    go_wp2_with fail
                    go_quiet (fail)
                    go_wp2_with fail
                    go_roundw
                    case rel => exact ⟨t + 1, _, ca + 1, cb, by omega, by omega, by omega, by go_num, rfl, by go_num, rfl, HN.out⟩
                    case measure => simp [intOf]; omega
                  | false =>
                    have hat := cnt_at (qs := qs) (out := true) hx (by rw [hfit]; rfl)
                    rw [← HC.out.2] at hat
                    have hlg : cb < gl := by rw [HGL.out]; exact (List.getElem?_eq_some_iff.1 hat).1
                    obtain ⟨bg, og, rfl, hbg, hcg⟩ := HSG.out.at_ hat
                    have cg1 := hcg w4 (Below.refl _ _)
                    have HN : Hid (ca = cnt qs false xs (t + 1) ∧ cb + 1 = cnt qs true xs (t + 1)) := ⟨by rw [hs0, hfit, ← HC.out.1]; rfl, by rw [hs1, hfit, ← HC.out.2]; rfl⟩
                    have hbe := beq_same (xs[t]'(by have := HXL.out; omega))
                    have HY : Hid (∀ y, (filterB qs false xs)[ca]? = some y → (y.toList == (xs[t]'(by have := HXL.out; omega)).toList) = false) := fun y hy => beq_other (fun e => by
                      have := filterB_fits hy
                      rw [e, hfit] at this
                      cases this)
                    clear hcw hcg hbw hbg hs0 hs1 hat hx HC hfit
                    generalize (xs[t]'(by have := HXL.out; omega)) = x at *
                    go_upto_region 16 with fail
                    go_cut [70] (fun v wx => v = .bool false ∧ ∃ m', wx = w4.drewN m')
                    case first =>
                      by_cases hp : ca < fl
                      · have hy : (filterB qs false xs)[ca]? = some ((filterB qs false xs)[ca]'(by rw [← HFL.out]; exact hp)) := List.getElem?_eq_getElem _
                        obtain ⟨bf, of, rfl, hbf, hcf⟩ := HSF4.out.at_ hy
                        have cf1 := hcf w4 (Below.refl _ _)
                        have hbo := HY.out _ hy
                        clear hcf hbf hy HY
                        generalize ((filterB qs false xs)[ca]'(by rw [← HFL.out]; exact hp)) = y at *
                        go_wp2_with fail
                        go_quiet (fail)
                        go_wp2_with fail
                        go_meet
                        exact ⟨rfl, m + nq, by first | rfl | simp⟩
                      · clear HY
                        go_wp2_with fail
                        go_region
                        all_goals go_wp2_with fail
                        all_goals go_meet
                        all_goals exact ⟨rfl, m + 1, by first | rfl | simp⟩
                    case rest =>
                      obtain ⟨rfl, m', rfl⟩ := hcut
                      clear HY
                      go_wp2_with fail
                      go_quiet (fail)
                      go_wp2_with fail
                      go_roundw
                      case rel => exact ⟨t + 1, _, ca, cb + 1, by omega, by omega, by omega, rfl, by go_num, by go_num, rfl, HN.out⟩
                      case measure => simp [intOf]; omega
                · obtain rfl : k = t := by omega
                  have hcf : ca = fl := by rw [HC.out.1, HFL.out]; exact cnt_all _ _ _ _ (by have := HXL.out; omega)
                  have hcg : cb = gl := by rw [HC.out.2, HGL.out]; exact cnt_all _ _ _ _ (by have := HXL.out; omega)
                  subst hcf hcg
                  clear HC HFL HGL HSF4 HSG
                  have HSO := Lib.hid (sort_is WA k cw xs (w4.drewN m) HXL.out (HSW4.out.below (below_drewN (Below.refl _ _) m)) (by omega))
                  have HSW5 := Lib.hid (HSW4.out.below (below_drewN (Below.refl _ _) m))
                  have HB5 := Lib.hid (below_drewN HB4.out m)
                  have hsl : (sortB xs).length ≤ 40 := Nat.le_trans (sortB_len xs) (by have := HXL.out; omega)
                  have hnn : (k = 0 ∧ (sortB xs).length = 0) ∨ (0 < k ∧ 0 < (sortB xs).length) := by
                    have hl := HXL.out
                    rcases Nat.eq_zero_or_pos k with h0 | h0
                    · exact .inl ⟨h0, sortB_none xs (by omega)⟩
                    · exact .inr ⟨h0, sortB_some xs (by omega)⟩
                  have HNN := Lib.hid hnn
                  clear hnn HSW4 HB4
                  generalize w4.drewN m = w5 at *
                  go_wp2_with fail
                  refine HSO.out.mono ?_
                  rintro e w6 ⟨SA, cs, rfl, hsS, hb6⟩
                  have HSS := Lib.hid hsS
                  have HSW6 := Lib.hid (HSW5.out.below hb6)
                  have HB6 := Lib.hid (HB5.out.trans (hb6.mono HB5.out.size))
                  clear hsS hb6 HSO HSW5 HB5
                  obtain ⟨sl, hsleq⟩ : ∃ sl, sl = (sortB xs).length := ⟨_, rfl⟩
                  rw [← hsleq] at hsl HNN ⊢
                  have HSL := Lib.hid hsleq
                  clear hsleq
                  go_wp2_with fail
                  go_loopw [17] (fun i wx => ∃ t m : Nat, 1 ≤ t ∧ i = .int .i64 t ∧ wx = w6.drewN m) (fun i _ => sl - (intOf i).toNat)
                  case atStart => exact ⟨1, 0, Nat.le_refl _, rfl, rfl⟩
                  case round =>
                    obtain ⟨t, m2, ht1, rfl, rfl⟩ := hrel
                    by_cases hlt : t < sl
                    · obtain ⟨p, rfl⟩ : ∃ p, t = p + 1 := ⟨t - 1, by omega⟩
                      have hx : (sortB xs)[p]? = some ((sortB xs)[p]'(by have := HSL.out; omega)) := List.getElem?_eq_getElem _
                      have hy : (sortB xs)[p + 1]? = some ((sortB xs)[p + 1]'(by have := HSL.out; omega)) := List.getElem?_eq_getElem _
                      obtain ⟨bs1, os1, rfl, hbs1, hcs1⟩ := HSS.out.at_ hx
                      obtain ⟨bs2, os2, hbo, hbs2, hcs2⟩ := HSS.out.at_ hy
                      obtain ⟨rfl, rfl⟩ : bs1 = bs2 ∧ os1 = os2 := by simpa using hbo
                      have d1 := hcs1 w6 (Below.refl _ _)
                      have d2 := hcs2 w6 (Below.refl _ _)
                      have hge := fun t W => binOp_geq t _ _ (sort_less hx hy) W
                      clear hcs1 hcs2 hbs1 hbs2 hbo hx hy
                      generalize ((sortB xs)[p]'(by have := HSL.out; omega)) = x at *
                      generalize ((sortB xs)[p + 1]'(by have := HSL.out; omega)) = y at *
                      have q1 : IntKind.i64.wrap (((p + 1 : Nat) : Int) - 1) = (p : Int) := by
                        rw [show (((p + 1 : Nat) : Int) - 1) = (p : Int) by omega]; exact IntWalk.i64_in _ (by omega)
                      go_wp2_with fail
                      go_quiet (fail)
                      go_wp2_with fail
                      go_roundw
                      case rel => exact ⟨p + 1 + 1, _, by omega, by go_num, rfl⟩
                      case measure => simp [intOf]; omega
                    · clear HSS HSL
                      have hk2' : ((k : Int) + 2) < 9223372036854775807 := by omega
                      have HP := Lib.hid (fun W => place_is a2 (k + 2) W (by omega) (by omega) HW2.out)
                      have hpl := place_lt a2 (k + 2) (by omega)
                      have hT := two_slices xs (place a2 (k + 2)) (by have := HXL.out; omega)
                      rw [HXL.out] at hT
                      have HTwo := Lib.hid hT
                      clear hT
                      generalize place a2 (k + 2) = c at HP hpl HTwo
                      have HS1 := Lib.hid (slice_own WA k cw xs _ 1 c (w6.drewN m2) HXL.out (HSW6.out.below (below_drewN (Below.refl _ _) m2)) (by omega) (by omega) (by omega) (by omega) (by omega) rfl)
                      have HSW7 := Lib.hid (HSW6.out.below (below_drewN (Below.refl _ _) m2))
                      have HB7 := Lib.hid (below_drewN HB6.out m2)
                      clear HSW6 HB6
                      generalize w6.drewN m2 = w7 at *
                      go_wp2_with fail
                      refine (HP.out _).mono ?_
                      rintro e w' ⟨rfl, rfl⟩
                      clear HP
                      go_wp2_with fail
                      refine HS1.out.mono ?_
                      rintro e w8 ⟨v1, rfl, ho1, hb8⟩
                      have HB8 := Lib.hid (HB7.out.trans (hb8.mono HB7.out.size))
                      have HSW8 := Lib.hid (HSW7.out.below hb8)
                      have HLe : Hid ((sliceB xs 1 c).length + (sliceB xs ((c : Int) + 1) k).length = k) := by
                        show _ = _
                        rw [← List.length_append, HTwo.out]; exact HXL.out
                      have hn1 : (sliceB xs 1 c).length ≤ 40 := by have := HLe.out; omega
                      have hn2 : (sliceB xs ((c : Int) + 1) k).length ≤ 40 := by have := HLe.out; omega
                      have HO1 := Lib.hid ho1
                      clear hb8 HS1 HB7 HSW7 ho1
                      obtain ⟨l1, hl1⟩ : ∃ l1, l1 = sliceB xs 1 c := ⟨_, rfl⟩
                      obtain ⟨l2, hl2⟩ : ∃ l2, l2 = sliceB xs ((c : Int) + 1) k := ⟨_, rfl⟩
                      have HS2 := Lib.hid (fun W (hW : Below w8.heap.size w8 W) => slice_own WA k cw xs l2 ((c : Int) + 1) k W HXL.out (HSW8.out.below hW) (by omega) (by omega) (by omega) (by omega) (by omega) hl2.symm)
                      rw [← hl1] at HO1 HLe hn1 HTwo
                      rw [← hl2] at HLe hn2 HTwo
                      clear hl1 hl2
                      go_wp2_with (at_builtin; refine wpList_append_two rfl _ _ 22 rfl w8.heap.size w7.heap.size 9 i0 (.string .empty) 1 16 Tryd.underlying22 hi hz0 hz1 hz2 rfl (by decide) _ 0 [] rfl (World.ownsRow_nil _ _ _ _) v1 l1.length (l1.map Value.string) rfl HO1.out (strs_one l1) (by unfold maxLen; omega) (by omega) (Nat.le_refl _) ?_; intro v' w9 hown' hgrow; have HO9 := Lib.hid hown'; have HG9 := Lib.hid ((Below.refl _ w8).grown hgrow (Nat.le_refl _) (fun k e => by cases e)); clear hown' hgrow)
                      rw [Nat.zero_add, List.nil_append] at HO9
                      refine (HS2.out _ HG9.out).mono ?_
                      rintro e w10 ⟨v2, rfl, ho2, hb10⟩
                      have HO2 := Lib.hid ho2
                      have HO10 := Lib.hid (own_below HO9.out hb10)
                      have HB10 := Lib.hid (HB8.out.trans ((HG9.out.trans (hb10.mono HG9.out.size)).mono HB8.out.size))
                      have HBW := Lib.hid (HG9.out.trans (hb10.mono HG9.out.size))
                      have hBs8 := HB8.out.size
                      have hB810 := (HG9.out.trans (hb10.mono HG9.out.size)).size
                      clear ho2 hb10 HS2 HO9 HG9 HB8
                      go_wp2_with (at_builtin; refine wpList_append_two rfl _ _ 22 rfl w8.heap.size w9.heap.size 9 i0 (.string .empty) 1 16 Tryd.underlying22 hi hz0 hz1 hz2 rfl (by decide) v' l1.length (l1.map Value.string) rfl HO10.out v2 l2.length (l2.map Value.string) rfl HO2.out (strs_one l2) (by unfold maxLen; omega) (by omega) hB810 ?_; intro v3 w11 hown' hgrow; have HO11 := Lib.hid hown'; have HW11 := Lib.hid (HBW.out.grown hgrow hB810 (fun k e => (HO10.out.lt k e).1)); have HB11 := Lib.hid (HB10.out.grown hgrow (Nat.le_trans hBs8 hB810) (fun k e => Nat.le_trans hBs8 (HO10.out.lt k e).1)); clear hown' hgrow)
                      have hl12 : l1.length + l2.length = k := HLe.out
                      have ho12 := HO11.out
                      rw [hl12, ← List.map_append, HTwo.out] at ho12
                      obtain ⟨VA, cv, rfl, hsV⟩ := slIs_of_own HXL.out ho12
                      have HSM := Lib.hid (same_is VA WA k cv cw xs w11 HXL.out hsV (HSW8.out.below HW11.out) (by unfold maxLen; omega))
                      clear ho12 hsV HO11 HO10 HO2 HO1 HTwo HLe HBW HW11 HB10 HSW8
                      go_wp2_with fail
                      refine HSM.out.mono ?_
                      rintro e w12 ⟨rfl, hb12⟩
                      have HB12 := Lib.hid (HB11.out.trans (hb12.mono HB11.out.size))
                      clear hb12 HSM HB11
                      rcases HNN.out with ⟨rfl, rfl⟩ | ⟨hk0, hs0⟩
                      · rw [show (((0 : Nat) : Int)) = 0 from rfl]
                        clear hlt hl12 hn1 hn2
                        go_wp2_with fail
                        refine (awake_is _).mono ?_
                        rintro e w13 ⟨rfl, hb13⟩
                        have HB13 := Lib.hid (HB12.out.trans (hb13.mono HB12.out.size))
                        clear hb13 HB12
                        go_wp2
                        go_ret
                        exact ⟨rfl, HB13.out⟩
                      · have q1 : ((k : Int) == 0) = false := by rw [beq_eq_false_iff_ne]; omega
                        have q2 : ((sl : Int) == 0) = false := by rw [beq_eq_false_iff_ne]; omega
                        clear hlt hl12 hn1 hn2 hk0 hs0 hsl HNN
                        go_wp2_with fail
                        refine (awake_is _).mono ?_
                        rintro e w13 ⟨rfl, hb13⟩
                        have HB13 := Lib.hid (HB12.out.trans (hb13.mono HB12.out.size))
                        clear hb13 HB12
                        go_wp2
                        go_ret
                        exact ⟨rfl, HB13.out⟩

end Go.Proofs.YtmallbgmpmdjiaaDoor.ListsHalves
