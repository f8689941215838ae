/- What the document's Filter answers. -/
import Derived.Deep.RegionHeld3
import Derived.Deep.DeepCutAuto
import Derived.Test.YtmallbgmpmdjiaaDoorFilter
import Derived.Test.YtmallbgmpmdjiaaDoorRefOf
namespace Go.Proofs.YtmallbgmpmdjiaaDoor.LrefFilter
open Go.RowKit Go.Proofs.YtmallbgmpmdjiaaDoor.Strs Go.Proofs.YtmallbgmpmdjiaaDoor.Fits Go.Proofs.YtmallbgmpmdjiaaDoor.Filter
open Go.Proofs.YtmallbgmpmdjiaaDoor.Pat (hasB preB postB preB_le postB_le)
open Go.Proofs.YtmallbgmpmdjiaaDoor.Of (patV)
open Go.Proofs.YtmallbgmpmdjiaaDoor.Match (okB stemB)
open Go.Proofs.YtmallbgmpmdjiaaDoor.RefMatch (refMatch_is)
open Go.Proofs.YtmallbgmpmdjiaaDoor.RefOf (refOf_is)

theorem infoP : (Tryd.prog.info? 48).map (fun i => (i.zero, i.size, i.bytes)) = some (some (.agg #[.bool false, .string .empty, .string .empty]), 3, 40) := by kernel_rfl

/-- the cells of the patterns, three each -/
def flatP : List ByteArray → List Value
  | [] => []
  | q :: qs => .bool (hasB q) :: .string (preB q) :: .string (postB q) :: flatP qs
theorem flatP_app : ∀ (a b : List ByteArray), flatP (a ++ b) = flatP a ++ flatP b
  | [], _ => rfl
  | q :: a, b => by rw [List.cons_append, flatP, flatP, flatP_app a b]; rfl
theorem flatP_at : ∀ (qs : List ByteArray) (j : Nat) (q : ByteArray), qs[j]? = some q → (flatP qs)[j * 3]? = some (.bool (hasB q)) ∧ (flatP qs)[j * 3 + 1]? = some (.string (preB q)) ∧ (flatP qs)[j * 3 + 2]? = some (.string (postB q))
  | [], _, _, h => by cases h
  | q' :: qs, 0, q, h => by cases h; exact ⟨rfl, rfl, rfl⟩
  | q' :: qs, j + 1, q, h => by
    have := flatP_at qs j q (by simpa using h)
    rw [show (j + 1) * 3 = j * 3 + 1 + 1 + 1 by omega]
    exact this

theorem below_append3 {B e n : Nat} {w wr w1 : World} {v : Value} {xs : List Value} {o : Obj} (hB : Below B w wr) (hBs : B ≤ wr.heap.size) (hown : wr.ownsRow B e 3 v n xs) (hg : (wr.alloc o).grownBy w1 v.ownBlock) : Below B w w1 :=
  (hB.alloc hBs o).grown hg (by simp; omega) (fun k e => (hown.lt k e).1)
theorem own_below3 {w W : World} {B e : Nat} {v : Value} {n : Nat} {xs : List Value} (h : w.ownsRow B e 3 v n xs) (hb : Below w.heap.size w W) : W.ownsRow B e 3 v n xs := by
  refine ⟨h.1, ?_⟩
  rcases h.2 with h0 | ⟨g, cap, cur, hv, hB, hg, hr⟩
  · exact .inl h0
  · exact .inr ⟨g, cap, cur, hv, hB, (hb.block g (Array.getElem?_eq_some_iff.1 hg).1).trans hg, hr⟩
theorem three_cells (w : World) (h : Bool) (a b : ByteArray) : ∀ (j : Nat) (u : Value), [Value.bool h, .string a, .string b][j]? = some u → (w.alloc (.cells #[.bool h, .string a, .string b] 48)).cell? ((⟨w.heap.size, 0, none⟩ : Addr).add j) = some u := fun j u hu => by
  rw [addr_add, Nat.zero_add, Lib.cell_of_heap (heap_alloc_new w _)]
  rw [← hu]
  simp
/-- a row of patterns that the call owns: its slice, and its cells also later -/
theorem pats_own {w : World} {B n : Nat} {v : Value} {qs : List ByteArray} (hn : qs.length = n) (h : w.ownsRow B 48 3 v n (flatP qs)) :
    ∃ A c, v = .slice A n c ∧ ∀ j q, qs[j]? = some q → ∃ g, A = some ⟨g, 0, none⟩ ∧ ∀ W, Below w.heap.size w W → W.cell? ⟨g, j * 3, none⟩ = some (.bool (hasB q)) ∧ W.cell? ⟨g, j * 3 + 1, none⟩ = some (.string (preB q)) ∧ W.cell? ⟨g, j * 3 + 2, none⟩ = some (.string (postB q)) := by
  have hcells : ∀ g, v.ownBlock = some g → ∀ j u, (flatP qs)[j]? = some u → w.cell? ((⟨g, 0, none⟩ : Addr).add j) = some u := fun g hg => h.cells (g := g) hg
  rcases h.2 with ⟨rfl, h0⟩ | ⟨g, cap, cur, rfl, _, hg, _⟩
  · refine ⟨none, 0, by rw [h0], fun j q hq => ?_⟩
    have := (List.getElem?_eq_some_iff.1 hq).1
    omega
  · have hlt := (Array.getElem?_eq_some_iff.1 hg).1
    refine ⟨_, cap, rfl, fun j q hq => ⟨g, rfl, fun W hW => ?_⟩⟩
    obtain ⟨h0, h1, h2⟩ := flatP_at qs j q hq
    have e : ∀ i u, (flatP qs)[i]? = some u → W.cell? ⟨g, i, none⟩ = some u := fun i u hu => by
      have := hcells g rfl i u hu
      rw [addr_add, Nat.zero_add] at this
      exact (hW.cell (p := ⟨g, i, none⟩) hlt).trans this
    exact ⟨e _ _ h0, e _ _ h1, e _ _ h2⟩

set_option maxRecDepth 100000 in
set_option maxHeartbeats 4000000 in
/-- the document's Filter -/
theorem refFilter_is (A P : Option Addr) (m c n d : Nat) (out : Bool) (xs qs : List ByteArray) (w : World) (hn : qs.length = n) (hp : SlIs w P d qs) (hm : n ≤ 1000000) (hq : ∀ q ∈ qs, q.size ≤ 1000000) (hxl : xs.length = m) (hs : SlIs w A c xs) (hm2 : m ≤ 1000000) (hx : ∀ x ∈ xs, x.size ≤ 1000000) :
    Calls Tryd.prog 13 #[.slice P n d, .slice A m c, .bool out] w fun e W' => ∃ A' c', e = .returned (.slice A' (filterB qs out xs).length c') ∧ SlIs W' A' c' (filterB qs out xs) ∧ Below w.heap.size w W' := by
  obtain ⟨i0, hi, hz0, hz1, hz2⟩ := info_parts infoString
  obtain ⟨p0, pi, pz0, pz1, pz2⟩ := info_parts infoP
  have HN := Lib.hid hn
  have HP := Lib.hid hp
  have HQ := Lib.hid hq
  have HXL := Lib.hid hxl
  have HS := Lib.hid hs
  have HX := Lib.hid hx
  clear hn hp hq hxl hs hx
  go_enter Tryd.func13, Tryd.ntmps13
  go_wp2
  go_loopw [8, 9] (fun v i wr => ∃ k : Nat, k ≤ n ∧ i = .int .i64 k ∧ wr.ownsRow w.heap.size 48 3 v k (flatP (qs.take k)) ∧ Hid (Below w.heap.size w wr)) (fun _ i _ => n - (intOf i).toNat)
  case atStart => exact ⟨0, Nat.zero_le _, rfl, World.ownsRow_nil _ _ _ _, Below.refl _ _⟩
  case round =>
    obtain ⟨k, hk, rfl, hown, H⟩ := hrel
    have hBs := H.out.size
    by_cases hlt : k < n
    · have hl : k < qs.length := by have := HN.out; omega
      obtain ⟨bb, oo, rfl, hbb, hc⟩ := HP.out.at_ (List.getElem?_eq_getElem hl)
      have c1 := hc wr H.out
      have zq := HQ.out _ (List.getElem_mem hl)
      have HO := Lib.hid (fun W => refOf_is qs[k] W (by omega))
      have HNS : Hid (flatP (qs.take k) ++ [.bool (hasB qs[k]), .string (preB qs[k]), .string (postB qs[k])] = flatP (qs.take (k + 1))) := by
        show _ = _
        rw [List.take_succ_eq_append_getElem hl, flatP_app]; rfl
      have HW := Lib.hid hown
      clear hc hown
      unfold Of.patV at HO
      generalize hasB qs[k] = h0 at *
      generalize preB qs[k] = s0 at *
      generalize postB qs[k] = s1 at *
      generalize qs[k] = q at *
      go_wp2_with fail
      refine (HO.out _).mono ?_
      rintro e w1 ⟨rfl, hb1⟩
      have hown := own_below3 HW.out hb1
      have HB1 := Lib.hid (H.out.trans (hb1.mono hBs))
      have hBs1 := HB1.out.size
      clear hb1 HW H HO
      go_wp2_with (at_builtin; refine wpList_append_own _ rfl _ _ 47 rfl w.heap.size 48 p0 (.agg #[.bool false, .string .empty, .string .empty]) 3 40 Tryd.underlying47 pi pz0 pz1 pz2 rfl (by decide) _ _ _ rfl (hown.alloc _) ⟨w1.heap.size, 0, none⟩ 1 1 [.bool h0, .string s0, .string s1] rfl rfl (three_cells _ _ _ _) (by simp [Value.oneCell']) (by unfold maxLen; omega) (by omega) (by simp; omega) ?_; intro v' w2 hown' hgrow _; have HO := Lib.hid hown'; have HG := Lib.hid (below_append3 HB1.out hBs1 hown hgrow); clear hown' hgrow)
      go_roundw
      case rel => exact ⟨k + 1, by omega, by go_num, by rw [← HNS.out]; exact HO.out, HG⟩
      case measure => simp [intOf]; omega
    · obtain rfl : n = k := by omega
      rw [List.take_of_length_le (by rw [HN.out]; exact Nat.le_refl _)] at hown
      obtain ⟨V, cv, rfl, hV⟩ := pats_own HN.out hown
      have HV := Lib.hid hV
      have HB := Lib.hid H.out
      clear hown hV H hlt hk
      obtain ⟨wA, rfl⟩ : ∃ wA, wA = wr := ⟨_, rfl⟩
      go_wp2_with fail
      go_loopw [7, 10] (fun v i wx => ∃ (k : Nat) (acc : List ByteArray), k ≤ m ∧ acc.length ≤ k ∧ i = .int .i64 k ∧ wx.ownsRow wA.heap.size 9 1 v acc.length (acc.map Value.string) ∧ Hid (Below wA.heap.size wA wx ∧ acc = filterB qs out (xs.take k))) (fun _ i _ => m - (intOf i).toNat)
      case atStart => exact ⟨0, [], Nat.zero_le _, Nat.le_refl _, rfl, World.ownsRow_nil _ _ _ _, Below.refl _ _, rfl⟩
      case round =>
        obtain ⟨k, acc, hk, ha, rfl, hown, H⟩ := hrel
        have hBs2 := H.out.1.size
        by_cases hlt : k < m
        · have hl : k < xs.length := by have := HXL.out; omega
          obtain ⟨bb, oo, rfl, hbb, hc⟩ := HS.out.at_ (List.getElem?_eq_getElem hl)
          have HC := Lib.hid (fun W (hW : Below wA.heap.size wA W) => hc W (HB.out.trans (hW.mono HB.out.size)))
          have zx := HX.out _ (List.getElem_mem hl)
          have HNS : Hid (filterB qs out (xs.take (k + 1)) = acc ++ (if (fitB qs xs[k] != out) = true then [xs[k]] else [])) := by
            show _ = _
            rw [List.take_succ_eq_append_getElem hl]
            unfold filterB
            rw [List.filter_append, H.out.2]
            unfold filterB
            congr 1
            rw [List.filter_cons, List.filter_nil]
          have HO := Lib.hid hown
          have HB2 := Lib.hid H.out.1
          clear hc H hown
          generalize xs[k] = x at *
          obtain ⟨wB, rfl⟩ : ∃ wB, wB = wr := ⟨_, rfl⟩
          go_wp2_with fail
          go_loopw [11, 12] (fun v i wx => ∃ (j : Nat) (r : Bool), j ≤ n ∧ i = .int .i64 j ∧ v = .bool r ∧ Hid (Below wB.heap.size wB wx ∧ r = fitB (qs.take j) x)) (fun _ i _ => n - (intOf i).toNat)
          case atStart => exact ⟨0, false, Nat.zero_le _, rfl, rfl, Below.refl _ _, rfl⟩
          case round =>
            obtain ⟨j, r, hj, rfl, rfl, H3⟩ := hrel
            have hBs3 := H3.out.1.size
            go_upto_region 12 with fail
            go_cut [40] (fun v wx => v = .bool (decide (j < n) && !r) ∧ wr = wx)
            case first =>
              by_cases h1 : j < n
              · cases r <;> (go_wp2_with fail; go_meet; exact ⟨by simp [h1], rfl⟩)
              · go_wp2_with fail
                go_meet
                exact ⟨by simp [h1], rfl⟩
            case rest =>
              obtain ⟨rfl, rfl⟩ := hcut
              by_cases hgo : j < n ∧ r = false
              · obtain ⟨h1, rfl⟩ := hgo
                rw [decide_eq_true h1]
                have hl3 : j < qs.length := by have := HN.out; omega
                obtain ⟨g, rfl, hg⟩ := HV.out j qs[j] (List.getElem?_eq_getElem hl3)
                have hBW : Below wA.heap.size wA wr := HB2.out.trans (H3.out.1.mono HB2.out.size)
                obtain ⟨d0, d1, d2⟩ := hg wr hBW
                have d3 := HC.out wr hBW
                have HD : Hid (∀ W, Below wr.heap.size wr W → W.cell? ⟨g, j * 3, none⟩ = some (.bool (hasB qs[j])) ∧ W.cell? ⟨g, j * 3 + 1, none⟩ = some (.string (preB qs[j])) ∧ W.cell? ⟨g, j * 3 + 2, none⟩ = some (.string (postB qs[j])) ∧ W.cell? ⟨bb, oo + k, none⟩ = some (.string x)) := fun W hW => by
                  have hh := hBW.trans (hW.mono hBW.size)
                  obtain ⟨e0, e1, e2⟩ := hg W hh
                  exact ⟨e0, e1, e2, HC.out W hh⟩
                have zq := HQ.out _ (List.getElem_mem hl3)
                have z1 := preB_le qs[j]
                have z2 := postB_le qs[j]
                have HM := Lib.hid (fun W => refMatch_is (hasB qs[j]) (preB qs[j]) (postB qs[j]) x W (by omega) (by omega) (by unfold maxLen; omega))
                have HF : Hid (fitB (qs.take (j + 1)) x = okB (hasB qs[j]) (preB qs[j]) (postB qs[j]) x) := by
                  show _ = _
                  have := H3.out.2
                  unfold fitB at this ⊢
                  rw [List.take_succ_eq_append_getElem hl3, List.any_append, ← this]
                  simp [okQ]
                have HB3 := Lib.hid H3.out.1
                clear hg H3 hBW
                unfold Of.patV at HM
                generalize okB (hasB qs[j]) (preB qs[j]) (postB qs[j]) x = r2 at *
                generalize stemB (hasB qs[j]) (preB qs[j]) (postB qs[j]) x = st at *
                generalize hasB qs[j] = h0 at *
                generalize preB qs[j] = s0 at *
                generalize postB qs[j] = s1 at *
                go_wp2_with fail
                go_region_held3 (fun w' => w'.cell? ⟨g, j * 3, none⟩ = some (.bool h0) ∧ w'.cell? ⟨g, j * 3 + 1, none⟩ = some (.string s0) ∧ w'.cell? ⟨g, j * 3 + 2, none⟩ = some (.string s1) ∧ w'.cell? ⟨bb, oo + k, none⟩ = some (.string x)) (first | go_keep | exact HD.out w3 ((Below.drew (Below.refl _ wr)).trans hb3)) (first | (go_at_call 31; refine (HM.out _).mono ?_; rintro e w3 ⟨rfl, hb3⟩))
                have HB4 := Lib.hid (HB3.out.trans (((Below.drew (Below.refl _ wr)).trans hb3).mono hBs3))
                clear hb3 HM HB3 d0 d1 d2 d3 HD
                go_wp2_with fail
                go_roundw
                case rel => exact ⟨j + 1, r2, by omega, by go_num, rfl, HB4.out, HF.out.symm⟩
                case measure => simp [intOf]; omega
              · have e1 : (decide (j < n) && !r) = false := by
                  cases r
                  · have : ¬ j < n := fun h => hgo ⟨h, rfl⟩
                    simp [this]
                  · simp
                have HR : Hid (r = fitB qs x) := by
                  show _ = _
                  by_cases h1 : j < n
                  · cases r with
                    | false => exact absurd ⟨h1, rfl⟩ hgo
                    | true =>
                      have h2 := H3.out.2
                      unfold fitB at h2 ⊢
                      symm
                      rw [List.any_eq_true]
                      have h3 := List.any_eq_true.1 h2.symm
                      obtain ⟨q, hq, ht⟩ := h3
                      exact ⟨q, List.mem_of_mem_take hq, ht⟩
                  · have h2 := H3.out.2
                    rwa [List.take_of_length_le (by rw [HN.out]; omega)] at h2
                rw [e1]
                have hown := own_below HO.out H3.out.1
                have HB3 := Lib.hid (HB2.out.trans (H3.out.1.mono HB2.out.size))
                have hBs4 := HB3.out.size
                have c1 := HC.out wr HB3.out
                rw [← HR.out] at HNS
                clear H3 e1 hgo hj HR HO HB2 hBs3
                cases hro : (r == out) with
                | false =>
                  have hne : (r != out) = true := by simp [bne, hro]
                  rw [hne] at HNS
                  clear hne
                  go_wp2_with (at_builtin; refine wpList_append_own _ rfl _ _ 22 rfl wA.heap.size 9 i0 (.string .empty) 1 16 Tryd.underlying22 hi hz0 hz1 hz2 rfl (by decide) _ _ _ rfl (hown.alloc _) ⟨wr.heap.size, 0, none⟩ 1 1 [.string x] rfl rfl (cell_one_new _ _ _) (by simp [Value.oneCell']) (by unfold maxLen; omega) (by omega) (by simp; omega) ?_; intro v' w2 hown' hgrow _; have HO := Lib.hid hown'; have HG := Lib.hid (below_append HB3.out hBs4 hown hgrow); clear hown' hgrow)
                  go_roundw
                  case rel => exact ⟨k + 1, acc ++ [x], by omega, by simp; omega, by go_num, by simpa using HO.out, HG.out, by rw [HNS.out]; simp⟩
                  case measure => simp [intOf]; omega
                | true =>
                  have hne : (r != out) = false := by simp [bne, hro]
                  rw [hne] at HNS
                  have HO := Lib.hid hown
                  clear hne hown
                  go_wp2
                  go_roundw
                  case rel => exact ⟨k + 1, acc, by omega, by omega, by go_num, HO.out, HB3.out, by rw [HNS.out]; simp⟩
                  case measure => simp [intOf]; omega
        · obtain rfl : m = k := by omega
          have e1 : acc = filterB qs out xs := by
            have := H.out.2
            rwa [List.take_of_length_le (by rw [HXL.out]; exact Nat.le_refl _)] at this
          obtain ⟨A', c', rfl, hsl⟩ := slIs_of_own rfl hown
          have HSL := Lib.hid hsl
          have HE := Lib.hid e1
          have HBE := Lib.hid (HB.out.trans (H.out.1.mono HB.out.size))
          clear hown hsl e1 H
          go_wp2
          go_ret
          rw [← HE.out]
          exact ⟨A', c', rfl, HSL.out, HBE.out⟩

end Go.Proofs.YtmallbgmpmdjiaaDoor.LrefFilter
