/- What the document's Each, Slice, Pairs answer over lists of texts, and the law's few. -/
import Derived.Test.YtmallbgmpmdjiaaDoorSlice
import Derived.Test.YtmallbgmpmdjiaaDoorPairs
namespace Go.Proofs.YtmallbgmpmdjiaaDoor.Lref
open Go.RowKit Go.Proofs.YtmallbgmpmdjiaaDoor.Strs Go.Proofs.YtmallbgmpmdjiaaDoor.Slice Go.Proofs.YtmallbgmpmdjiaaDoor.Pairs

theorem take_snoc (xs : List ByteArray) (k : Nat) (h : k < xs.length) : xs.take (k + 1) = xs.take k ++ [xs[k]] := List.take_succ_eq_append_getElem h

set_option maxRecDepth 100000 in
set_option maxHeartbeats 1000000 in
/-- the document's Each -/
theorem refEach_is (A : Option Addr) (n c : Nat) (xs : List ByteArray) (a b : ByteArray) (w : World) (hn : xs.length = n) (h : SlIs w A c xs) (hm : n ≤ 1000000) (hx : ∀ x ∈ xs, x.size ≤ 1000000) (ha : a.size ≤ 1000000) (hb : b.size ≤ 1000000) :
    Calls Tryd.prog 19 #[.slice A n c, .string a, .string b] w fun e W' => ∃ A' c', e = .returned (.slice A' n c') ∧ SlIs W' A' c' (xs.map fun x => a ++ x ++ b) ∧ Below w.heap.size w W' := by
  obtain ⟨i0, hi, hz0, hz1, hz2⟩ := info_parts infoString
  have HN := Lib.hid hn
  have HL := Lib.hid h
  have HX := Lib.hid hx
  clear hn h hx
  go_enter Tryd.func19, Tryd.ntmps19
  go_wp2
  go_loopw [7, 8] (fun v i wr => ∃ k : Nat, k ≤ n ∧ i = .int .i64 k ∧ wr.ownsRow w.heap.size 9 1 v k (((xs.take k).map fun x => a ++ x ++ b).map Value.string) ∧ Hid (Below w.heap.size w wr)) (fun _ i _ => n - (intOf i).toNat)
  case atStart => exact ⟨0, Nat.zero_le _, rfl, World.ownsRow_nil _ _ _ _, Below.refl _ _⟩
  case round =>
    obtain ⟨k, hk, rfl, hown, H⟩ := hrel
    have hBs := H.out.size
    by_cases hlt : k < n
    · have hl : k < xs.length := by have := HN.out; omega
      obtain ⟨bb, o, rfl, hbb, hc⟩ := HL.out.at_ (List.getElem?_eq_getElem hl)
      have c1 := hc wr H.out
      have zx := HX.out _ (List.getElem_mem hl)
      have HNS : Hid (((xs.take k).map fun x => a ++ x ++ b).map Value.string ++ [.string (a ++ xs[k] ++ b)] = ((xs.take (k + 1)).map fun x => a ++ x ++ b).map Value.string) := by
        show _ = _
        rw [take_snoc xs k hl, List.map_append, List.map_append]; rfl
      clear hc
      generalize xs[k] = x at *
      have z2 : (a ++ x).size ≤ 2000000 := by rw [ByteArray.size_append]; omega
      have a1 : ∀ W, (Op.stringOp .add a x).run Tryd.prog W = .ok (.string (a ++ x)) W := fun W => run_string_add_sum W _ _ (by omega)
      have a2 : ∀ W, (Op.stringOp .add (a ++ x) b).run Tryd.prog W = .ok (.string (a ++ x ++ b)) W := fun W => run_string_add_sum W _ _ (by omega)
      generalize a ++ x ++ b = y at *
      generalize a ++ x = z at *
      go_wp2_with (at_builtin; refine wpList_append_own _ rfl _ _ 22 rfl w.heap.size 9 i0 (.string .empty) 1 16 Tryd.underlying22 hi hz0 hz1 hz2 rfl (by decide) _ _ _ rfl (hown.alloc _) ⟨wr.heap.size, 0, none⟩ 1 1 [.string y] rfl rfl (cell_one_new _ _ _) (by simp [Value.oneCell']) (by unfold maxLen; omega) (by omega) (by simp; omega) ?_; intro v' w2 hown' hgrow _; have HO := Lib.hid hown'; have HG := Lib.hid (below_append H.out hBs hown hgrow); clear hown' hgrow)
      go_roundw
      case rel => exact ⟨k + 1, by omega, by go_num, by rw [← HNS.out]; exact HO.out, HG⟩
      case measure => simp [intOf]; omega
    · obtain rfl : n = k := by omega
      have e1 : ((xs.map fun x => a ++ x ++ b)).length = n := by rw [List.length_map]; exact HN.out
      rw [List.take_of_length_le (by rw [HN.out]; exact Nat.le_refl _)] at hown
      obtain ⟨A', c', rfl, hs⟩ := slIs_of_own e1 hown
      have HS := Lib.hid hs
      clear hown hs e1
      go_wp2
      go_ret
      exact ⟨A', c', rfl, HS.out, H.out⟩

/-- what is taken of the first k -/
def cutTo (xs : List ByteArray) (f t : Int) (k : Nat) : List ByteArray := (xs.take (min k (min t xs.length).toNat)).drop ((max f 1) - 1).toNat
theorem cutTo_in (xs : List ByteArray) (f t : Int) (k : Nat) (hk : k < xs.length) (h1 : f ≤ (k : Int) + 1) (h2 : (k : Int) + 1 ≤ t) : cutTo xs f t (k + 1) = cutTo xs f t k ++ [xs[k]] := by
  unfold cutTo
  have e1 : min (k + 1) (min t xs.length).toNat = k + 1 := by omega
  have e2 : min k (min t xs.length).toNat = k := by omega
  rw [e1, e2, take_snoc xs k hk, List.drop_append_of_le_length (by rw [List.length_take]; omega)]
theorem cutTo_out (xs : List ByteArray) (f t : Int) (k : Nat) (hk : k < xs.length) (h : ¬ (f ≤ (k : Int) + 1 ∧ (k : Int) + 1 ≤ t)) : cutTo xs f t (k + 1) = cutTo xs f t k := by
  unfold cutTo
  by_cases h2 : (k : Int) + 1 ≤ t
  · have h1 : ¬ f ≤ (k : Int) + 1 := fun h1 => h ⟨h1, h2⟩
    rw [List.drop_eq_nil_of_le (by rw [List.length_take]; omega), List.drop_eq_nil_of_le (by rw [List.length_take]; omega)]
  · have e : min (k + 1) (min t xs.length).toNat = min k (min t xs.length).toNat := by omega
    rw [e]
theorem cutTo_all (xs : List ByteArray) (f t : Int) : cutTo xs f t xs.length = sliceB xs f t := by
  unfold cutTo sliceB
  have e : min xs.length (min t xs.length).toNat = (min t xs.length).toNat := by omega
  rw [e]
theorem cutTo_len (xs : List ByteArray) (f t : Int) (k : Nat) : (cutTo xs f t k).length ≤ k := by
  unfold cutTo
  rw [List.length_drop, List.length_take]; omega

set_option maxRecDepth 100000 in
set_option maxHeartbeats 1000000 in
/-- the document's Slice -/
theorem refSlice_is (A : Option Addr) (n c : Nat) (xs : List ByteArray) (f t : Int) (w : World) (hn : xs.length = n) (h : SlIs w A c xs) (hm : n ≤ 1000000) :
    Calls Tryd.prog 17 #[.slice A n c, .int .i64 f, .int .i64 t] w fun e W' => ∃ A' c', e = .returned (.slice A' (sliceB xs f t).length c') ∧ SlIs W' A' c' (sliceB xs f t) ∧ Below w.heap.size w W' := by
  obtain ⟨i0, hi, hz0, hz1, hz2⟩ := info_parts infoString
  have HN := Lib.hid hn
  have HL := Lib.hid h
  clear hn h
  go_enter Tryd.func17, Tryd.ntmps17
  go_wp2
  go_loopw [7, 8] (fun v i wr => ∃ (k : Nat) (acc : List ByteArray), k ≤ n ∧ acc.length ≤ k ∧ i = .int .i64 k ∧ wr.ownsRow w.heap.size 9 1 v acc.length (acc.map Value.string) ∧ Hid (Below w.heap.size w wr ∧ acc = cutTo xs f t k)) (fun _ i _ => n - (intOf i).toNat)
  case atStart => exact ⟨0, [], Nat.zero_le _, Nat.le_refl _, rfl, World.ownsRow_nil _ _ _ _, Below.refl _ _, by simp [cutTo]⟩
  case round =>
    obtain ⟨k, acc, hk, ha, rfl, hown, H⟩ := hrel
    have hBs := H.out.1.size
    by_cases hlt : k < n
    · have hl : k < xs.length := by have := HN.out; omega
      obtain ⟨bb, o, rfl, hbb, hc⟩ := HL.out.at_ (List.getElem?_eq_getElem hl)
      have c1 := hc wr H.out.1
      by_cases h1 : f ≤ (k : Int) + 1
      · by_cases h2 : (k : Int) + 1 ≤ t
        · have HNS : Hid (cutTo xs f t (k + 1) = acc ++ [xs[k]]) := by
            show _ = _
            rw [cutTo_in xs f t k hl h1 h2, ← H.out.2]
          have HB := Lib.hid H.out.1
          clear hc H
          generalize xs[k] = x at *
          go_wp2_with (at_builtin; refine wpList_append_own _ rfl _ _ 22 rfl w.heap.size 9 i0 (.string .empty) 1 16 Tryd.underlying22 hi hz0 hz1 hz2 rfl (by decide) _ _ _ rfl (hown.alloc _) ⟨wr.heap.size, 0, none⟩ 1 1 [.string x] rfl rfl (cell_one_new _ _ _) (by simp [Value.oneCell']) (by unfold maxLen; omega) (by omega) (by simp; omega) ?_; intro v' w2 hown' hgrow _; have HO := Lib.hid hown'; have HG := Lib.hid (below_append HB.out hBs hown hgrow); clear hown' hgrow)
          go_roundw
          case rel => exact ⟨k + 1, acc ++ [x], by omega, by simp; omega, by go_num, by simpa using HO.out, HG.out, HNS.out.symm⟩
          case measure => simp [intOf]; omega
        · have HNS : Hid (cutTo xs f t (k + 1) = acc) := by
            show _ = _
            rw [cutTo_out xs f t k hl (fun h => h2 h.2), ← H.out.2]
          have HB := Lib.hid H.out.1
          have HO := Lib.hid hown
          clear hc H hown
          go_wp2
          go_roundw
          case rel => exact ⟨k + 1, acc, by omega, by omega, by go_num, HO.out, HB.out, HNS.out.symm⟩
          case measure => simp [intOf]; omega
      · have HNS : Hid (cutTo xs f t (k + 1) = acc) := by
          show _ = _
          rw [cutTo_out xs f t k hl (fun h => h1 h.1), ← H.out.2]
        have HB := Lib.hid H.out.1
        have HO := Lib.hid hown
        clear hc H hown
        go_wp2
        go_roundw
        case rel => exact ⟨k + 1, acc, by omega, by omega, by go_num, HO.out, HB.out, HNS.out.symm⟩
        case measure => simp [intOf]; omega
    · obtain rfl : n = k := by omega
      have e1 : acc = sliceB xs f t := by rw [H.out.2, ← HN.out, cutTo_all]
      obtain ⟨A', c', rfl, hs⟩ := slIs_of_own rfl hown
      have HS := Lib.hid hs
      have HE := Lib.hid e1
      clear hown hs e1
      go_wp2
      go_ret
      rw [← HE.out]
      exact ⟨A', c', rfl, HS.out, H.out.1⟩

theorem pair_snoc (xs ys : List ByteArray) (k : Nat) : (List.range (k + 1)).map (pairAt xs ys) = (List.range k).map (pairAt xs ys) ++ [pairAt xs ys k] := by rw [List.range_succ, List.map_append]; rfl

set_option maxRecDepth 100000 in
set_option maxHeartbeats 2000000 in
/-- the document's Pairs -/
theorem refPairs_is (A B : Option Addr) (n m c d : Nat) (xs ys : List ByteArray) (w : World) (hn : xs.length = n) (hm : ys.length = m) (h : SlIs w A c xs) (k : SlIs w B d ys) (hn2 : n ≤ 1000000) (hm2 : m ≤ 1000000) (hx : ∀ x ∈ xs, x.size ≤ 1000000) (hy : ∀ x ∈ ys, x.size ≤ 1000000) :
    Calls Tryd.prog 15 #[.slice A n c, .slice B m d] w fun e W' => ∃ A' c', e = .returned (.slice A' (pairB xs ys).length c') ∧ SlIs W' A' c' (pairB xs ys) ∧ Below w.heap.size w W' := by
  obtain ⟨i0, hi, hz0, hz1, hz2⟩ := info_parts infoString
  have HN := Lib.hid hn
  have HM := Lib.hid hm
  have HL := Lib.hid h
  have HK := Lib.hid k
  have HX := Lib.hid hx
  have HY := Lib.hid hy
  clear hn hm h k hx hy
  go_enter Tryd.func15, Tryd.ntmps15
  go_wp2
  go_loopw [5, 6] (fun v i wr => ∃ k : Nat, (k ≤ n ∨ k ≤ m) ∧ i = .int .i64 k ∧ wr.ownsRow w.heap.size 9 1 v k (((List.range k).map (pairAt xs ys)).map Value.string) ∧ Hid (Below w.heap.size w wr)) (fun _ i _ => n + m - (intOf i).toNat)
  case atStart => exact ⟨0, .inl (Nat.zero_le _), rfl, World.ownsRow_nil _ _ _ _, Below.refl _ _⟩
  case round =>
    obtain ⟨k, hk, rfl, hown, H⟩ := hrel
    have hBs := H.out.size
    have hk2 : k ≤ 1000000 := by omega
    have hsn := pair_snoc xs ys k
    by_cases h1 : k < n
    · have hl : k < xs.length := by have := HN.out; omega
      obtain ⟨bb, o, rfl, hbb, hc⟩ := HL.out.at_ (List.getElem?_eq_getElem hl)
      have c1 := hc wr H.out
      have zx := HX.out _ (List.getElem_mem hl)
      have gx : xs.getD k .empty = xs[k] := by rw [List.getD_eq_getElem?_getD, List.getElem?_eq_getElem hl]; rfl
      by_cases h2 : k < m
      · have hl2 : k < ys.length := by have := HM.out; omega
        obtain ⟨bc, p, rfl, hbc, hd⟩ := HK.out.at_ (List.getElem?_eq_getElem hl2)
        have c2 := hd wr H.out
        have zy := HY.out _ (List.getElem_mem hl2)
        have gy : ys.getD k .empty = ys[k] := by rw [List.getD_eq_getElem?_getD, List.getElem?_eq_getElem hl2]; rfl
        have HNS : Hid (((List.range k).map (pairAt xs ys)).map Value.string ++ [.string (xs[k] ++ ys[k])] = ((List.range (k + 1)).map (pairAt xs ys)).map Value.string) := by
          show _ = _
          rw [hsn, List.map_append, pairAt, gx, gy]; rfl
        clear hc hd gx gy hsn
        generalize xs[k] = x at *
        generalize ys[k] = y at *
        have a1 : ∀ W, (Op.stringOp .add x y).run Tryd.prog W = .ok (.string (x ++ y)) W := fun W => run_string_add_sum W _ _ (by omega)
        generalize x ++ y = z at *
        go_wp2_with (at_builtin; refine wpList_append_own _ rfl _ _ 22 rfl w.heap.size 9 i0 (.string .empty) 1 16 Tryd.underlying22 hi hz0 hz1 hz2 rfl (by decide) _ _ _ rfl (hown.alloc _) ⟨wr.heap.size, 0, none⟩ 1 1 [.string z] rfl rfl (cell_one_new _ _ _) (by simp [Value.oneCell']) (by unfold maxLen; omega) (by omega) (by simp; omega) ?_; intro v' w2 hown' hgrow _; have HO := Lib.hid hown'; have HG := Lib.hid (below_append H.out hBs hown hgrow); clear hown' hgrow)
        go_roundw
        case rel => exact ⟨k + 1, by omega, by go_num, by rw [← HNS.out]; exact HO.out, HG⟩
        case measure => simp [intOf]; omega
      · have gy : ys.getD k .empty = .empty := by rw [List.getD_eq_getElem?_getD, List.getElem?_eq_none (by rw [HM.out]; omega)]; rfl
        have HNS : Hid (((List.range k).map (pairAt xs ys)).map Value.string ++ [.string xs[k]] = ((List.range (k + 1)).map (pairAt xs ys)).map Value.string) := by
          show _ = _
          rw [hsn, List.map_append, pairAt, gx, gy, ByteArray.append_empty]; rfl
        clear hc gx gy hsn
        generalize xs[k] = x at *
        go_wp2_with (at_builtin; refine wpList_append_own _ rfl _ _ 22 rfl w.heap.size 9 i0 (.string .empty) 1 16 Tryd.underlying22 hi hz0 hz1 hz2 rfl (by decide) _ _ _ rfl (hown.alloc _) ⟨wr.heap.size, 0, none⟩ 1 1 [.string x] rfl rfl (cell_one_new _ _ _) (by simp [Value.oneCell']) (by unfold maxLen; omega) (by omega) (by simp; omega) ?_; intro v' w2 hown' hgrow _; have HO := Lib.hid hown'; have HG := Lib.hid (below_append H.out hBs hown hgrow); clear hown' hgrow)
        go_roundw
        case rel => exact ⟨k + 1, by omega, by go_num, by rw [← HNS.out]; exact HO.out, HG⟩
        case measure => simp [intOf]; omega
    · by_cases h2 : k < m
      · have hl2 : k < ys.length := by have := HM.out; omega
        obtain ⟨bc, p, rfl, hbc, hd⟩ := HK.out.at_ (List.getElem?_eq_getElem hl2)
        have c2 := hd wr H.out
        have zy := HY.out _ (List.getElem_mem hl2)
        have gx : xs.getD k .empty = ⟨#[]⟩ := by rw [List.getD_eq_getElem?_getD, List.getElem?_eq_none (by rw [HN.out]; omega)]; rfl
        have gy : ys.getD k .empty = ys[k] := by rw [List.getD_eq_getElem?_getD, List.getElem?_eq_getElem hl2]; rfl
        have HNS : Hid (((List.range k).map (pairAt xs ys)).map Value.string ++ [.string (⟨#[]⟩ ++ ys[k])] = ((List.range (k + 1)).map (pairAt xs ys)).map Value.string) := by
          show _ = _
          rw [hsn, List.map_append, pairAt, gx, gy]; rfl
        clear hd gx gy hsn
        generalize ys[k] = y at *
        have z0 : (⟨#[]⟩ : ByteArray).size = 0 := rfl
        have a1 : ∀ W, (Op.stringOp .add ⟨#[]⟩ y).run Tryd.prog W = .ok (.string (⟨#[]⟩ ++ y)) W := fun W => run_string_add_sum W _ _ (by omega)
        generalize (⟨#[]⟩ : ByteArray) ++ y = z at *
        go_wp2_with (at_builtin; refine wpList_append_own _ rfl _ _ 22 rfl w.heap.size 9 i0 (.string .empty) 1 16 Tryd.underlying22 hi hz0 hz1 hz2 rfl (by decide) _ _ _ rfl (hown.alloc _) ⟨wr.heap.size, 0, none⟩ 1 1 [.string z] rfl rfl (cell_one_new _ _ _) (by simp [Value.oneCell']) (by unfold maxLen; omega) (by omega) (by simp; omega) ?_; intro v' w2 hown' hgrow _; have HO := Lib.hid hown'; have HG := Lib.hid (below_append H.out hBs hown hgrow); clear hown' hgrow)
        go_roundw
        case rel => exact ⟨k + 1, by omega, by go_num, by rw [← HNS.out]; exact HO.out, HG⟩
        case measure => simp [intOf]; omega
      · have eM : max xs.length ys.length = k := by rw [HN.out, HM.out]; omega
        have eP : (List.range k).map (pairAt xs ys) = pairB xs ys := by rw [pairB, eM]
        have eL : (pairB xs ys).length = k := by rw [pairB_len]; exact eM
        rw [eP] at hown
        obtain ⟨A', c', rfl, hs⟩ := slIs_of_own eL hown
        have HS := Lib.hid hs
        have HE := Lib.hid eL
        clear hown hs eP eM eL hsn
        go_wp2
        go_ret
        rw [HE.out]
        exact ⟨A', c', rfl, HS.out, H.out⟩

/-- are there at most 60 of at most 60 bytes? -/
def fewB (xs : List ByteArray) : Bool := decide (xs.length ≤ 60) && (xs.take 60).all fun x => decide (x.size ≤ 60)
theorem fewB_len {xs : List ByteArray} (h : fewB xs = true) : xs.length ≤ 60 := by
  unfold fewB at h
  rw [Bool.and_eq_true] at h
  exact of_decide_eq_true h.1
theorem fewB_size {xs : List ByteArray} (h : fewB xs = true) : ∀ x ∈ xs, x.size ≤ 1000000 := fun x hx => by
  have hl := fewB_len h
  unfold fewB at h
  rw [Bool.and_eq_true, List.take_of_length_le hl, List.all_eq_true] at h
  have := of_decide_eq_true (h.2 x hx)
  omega

set_option maxRecDepth 100000 in
set_option maxHeartbeats 1000000 in
theorem few_is (A : Option Addr) (n c : Nat) (xs : List ByteArray) (w : World) (hn : xs.length = n) (h : SlIs w A c xs) (hm : n ≤ maxLen) :
    Calls Tryd.prog 7 #[.slice A n c] w fun e W' => e = .returned (.bool (fewB xs)) ∧ W' = w := by
  unfold maxLen at hm
  have HN := Lib.hid hn
  have HL := Lib.hid h
  clear hn h
  go_enter Tryd.func7, Tryd.ntmps7
  go_wp2
  go_loopw [3] (fun i wr => ∃ k : Nat, k ≤ n ∧ k ≤ 60 ∧ i = .int .i64 k ∧ wr = w ∧ Hid ((xs.take k).all (fun x => decide (x.size ≤ 60)) = true)) (fun i _ => n - (intOf i).toNat)
  case atStart => exact ⟨0, Nat.zero_le _, Nat.zero_le _, rfl, rfl, rfl⟩
  case round =>
    obtain ⟨k, hk, hk6, rfl, rfl, H⟩ := hrel
    by_cases h1 : k < n
    · by_cases h2 : k < 60
      · have hl : k < xs.length := by have := HN.out; omega
        obtain ⟨bb, o, rfl, hbb, hc⟩ := HL.out.at_ (List.getElem?_eq_getElem hl)
        have c1 := hc wr (Below.refl _ _)
        clear hc
        by_cases h3 : xs[k].size ≤ 60
        · have HNS : Hid ((xs.take (k + 1)).all (fun x => decide (x.size ≤ 60)) = true) := by
            show _ = _
            rw [take_snoc xs k hl, List.all_append, H.out]
            simp [h3]
          generalize xs[k] = x at *
          go_wp2
          go_roundw
          case rel => exact ⟨k + 1, by omega, by omega, by go_num, by first | rfl | trivial, HNS⟩
          case measure => simp [intOf]; omega
        · have HF : Hid (fewB xs = false) := by
            show _ = _
            cases hb : fewB xs with
            | false => rfl
            | true =>
              have hl6 := fewB_len hb
              unfold fewB at hb
              rw [Bool.and_eq_true, List.take_of_length_le hl6, List.all_eq_true] at hb
              exact absurd (of_decide_eq_true (hb.2 _ (List.getElem_mem hl))) h3
          generalize xs[k] = x at *
          go_wp2
          go_ret
          exact ⟨ret_bool HF.out.symm, rfl⟩
      · have HF : Hid (fewB xs = decide (n ≤ 60)) := by
          show _ = _
          unfold fewB
          have e : k = 60 := by omega
          have h60 := H.out
          rw [e] at h60
          rw [h60, HN.out, Bool.and_true]
        have hi1 : ¬ (k : Int) < 60 := by omega
        have hi2 : decide ((n : Int) ≤ 60) = decide (n ≤ 60) := by simp; omega
        go_wp2
        go_ret
        exact ⟨ret_bool (by rw [HF.out]), rfl⟩
    · have HF : Hid (fewB xs = decide (n ≤ 60)) := by
        show _ = _
        unfold fewB
        obtain rfl : n = k := by omega
        have hall := H.out
        rw [List.take_of_length_le (by rw [HN.out]; exact Nat.le_refl _)] at hall
        rw [HN.out, List.take_of_length_le (by rw [HN.out]; omega), hall, Bool.and_true]
      have hi2 : decide ((n : Int) ≤ 60) = decide (n ≤ 60) := by simp; omega
      go_wp2
      go_ret
      exact ⟨ret_bool (by rw [HF.out]), rfl⟩

end Go.Proofs.YtmallbgmpmdjiaaDoor.Lref
