/- What the program's recipeText and plainText answer. -/
import Derived.Laws.OwnMore
import Derived.Test.YtcopddepnphfmaaDoorStrs
import Derived.Test.YtcopddepnphfmaaDoorLraw
namespace Go.Proofs.YtcopddepnphfmaaDoor.Ltext
open Go.RowKit Go.Proofs.YtcopddepnphfmaaDoor.Pure Go.Proofs.YtcopddepnphfmaaDoor.Ends Go.Proofs.YtcopddepnphfmaaDoor.Ln Go.Proofs.YtcopddepnphfmaaDoor.Lcut Go.Proofs.YtcopddepnphfmaaDoor.Lfn Go.Proofs.YtcopddepnphfmaaDoor.Lraw Go.Proofs.YtcopddepnphfmaaDoor.Strs

def bd (x : ByteArray) : List UInt8 := x.data.toList

theorem join_bound (M : Nat) (sep : List UInt8) (xs : List (List UInt8)) (h : ∀ x ∈ xs, x.length ≤ M) : (Lib.join xs sep).length ≤ xs.length * (M + sep.length) := by
  cases xs with
  | nil => simp [Lib.join_nil]
  | cons x r =>
    have h2 : ∀ r : List (List UInt8), (∀ x ∈ r, x.length ≤ M) → (Lib.joinTail sep r).length ≤ r.length * (M + sep.length) := by
      intro r
      induction r with
      | nil => intro _; simp [Lib.joinTail]
      | cons y r ih =>
        intro hr
        have h3 := hr y (by simp)
        have h4 := ih (fun z hz => hr z (by simp [hz]))
        have e : (Lib.joinTail sep (y :: r)).length = sep.length + y.length + (Lib.joinTail sep r).length := by simp [Lib.joinTail]; omega
        rw [e, List.length_cons, Nat.succ_mul]
        omega
    have h5 := h x (by simp)
    have h6 := h2 r (fun z hz => h z (by simp [hz]))
    rw [Lib.join_cons, List.length_append, List.length_cons, Nat.succ_mul]
    omega

/-- the library's Join of texts that lie in memory -/
theorem joins_is (c : UInt8) (A : Option Addr) (n cp : Nat) (xs : List (List UInt8)) (w : World) (hn : xs.length = n) (h : SlIs w A cp (xs.map bs)) (hl : (Lib.join xs [c]).length ≤ 140737488355328) (hm : n ≤ 140737488355328) :
    Calls Tryd.prog 43 #[.slice A n cp, .string ⟨#[c]⟩] w fun e W' => e = .returned (.string (bs (Lib.join xs [c]))) ∧ Below w.heap.size w W' := by
  rcases h.2 with h0 | ⟨b, o, rfl, hb, hc⟩
  · have hx : xs = [] := List.map_eq_nil_iff.1 h0
    subst hx
    obtain rfl : n = 0 := by rw [← hn]; rfl
    exact (Tryd.strings_Join_none A cp ⟨#[c]⟩ w).mono fun e W' ⟨h1, h2⟩ => ⟨h1, by rw [h2]; exact Below.refl _ _⟩
  · have e1 : (xs.map bs).map (·.data.toList) = xs := by rw [List.map_map]; exact List.map_id _
    have e2 : (⟨#[c]⟩ : ByteArray).data.toList = [c] := rfl
    have hc0 := h.1
    have c0 := Tryd.strings_Join b o cp (xs.map bs) ⟨#[c]⟩ w hc hb (by rw [List.length_map]; omega) hc0 (by rw [e1, e2]; exact hl)
    rw [e1, e2, List.length_map, hn] at c0
    exact c0

theorem make_strs (n : Nat) (h : n ≤ 1000000) (w : World) :
    (Instr.makeSlice 39 (.int .i64 (n : Int)) (.int .i64 (n : Int))).run Tryd.prog w = .ok (.slice (some ⟨w.heap.size, 0, none⟩) n n) (w.alloc (.cells (madeCells #[.string .empty] n) 9)) :=
  run_make_row' 39 9 _ 16 Tryd.underlying39 infoString rfl .i64 .i64 n (by omega) (by omega) w

theorem prefix9 (x : ByteArray) (w : World) :
    Calls Tryd.prog 42 #[.string x, .string ⟨#[9]⟩] w fun e w' => e = .returned (.string (bs (tab9 (bd x)))) ∧ w = w' := by
  refine (Tryd.strings_TrimPrefix x ⟨#[9]⟩ w).mono ?_
  rintro e w' ⟨rfl, h⟩
  refine ⟨Ends.ret_str ?_, h.symm⟩
  show (⟨(Lib.trimPrefix x.data.toList [9]).toArray⟩ : ByteArray) = _
  rw [tab9_prefix]; rfl

def rowR (xs : List ByteArray) (k j : Nat) : Value := .string (if j < k then bs (tab9 (bd (xs.getD j .empty))) else .empty)

set_option maxRecDepth 100000 in
set_option maxHeartbeats 1000000 in
/-- a recipe's text -/
theorem recipe_text (A : Option Addr) (n c : Nat) (xs : List ByteArray) (w : World) (hn : xs.length = n) (h : SlIs w A c xs) (hm : n ≤ 1000000) (hx : ∀ x ∈ xs, x.size ≤ 1000000) :
    Calls Tryd.prog 27 #[.slice A n c] w fun e W' => e = .returned (.string (bs (Lib.join (xs.map (fun x => tab9 (bd x))) [10]))) ∧ Below w.heap.size w W' := by
  have hjl : (Lib.join (xs.map (fun x => tab9 (bd x))) [10]).length ≤ 140737488355328 := by
    have := join_bound 1000000 [10] (xs.map (fun x => tab9 (bd x))) (by
      intro y hy
      obtain ⟨x, hx1, rfl⟩ := List.mem_map.1 hy
      have h1 := hx x hx1
      rw [Lib.size_eq] at h1
      have h2 : (tab9 (bd x)).length ≤ (bd x).length := by
        cases bd x with
        | nil => exact Nat.le_refl _
        | cons c r => rw [tab9_cons]; split <;> simp
      exact Nat.le_trans h2 h1)
    rw [List.length_map, hn] at this
    have h3 : n * (1000000 + [(10 : UInt8)].length) ≤ 1000000 * 1000001 := Nat.mul_le_mul hm (Nat.le_refl _)
    omega
  have HN := Lib.hid hn
  have HL := Lib.hid h
  have HJ := Lib.hid hjl
  clear hn h hx hjl
  have hmk := make_strs n hm
  go_enter Tryd.func27, Tryd.ntmps27
  go_wp2_with fail
  go_loopw [11] (fun i wr => ∃ k : Nat, k ≤ n ∧ i = .int .i64 k ∧ Hid (wr.rowIs w.heap.size 9 n (rowR xs k) ∧ Below w.heap.size w wr)) (fun i _ => n - (intOf i).toNat)
  case atStart => exact ⟨0, Nat.zero_le _, rfl, (World.rowIs_made w _ n _).congr (fun j _ => rfl), (Below.refl _ _).alloc (Nat.le_refl _) _⟩
  case round =>
    obtain ⟨k, hk, rfl, H⟩ := hrel
    by_cases hlt : k < n
    · have hl : k < xs.length := by have := HN.out; omega
      have hxk : xs[k]? = some xs[k] := List.getElem?_eq_getElem hl
      obtain ⟨bb, o, rfl, hbb, hc⟩ := HL.out.at_ hxk
      have c1 := hc wr H.out.2
      have c2 : wr.cell? ⟨w.heap.size, k, none⟩ = some (.string .empty) := (H.out.1.cell hlt).trans (by simp [rowR])
      have f2 := H.out.1.frozen k
      have HS : Hid ((wr.setCell ⟨w.heap.size, k, none⟩ (.string (bs (tab9 (bd xs[k]))))).rowIs w.heap.size 9 n (rowR xs (k + 1)) ∧ Below w.heap.size w (wr.setCell ⟨w.heap.size, k, none⟩ (.string (bs (tab9 (bd xs[k])))))) := by
        refine ⟨(H.out.1.set k _).congr (fun j hj => ?_), H.out.2.setCell (p := ⟨w.heap.size, k, none⟩) (Nat.le_refl _) _⟩
        by_cases e : j = k
        · subst e
          simp [rowR, List.getD_eq_getElem?_getD, hxk]
        · simp only [if_neg e, rowR]
          have : (j < k + 1) = (j < k) := by simp; omega
          simp only [this]
      clear hc hxk H
      have HP := Lib.hid (fun W => prefix9 xs[k] W)
      generalize bs (tab9 (bd xs[k])) = y at *
      generalize xs[k] = x at *
      go_wp2_with fail
      refine (HP.out _).mono ?_
      rintro e w' ⟨rfl, rfl⟩
      go_wp2
      go_roundw
      case rel => exact ⟨k + 1, by omega, by go_num, HS⟩
      case measure => simp [intOf]; omega
    · obtain rfl : k = n := by omega
      have hsl : SlIs wr (some ⟨w.heap.size, 0, none⟩) k ((xs.map (fun x => tab9 (bd x))).map bs) := slIs_of_row (by rw [List.length_map, List.length_map]; exact HN.out) H.out.1 (fun j x hj => by
        rw [List.getElem?_map, List.getElem?_map] at hj
        obtain ⟨y, hy, rfl⟩ := Option.map_eq_some_iff.1 hj
        obtain ⟨z, hz, rfl⟩ := Option.map_eq_some_iff.1 hy
        have hjl := (List.getElem?_eq_some_iff.1 hz).1
        have := HN.out
        simp [rowR, List.getD_eq_getElem?_getD, hz, show j < k by omega])
      have HJo := Lib.hid (joins_is 10 (some ⟨w.heap.size, 0, none⟩) k k (xs.map (fun x => tab9 (bd x))) wr (by rw [List.length_map]; exact HN.out) hsl HJ.out (by omega))
      have HB := Lib.hid H.out.2
      clear hsl H
      go_wp2_with fail
      refine HJo.out.mono ?_
      rintro e w3 ⟨rfl, hb3⟩
      have HB3 := Lib.hid (HB.out.trans (hb3.mono HB.out.size))
      clear hb3 HB HJo
      go_wp2
      go_ret
      exact ⟨rfl, HB3.out⟩

set_option maxHeartbeats 1000000 in
/-- a line alone -/
theorem plain_one (A : Option Addr) (c : Nat) (x : ByteArray) (w : World) (h : SlIs w A c [x]) :
    Calls Tryd.prog 28 #[.slice A 1 c] w fun e W' => e = .returned (.string x) ∧ Below w.heap.size w W' := by
  obtain ⟨b, o, rfl, hb, hc⟩ := h.at_ (k := 0) (x := x) rfl
  have c1 := hc w (Below.refl _ _)
  rw [Nat.add_zero] at c1
  clear hc hb h
  go_enter Tryd.func28, Tryd.ntmps28
  go_wp2
  go_ret
  exact ⟨rfl, Below.refl _ _⟩

theorem ends_size {u : List UInt8} {x : ByteArray} (h : x.data.toList = u ++ [92]) : 1 ≤ x.size := by rw [Lib.size_eq, h]; simp
def midB (l : List ByteArray) : List (List UInt8) := midP (l.map bd)
theorem midP_len (l : List (List UInt8)) : (midP l).length ≤ l.length := by
  unfold midP
  have := (List.filter_sublist (l := l.map (fun t => right (left t.dropLast))) (p := fun x => !x.isEmpty)).length_le
  simpa using this
theorem midP_snoc (l : List (List UInt8)) (t : List UInt8) : midP (l ++ [t]) = midP l ++ (if right (left t.dropLast) = [] then [] else [right (left t.dropLast)]) := by
  unfold midP
  rw [List.map_append, List.filter_append, List.map_singleton, List.filter_cons, List.filter_nil]
  by_cases h : right (left t.dropLast) = []
  · simp [h]
  · rw [if_neg h, if_pos]
    simpa using h
theorem empty_list (x : ByteArray) (h : x.data.toList = []) : (x.toList == []) = true ∧ x.toList.isEmpty = true := by rw [Lib.toList_data, h]; exact ⟨rfl, rfl⟩
theorem some_list (x : ByteArray) (h : x.data.toList ≠ []) : (x.toList == []) = false ∧ x.toList.isEmpty = false := by
  rw [Lib.toList_data]
  cases hh : x.data.toList with
  | nil => exact absurd hh h
  | cons a b => exact ⟨rfl, rfl⟩

set_option maxRecDepth 100000 in
set_option maxHeartbeats 2000000 in
/-- several lines -/
theorem plain_core (A : Option Addr) (n c : Nat) (x0 y : ByteArray) (mid : List ByteArray) (w : World) (hn : mid.length = n) (h : SlIs w A c (x0 :: (mid ++ [y]))) (hm : n ≤ 1000000)
    (h0 : ∃ u, x0.data.toList = u ++ [92]) (hmid : ∀ t ∈ mid, ∃ u, t.data.toList = u ++ [92]) (hx : x0.size ≤ 1000000) (hxm : ∀ t ∈ mid, t.size ≤ 1000000) (hy : y.size ≤ 1000000)
    (hl : (Lib.join (right (bd x0).dropLast :: (midB mid ++ [left (bd y)])) [32]).length ≤ 140737488355328) :
    Calls Tryd.prog 28 #[.slice A (n + 1 + 1) c] w fun e W' => e = .returned (.string (bs (Lib.join (right (bd x0).dropLast :: (midB mid ++ [left (bd y)])) [32]))) ∧ Below w.heap.size w W' := by
  obtain ⟨i0, hi, hz0, hz1, hz2⟩ := info_parts infoString
  have HN := Lib.hid hn
  have HL := Lib.hid h
  have HJ := Lib.hid hl
  obtain ⟨u0, hu0⟩ := h0
  have HU0 := Lib.hid (fun W => unslashed_bs u0 x0 W hu0 (by unfold maxLen; omega))
  have hu0s : (bs u0).size ≤ 1099511627776 := by rw [size_bs]; rw [Lib.size_eq, hu0] at hx; simp at hx; omega
  have HR0 := Lib.hid (fun W => right_is (bs u0) W hu0s)
  have hr0 : rightB (bs u0) = bs (right (bd x0).dropLast) := by
    unfold rightB bd; rw [hu0, List.dropLast_concat]; rfl
  rw [hr0] at HR0
  have HY := Lib.hid (fun W => left_any y W (by unfold maxLen; omega))
  obtain ⟨b, o, hA, hb, hc⟩ := h.at_ (k := 0) (x := x0) rfl
  have hcap := h.1
  have hcap2 : n + 1 + 1 ≤ c := by simp only [List.length_cons, List.length_append, List.length_nil] at hcap; omega
  subst hA
  have c0 := hc w (Below.refl _ _)
  rw [Nat.add_zero] at c0
  have HM := Lib.hid hmid
  have HXM := Lib.hid hxm
  have H0 : Hid (([right (bd x0).dropLast].map bs).map Value.string = [Value.string (bs (right (bd x0).dropLast))]) := rfl
  clear hn h hl hu0 hu0s hr0 hc hcap hb hmid hxm hx
  generalize right (bd x0).dropLast = r0 at *
  generalize bs u0 = U0 at *
  have w1 : IntKind.i64.wrap ((n : Int) + 1) = (n : Int) + 1 := IntWalk.i64_in _ (by omega)
  have t1 : ((n : Int) + 1 == 0) = false := by rw [beq_eq_false_iff_ne]; omega
  go_enter Tryd.func28, Tryd.ntmps28
  go_wp2_with fail
  refine (HU0.out _).mono ?_
  rintro e w' ⟨rfl, rfl⟩
  go_wp2_with fail
  refine (HR0.out _).mono ?_
  rintro e w' ⟨rfl, rfl⟩
  go_wp2_with fail
  go_loopw [4, 26] (fun v i wr => ∃ (k : Nat) (acc : List (List UInt8)), k ≤ n ∧ acc.length ≤ k + 1 ∧ i = .int .i64 k ∧ wr.ownsRow w.heap.size 9 1 v acc.length ((acc.map bs).map Value.string) ∧ Hid (Below w.heap.size w wr ∧ acc = r0 :: midP ((mid.take k).map bd)))
    (fun _ i _ => n - (intOf i).toNat)
  case atStart => exact ⟨0, [r0], Nat.zero_le _, by simp, rfl, by exact World.ownsRow_lit w #[.string (bs r0)] 1 (Nat.le_refl _) (by decide) rfl, (Below.refl _ _).alloc (Nat.le_refl _) _, by simp [midP]⟩
  case round =>
    obtain ⟨k, acc, hk, ha, rfl, hown, H⟩ := hrel
    have hBs := H.out.1.size
    by_cases hlt : k < n
    · have hl : k < mid.length := by have := HN.out; omega
      have hxk : (x0 :: (mid ++ [y]))[k + 1]? = some mid[k] := by
        rw [List.getElem?_cons_succ, List.getElem?_append_left hl]; exact List.getElem?_eq_getElem hl
      obtain ⟨b', o', hAe, hb', hc'⟩ := HL.out.at_ hxk
      cases hAe
      have c1 := hc' wr H.out.1
      rw [show o + (k + 1) = o + 1 + k by omega] at c1
      obtain ⟨u, hu⟩ := HM.out _ (List.getElem_mem hl)
      have hz := HXM.out _ (List.getElem_mem hl)
      have HU := Lib.hid (fun W => unslashed_bs u mid[k] W hu (by unfold maxLen; omega))
      have huz : (bs u).size ≤ maxLen := by rw [size_bs]; rw [Lib.size_eq, hu] at hz; simp at hz; unfold maxLen; omega
      have HT := Lib.hid (fun W => trim_any (bs u) W huz)
      have htd : (trimB (bs u)).data.toList = right (left u) := rfl
      have HF : Hid (midP ((mid.take (k + 1)).map bd) = midP ((mid.take k).map bd) ++ (if right (left u) = [] then [] else [right (left u)])) := by
        show _ = _
        rw [List.take_succ_eq_append_getElem hl, List.map_append, List.map_singleton, midP_snoc]
        unfold bd
        rw [hu, List.dropLast_concat]
      have HO := Lib.hid hown
      clear hc' hxk hu hz huz hown
      generalize mid[k] = x at *
      go_wp2_with fail
      refine (HU.out _).mono ?_
      rintro e w' ⟨rfl, rfl⟩
      go_wp2_with fail
      refine (HT.out _).mono ?_
      rintro e w' ⟨rfl, rfl⟩
      by_cases h0 : right (left u) = []
      · rw [h0] at htd
        obtain ⟨l1, l2⟩ := empty_list _ htd
        rw [if_pos h0] at HF
        have he : trimB (bs u) = ByteArray.empty := ext_data htd
        rw [he] at l1 l2 ⊢
        clear htd h0 he HT HU
        go_wp2
        go_roundw
        case rel => exact ⟨k + 1, acc, by omega, by omega, by go_num, HO.out, H.out.1, by rw [HF.out, List.append_nil]; exact H.out.2⟩
        case measure => simp [intOf]; omega
      · obtain ⟨l1, l2⟩ := some_list _ (by rw [htd]; exact h0)
        rw [if_neg h0] at HF
        have hT : trimB (bs u) = bs (right (left u)) := ext_data htd
        rw [hT] at l1 l2 ⊢
        clear htd h0 hT HT HU
        generalize right (left u) = q at *
        have hown := HO.out
        have HB := Lib.hid H.out.1
        go_wp2_with (at_builtin; refine wpList_append_own _ rfl _ _ 39 rfl w.heap.size 9 i0 (.string .empty) 1 16 Tryd.underlying39 hi hz0 hz1 hz2 rfl (by decide) _ _ _ rfl (hown.alloc _) ⟨wr.heap.size, 0, none⟩ 1 1 [.string (bs q)] rfl rfl (cell_one_new _ _ _) (by simp [Value.oneCell']) (by unfold maxLen; omega) (by omega) (by simp; omega) ?_; intro v' w2 hown' hgrow _; have HO2 := Lib.hid hown'; have HG := Lib.hid (below_append HB.out hBs hown hgrow); clear hown' hgrow)
        go_roundw
        case rel => exact ⟨k + 1, acc ++ [q], by omega, by simp; omega, by go_num, by simpa using HO2.out, HG.out, by rw [HF.out, H.out.2]; simp⟩
        case measure => simp [intOf]; omega
    · obtain rfl : k = n := by omega
      have HF : Hid (acc = r0 :: midB mid) := by
        show _ = _
        have := H.out.2
        rwa [List.take_of_length_le (by rw [HN.out]; exact Nat.le_refl _)] at this
      have hxk : (x0 :: (mid ++ [y]))[k + 1]? = some y := by
        rw [List.getElem?_cons_succ, List.getElem?_append_right (by rw [HN.out]; exact Nat.le_refl _), HN.out, Nat.sub_self]; rfl
      obtain ⟨b', o', hAe, hb', hc'⟩ := HL.out.at_ hxk
      cases hAe
      have c1 := hc' wr H.out.1
      have c1' := c1
      rw [← Nat.add_assoc] at c1'
      have HO := Lib.hid hown
      have HB := Lib.hid H.out.1
      have hyl : leftB y = bs (left (bd y)) := rfl
      rw [hyl] at HY
      obtain ⟨q, hq⟩ : ∃ q, q = left (bd y) := ⟨_, rfl⟩
      have HQ := Lib.hid hq
      rw [← hq] at HY HJ
      clear hc' hxk H hyl hq
      go_wp2_with fail
      refine (HY.out _).mono ?_
      rintro e w' ⟨rfl, rfl⟩
      have hown := HO.out
      go_wp2_with (at_builtin; refine wpList_append_own _ rfl _ _ 39 rfl w.heap.size 9 i0 (.string .empty) 1 16 Tryd.underlying39 hi hz0 hz1 hz2 rfl (by decide) _ _ _ rfl (hown.alloc _) ⟨wr.heap.size, 0, none⟩ 1 1 [.string (bs q)] rfl rfl (cell_one_new _ _ _) (by simp [Value.oneCell']) (by unfold maxLen; omega) (by omega) (by simp; omega) ?_; intro v' w2 hown' hgrow _; have HO2 := Lib.hid hown'; have HG := Lib.hid (below_append HB.out hBs hown hgrow); clear hown' hgrow)
      obtain ⟨A2, c2, rfl, hsl⟩ := slIs_of_own (xs := (acc ++ [q]).map bs) (n := acc.length + 1) (by simp) (by simpa using HO2.out)
      have hjo := joins_is 32 A2 (acc.length + 1) c2 (acc ++ [q]) w2 (by simp) hsl (by rw [HF.out]; exact HJ.out) (by omega)
      have HJo := Lib.hid hjo
      clear hsl hjo HO2
      refine HJo.out.mono ?_
      rintro e w3 ⟨rfl, hb3⟩
      have HB3 := Lib.hid (HG.out.trans (hb3.mono HG.out.size))
      clear hb3 HJo
      go_wp2
      go_ret
      exact ⟨Ends.ret_str (by rw [HF.out, HQ.out]; rfl), HB3.out⟩

/-- the text of a line that is no recipe's, with its remark: raws as the iterator hands them out -/
theorem plain_text (A : Option Addr) (n c : Nat) (xs : List ByteArray) (w : World) (hn : xs.length = n) (h0 : 0 < n) (h : SlIs w A c xs) (hm : n ≤ 1000000) (hx : ∀ x ∈ xs, x.size ≤ 1000000)
    (hodd : ∀ x ∈ xs.dropLast, ∃ u, x.data.toList = u ++ [92]) :
    Calls Tryd.prog 28 #[.slice A n c] w fun e W' => e = .returned (.string (bs (textR false (xs.map bd)))) ∧ Below w.heap.size w W' := by
  cases xs with
  | nil => exact absurd hn (by simp; omega)
  | cons x0 r =>
    rcases List.eq_nil_or_concat r with rfl | ⟨mid, y, rfl⟩
    · obtain rfl : n = 1 := by simpa using hn.symm
      exact plain_one A c x0 w h
    · rw [List.concat_eq_append] at *
      have hn2 : n = mid.length + 1 + 1 := by simpa using hn.symm
      subst hn2
      have hd : (x0 :: (mid ++ [y])).dropLast = x0 :: mid := by
        rw [← List.cons_append, List.dropLast_concat]
      rw [hd] at hodd
      have e : textR false ((x0 :: (mid ++ [y])).map bd) = Lib.join (right (bd x0).dropLast :: (midB mid ++ [left (bd y)])) [32] := by
        rw [List.map_cons, List.map_append, List.map_singleton]
        refine plain_is _ _ _ (fun t ht => ?_)
        obtain ⟨z, hz, rfl⟩ := List.mem_map.1 ht
        exact hodd z (by simp [hz])
      rw [e]
      refine plain_core A mid.length c x0 y mid w rfl h (by omega) (hodd x0 (by simp)) (fun t ht => hodd t (by simp [ht])) (hx x0 (by simp)) (fun t ht => hx t (by simp [ht])) (hx y (by simp)) ?_
      have hb := join_bound 1000000 [32] (right (bd x0).dropLast :: (midB mid ++ [left (bd y)])) (by
        intro z hz
        have hsz : ∀ x : ByteArray, x.size ≤ 1000000 → (bd x).length ≤ 1000000 := fun x hx => by rw [Lib.size_eq] at hx; exact hx
        rcases List.mem_cons.1 hz with rfl | hz
        · refine Nat.le_trans (right_length _) ?_
          have := hsz x0 (hx x0 (by simp))
          rw [List.length_dropLast]; omega
        · rcases List.mem_append.1 hz with hz | hz
          · obtain ⟨hz, _⟩ := List.mem_filter.1 hz
            obtain ⟨t, ht, rfl⟩ := List.mem_map.1 hz
            obtain ⟨x, hx1, rfl⟩ := List.mem_map.1 ht
            have := hsz x (hx x (by simp [hx1]))
            have h1 := right_length (left (bd x).dropLast)
            have h2 := left_length (bd x).dropLast
            rw [List.length_dropLast] at h2
            omega
          · have hz : z = left (bd y) := by simpa using hz
            subst hz
            exact Nat.le_trans (left_length _) (hsz y (hx y (by simp))))
      have hlen : (right (bd x0).dropLast :: (midB mid ++ [left (bd y)])).length ≤ 1000000 := by
        have := midP_len (mid.map bd)
        unfold midB
        simp at this ⊢
        omega
      have h3 : (right (bd x0).dropLast :: (midB mid ++ [left (bd y)])).length * (1000000 + [(32 : UInt8)].length) ≤ 1000000 * 1000001 := Nat.mul_le_mul hlen (Nat.le_refl _)
      omega

end Go.Proofs.YtcopddepnphfmaaDoor.Ltext
