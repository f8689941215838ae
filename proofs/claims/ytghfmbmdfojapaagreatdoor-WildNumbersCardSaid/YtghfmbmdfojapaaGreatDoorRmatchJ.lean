/- What the document's match answers: a table, row by row. -/
import Derived.Deep.OwnRows
import Derived.Deep.RegionHeld3
import Derived.Laws.OwnMore
import Derived.Test.YtghfmbmdfojapaaGreatDoorRpureJ
namespace Go.Proofs.YtghfmbmdfojapaaGreatDoor.Rmatch
open Go.RowKit Go.Proofs.YtghfmbmdfojapaaGreatDoor.Glb Go.Proofs.YtghfmbmdfojapaaGreatDoor.Gops Go.Proofs.YtghfmbmdfojapaaGreatDoor.Gread Go.Proofs.YtghfmbmdfojapaaGreatDoor.Gfit Go.Proofs.YtghfmbmdfojapaaGreatDoor.Rlaws Go.Proofs.YtghfmbmdfojapaaGreatDoor.Rfits Go.Proofs.YtghfmbmdfojapaaGreatDoor.Rset Go.Proofs.YtghfmbmdfojapaaGreatDoor.Rpure Go.Proofs.YtghfmbmdfojapaaGreatDoor.Rpieces

/-! ### what is asked of one piece -/
theorem rt_kind {cs : Array Value} {x : Pc} (h : RT cs x) : ∃ k : Int, cs[0]? = some (.int .i64 k) ∧ (k == 3) = x.star ∧ (k == 0) = !x.wild := by
  rcases h with ⟨b, p, rfl, h1, h2⟩ | ⟨b, p, rfl, rfl⟩ | ⟨b, rfl, h1, h2⟩ | ⟨c, p, rfl, rfl⟩
  · exact ⟨3, tC_kind _ _ _, by rw [h1]; rfl, by rw [h2]; rfl⟩
  · exact ⟨1, tC_kind _ _ _, rfl, rfl⟩
  · exact ⟨2, tC_kind _ _ _, by rw [h1]; rfl, by rw [h2]; rfl⟩
  · exact ⟨0, tC_kind _ _ _, rfl, rfl⟩
theorem rt_fits {cs : Array Value} {x : Pc} (h : RT cs x) (hx : x.star = false) (c : UInt8) (w : World) :
    Calls Tryz.prog 97 #[.agg cs, .int .u8 (c.toNat : Nat)] w fun e W' => e = .returned (.bool (x.has c.toNat)) ∧ Below w.heap.size w W' := by
  rcases h with ⟨b, p, rfl, h1, h2⟩ | ⟨b, p, rfl, rfl⟩ | ⟨b, rfl, h1, h2⟩ | ⟨d, p, rfl, rfl⟩
  · rw [h1] at hx; cases hx
  · exact fits_any b c p w
  · exact fits_tab b c x.has w
  · refine (fits_byte _ c p w).mono fun _ _ ⟨he, hb⟩ => ⟨he.trans (ret_bool ?_), hb⟩
    simp only [plus, none_, Bool.false_or]
    rw [Bool.eq_iff_iff, beq_iff_eq, Bool.and_eq_true, decide_eq_true_iff, decide_eq_true_iff]
    omega
theorem flatT_at : ∀ (css : List (Array Value)) (j k : Nat) (cs : Array Value) (v : Value), (∀ c ∈ css, c.size = 258) → css[j]? = some cs → cs.toList[k]? = some v → (flatT css)[j * 258 + k]? = some v := by
  intro css
  induction css with
  | nil => intro j k cs v _ h; simp at h
  | cons y css ih =>
    intro j k cs v hs h hv
    have hl : y.toList.length = 258 := by rw [Array.length_toList]; exact hs y (by simp)
    rw [flatT, List.flatMap_cons]
    cases j with
    | zero =>
      simp at h
      subst h
      have hk : k < 258 := by have := (List.getElem?_eq_some_iff.1 hv).1; omega
      rw [List.getElem?_append_left (by rw [hl]; omega), Nat.zero_mul, Nat.zero_add]
      exact hv
    | succ j =>
      rw [List.getElem?_append_right (by rw [hl]; omega), hl, show (j + 1) * 258 + k - 258 = j * 258 + k by omega]
      exact ih j k cs v (fun c hc => hs c (by simp [hc])) (by simpa using h) hv
/-- a list of the document's pieces -/
def SlT (w : World) (A : Option Addr) (m c : Nat) (css : List (Array Value)) : Prop :=
  css.length = m ∧ m ≤ c ∧ c ≤ 9223372036854775807 ∧ (m = 0 ∨ ∃ b o, A = some ⟨b, o, none⟩ ∧ b < w.heap.size ∧ ∀ (j : Nat) cs, css[j]? = some cs → w.rangeAt b (o + j * 258) cs.toList)
theorem slT_of {w : World} {B : Nat} {v : Value} {css : List (Array Value)} (h : w.ownsRow B 91 258 v css.length (flatT css)) (hs : ∀ c ∈ css, c.size = 258) : ∃ A c, v = .slice A css.length c ∧ SlT w A css.length c css := by
  rcases h.2 with ⟨h0, h1⟩ | ⟨g, cap, cur, hv, hb, hg, hn, hm, hc, ht⟩
  · exact ⟨none, 0, by rw [h0, h1], rfl, by omega, by omega, .inl h1⟩
  · refine ⟨some ⟨g, 0, none⟩, cap, hv, rfl, hn, by unfold maxLen at hm; omega, .inr ⟨g, 0, rfl, (Array.getElem?_eq_some_iff.1 hg).1, fun j cs hx k u hu => ?_⟩⟩
    have h1 := flatT_at css j k cs u hs hx hu
    have h2 := h.cells (g := g) (by rw [hv]; rfl) _ _ h1
    rw [Addr.add_mid] at h2
    rw [show 0 + j * 258 + k = 0 + (j * 258 + k) by omega]
    exact h2
theorem range_on {w W : World} {b o : Nat} {cs : List Value} (h : w.rangeAt b o cs) (hb : Below w.heap.size w W) (hl : b < w.heap.size) : W.rangeAt b o cs := fun j v hv => (hb.cell (p := ⟨b, o + j, none⟩) hl).trans (h j v hv)
theorem range_in {w W : World} {b o : Nat} {cs : List Value} (h : w.rangeAt b o cs) (hb : Below w.heap.size w W) : W.rangeAt b o cs := fun j v hv => cell_on hb (h j v hv)
theorem range_drew {w : World} {b o : Nat} {cs : List Value} (h : w.rangeAt b o cs) : w.drew.rangeAt b o cs := h

/-! ### rows of truths -/
def bC (N : Nat) (f : Nat → Bool) : Array Value := ((List.range N).map fun i => Value.bool (f i)).toArray
theorem bC_at (N : Nat) (f : Nat → Bool) (j : Nat) (h : j < N) : (bC N f)[j]? = some (.bool (f j)) := by
  unfold bC
  rw [List.getElem?_toArray, List.getElem?_map, List.getElem?_range h]; rfl
theorem bC_size (N : Nat) (f : Nat → Bool) : (bC N f).size = N := by simp [bC]
theorem bC_made (N : Nat) : madeCells #[.bool false] N = bC N (fun _ => false) := by
  have : (madeCells #[.bool false] N).toList = (bC N (fun _ => false)).toList := by
    rw [toList_madeCells_one, bC]
    simp only
    rw [List.map_const', List.length_range]
  exact Array.toList_inj.1 this
theorem bC_set (N : Nat) (f : Nat → Bool) (c : Nat) (v : Bool) : (bC N f).setIfInBounds c (.bool v) = bC N (fun x => if x = c then v else f x) := by
  apply Array.ext_getElem?
  intro n
  rw [Array.getElem?_setIfInBounds, bC_size]
  by_cases hN : n < N
  · rw [bC_at N _ n hN, bC_at N _ n hN]
    by_cases hn : c = n
    · subst hn; rw [if_pos rfl, if_pos hN, if_pos rfl]
    · rw [if_neg hn, if_neg (fun e => hn e.symm)]
  · rw [Array.getElem?_eq_none (xs := bC N f) (by rw [bC_size]; omega), Array.getElem?_eq_none (by rw [bC_size]; omega)]
    split
    · rw [if_neg (by omega)]
    · rfl
def BR (r N : Nat) (f : Nat → Bool) (w : World) : Prop := w.heap[r]? = some (.cells (bC N f) 4 (0, 0))
theorem BR.at_ {r N : Nat} {f : Nat → Bool} {w : World} (h : BR r N f w) (j : Nat) (hj : j < N) : w.cell? ⟨r, j, none⟩ = some (.bool (f j)) := by
  rw [cell_of_row _ _ _ _ _ _ h]; exact bC_at N f j hj
theorem BR.open_ {r N : Nat} {f : Nat → Bool} {w : World} (h : BR r N f w) (j : Nat) : w.frozen? ⟨r, j, none⟩ = false := frozen_of_row _ _ _ _ _ h
theorem BR.lt {r N : Nat} {f : Nat → Bool} {w : World} (h : BR r N f w) : r < w.heap.size := (Array.getElem?_eq_some_iff.1 h).1
theorem BR.on {r N : Nat} {f : Nat → Bool} {w w1 : World} (h : BR r N f w) (hb : Below w.heap.size w w1) : BR r N f w1 := (hb.block r h.lt).trans h
theorem BR.put {r N : Nat} {f : Nat → Bool} {w : World} (h : BR r N f w) (c : Nat) (v : Bool) : BR r N (fun x => if x = c then v else f x) (w.setCell ⟨r, c, none⟩ (.bool v)) := by
  unfold BR at h ⊢; rw [heap_setCell_same _ _ _ _ _ _ h, bC_set]
theorem BR.other {r N : Nat} {f : Nat → Bool} {w : World} (h : BR r N f w) {a : Addr} (ha : r ≠ a.block) (v : Value) : BR r N f (w.setCell a v) := (heap_setCell_other _ _ _ _ ha).trans h
/-- which row is at hand -/
def At (B r N : Nat) (w : World) : Prop := w.heap[B]? = some (.cells #[.slice (some ⟨r, 0, none⟩) N N, .slice none 0 0] 156 (0, 0))
theorem At.cell {B r N : Nat} {w : World} (h : At B r N w) : w.cell? ⟨B, 0, none⟩ = some (.slice (some ⟨r, 0, none⟩) N N) := by rw [cell_of_row _ _ _ _ _ _ h]; rfl
theorem At.open_ {B r N : Nat} {w : World} (h : At B r N w) : w.frozen? ⟨B, 0, none⟩ = false := frozen_of_row _ _ _ _ _ h
theorem At.lt {B r N : Nat} {w : World} (h : At B r N w) : B < w.heap.size := (Array.getElem?_eq_some_iff.1 h).1
theorem At.on {B r N : Nat} {w w1 : World} (h : At B r N w) (hb : Below w.heap.size w w1) : At B r N w1 := (hb.block B h.lt).trans h
theorem At.put {B r N : Nat} {w : World} (h : At B r N w) (q : Nat) : At B q N (w.setCell ⟨B, 0, none⟩ (.slice (some ⟨q, 0, none⟩) N N)) := by
  unfold At at h ⊢; rw [heap_setCell_same _ _ _ _ _ _ h]; rfl
theorem At.other {B r N : Nat} {w : World} (h : At B r N w) {a : Addr} (ha : B ≠ a.block) (v : Value) : At B r N (w.setCell a v) := (heap_setCell_other _ _ _ _ ha).trans h
theorem infoBool : (Tryz.prog.info? 4).map (fun i => (i.zero, i.size, i.bytes)) = some (some (.bool false), 1, 1) := by kernel_rfl

/-! ### one row out of another -/
def upto (f : Nat → Bool) (k : Nat) : Bool := (List.range k).any f
theorem upto_succ (f : Nat → Bool) (k : Nat) : upto f (k + 1) = (upto f k || f k) := by simp [upto, List.range_succ]
theorem upto_iff (f : Nat → Bool) (k : Nat) : upto f k = true ↔ ∃ j, j < k ∧ f j = true := by simp [upto]
def row (qs : List Pc) (s : List UInt8) (i k : Nat) : Bool := fitL (qs.take i) (s.take k)
theorem take_snoc {qs : List Pc} {i : Nat} {x : Pc} (h : qs[i]? = some x) : qs.take (i + 1) = qs.take i ++ [x] := by
  obtain ⟨hi, e⟩ := List.getElem?_eq_some_iff.1 h
  rw [List.take_succ_eq_append_getElem hi, e]
theorem row_star {qs : List Pc} {s : List UInt8} {i : Nat} {x : Pc} (h : qs[i]? = some x) (hx : x.star = true) (k : Nat) (hk : k ≤ s.length) : row qs s (i + 1) k = upto (row qs s i) (k + 1) := by
  rw [row, take_snoc h, Bool.eq_iff_iff, fit_snoc_star _ _ _ hx, upto_iff]
  constructor
  · rintro ⟨j, hj, hf⟩
    rw [List.length_take] at hj
    refine ⟨j, by omega, ?_⟩
    rw [List.take_take, Nat.min_eq_left (by omega)] at hf
    exact hf
  · rintro ⟨j, hj, hf⟩
    refine ⟨j, by rw [List.length_take]; omega, ?_⟩
    rw [List.take_take, Nat.min_eq_left (by omega)]
    exact hf
theorem row_zero {qs : List Pc} {s : List UInt8} {i : Nat} {x : Pc} (h : qs[i]? = some x) (hx : x.star = false) : row qs s (i + 1) 0 = false := by
  rw [row, take_snoc h, List.take_zero]; exact fit_snoc_nil _ _ hx
theorem row_one {qs : List Pc} {s : List UInt8} {i k : Nat} {x : Pc} {c : UInt8} (h : qs[i]? = some x) (hx : x.star = false) (hc : s[k]? = some c) : row qs s (i + 1) (k + 1) = (row qs s i k && x.has c.toNat) := by
  obtain ⟨hk, e⟩ := List.getElem?_eq_some_iff.1 hc
  rw [row, take_snoc h, List.take_succ_eq_append_getElem hk, e, fit_snoc_one _ _ _ _ hx]
  rfl
theorem row_start (qs : List Pc) (s : List UInt8) (k : Nat) (hk : k ≤ s.length) : row qs s 0 k = (k == 0) := by
  rw [row, List.take_zero]
  cases k with
  | zero => rfl
  | succ k =>
    cases s with
    | nil => simp at hk
    | cons c s => rfl
theorem row_end (qs : List Pc) (s : List UInt8) : row qs s qs.length s.length = fitL qs s := by rw [row, List.take_length, List.take_length]

theorem keepM {W w1 : World} {B r k b o : Nat} {cl : List Value} {v1 v2 : Value} (hb : Below W.heap.size W w1) (h : W.cell? ⟨B, 0, none⟩ = some v1 ∧ W.cell? ⟨r, k, none⟩ = some v2 ∧ W.rangeAt b o cl) :
    w1.cell? ⟨B, 0, none⟩ = some v1 ∧ w1.cell? ⟨r, k, none⟩ = some v2 ∧ w1.rangeAt b o cl := ⟨cell_on hb h.1, cell_on hb h.2.1, range_in h.2.2 hb⟩
theorem keepS {W : World} {B r k b o r2 j : Nat} {cl : List Value} {v1 v2 v : Value} (h : W.cell? ⟨B, 0, none⟩ = some v1 ∧ W.cell? ⟨r, k, none⟩ = some v2 ∧ W.rangeAt b o cl) (n1 : ¬ B = r2) (n2 : ¬ r = r2) (n3 : ¬ b = r2) :
    (W.setCell ⟨r2, j, none⟩ v).cell? ⟨B, 0, none⟩ = some v1 ∧ (W.setCell ⟨r2, j, none⟩ v).cell? ⟨r, k, none⟩ = some v2 ∧ (W.setCell ⟨r2, j, none⟩ v).rangeAt b o cl := by
  have key : ∀ g p, g ≠ r2 → (W.setCell ⟨r2, j, none⟩ v).cell? ⟨g, p, none⟩ = W.cell? ⟨g, p, none⟩ := fun g p hg => World.cell?_of_block (heap_setCell_other _ _ _ _ hg)
  exact ⟨(key _ _ n1).trans h.1, (key _ _ n2).trans h.2.1, fun i u hu => (key _ _ n3).trans (h.2.2 i u hu)⟩
theorem bcell {W w1 : World} (hb : Below W.heap.size W w1) : (∀ b o, b < W.heap.size → w1.cell? ⟨b, o, none⟩ = W.cell? ⟨b, o, none⟩) ∧ (∀ b o, b < W.heap.size → w1.frozen? ⟨b, o, none⟩ = W.frozen? ⟨b, o, none⟩) :=
  ⟨fun b o h => hb.cell (p := ⟨b, o, none⟩) h, fun b o h => hb.frozen (p := ⟨b, o, none⟩) h⟩
theorem at_drew {B r N : Nat} {w : World} (h : At B r N w) : At B r N w.drew := h
theorem br_drew {r N : Nat} {f : Nat → Bool} {w : World} (h : BR r N f w) : BR r N f w.drew := h

set_option maxRecDepth 100000 in
set_option maxHeartbeats 4000000 in
/-- the document's match -/
theorem match_is (A : Option Addr) (m c : Nat) (css : List (Array Value)) (qs : List Pc) (s : ByteArray) (w : World) (hl : SlT w A m c css) (hr : Rows2 css qs) (hm : m ≤ 1000000) (hs : s.size ≤ 1000000) :
    Calls Tryz.prog 71 #[.slice A m c, .string s] w fun e W' => e = .returned (.bool (fitL qs s.data.toList)) ∧ Below w.heap.size w W' := by
  obtain ⟨hlm, hmc, hc63, hlc⟩ := hl
  have hqm : qs.length = m := by rw [← hr.len]; exact hlm
  have hmk := fun W => run_make_row' (P := Tryz.prog) 155 4 (.bool false) 1 Tryz.underlying155 infoBool rfl .i64 .i64 (s.size + 1) (by omega) (by omega) W
  have ec : ((s.size + 1 : Nat) : Int) = (s.size : Int) + 1 := by omega
  rw [ec, bC_made] at hmk
  clear ec
  go_enter Tryz.func71, Tryz.ntmps71
  go_upto_region 3 with fail
  obtain ⟨wa, hwa⟩ : ∃ x, x = (w.alloc (.cells #[.slice (some ⟨w.heap.size + 1, 0, none⟩) (s.size + 1) (s.size + 1), .slice none 0 0] 156)).alloc (.cells (bC (s.size + 1) fun _ => false) 4) := ⟨_, rfl⟩
  rw [← hwa]
  have A1 : At w.heap.size (w.heap.size + 1) (s.size + 1) wa := by rw [hwa]; exact heap_alloc2_old _ _ _
  have R1 : BR (w.heap.size + 1) (s.size + 1) (fun _ => false) wa := by rw [hwa]; exact heap_alloc2_new _ _ _
  have BA : Below w.heap.size w wa := by rw [hwa]; exact ((Below.refl _ _).alloc (Nat.le_refl _) _).alloc (by simp) _
  clear hwa
  have d0 := A1.cell
  have d1 := R1.at_ 0 (by omega)
  have d2 := R1.open_ 0
  have HA1 := Lib.hid A1
  have HR1 := Lib.hid R1
  have HBA := Lib.hid BA
  clear A1 R1 BA
  go_wp2_with fail
  go_loopg [6] (m + 1) (fun g s6 wx => ∃ (i r : Nat) (f : Nat → Bool), s6 = .int .i64 i ∧ i ≤ m ∧ m - i < g ∧ w.heap.size < r ∧ Hid (At w.heap.size r (s.size + 1) wx ∧ BR r (s.size + 1) f wx ∧ Below w.heap.size w wx ∧ ∀ k, k ≤ s.size → f k = row qs s.data.toList i k))
  case atStart =>
    refine ⟨0, w.heap.size + 1, _, rfl, Nat.zero_le _, by omega, by omega, ⟨HA1.out.other (by simp) _, HR1.out.put 0 true, HBA.out.setCell (p := ⟨w.heap.size + 1, 0, none⟩) (by simp) _, fun k hk => ?_⟩⟩
    rw [row_start _ _ _ (by rw [len_data]; exact hk)]
    by_cases h0 : k = 0
    · subst h0; rfl
    · rw [if_neg h0, beq_eq_false_iff_ne.2 h0]
  case round =>
    obtain ⟨i, r, f, rfl, hi, hg, hrB, H⟩ := hrel
    obtain ⟨g, rfl⟩ : ∃ g, gk = g + 1 := ⟨gk - 1, by omega⟩
    clear d0 d1 d2 HA1 HR1 HBA
    by_cases hlt : i < m
    · obtain ⟨x, hx⟩ : ∃ x, qs[i]? = some x := ⟨_, List.getElem?_eq_getElem (by omega)⟩
      obtain ⟨cs, hcs⟩ : ∃ x, css[i]? = some x := ⟨_, List.getElem?_eq_getElem (by omega)⟩
      have hrt := hr.each i cs x hcs hx
      rcases hlc with h0 | ⟨b, o, rfl, hbw, hcells⟩
      · omega
      have hrange := hcells i cs hcs
      have HCE := Lib.hid hcells
      have HX := Lib.hid hx
      have HCS := Lib.hid hcs
      clear hcells hx hcs
      obtain ⟨kd, hk0, hk3, _⟩ := rt_kind hrt
      have hkc : w.cell? ⟨b, o + i * 258, none⟩ = some (.int .i64 kd) := by have := hrange 0 (.int .i64 kd) (by simpa using hk0); simpa using this
      have hNs : (s.size + 1 : Nat) ≤ 1000001 := by omega
      go_upto_region 8 with fail
      obtain ⟨wb, hwb⟩ : ∃ x, x = wr.alloc (.cells (bC (s.size + 1) fun _ => false) 4) := ⟨_, rfl⟩
      rw [← hwb]
      have hbb : Below wr.heap.size wr wb := by rw [hwb]; exact (Below.refl _ _).alloc (Nat.le_refl _) _
      have A1 := Lib.hid (H.out.1.on hbb)
      have R1 := Lib.hid (H.out.2.1.on hbb)
      have R2 : Hid (BR wr.heap.size (s.size + 1) (fun _ => false) wb) := by rw [hwb]; exact heap_alloc_new _ _
      have BB := Lib.hid (H.out.2.2.1.trans (hbb.mono H.out.2.2.1.size))
      have hr2 : r < wr.heap.size := H.out.2.1.lt
      have HF := Lib.hid H.out.2.2.2
      clear hwb hbb H
      generalize wr.heap.size = r2 at R2 hr2
      go_wp2_with fail
      go_loopg [8, 9] (s.size + 2) (fun g2 s8 s9 wy => ∃ (k : Nat) (any : Bool) (ff : Nat → Bool), s8 = .bool any ∧ s9 = .int .i64 k ∧ k ≤ s.size + 1 ∧ s.size + 1 - k < g2 ∧ Hid (At w.heap.size r (s.size + 1) wy ∧ BR r (s.size + 1) f wy ∧ BR r2 (s.size + 1) ff wy ∧ Below w.heap.size w wy ∧ (∀ j, j < k → ff j = row qs s.data.toList (i + 1) j) ∧ (∀ j, k ≤ j → ff j = false) ∧ (x.star = true → any = upto f k)))
      case atStart => exact ⟨0, false, fun _ => false, rfl, rfl, Nat.zero_le _, by omega, ⟨A1.out, R1.out, R2.out, BB.out, fun j hj => absurd hj (Nat.not_lt_zero _), fun _ _ => rfl, fun _ => rfl⟩⟩
      case round =>
        clear A1 R1 R2 BB
        obtain ⟨k, any, ff, rfl, rfl, hk, hg2, HI⟩ := hrel
        obtain ⟨g2, rfl⟩ : ∃ g, gk = g + 1 := ⟨gk - 1, by omega⟩
        have n1 : ¬ w.heap.size = r := by omega
        have n2 : ¬ w.heap.size = r2 := by omega
        have n3 : ¬ r = r2 := by omega
        have n4 : ¬ r2 = r := by omega
        have n5 : ¬ r2 = w.heap.size := by omega
        by_cases hkl : k ≤ s.size
        · have k0 : wr.cell? ⟨b, o + i * 258, none⟩ = some (.int .i64 kd) := (HI.out.2.2.2.1.cell (p := ⟨b, o + i * 258, none⟩) hbw).trans hkc
          have a0 := HI.out.1.cell
          have b0 := HI.out.2.1.at_ k (by omega)
          have b1 := HI.out.2.2.1.at_ k (by omega)
          have b2 := HI.out.2.2.1.open_ k
          cases hst : x.star with
          | true =>
            rw [hst] at hk3
            obtain rfl : kd = 3 := by simpa using hk3
            have HS := Lib.hid (row_star (s := s.data.toList) HX.out hst k (by rw [len_data]; exact hkl))
            have HAny : Hid (any = upto f k) := HI.out.2.2.2.2.2.2 hst
            have HF2 : Hid ((any || f k) = row qs s.data.toList (i + 1) k) := by
              show _ = _
              rw [HS.out, HAny.out, ← upto_succ]
              unfold upto
              rw [Bool.eq_iff_iff, List.any_eq_true, List.any_eq_true]
              constructor
              · rintro ⟨j, hj, hf⟩
                exact ⟨j, hj, by rw [← HF.out j (by have := List.mem_range.1 hj; omega)]; exact hf⟩
              · rintro ⟨j, hj, hf⟩
                exact ⟨j, hj, by rw [HF.out j (by have := List.mem_range.1 hj; omega)]; exact hf⟩
            have HU : Hid ((any || f k) = upto f (k + 1)) := by show _ = _; rw [upto_succ, ← HAny.out]
            clear hk3 hst
            cases any with
            | true =>
              go_wp2_with fail
              go_roundg g2
              case measure => omega
              case rel =>
                obtain ⟨q1, q2, q3, q4, q5, q6, q7⟩ := HI.out
                refine ⟨k + 1, true, _, rfl, by go_num, by omega, by omega, ⟨At.other q1 n2 _, BR.other q2 n3 _, BR.put q3 k true, q4.setCell (p := ⟨r2, k, none⟩) (by simp; omega) _, fun j hj => ?_, fun j hj => ?_, fun _ => HU.out⟩⟩
                · by_cases hjk : j = k
                  · subst hjk; rw [if_pos rfl]; exact HF2.out
                  · rw [if_neg hjk]; exact q5 j (by omega)
                · rw [if_neg (by omega)]; exact q6 j (by omega)
            | false =>
              go_wp2_with fail
              go_roundg g2
              case measure => omega
              case rel =>
                obtain ⟨q1, q2, q3, q4, q5, q6, q7⟩ := HI.out
                refine ⟨k + 1, f k, _, rfl, by go_num, by omega, by omega, ⟨At.other q1 n2 _, BR.other q2 n3 _, BR.put q3 k (f k), q4.setCell (p := ⟨r2, k, none⟩) (by simp; omega) _, fun j hj => ?_, fun j hj => ?_, fun _ => HU.out⟩⟩
                · by_cases hjk : j = k
                  · subst hjk; rw [if_pos rfl]; exact HF2.out
                  · rw [if_neg hjk]; exact q5 j (by omega)
                · rw [if_neg (by omega)]; exact q6 j (by omega)
          | false =>
            rw [hst] at hk3
            by_cases hk0 : k = 0
            · subst hk0
              have HZ := Lib.hid (row_zero (s := s.data.toList) HX.out hst)
              go_wp2_with fail
              go_roundg g2
              case measure => omega
              case rel =>
                obtain ⟨q1, q2, q3, q4, q5, q6, q7⟩ := HI.out
                refine ⟨1, any, ff, rfl, by go_num, by omega, by omega, ⟨q1, q2, q3, q4, fun j hj => ?_, fun j hj => q6 j (Nat.zero_le _), fun h => by rw [h] at hst; cases hst⟩⟩
                obtain rfl : j = 0 := by omega
                rw [q6 0 (Nat.le_refl _), HZ.out]
            · obtain ⟨k', rfl⟩ : ∃ k', k = k' + 1 := ⟨k - 1, by omega⟩
              have b3 := HI.out.2.1.at_ k' (by omega)
              have i1 : (0 : Int) ≤ (k' : Int) := Int.natCast_nonneg _
              have i2 : (k' : Int) < (s.size : Int) + 1 := by omega
              have i3 : (0 : Int) ≤ (k' : Int) + 1 := by omega
              have i4 : (k' : Int) + 1 < (s.size : Int) + 1 := by omega
              have i5 : (0 : Int) ≤ (i : Int) := Int.natCast_nonneg _
              have i6 : (i : Int) < (m : Int) := by omega
              have i7 : (k' : Int) < (s.size : Int) := by omega
              have w1 : IntKind.i64.wrap ((k' : Int) + 1 - 1) = (k' : Int) := by rw [show ((k' : Int) + 1 - 1) = (k' : Int) by omega]; exact IntWalk.i64_in _ (by omega)
              have w2 : IntKind.i64.wrap (k' : Int) = (k' : Int) := IntWalk.i64_in _ (by omega)
              have i8 : k' < s.size + 1 := by omega
              have i9 : k' + 1 < s.size + 1 := by omega
              have HC := Lib.hid (byte_at s k' (by omega))
              have HO := Lib.hid (row_one (s := s.data.toList) HX.out hst HC.out)
              cases hfk : f k' with
              | false =>
                rw [hfk] at b3
                go_upto_region 16 with fail
                go_region
                go_wp2_with fail
                go_roundg g2
                case measure => omega
                case rel =>
                  obtain ⟨q1, q2, q3, q4, q5, q6, q7⟩ := HI.out
                  refine ⟨k' + 1 + 1, any, _, rfl, by go_num, by omega, by omega, ⟨at_drew (At.other q1 n2 _), br_drew (BR.other q2 n3 _), br_drew (BR.put q3 (k' + 1) false), below_drewN (q4.setCell (p := ⟨r2, k' + 1, none⟩) (by simp; omega) _) 1, fun j hj => ?_, fun j hj => ?_, fun h => by rw [h] at hst; cases hst⟩⟩
                  · by_cases hjk : j = k' + 1
                    · subst hjk; rw [if_pos rfl, HO.out, ← HF.out k' (by omega), hfk]; rfl
                    · rw [if_neg hjk]; exact q5 j (by omega)
                  · rw [if_neg (by omega)]; exact q6 j (by omega)
              | true =>
                rw [hfk] at b3
                obtain ⟨cl, hcl⟩ : ∃ cl : List Value, cs = cl.toArray := ⟨cs.toList, by simp⟩
                subst hcl
                have hrg : wr.rangeAt b (o + i * 258) cl := range_on (by simpa using hrange) HI.out.2.2.2.1 hbw
                have hsz : (Tryz.prog.info? 91).map (·.size) = some cl.length := by
                  have := hrt.size
                  rw [List.size_toArray] at this
                  rw [this]; exact sizeT
                have hun := Tryz.underlying91
                have HFit := Lib.hid (fun W => rt_fits hrt hst s[k'] W)
                have n6 : ¬ b = r2 := by omega
                have hr2w : r2 < wr.heap.size := HI.out.2.2.1.lt
                have hks : k' < s.size := by omega
                go_upto_region 16 with fail
                refine wp_region_noPanic ?_
                refine wp_region_held_drew (S := fun w' => w'.cell? ⟨w.heap.size, 0, none⟩ = some (.slice (some ⟨r, 0, none⟩) (s.size + 1) (s.size + 1)) ∧ w'.cell? ⟨r, k', none⟩ = some (.bool true) ∧ w'.rangeAt b (o + i * 258) cl) (by kernel_rfl) ⟨a0, b3, hrg⟩ (fun hHeld => ?_)
                refine wpAnyH_take (i := 0) (oi := { dst := some 54, op := Op.move (Operand.tmp 7), type := 155, pos := "ref.go:97", after := #[], guard := none }) (v := ?v0) rfl (by kernel_rfl) (by kernel_rfl) (by kernel_rfl) (fun _ _ _ h => h) (Or.inl ⟨by rfl, ?hy0⟩) (by assumption) ?rest0
                case hy0 => (intro ww hSw; (try dsimp only at hSw); go_simp; try with_reducible rfl)
                simp only [Act.put, List.setIfInBounds_toArray, List.set_cons_zero, List.set_cons_succ]
                refine wpAnyH_take (i := 1) (oi := { dst := some 55, op := Op.move (Operand.tmp 9), type := 3, pos := "ref.go:97", after := #[], guard := none }) (v := ?v1) rfl (by kernel_rfl) (by kernel_rfl) (by kernel_rfl) (fun _ _ _ h => h) (Or.inl ⟨by rfl, ?hy1⟩) (by assumption) ?rest1
                case hy1 => (intro ww hSw; (try dsimp only at hSw); go_simp; try with_reducible rfl)
                simp only [Act.put, List.setIfInBounds_toArray, List.set_cons_zero, List.set_cons_succ]
                refine wpAnyH_take (i := 2) (oi := { dst := some 56, op := Op.indexAddr 156 (Operand.tmp 5) (Operand.const (Value.int IntKind.i64 0)), type := 0, pos := "ref.go:97", after := #[], guard := none }) (v := ?v2) rfl (by kernel_rfl) (by kernel_rfl) (by kernel_rfl) (fun _ _ _ h => h) (Or.inl ⟨by rfl, ?hy2⟩) (by assumption) ?rest2
                case hy2 => (intro ww hSw; (try dsimp only at hSw); go_simp; try with_reducible rfl)
                simp only [Act.put, List.setIfInBounds_toArray, List.set_cons_zero, List.set_cons_succ]
                refine wpAnyH_take (i := 3) (oi := { dst := some 57, op := Op.load 155 (Operand.tmp 56), type := 155, pos := "ref.go:97", after := #[{ on := 2, ground := Ground.data }], guard := none }) (v := ?v3) rfl (by kernel_rfl) (by kernel_rfl) (by kernel_rfl) (fun _ _ _ h => h) (Or.inl ⟨by rfl, ?hy3⟩) (by assumption) ?rest3
                case hy3 => (intro ww hSw; (try dsimp only at hSw); go_simp; try with_reducible rfl)
                simp only [Act.put, List.setIfInBounds_toArray, List.set_cons_zero, List.set_cons_succ]
                refine wpAnyH_take (i := 4) (oi := { dst := some 58, op := Op.move (Operand.tmp 9), type := 3, pos := "ref.go:97", after := #[], guard := none }) (v := ?v4) rfl (by kernel_rfl) (by kernel_rfl) (by kernel_rfl) (fun _ _ _ h => h) (Or.inl ⟨by rfl, ?hy4⟩) (by assumption) ?rest4
                case hy4 => (intro ww hSw; (try dsimp only at hSw); go_simp; try with_reducible rfl)
                simp only [Act.put, List.setIfInBounds_toArray, List.set_cons_zero, List.set_cons_succ]
                refine wpAnyH_take (i := 5) (oi := { dst := some 59, op := Op.binOp BinOp.sub 3 (Operand.tmp 58) (Operand.const (Value.int IntKind.i64 1)) 3, type := 3, pos := "ref.go:97", after := #[{ on := 4, ground := Ground.data }], guard := none }) (v := ?v5) rfl (by kernel_rfl) (by kernel_rfl) (by kernel_rfl) (fun _ _ _ h => h) (Or.inl ⟨by rfl, ?hy5⟩) (by assumption) ?rest5
                case hy5 => (intro ww hSw; (try dsimp only at hSw); go_simp; try with_reducible rfl)
                simp only [Act.put, List.setIfInBounds_toArray, List.set_cons_zero, List.set_cons_succ]
                refine wpAnyH_take (i := 6) (oi := { dst := some 60, op := Op.indexAddr 155 (Operand.tmp 57) (Operand.tmp 59), type := 0, pos := "ref.go:97", after := #[{ on := 3, ground := Ground.data }, { on := 5, ground := Ground.data }], guard := none }) (v := ?v6) rfl (by kernel_rfl) (by kernel_rfl) (by kernel_rfl) (fun _ _ _ h => h) (Or.inl ⟨by rfl, ?hy6⟩) (by assumption) ?rest6
                case hy6 => (intro ww hSw; (try dsimp only at hSw); go_simp; try with_reducible rfl)
                simp only [Act.put, List.setIfInBounds_toArray, List.set_cons_zero, List.set_cons_succ]
                refine wpAnyH_take (i := 7) (oi := { dst := some 61, op := Op.load 4 (Operand.tmp 60), type := 4, pos := "ref.go:97", after := #[{ on := 6, ground := Ground.data }], guard := none }) (v := ?v7) rfl (by kernel_rfl) (by kernel_rfl) (by kernel_rfl) (fun _ _ _ h => h) (Or.inl ⟨by rfl, ?hy7⟩) (by assumption) ?rest7
                case hy7 => (intro ww hSw; (try dsimp only at hSw); go_simp; try with_reducible rfl)
                simp only [Act.put, List.setIfInBounds_toArray, List.set_cons_zero, List.set_cons_succ]
                refine wpAnyH_take (i := 8) (oi := { dst := some 62, op := Op.move (Operand.tmp 61), type := 4, pos := "ref.go:97", after := #[{ on := 7, ground := Ground.data }], guard := none }) (v := ?v8) rfl (by kernel_rfl) (by kernel_rfl) (by kernel_rfl) (fun _ _ _ h => h) (Or.inl ⟨by rfl, ?hy8⟩) (by assumption) ?rest8
                case hy8 => (intro ww hSw; (try dsimp only at hSw); go_simp; try with_reducible rfl)
                simp only [Act.put, List.setIfInBounds_toArray, List.set_cons_zero, List.set_cons_succ]
                refine wpAnyH_take (i := 9) (oi := { dst := some 63, op := Op.move (Operand.tmp 0), type := 87, pos := "ref.go:97", after := #[{ on := 8, ground := Ground.guard }], guard := some (8, true) }) (v := ?v9) rfl (by kernel_rfl) (by kernel_rfl) (by kernel_rfl) (fun _ _ _ h => h) (Or.inl ⟨by rfl, ?hy9⟩) (by assumption) ?rest9
                case hy9 => (intro ww hSw; (try dsimp only at hSw); go_simp; try with_reducible rfl)
                simp only [Act.put, List.setIfInBounds_toArray, List.set_cons_zero, List.set_cons_succ]
                refine wpAnyH_take (i := 10) (oi := { dst := some 64, op := Op.move (Operand.tmp 6), type := 3, pos := "ref.go:97", after := #[{ on := 8, ground := Ground.guard }], guard := some (8, true) }) (v := ?v10) rfl (by kernel_rfl) (by kernel_rfl) (by kernel_rfl) (fun _ _ _ h => h) (Or.inl ⟨by rfl, ?hy10⟩) (by assumption) ?rest10
                case hy10 => (intro ww hSw; (try dsimp only at hSw); go_simp; try with_reducible rfl)
                simp only [Act.put, List.setIfInBounds_toArray, List.set_cons_zero, List.set_cons_succ]
                refine wpAnyH_take (i := 11) (oi := { dst := some 65, op := Op.indexAddr 87 (Operand.tmp 63) (Operand.tmp 64), type := 0, pos := "ref.go:97", after := #[{ on := 9, ground := Ground.data }, { on := 10, ground := Ground.data }, { on := 8, ground := Ground.guard }], guard := some (8, true) }) (v := ?v11) rfl (by kernel_rfl) (by kernel_rfl) (by kernel_rfl) (fun _ _ _ h => h) (Or.inl ⟨by rfl, ?hy11⟩) (by assumption) ?rest11
                case hy11 => (intro ww hSw; (try dsimp only at hSw); go_simp; try with_reducible rfl)
                simp only [Act.put, List.setIfInBounds_toArray, List.set_cons_zero, List.set_cons_succ]
                refine wpAnyH_take (i := 13) (oi := { dst := some 67, op := Op.move (Operand.tmp 1), type := 9, pos := "ref.go:97", after := #[{ on := 8, ground := Ground.guard }], guard := some (8, true) }) (v := ?v13) rfl (by kernel_rfl) (by kernel_rfl) (by kernel_rfl) (fun _ _ _ h => h) (Or.inl ⟨by rfl, ?hy13⟩) (by assumption) ?rest13
                case hy13 => (intro ww hSw; (try dsimp only at hSw); go_simp; try with_reducible rfl)
                simp only [Act.put, List.setIfInBounds_toArray, List.set_cons_zero, List.set_cons_succ]
                refine wpAnyH_take (i := 14) (oi := { dst := some 68, op := Op.move (Operand.tmp 9), type := 3, pos := "ref.go:97", after := #[{ on := 8, ground := Ground.guard }], guard := some (8, true) }) (v := ?v14) rfl (by kernel_rfl) (by kernel_rfl) (by kernel_rfl) (fun _ _ _ h => h) (Or.inl ⟨by rfl, ?hy14⟩) (by assumption) ?rest14
                case hy14 => (intro ww hSw; (try dsimp only at hSw); go_simp; try with_reducible rfl)
                simp only [Act.put, List.setIfInBounds_toArray, List.set_cons_zero, List.set_cons_succ]
                refine wpAnyH_take (i := 15) (oi := { dst := some 69, op := Op.binOp BinOp.sub 3 (Operand.tmp 68) (Operand.const (Value.int IntKind.i64 1)) 3, type := 3, pos := "ref.go:97", after := #[{ on := 14, ground := Ground.data }, { on := 8, ground := Ground.guard }], guard := some (8, true) }) (v := ?v15) rfl (by kernel_rfl) (by kernel_rfl) (by kernel_rfl) (fun _ _ _ h => h) (Or.inl ⟨by rfl, ?hy15⟩) (by assumption) ?rest15
                case hy15 => (intro ww hSw; (try dsimp only at hSw); go_simp; try with_reducible rfl)
                simp only [Act.put, List.setIfInBounds_toArray, List.set_cons_zero, List.set_cons_succ]
                refine wpAnyH_take (i := 16) (oi := { dst := some 70, op := Op.index 9 (Operand.tmp 67) (Operand.tmp 69), type := 5, pos := "ref.go:97", after := #[{ on := 13, ground := Ground.data }, { on := 15, ground := Ground.data }, { on := 8, ground := Ground.guard }], guard := some (8, true) }) (v := ?v16) rfl (by kernel_rfl) (by kernel_rfl) (by kernel_rfl) (fun _ _ _ h => h) (Or.inl ⟨by rfl, ?hy16⟩) (by assumption) ?rest16
                case hy16 => (intro ww hSw; (try dsimp only at hSw); go_simp; try with_reducible rfl)
                simp only [Act.put, List.setIfInBounds_toArray, List.set_cons_zero, List.set_cons_succ]
                refine wpAnyH_take (i := 12) (oi := { dst := some 66, op := Op.load 91 (Operand.tmp 65), type := 91, pos := "ref.go:97", after := #[{ on := 11, ground := Ground.data }, { on := 8, ground := Ground.guard }], guard := some (8, true) }) (v := .agg cl.toArray) rfl (by kernel_rfl) (by kernel_rfl) (by kernel_rfl) (fun _ _ _ h => h) (yieldsIf_load_mid (by rfl) 91 _ rfl b (o + i * 258) rfl cl _ (fun _ hSw => hSw.2.2) hun rfl hsz) (by assumption) ?rest12
                simp only [Act.put, List.setIfInBounds_toArray, List.set_cons_zero, List.set_cons_succ]
                refine wpAnyH_ready (rs := [17]) (by kernel_rfl) (by simp) ?_
                refine AllReadyH.cons (o := { dst := some 71, op := Op.call { callee := Callee.value (Operand.func 97), args := #[Operand.tmp 66, Operand.tmp 70], argTypes := #[91, 5] }, type := 4, pos := "ref.go:97", after := #[{ on := 12, ground := Ground.data }, { on := 16, ground := Ground.data }, { on := 8, ground := Ground.chain }, { on := 8, ground := Ground.guard }], guard := some (8, true) }) rfl (fun K hK => ?_) AllReadyH.nil
                rw [if_pos (by rfl)]
                go_simp
                refine (HFit.out _).mono ?_
                rintro e wf ⟨rfl, hb1⟩
                go_wp2_with fail
                refine hK.out _ _ (keepM hb1 hHeld) (fun hHeld2 => ?_)
                clear hK K
                have hb1w : Below wr.heap.size wr wf := ⟨hb1.os, hb1.tape, hb1.output, hb1.size, hb1.block⟩
                have d1 : wf.cell? ⟨r2, k' + 1, none⟩ = some (.bool (ff (k' + 1))) := cell_on hb1w b1
                have d2 : wf.frozen? ⟨r2, k' + 1, none⟩ = false := (hb1w.frozen (p := ⟨r2, k' + 1, none⟩) hr2w).trans b2
                have HBW := Lib.hid hb1w
                clear hb1 hb1w
                refine wpAnyH_take (i := 18) (oi := { dst := some 72, op := Op.pick (Operand.tmp 62) (Operand.tmp 71) (Operand.const (Value.bool false)), type := 4, pos := "ref.go:97", after := #[{ on := 8, ground := Ground.data }, { on := 17, ground := Ground.data }], guard := none }) (v := ?v18) rfl (by kernel_rfl) (by kernel_rfl) (by kernel_rfl) (fun _ _ _ h => h) (Or.inl ⟨by rfl, ?hy18⟩) (by assumption) ?rest18
                case hy18 => (intro ww hSw; (try dsimp only at hSw); go_simp; try with_reducible rfl)
                simp only [Act.put, List.setIfInBounds_toArray, List.set_cons_zero, List.set_cons_succ]
                refine wpAnyH_take (i := 19) (oi := { dst := some 73, op := Op.indexAddr 155 (Operand.tmp 54) (Operand.tmp 55), type := 0, pos := "ref.go:97", after := #[{ on := 0, ground := Ground.data }, { on := 1, ground := Ground.data }, { on := 0, ground := Ground.phase }, { on := 1, ground := Ground.phase }, { on := 2, ground := Ground.phase }, { on := 3, ground := Ground.phase }, { on := 4, ground := Ground.phase }, { on := 5, ground := Ground.phase }, { on := 6, ground := Ground.phase }, { on := 7, ground := Ground.phase }, { on := 8, ground := Ground.phase }, { on := 9, ground := Ground.phase }, { on := 10, ground := Ground.phase }, { on := 11, ground := Ground.phase }, { on := 12, ground := Ground.phase }, { on := 13, ground := Ground.phase }, { on := 14, ground := Ground.phase }, { on := 15, ground := Ground.phase }, { on := 16, ground := Ground.phase }, { on := 17, ground := Ground.phase }, { on := 18, ground := Ground.phase }], guard := none }) (v := ?v19) rfl (by kernel_rfl) (by kernel_rfl) (by kernel_rfl) (fun _ _ _ h => h) (Or.inl ⟨by rfl, ?hy19⟩) (by assumption) ?rest19
                case hy19 => (intro ww hSw; (try dsimp only at hSw); go_simp; try with_reducible rfl)
                simp only [Act.put, List.setIfInBounds_toArray, List.set_cons_zero, List.set_cons_succ]
                refine wpAnyH_ready (rs := [20]) (by kernel_rfl) (by simp) ?_
                refine AllReadyH.cons (o := { dst := none, op := Op.store 4 (Operand.tmp 73) (Operand.tmp 72), type := 0, pos := "ref.go:97", after := #[{ on := 19, ground := Ground.data }, { on := 18, ground := Ground.data }, { on := 17, ground := Ground.chain }, { on := 0, ground := Ground.phase }, { on := 1, ground := Ground.phase }, { on := 2, ground := Ground.phase }, { on := 3, ground := Ground.phase }, { on := 4, ground := Ground.phase }, { on := 5, ground := Ground.phase }, { on := 6, ground := Ground.phase }, { on := 7, ground := Ground.phase }, { on := 8, ground := Ground.phase }, { on := 9, ground := Ground.phase }, { on := 10, ground := Ground.phase }, { on := 11, ground := Ground.phase }, { on := 12, ground := Ground.phase }, { on := 13, ground := Ground.phase }, { on := 14, ground := Ground.phase }, { on := 15, ground := Ground.phase }, { on := 16, ground := Ground.phase }, { on := 17, ground := Ground.phase }, { on := 18, ground := Ground.phase }], guard := none }) rfl (fun K hK => ?_) AllReadyH.nil
                rw [if_pos (by rfl)]
                go_simp
                refine hK.out _ _ (keepS hHeld2 n2 n3 n6) (fun _ => ?_)
                clear hK K
                refine wpAnyH_done (by kernel_rfl) ?_ _
                refine NoPanic.normal ?_
                go_wp2_with fail
                go_roundg g2
                case measure => omega
                case rel =>
                  obtain ⟨q1, q2, q3, q4, q5, q6, q7⟩ := HI.out
                  refine ⟨k' + 1 + 1, any, _, rfl, by go_num, by omega, by omega, ⟨At.other (At.on q1 HBW.out) n2 _, BR.other (BR.on q2 HBW.out) n3 _, BR.put (BR.on q3 HBW.out) (k' + 1) (x.has s[k'].toNat), (q4.trans (HBW.out.mono q4.size)).setCell (p := ⟨r2, k' + 1, none⟩) (by simp; omega) _, fun j hj => ?_, fun j hj => ?_, fun h => by rw [h] at hst; cases hst⟩⟩
                  · by_cases hjk : j = k' + 1
                    · subst hjk; rw [if_pos rfl, HO.out, ← HF.out k' (by omega), hfk]; rfl
                    · rw [if_neg hjk]; exact q5 j (by omega)
                  · rw [if_neg (by omega)]; exact q6 j (by omega)
        · obtain rfl : k = s.size + 1 := by omega
          have a0 := HI.out.1.cell
          have a1 := HI.out.1.open_
          go_wp2_with fail
          go_roundg g
          case measure => omega
          case rel =>
            obtain ⟨q1, q2, q3, q4, q5, q6, q7⟩ := HI.out
            exact ⟨i + 1, r2, ff, by go_num, by omega, by omega, by omega, ⟨At.put q1 r2, BR.other q3 n5 _, q4.setCell (p := ⟨w.heap.size, 0, none⟩) (Nat.le_refl _) _, fun k hk => q5 k (by omega)⟩⟩
    · obtain rfl : i = m := by omega
      have a0 := H.out.1.cell
      have b0 := H.out.2.1.at_ s.size (by omega)
      have HV : Hid (f s.size = fitL qs s.data.toList) := by
        show _ = _
        rw [H.out.2.2.2 s.size (Nat.le_refl _), ← row_end, len_data, hqm]
      go_wp2_with fail
      go_ret
      exact ⟨ret_bool HV.out, H.out.2.2.1⟩
end Go.Proofs.YtghfmbmdfojapaaGreatDoor.Rmatch
