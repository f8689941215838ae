/- What the program's Filter answers: those of a list that a closure keeps. -/
import Derived.Test.YtmallbgmpmdjiaaDoorOf
import Derived.Test.YtmallbgmpmdjiaaDoorFits
namespace Go.Proofs.YtmallbgmpmdjiaaDoor.Filter
open Go.RowKit Go.Proofs.YtmallbgmpmdjiaaDoor.Strs Go.Proofs.YtmallbgmpmdjiaaDoor.Fits
open Go.Proofs.YtmallbgmpmdjiaaDoor.Pat (hasB preB postB preB_le postB_le)
open Go.Proofs.YtmallbgmpmdjiaaDoor.Of (patV of_is)

theorem bool_ne (a b : Bool) : (!(a == b)) = (a != b) := rfl

/-- what the closure finds: the list of patterns and whether it is turned -/
structure Env (w : World) (p o g n : Nat) (out : Bool) (qs : List ByteArray) : Prop where
  pl : p < w.heap.size
  ol : o < w.heap.size
  c1 : w.cell? ⟨p, 0, none⟩ = some (.slice (some ⟨g, 0, none⟩) n n)
  c2 : w.cell? ⟨o, 0, none⟩ = some (.bool out)
  ps : PatsAt w g qs
theorem Env.below {w W : World} {p o g n : Nat} {out : Bool} {qs : List ByteArray} (h : Env w p o g n out qs) (hb : Below w.heap.size w W) : Env W p o g n out qs :=
  ⟨Nat.lt_of_lt_of_le h.pl hb.size, Nat.lt_of_lt_of_le h.ol hb.size, (hb.cell (p := ⟨p, 0, none⟩) h.pl).trans h.c1, (hb.cell (p := ⟨o, 0, none⟩) h.ol).trans h.c2, h.ps.below hb⟩

def met (p o : Nat) : Value := .func (.func 28) #[] #[.pointer (some ⟨p, 0, none⟩), .pointer (some ⟨o, 0, none⟩)]

set_option maxRecDepth 100000 in
set_option maxHeartbeats 1000000 in
/-- the closure -/
theorem yes_is (p o g n : Nat) (out : Bool) (qs : List ByteArray) (x : ByteArray) (w : World) (hn : qs.length = n) (h : Env w p o g n out qs) (hm : n ≤ 1000000) (hq : ∀ q ∈ qs, q.size ≤ 1000000) (hx : x.size ≤ 1000000) :
    Calls Tryd.prog 28 #[.string x, .pointer (some ⟨p, 0, none⟩), .pointer (some ⟨o, 0, none⟩)] w fun e W' => e = .returned (.bool (fitB qs x != out)) ∧ Below w.heap.size w W' := by
  have HF := Lib.hid (fun W hW => fits_is g n qs x W hn (PatsAt.below h.ps hW) hm hq hx)
  have c1 := h.c1
  have c2 := h.c2
  have hpl := h.pl
  have hol := h.ol
  have C2 := Lib.hid (fun W (hW : Below w.heap.size w W) => (hW.cell (p := ⟨o, 0, none⟩) hol).trans c2)
  generalize fitB qs x = r at *
  clear h hq
  go_enter Tryd.func28, Tryd.ntmps28
  go_wp2_with fail
  go_region_held3 (fun w' => w'.cell? ⟨p, 0, none⟩ = some (.slice (some ⟨g, 0, none⟩) n n) ∧ w'.cell? ⟨o, 0, none⟩ = some (.bool out)) (first | go_keep | exact ⟨(hb1.cell (p := ⟨p, 0, none⟩) hpl).trans c1, (hb1.cell (p := ⟨o, 0, none⟩) hol).trans c2⟩) (first | (go_at_call 29; refine (HF.out _ (Below.drew (Below.refl _ _))).mono ?_; rintro e w1 ⟨rfl, hb1⟩))
  have HB := Lib.hid hb1
  clear hb1 HF C2
  go_wp2_with fail
  go_ret
  exact ⟨rfl, (Below.drew (Below.refl _ _)).trans HB.out⟩

theorem own_below {w W : World} {B e : Nat} {v : Value} {n : Nat} {xs : List Value} (h : w.ownsRow B e 1 v n xs) (hb : Below w.heap.size w W) : W.ownsRow B e 1 v n xs := by
  refine ⟨h.1, ?_⟩
  rcases h.2 with h0 | ⟨g, cap, cur, hv, hB, hg, hr⟩
  · exact .inl h0
  · exact .inr ⟨g, cap, cur, hv, hB, (hb.block g (Array.getElem?_eq_some_iff.1 hg).1).trans hg, hr⟩

def filterB (qs : List ByteArray) (out : Bool) (xs : List ByteArray) : List ByteArray := xs.filter fun x => fitB qs x != out

set_option maxRecDepth 100000 in
set_option maxHeartbeats 1000000 in
/-- the words that the closure says yes to -/
theorem keep_is (A : Option Addr) (m c : Nat) (xs : List ByteArray) (p o g n : Nat) (out : Bool) (qs : List ByteArray) (w : World) (hn : qs.length = n) (h : Env w p o g n out qs) (hm : n ≤ 1000000) (hq : ∀ q ∈ qs, q.size ≤ 1000000) (hxl : xs.length = m) (hs : SlIs w A c xs) (hm2 : m ≤ 1000000) (hx : ∀ x ∈ xs, x.size ≤ 1000000) :
    Calls Tryd.prog 27 #[.slice A m c, .func (.func 28) #[] #[.pointer (some ⟨p, 0, none⟩), .pointer (some ⟨o, 0, none⟩)]] w fun e W' => ∃ v, e = .returned v ∧ W'.ownsRow w.heap.size 9 1 v (filterB qs out xs).length ((filterB qs out xs).map Value.string) ∧ Below w.heap.size w W' := by
  obtain ⟨i0, hi, hz0, hz1, hz2⟩ := info_parts infoString
  have HY := Lib.hid (fun x hx W hW => yes_is p o g n out qs x W hn (Env.below h hW) hm hq hx)
  have HXL := Lib.hid hxl
  have HS := Lib.hid hs
  have HX := Lib.hid hx
  clear hn h hq hxl hs hx
  go_enter Tryd.func27, Tryd.ntmps27
  go_wp2
  go_loopw [5, 10] (fun v i wr => ∃ (k : Nat) (acc : List ByteArray), k ≤ m ∧ acc.length ≤ k ∧ i = .int .i64 k ∧ wr.ownsRow w.heap.size 9 1 v acc.length (acc.map Value.string) ∧ Hid (Below w.heap.size w wr ∧ acc = filterB qs out (xs.take k)))
    (fun _ i _ => m - (intOf i).toNat)
  case atStart => exact ⟨0, [], Nat.zero_le _, Nat.le_refl _, rfl, World.ownsRow_nil _ _ _ _, Below.refl _ _, rfl⟩
  case round =>
    obtain ⟨k, acc, hk, ha, rfl, hown, H⟩ := hrel
    have hBs := H.out.1.size
    by_cases hlt : k < m
    · have hl : k < xs.length := by have := HXL.out; omega
      have hxk : xs[k]? = some xs[k] := List.getElem?_eq_getElem hl
      obtain ⟨bb, oo, rfl, hbb, hc⟩ := HS.out.at_ hxk
      have c1 := hc wr H.out.1
      have HC := Lib.hid (HY.out xs[k] (HX.out _ (List.getElem_mem hl)) wr H.out.1)
      have HF : Hid (filterB qs out (xs.take (k + 1)) = acc ++ (if (fitB qs xs[k] != out) = true then [xs[k]] else [])) := by
        show _ = _
        rw [List.take_succ_eq_append_getElem hl]
        unfold filterB
        rw [List.filter_append, H.out.2]
        unfold filterB
        congr 1
        rw [List.filter_cons, List.filter_nil]
      have HO := Lib.hid hown
      have HB := Lib.hid H.out.1
      clear hc hxk H hown
      generalize (fitB qs xs[k] != out) = r at *
      generalize xs[k] = x at *
      go_wp2_with fail
      refine HC.out.mono ?_
      rintro e w1 ⟨rfl, hb1⟩
      have hown : w1.ownsRow w.heap.size 9 1 _ acc.length (acc.map Value.string) := own_below HO.out hb1
      have HB1 := Lib.hid (HB.out.trans (hb1.mono hBs))
      have hBs1 := HB1.out.size
      clear hb1 HC HO HB
      cases r with
      | true =>
        go_wp2_with (at_builtin; refine wpList_append_own _ rfl _ _ 22 rfl w.heap.size 9 i0 (.string .empty) 1 16 Tryd.underlying22 hi hz0 hz1 hz2 rfl (by decide) _ _ _ rfl (hown.alloc _) ⟨w1.heap.size, 0, none⟩ 1 1 [.string x] rfl rfl (cell_one_new _ _ _) (by simp [Value.oneCell']) (by unfold maxLen; omega) (by omega) (by simp; omega) ?_; intro v' w2 hown' hgrow _; have HO := Lib.hid hown'; have HG := Lib.hid (below_append HB1.out hBs1 hown hgrow); clear hown' hgrow)
        go_roundw
        case rel => exact ⟨k + 1, acc ++ [x], by omega, by simp; omega, by go_num, by simpa using HO.out, HG.out, by rw [HF.out]; simp⟩
        case measure => simp [intOf]; omega
      | false =>
        have HO := Lib.hid hown
        clear hown
        go_wp2
        go_roundw
        case rel => exact ⟨k + 1, acc, by omega, by omega, by go_num, HO.out, HB1.out, by rw [HF.out]; simp⟩
        case measure => simp [intOf]; omega
    · obtain rfl : m = k := by omega
      have HF : Hid (acc = filterB qs out xs) := by
        show _ = _
        have := H.out.2
        rwa [List.take_of_length_le (by rw [HXL.out]; exact Nat.le_refl _)] at this
      have HO := Lib.hid hown
      clear hown
      go_wp2
      go_ret
      rw [← HF.out]
      exact ⟨_, rfl, HO.out, H.out.1⟩

theorem infoPat : (Tryd.prog.info? 42).map (fun i => (i.zero, i.size, i.bytes)) = some (some (.agg #[.bool false, .string .empty, .string .empty]), 3, 40) := by kernel_rfl
def zs3 : Array Value := #[.bool false, .string .empty, .string .empty]
theorem make_pats (n : Nat) (h : n ≤ 1000000) (w : World) :
    (Instr.makeSlice 40 (.int .i64 (n : Int)) (.int .i64 (n : Int))).run Tryd.prog w = .ok (.slice (some ⟨w.heap.size, 0, none⟩) n n) (w.alloc (.cells (madeCells zs3 (n * 3)) 42)) := by
  obtain ⟨i0, hi, hz0, hz1, hz2⟩ := info_parts infoPat
  have := run_make (P := Tryd.prog) w 40 42 i0 _ Tryd.underlying40 hi hz0 .i64 .i64 (n : Int) (n : Int) (by omega) (Int.le_refl _) (by rw [hz2]; omega) (by omega)
  rw [hz1] at this
  simpa [Value.cells, zs3] using this

/-- the cells of the patterns, k of them read -/
def cellP (qs : List ByteArray) (i : Nat) : Value := if i % 3 = 0 then .bool (hasB (qs.getD (i / 3) .empty)) else if i % 3 = 1 then .string (preB (qs.getD (i / 3) .empty)) else .string (postB (qs.getD (i / 3) .empty))
def rowF (qs : List ByteArray) (k i : Nat) : Value := if i < k * 3 then cellP qs i else zs3[i % 3]!

theorem rowF_start (w : World) (qs : List ByteArray) (n : Nat) : (w.alloc (.cells (madeCells zs3 (n * 3)) 42)).rowIs w.heap.size 42 (n * 3) (rowF qs 0) := by
  refine ⟨_, heap_alloc_new w _, size_madeCells _ _, fun i hi => ?_⟩
  simp [madeCells, rowF, hi, zs3]

theorem rowF_step {w : World} {g n k : Nat} {qs : List ByteArray} {q : ByteArray} (h : w.rowIs g 42 (n * 3) (rowF qs k)) (hq : qs[k]? = some q) :
    (((w.setCell ⟨g, k * 3, none⟩ (.bool (hasB q))).setCell ⟨g, k * 3 + 1, none⟩ (.string (preB q))).setCell ⟨g, k * 3 + 2, none⟩ (.string (postB q))).rowIs g 42 (n * 3) (rowF qs (k + 1)) := by
  refine (((h.set (k * 3) _).set (k * 3 + 1) _).set (k * 3 + 2) _).congr (fun j hj => ?_)
  by_cases h2 : j = k * 3 + 2
  · subst h2
    have d : (k * 3 + 2) / 3 = k := by omega
    simp [rowF, cellP, d, hq, show (k * 3 + 2) % 3 = 2 by omega, show k * 3 + 2 < (k + 1) * 3 by omega]
  · by_cases h1 : j = k * 3 + 1
    · subst h1
      have d : (k * 3 + 1) / 3 = k := by omega
      simp [rowF, cellP, d, hq, show (k * 3 + 1) % 3 = 1 by omega, show k * 3 + 1 < (k + 1) * 3 by omega]
    · by_cases h0 : j = k * 3
      · subst h0
        have d : (k * 3) / 3 = k := by omega
        simp [rowF, cellP, d, hq, show (k * 3) % 3 = 0 by omega, show k * 3 < (k + 1) * 3 by omega]
      · have : (j < (k + 1) * 3) = (j < k * 3) := by simp; omega
        simp only [if_neg h2, if_neg h1, if_neg h0, rowF, this]

theorem pats_of_row {w : World} {g n : Nat} {qs : List ByteArray} (hn : qs.length = n) (h : w.rowIs g 42 (n * 3) (rowF qs n)) : PatsAt w g qs := by
  refine ⟨h.lt, fun j q hq => ?_⟩
  have hj := (List.getElem?_eq_some_iff.1 hq).1
  rw [hn] at hj
  refine ⟨(h.cell (i := j * 3) (by omega)).trans ?_, (h.cell (i := j * 3 + 1) (by omega)).trans ?_, (h.cell (i := j * 3 + 2) (by omega)).trans ?_⟩
  · simp [rowF, cellP, hq, show j * 3 / 3 = j by omega, show j * 3 < n * 3 by omega]
  · simp [rowF, cellP, hq, show (j * 3 + 1) / 3 = j by omega, show (j * 3 + 1) % 3 = 1 by omega, show j * 3 + 1 < n * 3 by omega]
  · simp [rowF, cellP, hq, show (j * 3 + 2) / 3 = j by omega, show (j * 3 + 2) % 3 = 2 by omega, show j * 3 + 2 < n * 3 by omega]

theorem cell_other {w : World} {g i b o : Nat} {v : Value} (h : b ≠ g) : (w.setCell ⟨g, i, none⟩ v).cell? ⟨b, o, none⟩ = w.cell? ⟨b, o, none⟩ :=
  World.cell?_of_block (w := w) (Deep.blk_setCell_other _ _ _ _ h)

theorem made_start (w : World) (n : Nat) (out : Bool) :
    (((w.alloc (.cells #[.bool out] 4)).alloc (.cells (madeCells zs3 (n * 3)) 42)).alloc (.cells #[.slice (some ⟨w.heap.size + 1, 0, none⟩) n n] 40)).cell? ⟨w.heap.size, 0, none⟩ = some (.bool out) := by
  have e := heap_alloc_new w (.cells #[.bool out] 4)
  have e2 : (((w.alloc (.cells #[.bool out] 4)).alloc (.cells (madeCells zs3 (n * 3)) 42)).alloc (.cells #[.slice (some ⟨w.heap.size + 1, 0, none⟩) n n] 40)).heap[w.heap.size]? = some (.cells #[.bool out] 4 (0, 0)) := by
    rw [Lib.alloc_old _ _ _ (by simp; omega), Lib.alloc_old _ _ _ (by simp)]
    exact e
  rw [Lib.cell_of_heap e2]; rfl

/-- while the patterns are read -/
structure Made (w : World) (n : Nat) (out : Bool) (qs : List ByteArray) (k : Nat) (wr : World) : Prop where
  size : w.heap.size + 3 ≤ wr.heap.size
  below : Below w.heap.size w wr
  co : wr.cell? ⟨w.heap.size, 0, none⟩ = some (.bool out)
  cr : wr.cell? ⟨w.heap.size + 2, 0, none⟩ = some (.slice (some ⟨w.heap.size + 1, 0, none⟩) n n)
  row : wr.rowIs (w.heap.size + 1) 42 (n * 3) (rowF qs k)
theorem Made.later {w : World} {n : Nat} {out : Bool} {qs : List ByteArray} {k : Nat} {wr W : World} (h : Made w n out qs k wr) (hb : Below wr.heap.size wr W) : Made w n out qs k W := by
  have hs := h.size
  have hs2 := hb.size
  exact ⟨by omega, h.below.trans (hb.mono (by omega)), (hb.cell (p := ⟨w.heap.size, 0, none⟩) (by show w.heap.size < _; omega)).trans h.co, (hb.cell (p := ⟨w.heap.size + 2, 0, none⟩) (by show w.heap.size + 2 < _; omega)).trans h.cr, h.row.of_block (hb.block _ (by omega))⟩
theorem Made.step {w : World} {n : Nat} {out : Bool} {qs : List ByteArray} {k : Nat} {wr : World} {q : ByteArray} (h : Made w n out qs k wr) (hq : qs[k]? = some q) :
    Made w n out qs (k + 1) (((wr.setCell ⟨w.heap.size + 1, k * 3, none⟩ (.bool (hasB q))).setCell ⟨w.heap.size + 1, k * 3 + 1, none⟩ (.string (preB q))).setCell ⟨w.heap.size + 1, k * 3 + 2, none⟩ (.string (postB q))) := by
  have hs := h.size
  refine ⟨by simpa using hs, ((h.below.setCell (p := ⟨_, _, none⟩) (Nat.le_succ _) _).setCell (p := ⟨_, _, none⟩) (Nat.le_succ _) _).setCell (p := ⟨_, _, none⟩) (Nat.le_succ _) _, ?_, ?_, rowF_step h.row hq⟩
  · rw [cell_other (by omega), cell_other (by omega), cell_other (by omega)]
    exact h.co
  · rw [cell_other (by omega), cell_other (by omega), cell_other (by omega)]
    exact h.cr
theorem Made.env {w : World} {n : Nat} {out : Bool} {qs : List ByteArray} {wr : World} (hn : qs.length = n) (h : Made w n out qs n wr) : Env wr (w.heap.size + 2) w.heap.size (w.heap.size + 1) n out qs := by
  have hs := h.size
  exact ⟨by omega, by omega, h.cr, h.co, pats_of_row hn h.row⟩

set_option maxRecDepth 100000 in
set_option maxHeartbeats 2000000 in
/-- the program's Filter -/
theorem filter_is (A P : Option Addr) (m c n d : Nat) (out : Bool) (xs qs : List ByteArray) (w : World) (hn : qs.length = n) (hp : SlIs w P d qs) (hm : n ≤ 1000000) (hq : ∀ q ∈ qs, q.size ≤ 1000000) (hxl : xs.length = m) (hs : SlIs w A c xs) (hm2 : m ≤ 1000000) (hx : ∀ x ∈ xs, x.size ≤ 1000000) :
    Calls Tryd.prog 12 #[.slice P n d, .slice A m c, .bool out] w fun e W' => ∃ A' c', e = .returned (.slice A' (filterB qs out xs).length c') ∧ SlIs W' A' c' (filterB qs out xs) ∧ Below w.heap.size w W' := by
  have HN := Lib.hid hn
  have HP := Lib.hid hp
  have HQ := Lib.hid hq
  have HK := Lib.hid (fun W (hE : Env W (w.heap.size + 2) w.heap.size (w.heap.size + 1) n out qs) (hb : Below w.heap.size w W) => keep_is A m c xs (w.heap.size + 2) w.heap.size (w.heap.size + 1) n out qs W hn hE hm hq hxl (hs.below hb) hm2 hx)
  clear hn hp hq hxl hs hx
  have hmk := make_pats n hm
  go_enter Tryd.func12, Tryd.ntmps12
  go_wp2
  go_loopw [15] (fun i wr => ∃ k : Nat, k ≤ n ∧ i = .int .i64 k ∧ Hid (Made w n out qs k wr)) (fun i _ => n - (intOf i).toNat)
  case atStart =>
    refine ⟨0, Nat.zero_le _, rfl, ?_⟩
    have hr := rowF_start (w.alloc (.cells #[.bool out] 4)) qs n
    rw [World.size_alloc] at hr
    have hnew := heap_alloc_new ((w.alloc (.cells #[.bool out] 4)).alloc (.cells (madeCells zs3 (n * 3)) 42)) (.cells #[.slice (some ⟨w.heap.size + 1, 0, none⟩) n n] 40)
    rw [World.size_alloc, World.size_alloc] at hnew
    exact ⟨by simp, (((Below.refl _ _).alloc (Nat.le_refl _) _).alloc (by simp) _).alloc (by simp; omega) _, made_start w n out, by rw [Lib.cell_of_heap hnew]; rfl, hr.alloc _⟩
  case round =>
    obtain ⟨k, hk, rfl, H⟩ := hrel
    by_cases hlt : k < n
    · have hl : k < qs.length := by have := HN.out; omega
      have hqk : qs[k]? = some qs[k] := List.getElem?_eq_getElem hl
      obtain ⟨bb, oo, rfl, hbb, hc⟩ := HP.out.at_ hqk
      have c1 := hc wr H.out.below
      have c2 := H.out.cr
      have zq := HQ.out _ (List.getElem_mem hl)
      have HO := Lib.hid (fun W => of_is qs[k] W (by omega))
      have HST : Hid (∀ W, Below wr.heap.size wr W → Made w n out qs (k + 1) (((W.setCell ⟨w.heap.size + 1, k * 3, none⟩ (.bool (hasB qs[k]))).setCell ⟨w.heap.size + 1, k * 3 + 1, none⟩ (.string (preB qs[k]))).setCell ⟨w.heap.size + 1, k * 3 + 2, none⟩ (.string (postB qs[k])))) := fun W hW => (H.out.later hW).step hqk
      have HD : Hid (∀ W, Below wr.heap.size wr W → W.cell? ⟨w.heap.size + 2, 0, none⟩ = some (.slice (some ⟨w.heap.size + 1, 0, none⟩) n n) ∧ W.cell? ⟨w.heap.size + 1, k * 3, none⟩ = some (rowF qs k (k * 3)) ∧ W.cell? ⟨w.heap.size + 1, k * 3 + 1, none⟩ = some (rowF qs k (k * 3 + 1)) ∧ W.cell? ⟨w.heap.size + 1, k * 3 + 2, none⟩ = some (rowF qs k (k * 3 + 2)) ∧ W.frozen? ⟨w.heap.size + 1, k * 3, none⟩ = false ∧ W.frozen? ⟨w.heap.size + 1, k * 3 + 1, none⟩ = false ∧ W.frozen? ⟨w.heap.size + 1, k * 3 + 2, none⟩ = false) := fun W hW => by
        have h1 := H.out.later hW
        exact ⟨h1.cr, h1.row.cell (by omega), h1.row.cell (by omega), h1.row.cell (by omega), h1.row.frozen _, h1.row.frozen _, h1.row.frozen _⟩
      clear hc hqk H
      unfold Of.patV at HO
      generalize hasB qs[k] = h0 at *
      generalize preB qs[k] = p0 at *
      generalize postB qs[k] = p1 at *
      generalize qs[k] = q at *
      generalize rowF qs k (k * 3) = r0 at *
      generalize rowF qs k (k * 3 + 1) = r1 at *
      generalize rowF qs k (k * 3 + 2) = r2 at *
      go_wp2_with fail
      go_region_held3 (fun w' => w'.cell? ⟨w.heap.size + 2, 0, none⟩ = some (.slice (some ⟨w.heap.size + 1, 0, none⟩) n n)) (first | go_keep | exact d0) (first | (go_at_call 26; refine (HO.out _).mono ?_; rintro e w1 ⟨rfl, hb1⟩; obtain ⟨d0, d1, d2, d3, f1, f2, f3⟩ := HD.out w1 ((Below.drew (Below.refl _ _)).trans hb1)))
      have HM := Lib.hid (HST.out w1 ((Below.drew (Below.refl _ _)).trans hb1))
      clear hb1 d0 d1 d2 d3 f1 f2 f3 HST HD HO
      go_wp2_with fail
      go_roundw
      case rel => exact ⟨k + 1, by omega, by go_num, HM⟩
      case measure => simp [intOf]; omega
    · obtain rfl : n = k := by omega
      have HE := Lib.hid (HK.out wr (Made.env HN.out H.out) H.out.below)
      have HB := Lib.hid H.out.below
      clear H
      go_wp2_with fail
      refine HE.out.mono ?_
      rintro e w1 ⟨v, rfl, ho, hb1⟩
      obtain ⟨A', c', rfl, hsl⟩ := slIs_of_own rfl ho
      have HS := Lib.hid hsl
      have HB1 := Lib.hid (HB.out.trans (hb1.mono HB.out.size))
      clear hsl hb1 ho HE HB
      go_wp2
      go_ret
      exact ⟨A', c', rfl, HS.out, HB1.out⟩

end Go.Proofs.YtmallbgmpmdjiaaDoor.Filter
