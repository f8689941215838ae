/- join, oneIf, dots, alike, goEnd. -/
import Derived.Deep.RegionHeld3
import Derived.Deep.QuietTactic
import Derived.Test.YtgfpdaaofhanoaaGreatDoorWdp
namespace Go.Proofs.YtgfpdaaofhanoaaGreatDoor.Wst
open Go.RowKit Go.Proofs.YtgfpdaaofhanoaaGreatDoor.Pth Go.Proofs.YtgfpdaaofhanoaaGreatDoor.Strs Go.Proofs.YtgfpdaaofhanoaaGreatDoor.Wdp

def joinT (l : List Pt) : T := Lib.join (l.map Pt.text) [47]

/-- the library's Join of texts that lie in memory -/
theorem joins_is (A : Option Addr) (n c : Nat) (xs : List T) (w : World) (hn : xs.length = n) (h : SlIs w A c (xs.map bs)) (hl : (Lib.join xs [47]).length ≤ 140737488355328) (hm : n ≤ 140737488355328) :
    Calls Tryz.prog 39 #[.slice A n c, .string ⟨#[47]⟩] w fun e W' => e = .returned (.string (bs (Lib.join xs [47]))) ∧ Below w.heap.size w W' := by
  rcases h.2 with h0 | ⟨b, o, rfl, hb, hc⟩
  · have hx : xs = [] := List.map_eq_nil_iff.1 h0
    subst hx
    obtain rfl : n = 0 := by rw [← hn]; rfl
    exact (Tryz.strings_Join_none A c ⟨#[47]⟩ w).mono fun e W' ⟨h1, h2⟩ => ⟨h1, by rw [h2]; exact Below.refl _ _⟩
  · have e1 : (xs.map bs).map (·.data.toList) = xs := by rw [List.map_map]; exact List.map_id _
    have e2 : (⟨#[47]⟩ : ByteArray).data.toList = [47] := rfl
    have hc0 := h.1
    have c0 := Tryz.strings_Join b o c (xs.map bs) ⟨#[47]⟩ w hc hb (by rw [List.length_map]; omega) hc0 (by rw [e1, e2]; exact hl)
    rw [e1, e2, List.length_map, hn] at c0
    exact c0

def rowT (xs : List ByteArray) (k j : Nat) : Value := .string (if j < k then xs.getD j .empty else .empty)
theorem make_strs (n : Nat) (h : n ≤ 1000001) (w : World) :
    (Instr.makeSlice 23 (.int .i64 (n : Int)) (.int .i64 (n : Int))).run Tryz.prog w = .ok (.slice (some ⟨w.heap.size, 0, none⟩) n n) (w.alloc (.cells (madeCells #[.string .empty] n) 9)) :=
  run_make_row' 23 9 _ 16 Tryz.underlying23 infoString rfl .i64 .i64 n (by omega) (by omega) w

theorem rowIs_below {w W : World} {g t n : Nat} {f : Nat → Value} (h : w.rowIs g t n f) (hb : W.heap[g]? = w.heap[g]?) : W.rowIs g t n f := by
  obtain ⟨c, h1, h2, h3⟩ := h
  exact ⟨c, hb.trans h1, h2, h3⟩

set_option maxRecDepth 100000 in
set_option maxHeartbeats 2000000 in
theorem join_is (A : Option Addr) (n c : Nat) (l : List Pt) (w : World) (hn : l.length = n) (h : PtIs w A c l) (hm : n ≤ 1000001) (hl : (joinT l).length ≤ 140737488355328) :
    Calls Tryz.prog 29 #[.slice A n c] w fun e W' => e = .returned (.string (bs (joinT l))) ∧ Below w.heap.size w W' := by
  have HN := Lib.hid hn
  have HL := Lib.hid h
  have HJ := Lib.hid hl
  clear hn h hl
  have hmk := make_strs n hm
  go_enter Tryz.func29, Tryz.ntmps29
  go_wp2_with fail
  go_loopw [11] (fun i wr => ∃ k : Nat, k ≤ n ∧ i = .int .i64 k ∧ Hid (wr.rowIs w.heap.size 9 n (rowT ((l.map Pt.text).map bs) k) ∧ Below w.heap.size w wr ∧ w.heap.size < wr.heap.size)) (fun i _ => n - (intOf i).toNat)
  case atStart => exact ⟨0, Nat.zero_le _, rfl, (World.rowIs_made w _ n _).congr (fun j _ => rfl), (Below.refl _ _).alloc (Nat.le_refl _) _, by rw [World.size_alloc]; omega⟩
  case round =>
    obtain ⟨k, hk, rfl, H⟩ := hrel
    by_cases hlt : k < n
    · have hl : k < l.length := by have := HN.out; omega
      have hxk : l[k]? = some l[k] := List.getElem?_eq_getElem hl
      have hxk2 : ((l.map Pt.text).map bs)[k]? = some (bs l[k].text) := by rw [List.getElem?_map, List.getElem?_map, hxk]; rfl
      obtain ⟨bb, o, rfl, hbb, hc⟩ := HL.out.at_ hxk
      obtain ⟨c1, c1'⟩ := hc wr H.out.2.1
      have HS : Hid (∀ W : World, (∀ j, j < wr.heap.size → W.heap[j]? = wr.heap[j]?) → Below w.heap.size w W → w.heap.size < W.heap.size → (W.cell? ⟨w.heap.size, k, none⟩ = some (.string .empty) ∧ W.frozen? ⟨w.heap.size, k, none⟩ = false) ∧ (W.setCell ⟨w.heap.size, k, none⟩ (.string (bs l[k].text))).rowIs w.heap.size 9 n (rowT ((l.map Pt.text).map bs) (k + 1)) ∧ Below w.heap.size w (W.setCell ⟨w.heap.size, k, none⟩ (.string (bs l[k].text)))) := fun W hW hb hs => by
        have hr := rowIs_below H.out.1 (hW w.heap.size H.out.2.2)
        refine ⟨⟨(hr.cell hlt).trans (by simp [rowT]), hr.frozen k⟩, (hr.set k _).congr (fun j hj => ?_), hb.setCell (p := ⟨w.heap.size, k, none⟩) (Nat.le_refl _) _⟩
        by_cases e : j = k
        · subst e
          simp only [if_pos, rowT, if_pos (Nat.lt_succ_self j), List.getD_eq_getElem?_getD, hxk2]
          rfl
        · simp only [if_neg e, rowT]
          have : (j < k + 1) = (j < k) := by simp; omega
          simp only [this]
      have HB := Lib.hid H.out.2
      clear hc hxk hxk2 H
      generalize l[k] = x at *
      obtain ⟨w2, hw2⟩ : ∃ w2, w2 = wr.alloc (.cells #[.string (bs x.text), .bool x.magic] 63) := ⟨_, rfl⟩
      have hb2 : Below w.heap.size w w2 := by rw [hw2]; exact HB.out.1.alloc HB.out.1.size _
      have hs2 : w.heap.size < w2.heap.size := by rw [hw2, World.size_alloc]; have := HB.out.2; omega
      obtain ⟨⟨c2, f2⟩, h3, h4⟩ := HS.out w2 (fun j hj => by rw [hw2]; exact Below.heap_alloc _ _ _ hj) hb2 hs2
      have HO := Lib.hid (And.intro h3 h4)
      have HS2 := Lib.hid hs2
      have c3 : w2.cell? ⟨wr.heap.size, 0, none⟩ = some (.string (bs x.text)) := by
        rw [hw2, Lib.cell_of_heap (heap_alloc_new wr _)]; rfl
      clear h3 h4 hb2 hs2 HS
      go_upto_region 5 with fail
      rw [← hw2]
      clear hw2 c1 c1'
      go_wp2_with fail
      go_roundw
      case rel => exact ⟨k + 1, by omega, by go_num, HO.out.1, HO.out.2, by rw [World.size_setCell]; exact HS2.out⟩
      case measure => simp [intOf]; omega
    · obtain rfl : k = n := by omega
      have hsl : SlIs wr (some ⟨w.heap.size, 0, none⟩) k ((l.map Pt.text).map bs) := slIs_of_row (by rw [List.length_map, List.length_map]; exact HN.out) H.out.1 (fun j x hj => by
        have hjl := (List.getElem?_eq_some_iff.1 hj).1
        rw [List.length_map, List.length_map, HN.out] at hjl
        simp only [rowT, if_pos hjl, List.getD_eq_getElem?_getD, hj]
        rfl)
      have HJo := Lib.hid (joins_is (some ⟨w.heap.size, 0, none⟩) k k (l.map Pt.text) wr (by rw [List.length_map]; exact HN.out) hsl HJ.out (by omega))
      have HB := Lib.hid H.out.2.1
      clear hsl H
      go_wp2_with fail
      refine HJo.out.mono ?_
      rintro e w3 ⟨rfl, hb3⟩
      have HB3 := Lib.hid (HB.out.trans (hb3.mono HB.out.size))
      clear hb3 HB HJo
      go_wp2
      go_ret
      exact ⟨rfl, HB3.out⟩

def oneL (b : Bool) (x : T) : List T := if b then [x] else []
set_option maxRecDepth 100000 in
set_option maxHeartbeats 400000 in
theorem oneIf_is (b : Bool) (x : T) (w : World) :
    Calls Tryz.prog 25 #[.bool b, .string (bs x)] w fun e W' => ∃ v, e = .returned v ∧ W'.ownsRow w.heap.size 9 1 v (oneL b x).length (((oneL b x).map bs).map Value.string) ∧ Below w.heap.size w W' := by
  cases b with
  | true =>
    go_enter Tryz.func25, Tryz.ntmps25
    go_wp2
    go_ret
    exact ⟨_, rfl, World.ownsRow_lit w #[.string (bs x)] 1 (Nat.le_refl _) (by decide) rfl, (Below.refl _ _).alloc (Nat.le_refl _) _⟩
  | false =>
    go_enter Tryz.func25, Tryz.ntmps25
    go_wp2
    go_ret
    exact ⟨_, rfl, World.ownsRow_nil _ _ _ _, Below.refl _ _⟩

/-! ### which go together -/
def dotsT (x : T) : Bool := decide (x = [46]) || decide (x = [46, 46])
def dotsP (p : Pt) : Bool := dotsT p.text
theorem eq_dot (x : T) : ((bs x).toList == [46]) = decide (x = [46]) := by
  rw [Lib.toList_data, data_bs, Bool.eq_iff_iff]
  simp
theorem eq_dots (x : T) : ((bs x).toList == [46, 46]) = decide (x = [46, 46]) := by
  rw [Lib.toList_data, data_bs, Bool.eq_iff_iff]
  simp
set_option maxRecDepth 100000 in
set_option maxHeartbeats 400000 in
theorem dots_is (x : T) (m : Bool) (w : World) :
    Calls Tryz.prog 101 #[.agg #[.string (bs x), .bool m]] w fun e W' => e = .returned (.bool (dotsT x)) ∧ Below w.heap.size w W' := by
  have b1 := eq_dot x
  have b2 := eq_dots x
  have HE : Hid (dotsT x = (decide (x = [46]) || decide (x = [46, 46]))) := rfl
  cases h1 : decide (x = [46]) <;> cases h2 : decide (x = [46, 46])
  all_goals
    rw [h1] at b1
    rw [h2] at b2
    have HE2 := HE.out
    rw [h1, h2] at HE2
    have HF := Lib.hid HE2
    clear HE2 HE h1 h2
    go_enter Tryz.func101, Tryz.ntmps101
    go_wp2
    go_ret
    exact ⟨ret_bool HF.out.symm, (Below.refl _ _).alloc (Nat.le_refl _) _⟩

theorem keep4 {b1 b2 : Nat} {u1 u2 u3 u4 : Value} {w W : World} (hb : Below w.heap.size w W) (h : b1 < w.heap.size ∧ w.cell? ⟨b1, 0, none⟩ = some u1 ∧ w.cell? ⟨b1, 1, none⟩ = some u2 ∧ b2 < w.heap.size ∧ w.cell? ⟨b2, 0, none⟩ = some u3 ∧ w.cell? ⟨b2, 1, none⟩ = some u4) :
    b1 < W.heap.size ∧ W.cell? ⟨b1, 0, none⟩ = some u1 ∧ W.cell? ⟨b1, 1, none⟩ = some u2 ∧ b2 < W.heap.size ∧ W.cell? ⟨b2, 0, none⟩ = some u3 ∧ W.cell? ⟨b2, 1, none⟩ = some u4 :=
  ⟨Nat.lt_of_lt_of_le h.1 hb.size, (hb.cell (p := ⟨b1, 0, none⟩) h.1).trans h.2.1, (hb.cell (p := ⟨b1, 1, none⟩) h.1).trans h.2.2.1, Nat.lt_of_lt_of_le h.2.2.2.1 hb.size, (hb.cell (p := ⟨b2, 0, none⟩) h.2.2.2.1).trans h.2.2.2.2.1, (hb.cell (p := ⟨b2, 1, none⟩) h.2.2.2.1).trans h.2.2.2.2.2⟩

theorem dots_held (w0 : World) (B : Nat) (hB : ∀ W : World, Below B w0 W → B ≤ W.heap.size) (x : T) (m : Bool) (w : World) (h : Below B w0 w) :
    Calls Tryz.prog 101 #[.agg #[.string (bs x), .bool m]] w fun e W' => e = .returned (.bool (dotsT x)) ∧ Below w.heap.size w W' ∧ Below B w0 W' :=
  (dots_is x m w).mono fun _ _ ⟨h1, h2⟩ => ⟨h1, h2, h.trans (h2.mono (hB w h))⟩

def alikeP (a b : Pt) : Bool := !a.magic && !b.magic && (dotsP a == dotsP b)
def runP : Pt → List Pt → Nat
  | _, [] => 0
  | a, b :: r => if alikeP a b then runP b r + 1 else 0
def endP : List Pt → Nat
  | [] => 1
  | a :: r => runP a r + 1

set_option maxRecDepth 100000 in
set_option maxHeartbeats 2000000 in
theorem alike_is (x y : T) (m1 m2 : Bool) (w : World) :
    Calls Tryz.prog 73 #[.agg #[.string (bs x), .bool m1], .agg #[.string (bs y), .bool m2]] w fun e W' => e = .returned (.bool (alikeP ⟨x, m1⟩ ⟨y, m2⟩)) ∧ Below w.heap.size w W' := by
  have HD := Lib.hid (dots_held w w.heap.size (fun W h => h.size))
  have HE : Hid (alikeP ⟨x, m1⟩ ⟨y, m2⟩ = (!m1 && !m2 && (dotsT x == dotsT y))) := rfl
  obtain ⟨w2, hw2⟩ : ∃ w2, w2 = (w.alloc (.cells #[.string (bs x), .bool m1] 63)).alloc (.cells #[.string (bs y), .bool m2] 63) := ⟨_, rfl⟩
  have hb : Below w.heap.size w w2 := by rw [hw2]; exact ((Below.refl _ _).alloc (Nat.le_refl _) _).alloc (by rw [World.size_alloc]; omega) _
  have hs : w2.heap.size = w.heap.size + 2 := by rw [hw2, World.size_alloc, World.size_alloc]
  have g0 : w2.heap[w.heap.size]? = some (.cells #[.string (bs x), .bool m1] 63 (0, 0)) := by rw [hw2]; exact heap_alloc2_old _ _ _
  have g1 : w2.heap[w.heap.size + 1]? = some (.cells #[.string (bs y), .bool m2] 63 (0, 0)) := by rw [hw2]; exact heap_alloc2_new _ _ _
  have c0 : w2.cell? ⟨w.heap.size, 0, none⟩ = some (.string (bs x)) := by rw [Lib.cell_of_heap g0]; rfl
  have c1 : w2.cell? ⟨w.heap.size, 1, none⟩ = some (.bool m1) := by rw [Lib.cell_of_heap g0]; rfl
  have c2 : w2.cell? ⟨w.heap.size + 1, 0, none⟩ = some (.string (bs y)) := by rw [Lib.cell_of_heap g1]; rfl
  have c3 : w2.cell? ⟨w.heap.size + 1, 1, none⟩ = some (.bool m2) := by rw [Lib.cell_of_heap g1]; rfl
  have HB := Lib.hid hb
  have hl1 : w.heap.size < w2.heap.size := by omega
  have hl2 : w.heap.size + 1 < w2.heap.size := by omega
  clear hb hs g0 g1
  go_enter Tryz.func73, Tryz.ntmps73
  go_wp2_with fail
  rw [← hw2]
  clear hw2
  cases m1 with
  | true =>
    go_quiet (fail)
    go_wp2
    go_ret
    exact ⟨ret_bool HE.out.symm, below_drewN HB.out _⟩
  | false =>
    cases m2 with
    | true =>
      go_quiet (fail)
      go_wp2
      go_ret
      exact ⟨ret_bool HE.out.symm, below_drewN HB.out _⟩
    | false =>
      go_region_held3 (fun w' => w.heap.size < w'.heap.size ∧ w'.cell? ⟨w.heap.size, 0, none⟩ = some (.string (bs x)) ∧ w'.cell? ⟨w.heap.size, 1, none⟩ = some (.bool false) ∧ w.heap.size + 1 < w'.heap.size ∧ w'.cell? ⟨w.heap.size + 1, 0, none⟩ = some (.string (bs y)) ∧ w'.cell? ⟨w.heap.size + 1, 1, none⟩ = some (.bool false)) (first | go_keep | exact ⟨hl1, c0, c1, hl2, c2, c3⟩ | exact keep4 hb3 (by go_keep)) (first | (go_at_call 101; refine (HD.out _ _ _ (by first | assumption | exact HB.out.drew)).mono ?_; rintro e w3 ⟨rfl, hb3, hz3⟩))
      all_goals go_wp2
      all_goals go_ret
      all_goals exact ⟨ret_bool HE.out.symm, hz3⟩

/-- how far the parts go together -/
theorem run_step {p : Nat} {a b : Pt} {r : List Pt} : (alikeP a b = true → p + 1 + runP a (b :: r) = p + 2 + runP b r) ∧ (alikeP a b = false → runP a (b :: r) = 0) := by
  constructor
  · intro h1
    rw [runP, if_pos h1]; omega
  · intro h1
    rw [runP, if_neg (by rw [h1]; exact Bool.false_ne_true)]

theorem keepP {b o1 o2 : Nat} {u1 u2 u3 u4 : Value} {w W : World} (hb : Below w.heap.size w W) (h : b < w.heap.size ∧ w.cell? ⟨b, o1, none⟩ = some u1 ∧ w.cell? ⟨b, o1 + 1, none⟩ = some u2 ∧ w.cell? ⟨b, o2, none⟩ = some u3 ∧ w.cell? ⟨b, o2 + 1, none⟩ = some u4) :
    b < W.heap.size ∧ W.cell? ⟨b, o1, none⟩ = some u1 ∧ W.cell? ⟨b, o1 + 1, none⟩ = some u2 ∧ W.cell? ⟨b, o2, none⟩ = some u3 ∧ W.cell? ⟨b, o2 + 1, none⟩ = some u4 :=
  ⟨Nat.lt_of_lt_of_le h.1 hb.size, (hb.cell (p := ⟨b, o1, none⟩) h.1).trans h.2.1, (hb.cell (p := ⟨b, o1 + 1, none⟩) h.1).trans h.2.2.1, (hb.cell (p := ⟨b, o2, none⟩) h.1).trans h.2.2.2.1, (hb.cell (p := ⟨b, o2 + 1, none⟩) h.1).trans h.2.2.2.2⟩

set_option maxRecDepth 100000 in
set_option maxHeartbeats 4000000 in
theorem goEnd_is (A : Option Addr) (n c : Nat) (l : List Pt) (w : World) (hn : l.length = n) (h : PtIs w A c l) (h0 : 0 < n) (hm : n ≤ 1000001) :
    Calls Tryz.prog 54 #[.slice A n c] w fun e W' => e = .returned (.int .i64 (endP l : Nat)) ∧ Below w.heap.size w W' := by
  have HN := Lib.hid hn
  have HL := Lib.hid h
  obtain ⟨b0, o0, rfl, hb0, hcc⟩ := h.at_ (k := 0) (x := l[0]'(by omega)) (List.getElem?_eq_getElem _)
  clear hcc
  have HAl := Lib.hid alike_is
  have HStart : Hid (∃ a r, l.drop 0 = a :: r ∧ 1 + runP a r = endP l) := by
    cases l with
    | nil => rw [← hn] at h0; exact absurd h0 (Nat.lt_irrefl _)
    | cons a r => exact ⟨a, r, rfl, by show 1 + runP a r = runP a r + 1; omega⟩
  clear hn h
  go_enter Tryz.func54, Tryz.ntmps54
  go_wp2_with fail
  go_loopw [3] (fun i wr => ∃ p q : Nat, p < n ∧ q ≤ n ∧ i = .int .i64 (q : Int) ∧ Hid (q = p + 1) ∧ Hid (∃ a r, l.drop p = a :: r ∧ p + 1 + runP a r = endP l) ∧ Hid (Below w.heap.size w wr)) (fun i _ => n - (intOf i).toNat)
  case atStart => exact ⟨0, 1, h0, h0, rfl, rfl, (by obtain ⟨a, r, h1, h2⟩ := HStart.out; exact ⟨a, r, h1, by omega⟩), Below.refl _ _⟩
  case round =>
    obtain ⟨p, q, hp, hq, rfl, HQ, HR, HB⟩ := hrel
    go_upto_region 2 with fail
    go_cut [19] (fun v wx => ∃ (g : Bool) (W : World), v = .bool g ∧ W = wx ∧ Hid (g = true → p + 1 < n ∧ ∃ a r, l.drop (p + 1) = a :: r ∧ p + 2 + runP a r = endP l) ∧ Hid (g = false → p + 1 = endP l) ∧ Hid (Below w.heap.size w W))
    case first =>
      by_cases hltq : q < n
      · have hlt : p + 1 < n := by have := HQ.out; omega
        have hx : l[p]? = some (l[p]'(by rw [HN.out]; omega)) := List.getElem?_eq_getElem _
        have hy : l[p + 1]? = some (l[p + 1]'(by rw [HN.out]; omega)) := List.getElem?_eq_getElem _
        have HRs : Hid (∀ al : Bool, alikeP (l[p]'(by rw [HN.out]; omega)) (l[p + 1]'(by rw [HN.out]; omega)) = al → (al = true → p + 1 < n ∧ ∃ a r, l.drop (p + 1) = a :: r ∧ p + 2 + runP a r = endP l) ∧ (al = false → p + 1 = endP l)) := fun al hal => by
          obtain ⟨a, r, h1, h2⟩ := HR.out
          have e1 : l.drop p = l[p]'(by rw [HN.out]; omega) :: l.drop (p + 1) := List.drop_eq_getElem_cons _
          have e2 : l.drop (p + 1) = l[p + 1]'(by rw [HN.out]; omega) :: l.drop (p + 2) := List.drop_eq_getElem_cons _
          rw [e1] at h1
          obtain ⟨rfl, rfl⟩ := List.cons.inj h1
          obtain ⟨k1, k2⟩ := run_step (p := p) (a := l[p]'(by rw [HN.out]; omega)) (b := l[p + 1]'(by rw [HN.out]; omega)) (r := l.drop (p + 2))
          rw [e2] at h2
          rw [hal] at k1 k2
          exact ⟨fun h => ⟨hlt, _, _, e2, by rw [← h2]; have := k1 h; omega⟩, fun h => by have := k2 h; omega⟩
        obtain ⟨b1, o1, hbo1, hbl1, hc1⟩ := HL.out.at_ hx
        obtain ⟨rfl, rfl⟩ : b0 = b1 ∧ o0 = o1 := by simpa using hbo1
        obtain ⟨b2, o2, hbo2, hbl2, hc2⟩ := HL.out.at_ hy
        obtain ⟨rfl, rfl⟩ : b0 = b2 ∧ o0 = o2 := by simpa using hbo2
        obtain ⟨d0, d1⟩ := hc1 wr HB.out
        obtain ⟨d2, d3⟩ := hc2 wr HB.out
        have hbs : b0 < wr.heap.size := Nat.lt_of_lt_of_le hbl1 HB.out.size
        have q1 : IntKind.i64.wrap ((q : Int) - 1) = (p : Int) := by
          rw [show ((q : Int) - 1) = (p : Int) by have := HQ.out; omega]; exact IntWalk.i64_in _ (by omega)
        clear hc1 hc2 hbo1 hbo2 hx hy
        generalize (l[p]'(by rw [HN.out]; omega)) = x at *
        generalize (l[p + 1]'(by rw [HN.out]; omega)) = y at *
        rw [← HQ.out] at d2 d3
        clear hlt
        obtain ⟨xt, xm⟩ := x
        obtain ⟨yt, ym⟩ := y
        have HR2 := Lib.hid (HRs.out _ rfl)
        clear HRs
        go_region_held3 (fun w' => b0 < w'.heap.size ∧ w'.cell? ⟨b0, o0 + p * 2, none⟩ = some (.string (bs xt)) ∧ w'.cell? ⟨b0, o0 + p * 2 + 1, none⟩ = some (.bool xm) ∧ w'.cell? ⟨b0, o0 + q * 2, none⟩ = some (.string (bs yt)) ∧ w'.cell? ⟨b0, o0 + q * 2 + 1, none⟩ = some (.bool ym)) (first | go_keep | exact ⟨hbs, d0, d1, d2, d3⟩ | exact keepP hb3 (by go_keep)) (first | (go_at_call 73; refine (HAl.out _ _ _ _ _).mono ?_; rintro e w3 ⟨rfl, hb3⟩))
        all_goals go_wp2_with fail
        all_goals go_meet
        all_goals exact ⟨_, _, rfl, rfl, HR2.out.1, HR2.out.2, HB.out.drew.trans (hb3.mono HB.out.size)⟩
      · have HE : Hid (p + 1 = endP l) := by
          obtain ⟨a, r, h1, h2⟩ := HR.out
          have hl : (l.drop p).length = 1 := by rw [List.length_drop, HN.out]; have := HQ.out; omega
          rw [h1, List.length_cons] at hl
          obtain rfl : r = [] := List.eq_nil_of_length_eq_zero (by omega)
          exact h2
        go_quiet (fail)
        go_wp2_with fail
        go_meet
        exact ⟨false, _, rfl, rfl, (fun h => nomatch h), (fun _ => HE.out), below_drewN HB.out _⟩
    case rest =>
      obtain ⟨g, w3, rfl, rfl, HT, HF, HB3⟩ := hcut
      cases g with
      | true =>
        have hlt := (HT.out rfl).1
        go_wp2_with fail
        go_roundw
        case rel => exact ⟨p + 1, q + 1, hlt, by have := HQ.out; omega, by go_num, by show _ = _; have := HQ.out; omega, (HT.out rfl).2, HB3.out⟩
        case measure => simp [intOf]; have := HQ.out; omega
      | false =>
        have HQE := Lib.hid (HQ.out.trans (HF.out rfl))
        go_wp2_with fail
        go_ret
        exact ⟨by rw [← HQE.out]; rfl, HB3.out⟩

end Go.Proofs.YtgfpdaaofhanoaaGreatDoor.Wst
