/- What the program's Next answers: the logical line at a place. -/
import Derived.Deep.RegionHeld3
import Derived.Deep.DeepCutAuto
import Derived.Deep.QuietTactic
import Derived.Test.YtcopddepnphfmaaDoorLbare
import Derived.Test.YtcopddepnphfmaaDoorLeach
namespace Go.Proofs.YtcopddepnphfmaaDoor.Lnext
open Go.RowKit Go.Shelf Go.Proofs.YtcopddepnphfmaaDoor.Pure Go.Proofs.YtcopddepnphfmaaDoor.Ends Go.Proofs.YtcopddepnphfmaaDoor.Ln Go.Proofs.YtcopddepnphfmaaDoor.Lcut Go.Proofs.YtcopddepnphfmaaDoor.Lfn Go.Proofs.YtcopddepnphfmaaDoor.Lraw Go.Proofs.YtcopddepnphfmaaDoor.Ltext Go.Proofs.YtcopddepnphfmaaDoor.Leach Go.Proofs.YtcopddepnphfmaaDoor.Lbare
open Go.Proofs.YtcopddepnphfmaaDoor.Strs (SlIs slIs_of_own)

attribute [local go_sem] Oper.semAt_some

theorem cell_other (w : World) (a b : Addr) (h : a ≠ b) (v : Value) : (w.setCell a v).cell? b = w.cell? b := World.cell?_setCell_other _ _ _ _ h
theorem set3_far {W : World} {q : Nat} {a : Addr} (h : a.block ≠ q) (x y z : Value) : (((W.setCell ⟨q, 0, none⟩ x).setCell ⟨q, 1, none⟩ y).setCell ⟨q, 2, none⟩ z).cell? a = W.cell? a := by
  rw [cell_other _ _ _ (by intro e; exact h (by rw [← e])), cell_other _ _ _ (by intro e; exact h (by rw [← e])), cell_other _ _ _ (by intro e; exact h (by rw [← e]))]
theorem keepS {W : World} {q gl : Nat} {a0 a1 a2 a3 a4 : Value} (h : gl ≠ q) (hs : W.cell? ⟨gl, 0, none⟩ = some a0 ∧ W.cell? ⟨gl, 1, none⟩ = some a1 ∧ W.cell? ⟨gl, 2, none⟩ = some a2 ∧ W.cell? ⟨q + 1 + 1, 0, none⟩ = some a3 ∧ W.cell? ⟨q + 1, 0, none⟩ = some a4) (x y z : Value) :
    (((W.setCell ⟨q, 0, none⟩ x).setCell ⟨q, 1, none⟩ y).setCell ⟨q, 2, none⟩ z).drew.cell? ⟨gl, 0, none⟩ = some a0 ∧ (((W.setCell ⟨q, 0, none⟩ x).setCell ⟨q, 1, none⟩ y).setCell ⟨q, 2, none⟩ z).drew.cell? ⟨gl, 1, none⟩ = some a1 ∧ (((W.setCell ⟨q, 0, none⟩ x).setCell ⟨q, 1, none⟩ y).setCell ⟨q, 2, none⟩ z).drew.cell? ⟨gl, 2, none⟩ = some a2 ∧
      (((W.setCell ⟨q, 0, none⟩ x).setCell ⟨q, 1, none⟩ y).setCell ⟨q, 2, none⟩ z).drew.cell? ⟨q + 1 + 1, 0, none⟩ = some a3 ∧ (((W.setCell ⟨q, 0, none⟩ x).setCell ⟨q, 1, none⟩ y).setCell ⟨q, 2, none⟩ z).drew.cell? ⟨q + 1, 0, none⟩ = some a4 :=
  ⟨(set3_far h x y z).trans hs.1, (set3_far h x y z).trans hs.2.1, (set3_far h x y z).trans hs.2.2.1, (set3_far (by show q + 1 + 1 ≠ q; omega) x y z).trans hs.2.2.2.1, (set3_far (by show q + 1 ≠ q; omega) x y z).trans hs.2.2.2.2⟩
def lineV (t : List UInt8) (n : Int) (r : Bool) : Value := .agg #[.string (bs t), .int .i64 n, .bool r]
def noneV : Value := .agg #[.string .empty, .int .i64 0, .bool false]

theorem end3 {B b : Nat} {w W : World} (hb : B ≤ b) (h : Below B w W) (x y z : Value) : Below B w (((W.setCell ⟨b, 0, none⟩ x).setCell ⟨b, 1, none⟩ y).setCell ⟨b, 2, none⟩ z) :=
  ((h.setCell (p := ⟨b, 0, none⟩) hb x).setCell (p := ⟨b, 1, none⟩) hb y).setCell (p := ⟨b, 2, none⟩) hb z

set_option maxRecDepth 100000 in
set_option maxHeartbeats 1000000 in
/-- no line begins there -/
theorem next_no (s : ByteArray) (k n : Int) (w : World) (hk : k < 0 ∨ (s.size : Int) ≤ k) :
    Calls Tryd.prog 11 #[.string s, .int .i64 k, .int .i64 n] w fun e W' => e = .returned (.tuple #[noneV, .int .i64 0, .int .i64 0, .bool false]) ∧ Below w.heap.size w W' := by
  by_cases h0 : k < 0
  · have h1 : decide (k < 0) = true := by simpa using h0
    clear hk
    go_enter Tryd.func11, Tryd.ntmps11
    go_wp2
    exact bodyPost_ret (v := .tuple #[noneV, .int .i64 0, .int .i64 0, .bool false]) (by simp [results, Tryd.results11, go_sem, noneV]; rfl) rfl ⟨rfl, (Below.refl _ _).alloc (Nat.le_refl _) _⟩
  · have h2 : (s.size : Int) ≤ k := by omega
    have h1 : ¬ k < 0 := h0
    clear hk
    go_enter Tryd.func11, Tryd.ntmps11
    go_wp2
    exact bodyPost_ret (v := .tuple #[noneV, .int .i64 0, .int .i64 0, .bool false]) (by simp [results, Tryd.results11, go_sem, noneV]; rfl) rfl ⟨rfl, (Below.refl _ _).alloc (Nat.le_refl _) _⟩

/-- where the next line begins, behind so many -/
def nx (s : ByteArray) (k : Nat) (pre : List Ls) : Nat := (pre.getLast?.map (fun x => s.size - x.2.length)).getD k
theorem nx_snoc (s : ByteArray) (k : Nat) (pre : List Ls) (x : Ls) : nx s k (pre ++ [x]) = s.size - x.2.length := by unfold nx; rw [List.getLast?_concat]; rfl
def rawV (s : ByteArray) (x : Ls) : Value := .string (bs (cl s x.1))
/-- what is there between two rounds -/
def Mid (s : ByteArray) (k q : Nat) (W1 : World) (pre : List Ls) (W : World) : Prop :=
  ((∃ v, Boxed W (q + 1) 39 v ∧ W.ownsRow (q + 5) 9 1 v pre.length (pre.map (rawV s)) ∧ True) ∧ Boxed W (q + 1 + 1) 3 (.int .i64 (nx s k pre : Nat))) ∧ Below (q + 1) W1 W
theorem mid_own (s : ByteArray) (k q : Nat) (W1 : World) (B : Nat) (h1 : q + 1 ≤ W1.heap.size) (hB : q + 1 ≤ B) : OwnFrom B (Mid s k q W1) :=
  OwnFrom.and (OwnFrom.and (Own.from (holdsRow_own (q + 5) (q + 1) 39 9 1 (fun pre : List Ls => pre.length) (fun pre : List Ls => pre.map (rawV s)) (fun _ _ => True)) B) (Own.from (boxed_own (q + 1 + 1) 3 (fun pre : List Ls => Value.int .i64 (nx s k pre : Nat))) B)) (ownFrom_below h1 hB)
/-- behind the append: both boxes, the row, what has stayed -/
theorem appended2 {W w1 : World} {q : Nat} {v v' u : Value} {k m : Nat} {xs ys : List Value} {tmp : Obj}
    (hv : Boxed W (q + 1) 39 v) (hN : Boxed W (q + 1 + 1) 3 u) (hrow : W.ownsRow (q + 5) 9 1 v k xs) (hq : q + 5 ≤ W.heap.size)
    (hown' : w1.ownsRow (q + 5) 9 1 v' m ys) (hgrow : (W.alloc tmp).grownBy w1 v.ownBlock) :
    Boxed w1 (q + 1) 39 v ∧ Boxed (w1.setCell ⟨q + 1, 0, none⟩ v') (q + 1) 39 v' ∧ Boxed w1 (q + 1 + 1) 3 u ∧ Boxed (w1.setCell ⟨q + 1, 0, none⟩ v') (q + 1 + 1) 3 u ∧
      (∀ z, Boxed ((w1.setCell ⟨q + 1, 0, none⟩ v').setCell ⟨q + 1 + 1, 0, none⟩ z) (q + 1) 39 v' ∧ Boxed ((w1.setCell ⟨q + 1, 0, none⟩ v').setCell ⟨q + 1 + 1, 0, none⟩ z) (q + 1 + 1) 3 z ∧
        ((w1.setCell ⟨q + 1, 0, none⟩ v').setCell ⟨q + 1 + 1, 0, none⟩ z).ownsRow (q + 5) 9 1 v' m ys ∧ KeepsOthers W ((w1.setCell ⟨q + 1, 0, none⟩ v').setCell ⟨q + 1 + 1, 0, none⟩ z) ∧
        Below (q + 1) W ((w1.setCell ⟨q + 1, 0, none⟩ v').setCell ⟨q + 1 + 1, 0, none⟩ z) ∧ Kp (q + 1 + 1 + 1) W ((w1.setCell ⟨q + 1, 0, none⟩ v').setCell ⟨q + 1 + 1, 0, none⟩ z)) := by
  obtain ⟨h1, h2, _, h4, h5⟩ := hv.appended (by decide) (hrow.mono (show q + 1 ≤ q + 5 by omega)) (by omega) (Nat.le_refl _) (hown'.mono (show q + 1 ≤ q + 5 by omega)) hgrow
  have n1 : Boxed w1 (q + 1 + 1) 3 u := (hN.alloc tmp).kept hgrow (hN.not_row (by decide) hrow)
  have n2 : Boxed (w1.setCell ⟨q + 1, 0, none⟩ v') (q + 1 + 1) 3 u := n1.other (by omega) _
  have r1 := hown'.kept (grownBy_setCell' w1 (q + 1) v') (.inr (h1.not_row (by decide) hown').symm)
  refine ⟨h1, h2, n1, n2, fun z => ⟨h2.other (by omega) _, n2.set z, r1.kept (grownBy_setCell' _ (q + 1 + 1) z) (.inr (n2.not_row (by decide) r1).symm), h4.trans (KeepsOthers.setCell _ _ _), h5.setCell (p := ⟨q + 1 + 1, 0, none⟩) (by show q + 1 ≤ q + 1 + 1; omega) _, ?_⟩⟩
  have e1 : w1.heap[q + 1 + 1 + 1]? = W.heap[q + 1 + 1 + 1]? := by
    rw [hgrow.block (q + 1 + 1 + 1) (by simp; omega) (fun e => by have := (hrow.lt _ e.symm).1; omega)]
    exact Below.heap_alloc _ _ _ (by omega)
  show ((w1.setCell _ v').setCell _ z).heap[q + 1 + 1 + 1]? = _
  rw [Below.heap_setCell _ _ _ _ (by show q + 1 + 1 + 1 ≠ q + 1 + 1; omega), Below.heap_setCell _ _ _ _ (by show q + 1 + 1 + 1 ≠ q + 1; omega), e1]

def Stopped (s : ByteArray) (pre : List Ls) : Prop := ∃ P x, pre = P ++ [x] ∧ (∀ y ∈ P, odd (cl s y.1) = true) ∧ odd (cl s x.1) = false
theorem cl_mem {s : ByteArray} {l : List UInt8} (hl : l.length ≤ s.size) {x : Ls} (hx : x ∈ lines2 l) : cl s x.1 = x.1 :=
  cl_of (Nat.le_trans (lines2_suffix _ l (Nat.le_refl _) x hx).2.1 hl)
theorem stopped_is {s : ByteArray} {l : List UInt8} (hl : l.length ≤ s.size) {pre : List Ls} (h : pre <+: lines2 l) (hs : Stopped s pre) : pieces l = pre := by
  obtain ⟨P, x, rfl, hP, hx⟩ := hs
  have hm := fun y hy => cl_mem hl (h.subset (a := y) hy)
  rw [hm x (by simp)] at hx
  have hP2 : ∀ y ∈ P, odd y.1 = true := fun y hy => by have := hP y hy; rwa [hm y (by simp [hy])] at this
  obtain ⟨r, hr⟩ := h
  unfold pieces
  rw [← hr, List.append_assoc, List.singleton_append, upto_more P x r hP2, if_neg (by rw [hx]; decide)]
theorem done_is {s : ByteArray} {l : List UInt8} (hl : l.length ≤ s.size) {pre : List Ls} (h : pre = lines2 l) (hP : ∀ y ∈ pre, odd (cl s y.1) = true) : pieces l = pre := by
  have hP2 : ∀ y ∈ pre, odd y.1 = true := fun y hy => by have := hP y hy; rwa [cl_mem hl (by rw [← h]; exact hy)] at this
  unfold pieces; rw [← h]; exact upto_all pre hP2

theorem prefix_tab (x : ByteArray) (w : World) :
    Calls Tryd.prog 26 #[.string x, .string ⟨#[9]⟩] w fun e w' => e = .returned (.bool (isTab (bd x))) ∧ w = w' := by
  refine (Tryd.strings_HasPrefix x ⟨#[9]⟩ w).mono ?_
  rintro e w' ⟨rfl, h⟩
  refine ⟨ret_bool ?_, h.symm⟩
  show Lib.hasPrefix (bd x) [9] = _
  unfold Lib.hasPrefix isTab
  cases bd x with
  | nil => rfl
  | cons c r => rw [Bool.eq_iff_iff]; simp [List.isPrefixOf]; exact ⟨fun e => e.symm, fun e => e.symm⟩

def raws (ps : List Ls) : List ByteArray := ps.map (fun x => bs x.1)
theorem raws_bd (ps : List Ls) : (raws ps).map bd = ps.map (·.1) := by unfold raws; rw [List.map_map]; rfl
theorem raws_tab (ps : List Ls) : (raws ps).map (fun x => tab9 (bd x)) = (ps.map (·.1)).map tab9 := by unfold raws; rw [List.map_map, List.map_map]; rfl
/-- what lies in memory behind the loop -/
theorem tail_facts {s : ByteArray} {k q : Nat} {W1 W : World} {ps : List Ls} (hk : k < s.size) (hs : s.size ≤ 1000000) (hp : pieces (dropT s k) = ps) (h : Mid s k q W1 ps W) :
    ∃ g cap n, n + 1 = ps.length ∧ Boxed W (q + 1) 39 (.slice (some ⟨g, 0, none⟩) (n + 1) cap) ∧ SlIs W (some ⟨g, 0, none⟩) cap (raws ps) ∧ W.cell? ⟨g, 0, none⟩ = some (.string (bs (lineOf (dropT s k)))) ∧
      (raws ps)[0]? = some (bs (lineOf (dropT s k))) ∧ n + 1 ≤ 1000000 ∧ (∀ x ∈ raws ps, x.size ≤ 1000000) ∧ (∀ x ∈ (raws ps).dropLast, ∃ u, x.data.toList = u ++ [92]) ∧ nx s k ps = s.size - (leftL (dropT s k)).length := by
  have hne : dropT s k ≠ [] := by
    intro e
    have := dropT_len s k
    rw [e] at this
    simp at this
    omega
  have hps := pieces_ne hne
  rw [hp] at hps
  have hpc := pieces_cons hne
  rw [hp] at hpc
  have hcount := pieces_count (dropT s k)
  rw [hp, dropT_len] at hcount
  have hmem := pieces_mem (dropT s k)
  rw [hp, dropT_len] at hmem
  have hsz : ∀ x ∈ raws ps, x.size ≤ 1000000 := by
    intro x hx
    obtain ⟨y, hy, rfl⟩ := List.mem_map.1 hx
    have := (hmem y hy).2.1
    rw [size_bs]; omega
  have hrw : ps.map (rawV s) = (raws ps).map Value.string := by
    unfold raws
    rw [List.map_map]
    refine List.map_congr_left (fun x hx => ?_)
    have := (hmem x hx).2.1
    show Value.string (bs (cl s x.1)) = Value.string (bs x.1)
    rw [cl_of (by omega)]
  obtain ⟨n, hn⟩ : ∃ n, n + 1 = ps.length := ⟨ps.length - 1, by have := List.length_pos_iff.2 hps; omega⟩
  obtain ⟨⟨⟨v, hv, hrow, _⟩, _⟩, _⟩ := h
  rw [hrw, ← hn] at hrow
  obtain ⟨g, cap, rfl⟩ := ownsRow_succ hrow
  obtain ⟨A, c, he, hsl⟩ := slIs_of_own (xs := raws ps) (n := n + 1) (by unfold raws; rw [List.length_map]; exact hn.symm) hrow
  cases he
  have h0 : (raws ps)[0]? = some (bs (lineOf (dropT s k))) := by unfold raws; rw [hpc]; rfl
  obtain ⟨b', o', hA, _, hc⟩ := hsl.at_ h0
  cases hA
  refine ⟨g, cap, n, hn, hv, hsl, hc W (Below.refl _ _), h0, by omega, hsz, ?_, ?_⟩
  · intro x hx
    have hd : (raws ps).dropLast = ps.dropLast.map (fun x => bs x.1) := by unfold raws; rw [List.map_dropLast]
    rw [hd] at hx
    obtain ⟨y, hy, rfl⟩ := List.mem_map.1 hx
    have ho := upto_odd (lines2 (dropT s k)) y (by unfold pieces at hp; rw [hp]; exact hy)
    exact odd_pos ho
  · obtain ⟨P, x, hP⟩ := pieces_last hne
    rw [leftL_of P x hP]
    rw [hp] at hP
    rw [hP, nx_snoc]

theorem heap3 {W : World} {q D : Nat} {x y z : Value} {o : Obj} (hD : D ≠ q) (h : W.heap[D]? = some o) : (((W.setCell ⟨q, 0, none⟩ x).setCell ⟨q, 1, none⟩ y).setCell ⟨q, 2, none⟩ z).drew.heap[D]? = some o := by
  show (((W.setCell ⟨q, 0, none⟩ x).setCell ⟨q, 1, none⟩ y).setCell ⟨q, 2, none⟩ z).heap[D]? = some o
  rw [Below.heap_setCell _ _ _ _ hD, Below.heap_setCell _ _ _ _ hD, Below.heap_setCell _ _ _ _ hD]; exact h
theorem res_cells {W : World} {q D : Nat} {a b c : Value} {T : Nat} {o : Obj} (h : W.heap[q]? = some (.cells #[a, b, c] T (0, 0))) (hD : D ≠ q) (x y z : Value) :
    ((((W.setCell ⟨q, 0, none⟩ x).setCell ⟨q, 1, none⟩ y).setCell ⟨q, 2, none⟩ z).drew.putObj D o).cell? ⟨q, 0, none⟩ = some x ∧ ((((W.setCell ⟨q, 0, none⟩ x).setCell ⟨q, 1, none⟩ y).setCell ⟨q, 2, none⟩ z).drew.putObj D o).cell? ⟨q, 1, none⟩ = some y ∧
      ((((W.setCell ⟨q, 0, none⟩ x).setCell ⟨q, 1, none⟩ y).setCell ⟨q, 2, none⟩ z).drew.putObj D o).cell? ⟨q, 2, none⟩ = some z := by
  have e : ∀ k, ((((W.setCell ⟨q, 0, none⟩ x).setCell ⟨q, 1, none⟩ y).setCell ⟨q, 2, none⟩ z).drew.putObj D o).cell? ⟨q, k, none⟩ = (((W.setCell ⟨q, 0, none⟩ x).setCell ⟨q, 1, none⟩ y).setCell ⟨q, 2, none⟩ z).cell? ⟨q, k, none⟩ := fun k =>
    World.cell?_of_block (World.putObj_heap_other (w := (((W.setCell ⟨q, 0, none⟩ x).setCell ⟨q, 1, none⟩ y).setCell ⟨q, 2, none⟩ z).drew) (fun e => hD e.symm))
  have c0 : W.cell? ⟨q, 0, none⟩ = some a := by rw [Lib.cell_of_heap h]; rfl
  have c1 : W.cell? ⟨q, 1, none⟩ = some b := by rw [Lib.cell_of_heap h]; rfl
  have c2 : W.cell? ⟨q, 2, none⟩ = some c := by rw [Lib.cell_of_heap h]; rfl
  have d1 : (W.setCell ⟨q, 0, none⟩ x).cell? ⟨q, 1, none⟩ = some b := (cell_other _ _ _ (by simp) _).trans c1
  have d2 : ((W.setCell ⟨q, 0, none⟩ x).setCell ⟨q, 1, none⟩ y).cell? ⟨q, 2, none⟩ = some c := (cell_other _ _ _ (by simp) _).trans ((cell_other _ _ _ (by simp) _).trans c2)
  refine ⟨?_, ?_, ?_⟩
  · rw [e, cell_other _ _ _ (by simp), cell_other _ _ _ (by simp)]; exact World.cell?_setCell_same _ _ _ c0
  · rw [e, cell_other _ _ _ (by simp)]; exact World.cell?_setCell_same _ _ _ d1
  · rw [e]; exact World.cell?_setCell_same _ _ _ d2

/-- what lies there when the line's text is known -/
structure Rdy (q gl D : Nat) (W1 : World) (X : List UInt8) (n nxt : Int) (r : Bool) (sl : Value) (W : World) : Prop where
  p0 : W.cell? ⟨gl, 0, none⟩ = some (.string (bs X))
  p1 : W.cell? ⟨gl, 1, none⟩ = some (.int .i64 n)
  p2 : W.cell? ⟨gl, 2, none⟩ = some (.bool r)
  d1 : W.cell? ⟨q + 1 + 1, 0, none⟩ = some (.int .i64 nxt)
  d2 : W.cell? ⟨q + 1, 0, none⟩ = some sl
  res : W.heap[q]? = some (.cells #[.string ⟨#[]⟩, .int .i64 0, .bool false] 26 (0, 0))
  hB : Below (q + 1) W1 W
  hK : W.heap[D]? = some (.deferred (some []))
theorem rdy_mk {q gl D n5 : Nat} {W1 W W2 W3 : World} {X : List UInt8} {n nxt : Int} {r : Bool} {sl : Value} (hq : q + 5 ≤ W.heap.size) (hg : gl = W.heap.size) (hL : W2.heap[gl]? = some (.cells #[.string ⟨#[]⟩, .int .i64 n, .bool r] 26 (0, 0)))
    (hA : Below W.heap.size W W2) (hs : W2.heap.size = gl + 1) (hb3 : Below W2.heap.size W2 W3) (hB : Below (q + 1) W1 W) (hN : Boxed W (q + 1 + 1) 3 (.int .i64 nxt)) (hV : Boxed W (q + 1) 39 sl)
    (hR : W.heap[q]? = some (.cells #[.string ⟨#[]⟩, .int .i64 0, .bool false] 26 (0, 0))) (hK : W.heap[D]? = some (.deferred (some []))) (_ : n5 = 0) :
    (W3.cell? ⟨gl, 0, none⟩ = some (.string ⟨#[]⟩) ∧ W3.frozen? ⟨gl, 0, none⟩ = false) ∧ Rdy q gl D W1 X n nxt r sl (W3.setCell ⟨gl, 0, none⟩ (.string (bs X))) := by
  have hL3 : W3.heap[gl]? = some (.cells #[.string ⟨#[]⟩, .int .i64 n, .bool r] 26 (0, 0)) := by rw [hb3.block gl (by rw [hs]; omega)]; exact hL
  have hC3 : ∀ j, j < W.heap.size → W3.heap[j]? = W.heap[j]? := fun j hj => (hb3.block j (by rw [hs, hg]; omega)).trans (hA.block j hj)
  have hC4 : ∀ j, j < W.heap.size → (W3.setCell ⟨gl, 0, none⟩ (.string (bs X))).heap[j]? = W.heap[j]? := fun j hj => by rw [Below.heap_setCell _ _ _ _ (by show j ≠ gl; rw [hg]; omega)]; exact hC3 j hj
  have k0 : W3.cell? ⟨gl, 0, none⟩ = some (.string ⟨#[]⟩) := by rw [Lib.cell_of_heap hL3]; rfl
  have hB3 : Below (q + 1) W1 W3 := hB.trans ((hA.trans (hb3.mono (by rw [hs, hg]; omega))).mono (by omega : q + 1 ≤ W.heap.size))
  refine ⟨⟨k0, Lib.frozen_of_heap hL3 0⟩, ⟨World.cell?_setCell_same' _ _ _ (by rw [k0]; rfl), (cell_other _ _ _ (by simp) _).trans (by rw [Lib.cell_of_heap hL3]; rfl), (cell_other _ _ _ (by simp) _).trans (by rw [Lib.cell_of_heap hL3]; rfl),
    Boxed.cell (t := 3) ((hC4 _ (by omega)).trans hN), Boxed.cell (t := 39) ((hC4 _ (by omega)).trans hV), (hC4 _ (by omega)).trans hR, hB3.setCell (p := ⟨gl, 0, none⟩) (by show q + 1 ≤ gl; omega) _, (hC4 D (Array.getElem?_eq_some_iff.1 hK).1).trans hK⟩⟩

set_option maxRecDepth 100000 in
set_option maxHeartbeats 6000000 in
/-- the program's Next: the line that begins there -/
theorem next_is (s : ByteArray) (k : Nat) (n : Int) (w : World) (hk : k < s.size) (hs : s.size ≤ 1000000) (hn1 : -4611686018427387904 ≤ n) (hn2 : n ≤ 4611686018427387904) :
    Calls Tryd.prog 11 #[.string s, .int .i64 (k : Int), .int .i64 n] w fun e W' =>
      e = .returned (.tuple #[lineV (textL (dropT s k)) n (isTab (lineOf (dropT s k))), .int .i64 ((s.size - (leftL (dropT s k)).length : Nat) : Int), .int .i64 (n + (pieces (dropT s k)).length), .bool true]) ∧ Below w.heap.size w W' := by
  refine (callsIn_wide (n := 6)).1 ?_
  have f1 : Fence.wide.fn 11 := trivial
  have f2 : Fence.wide.fn 24 := trivial
  have f3 : Fence.wide.fn 40 := trivial
  have hk0 : ¬ ((k : Int) < 0) := by omega
  have hk1 : ¬ ((s.size : Int) ≤ (k : Int)) := by omega
  refine callsIn_of_wp_marks Tryd.func11 rfl f1 ?_ rfl
  simp only [Tryd.ntmps11, List.size_toArray, List.length_cons, List.length_nil, Nat.reduceAdd, Nat.reduceSub, Array.replicate_succ, Array.replicate_zero, List.push_toArray, List.append_toArray, List.nil_append, List.cons_append]
  refine wpIn_wide.2 ?_
  go_wp2_with fail
  refine (callsIn_wide (n := 4)).1 ((eachRaw_in 4 s (k : Int) _).mono ?_)
  rintro e w' ⟨rfl, rfl⟩
  go_wp2_with fail
  refine (wpIn_wide (n := 6)).1 ?_
  obtain ⟨W1, hW1⟩ : ∃ W1, W1 = w.alloc (.cells #[.string ⟨#[]⟩, .int .i64 0, .bool false] 26) := ⟨_, rfl⟩
  have hz1 : W1.heap.size = w.heap.size + 1 := by rw [hW1]; simp
  rw [← hW1]
  obtain ⟨W0, hW0⟩ : ∃ W0, W0 = ((((W1.alloc (.cells #[.slice none 0 0] 39)).alloc (.cells #[.int .i64 (k : Int)] 3)).alloc (.cells #[.string s] 9)).alloc (.cells #[.int .i64 (k : Int)] 3)) := ⟨_, rfl⟩
  rw [← hW0]
  have hz0 : W0.heap.size = w.heap.size + 1 + 1 + 1 + 1 + 1 := by rw [hW0]; simp [hz1]
  have bR : Boxed W0 (w.heap.size + 1) 39 (.slice none 0 0) := by
    rw [hW0]
    have := Boxed.new W1 39 (.slice none 0 0)
    rw [hz1] at this
    exact ((this.alloc _).alloc _).alloc _
  have bN : Boxed W0 (w.heap.size + 1 + 1) 3 (.int .i64 (k : Int)) := by
    rw [hW0]
    have := Boxed.new (W1.alloc (.cells #[.slice none 0 0] 39)) 3 (.int .i64 (k : Int))
    rw [World.size_alloc, hz1] at this
    exact (this.alloc _).alloc _
  have bT : Boxed W0 (w.heap.size + 1 + 1 + 1) 9 (.string s) := by
    rw [hW0]
    have := Boxed.new ((W1.alloc (.cells #[.slice none 0 0] 39)).alloc (.cells #[.int .i64 (k : Int)] 3)) 9 (.string s)
    rw [World.size_alloc, World.size_alloc, hz1] at this
    exact this.alloc _
  have bF : Boxed W0 (w.heap.size + 1 + 1 + 1 + 1) 3 (.int .i64 (k : Int)) := by
    rw [hW0]
    have := Boxed.new (((W1.alloc (.cells #[.slice none 0 0] 39)).alloc (.cells #[.int .i64 (k : Int)] 3)).alloc (.cells #[.string s] 9)) 3 (.int .i64 (k : Int))
    rw [World.size_alloc, World.size_alloc, World.size_alloc, hz1] at this
    exact this
  have hB0 : Below (w.heap.size + 1) W1 W0 := by
    rw [hW0]
    exact ((((Below.refl _ W1).alloc (by omega) _).alloc (by simp; omega) _).alloc (by simp; omega) _).alloc (by simp; omega) _
  clear hW0
  obtain ⟨i0, hi, hzz0, hzz1, hzz2⟩ := info_parts Strs.infoString
  refine wpIn_rangeFunc_ownG rfl (by omega) (gf := 40) (lb := #[.pointer (some ⟨w.heap.size + 1 + 1 + 1 + 1, 0, none⟩), .pointer (some ⟨w.heap.size + 1 + 1 + 1, 0, none⟩)]) rfl f3 (enters_of Tryd.func40 (by kernel_rfl) rfl)
    (raws_stops _ (by omega) (w.heap.size + 1 + 1 + 1 + 1) (w.heap.size + 1 + 1 + 1) k s (by omega) (Nat.le_of_lt hk) W0 bF.lt bF.cell bT) (fun h1 h2 => h2.trans h1) ?kb (Below.refl _ _) (fun _ => rfl)
    (fun pre W => Mid s k w.heap.size W0 pre W ∧ ∀ y ∈ pre, odd (cl s y.1) = true)
    (fun c pre W => Mid s k w.heap.size W0 pre W ∧ (c = .exit 0 ∧ Stopped s pre))
    (OwnFrom.and (mid_own s k w.heap.size W0 _ (by omega) (by omega)) (ownFrom_pure _ _))
    (fun c => OwnFrom.and (mid_own s k w.heap.size W0 _ (by omega) (by omega)) (ownFrom_pure _ (fun pre => c = .exit 0 ∧ Stopped s pre)))
    ⟨⟨⟨⟨_, bR, World.ownsRow_nil _ _ _ _, trivial⟩, bN⟩, Below.refl _ _⟩, fun y hy => absurd hy (by simp)⟩
    (fun x => { tmps := #[.string s, .int .i64 (k : Int), .int .i64 n, undef, undef, undef, .pointer (some ⟨w.heap.size, 0, none⟩), .int .i64 0, .int .i64 0, .bool false, .pointer (some ⟨w.heap.size + 1, 0, none⟩), .pointer (some ⟨w.heap.size + 1 + 1, 0, none⟩),
      .string (bs (cl s x.1)), .int .i64 ((s.size - x.2.length : Nat) : Int), undef, .int .i64 (k : Int), .bool false, .bool false, .int .i64 (k : Int), .string s, .int .i64 (s.size : Int), .bool false, .bool false, undef, .int .i64 (k : Int), .string s, .int .i64 (k : Int),
      .func (.func 40) #[] #[.pointer (some ⟨w.heap.size + 1 + 1 + 1 + 1, 0, none⟩), .pointer (some ⟨w.heap.size + 1 + 1 + 1, 0, none⟩)], .string (bs (cl s x.1)), .int .i64 ((s.size - x.2.length : Nat) : Int),
      undef, undef, undef, undef, undef, undef, undef, undef, undef, undef, undef, undef, undef, undef, undef, undef, undef, undef, undef, undef, undef, undef, undef, undef, undef, undef, undef, undef, undef], defers := [] }) ?assign ?body ?done ?stop
  case kb =>
    intro W l o o' hl _ _ _
    exact World.putObj_heap_other (by have := bT.lt; omega)
  case assign =>
    intro l x W K hK
    unfold encs
    gi_wp2
    exact hK
  case body =>
    rintro l pre x W ⟨⟨⟨⟨v, hv, hrow, _⟩, hN⟩, hB⟩, hodd⟩ hlt
    have hp : pre.length ≤ 1000000 := by
      have h1 := lines2_count _ (dropT s k) (Nat.le_refl _)
      rw [dropT_len] at h1
      omega
    have hWs : w.heap.size + 5 ≤ W.heap.size := by have := hB.size; omega
    have hGo := Lib.hid (fun W => goes_is (bs (cl s x.1)) W (by rw [size_bs]; have := cl_len s x.1; omega))
    have hcd : (bs (cl s x.1)).data.toList = cl s x.1 := rfl
    rw [hcd] at hGo
    have HO := Lib.hid hodd
    have HNX := Lib.hid (nx_snoc s k pre x)
    have HV : Hid (pre.map (rawV s) ++ [.string (bs (cl s x.1))] = (pre ++ [x]).map (rawV s)) := by show _ = _; rw [List.map_append]; rfl
    clear hcd hodd hlt
    generalize s.size - x.2.length = m at *
    obtain ⟨o, ho⟩ : ∃ o, odd (cl s x.1) = o := ⟨_, rfl⟩
    have HOX := Lib.hid ho
    rw [ho] at hGo
    clear ho
    generalize bs (cl s x.1) = y at *
    have hc := hv.cell
    have hn' := hN
    have HN := Lib.hid hN
    have HBW := Lib.hid hB
    clear hN hn' hB
    gi_wp2_with (gi_at_builtin; refine wpListIn_append_own _ rfl _ _ 39 rfl (w.heap.size + 5) 9 i0 (.string .empty) 1 16 Tryd.underlying39 hi hzz0 hzz1 hzz2 rfl (by decide) _ _ _ rfl (hrow.alloc _) ⟨W.heap.size, 0, none⟩ 1 1 [.string y] rfl rfl (cell_one_new _ _ _) (by simp [Value.oneCell']) (by unfold maxLen; omega) (by omega) (by simp; omega) ?_; intro v' w1 hown' hgrow _; obtain ⟨g', cap', rfl⟩ := ownsRow_succ hown'; obtain ⟨hv1, hv2, hN1, hN2, hAll⟩ := appended2 hv HN.out hrow (by omega) hown' hgrow; have hc1 := hv1.cell; have hf1 := hv1.frozen; have hc2 := hN2.cell; have hf2 := hN2.frozen; have HA := Lib.hid hAll; clear hAll hown' hgrow hv1 hv2 hN1 hN2)
    refine ⟨trivial, (CallsIn.inRound l (callsIn_wide.2 (hGo.out _))).mono ?_⟩
    rintro e w' ⟨rfl, rfl⟩
    obtain ⟨a1, a2, a3, a4, a5, a6⟩ := HA.out (.int .i64 (m : Int))
    have HE : Hid (Mid s k w.heap.size W0 (pre ++ [x]) ((w1.setCell ⟨w.heap.size + 1, 0, none⟩ (.slice (some ⟨g', 0, none⟩) (pre.length + 1) cap')).setCell ⟨w.heap.size + 1 + 1, 0, none⟩ (.int .i64 (m : Int)))) := by
      refine ⟨⟨⟨_, a1, ?_, trivial⟩, ?_⟩, HBW.out.trans a5⟩
      · rw [List.length_append, ← HV.out]; exact a3
      · rw [HNX.out]; exact a2
    have HK := Lib.hid (a4.from W0.heap.size)
    have HP := Lib.hid a6
    clear a1 a2 a3 a4 a5 a6 HA hc1 hf1 hc2 hf2
    cases o with
    | true =>
      gi_wp2
      exact ⟨HK.out, HP.out, HE.out, fun z hz => (List.mem_append.1 hz).elim (HO.out z) (fun h => by rw [List.mem_singleton.1 h]; exact HOX.out)⟩
    | false =>
      gi_wp2
      exact ⟨HK.out, HE.out, rfl, pre, x, rfl, HO.out, HOX.out⟩
  case done =>
    rintro D ys W hD hys ⟨hmid, hodd⟩ hK
    have hp := done_is (s := s) (by rw [dropT_len]; omega) hys hodd
    clear hodd hys
    obtain ⟨g, cap, m, hm, hv, hsl, hc0, hr0, hm1, hrs, hro, hnx⟩ := tail_facts hk hs hp hmid
    have hres : W.heap[w.heap.size]? = some (.cells #[.string ⟨#[]⟩, .int .i64 0, .bool false] 26 (0, 0)) := by
      rw [hmid.2.block w.heap.size (by omega), hB0.block w.heap.size (by omega), hW1]
      exact World.alloc_heap_new w _
    have HB := Lib.hid (Below.trans hB0 hmid.2)
    have HN := Lib.hid hmid.1.2
    have HR := Lib.hid hres
    obtain ⟨rt, hrt⟩ : ∃ rt, isTab (bd (bs (lineOf (dropT s k)))) = rt := ⟨_, rfl⟩
    have HPX := Lib.hid (fun W => prefix_tab (bs (lineOf (dropT s k))) W)
    rw [hrt] at HPX
    have HRT := Lib.hid hrt
    have HV := Lib.hid hv
    have hcv := hv.cell
    have HSL := Lib.hid hsl
    have HRS := Lib.hid hrs
    have HRO := Lib.hid hro
    have HK := Lib.hid hK
    have HDs : Hid (w.heap.size + 5 ≤ D) := by show _ ≤ _; omega
    have HP := Lib.hid hp
    have HM := Lib.hid hm
    have HNX := Lib.hid hnx
    have hWs : w.heap.size + 5 ≤ W.heap.size := by have := hmid.2.size; omega
    clear hmid hv hsl hrs hro hK hp hm hnx hr0 hres hD bR bN bT bF hB0 hrt
    go_wp2_with fail
    refine (HPX.out _).mono ?_
    rintro e w' ⟨rfl, rfl⟩
    go_upto_region 11 with fail
    obtain ⟨W2, hW2⟩ : ∃ W2, W2 = W.alloc (.cells #[.string ⟨#[]⟩, .int .i64 n, .bool rt] 26) := ⟨_, rfl⟩
    rw [← hW2]
    obtain ⟨gl, hgl⟩ : ∃ gl, gl = W.heap.size := ⟨_, rfl⟩
    rw [← hgl]
    have hL : W2.heap[gl]? = some (.cells #[.string ⟨#[]⟩, .int .i64 n, .bool rt] 26 (0, 0)) := by rw [hW2, hgl]; exact World.alloc_heap_new W _
    have l0 : W2.cell? ⟨gl, 0, none⟩ = some (.string ⟨#[]⟩) := by rw [Lib.cell_of_heap hL]; rfl
    have l2 : W2.cell? ⟨gl, 2, none⟩ = some (.bool rt) := by rw [Lib.cell_of_heap hL]; rfl
    have hcv2 : W2.cell? ⟨w.heap.size + 1, 0, none⟩ = some (.slice (some ⟨g, 0, none⟩) (m + 1) cap) := by rw [hW2]; exact (HV.out.alloc _).cell
    have HA2 : Hid (Below W.heap.size W W2) := by show Below _ _ _; rw [hW2]; exact (Below.refl _ _).alloc (Nat.le_refl _) _
    have HL := Lib.hid hL
    have hgls : w.heap.size + 5 ≤ gl := by omega
    have HS2 : Hid (W2.heap.size = gl + 1) := by show _ = _; rw [hW2, hgl, World.size_alloc]
    have HG := Lib.hid hgl
    clear hW2 hL hgl hcv hc0
    have HX : Hid (textL (dropT s k) = if rt then Lib.join ((raws ys).map (fun x => tab9 (bd x))) [10] else bare (textR false ((raws ys).map bd))) := by
      show _ = _
      have hrt : isTab (lineOf (dropT s k)) = rt := HRT.out
      have hne : dropT s k ≠ [] := by
        intro e
        have := dropT_len s k
        rw [e] at this
        simp at this
        omega
      unfold textL
      rw [hrt, HP.out, raws_bd, raws_tab]
      cases rt with
      | false => rfl
      | true =>
        have hpc := pieces_cons hne
        rw [HP.out] at hpc
        rw [hpc, if_pos rfl, if_pos rfl, List.map_cons, recipe_is _ _ hrt]
    have HRD : Hid (∀ (W3 : World), Below W2.heap.size W2 W3 → (W3.cell? ⟨gl, 0, none⟩ = some (.string ⟨#[]⟩) ∧ W3.frozen? ⟨gl, 0, none⟩ = false) ∧ Rdy w.heap.size gl D W1 (textL (dropT s k)) n (nx s k ys : Nat) rt (.slice (some ⟨g, 0, none⟩) (m + 1) cap) (W3.setCell ⟨gl, 0, none⟩ (.string (bs (textL (dropT s k)))))) :=
      fun W3 hb3 => rdy_mk (n5 := 0) hWs HG.out HL.out HA2.out HS2.out hb3 HB.out HN.out HV.out HR.out HK.out rfl
    rw [HX.out] at HRD
    obtain ⟨TX, hTX⟩ : ∃ TX, TX = textL (dropT s k) := ⟨_, rfl⟩
    have HTX := Lib.hid hTX
    rw [← hTX] at HX
    clear hTX
    go_upto_if 45 with fail
    go_cut [45] from 46 to 52 (fun b wx => b = .bool rt ∧ Hid (Rdy w.heap.size gl D W1 TX n (nx s k ys : Nat) rt (.slice (some ⟨g, 0, none⟩) (m + 1) cap) wx))
    case first =>
      cases rt with
      | true =>
        have HT := Lib.hid (recipe_text (some ⟨g, 0, none⟩) (m + 1) cap (raws ys) W2 (by unfold raws; rw [List.length_map]; exact HM.out.symm) (HSL.out.below HA2.out) hm1 HRS.out)
        rw [if_pos rfl] at HX HRD
        rw [← HX.out] at HT HRD
        go_wp2_with fail
        refine (HT.out).mono ?_
        rintro e W3 ⟨rfl, hb3⟩
        obtain ⟨⟨k0, f0⟩, hrd⟩ := HRD.out W3 hb3
        have HQ := Lib.hid hrd
        clear hrd hb3 HT
        go_wp2
        go_meet
        case rel => exact ⟨rfl, HQ.out⟩
      | false =>
        have HT := Lib.hid (plain_text (some ⟨g, 0, none⟩) (m + 1) cap (raws ys) W2 (by unfold raws; rw [List.length_map]; exact HM.out.symm) (by omega) (HSL.out.below HA2.out) hm1 HRS.out HRO.out)
        rw [if_neg (by decide)] at HX HRD
        have hlen : (textR false ((raws ys).map bd)).length ≤ 1099511627776 := by
          have h1 := textR_len 1000000 ((raws ys).map bd) (fun t ht => by
            obtain ⟨x, hx, rfl⟩ := List.mem_map.1 ht
            have := HRS.out x hx
            rw [Lib.size_eq] at this
            exact this)
          have h2 : ((raws ys).map bd).length ≤ 1000000 := by
            have := HM.out
            unfold raws
            rw [List.length_map, List.length_map]
            omega
          have h3 := Nat.mul_le_mul h2 (Nat.le_refl (1000000 + 1))
          omega
        have HBR := Lib.hid (fun W => bare_is (bs (textR false ((raws ys).map bd))) W (by rw [size_bs]; exact hlen))
        have hbd : (bs (textR false ((raws ys).map bd))).data.toList = textR false ((raws ys).map bd) := rfl
        rw [hbd] at HBR
        rw [← HX.out] at HBR HRD
        clear hlen hbd
        go_wp2_with fail
        refine (HT.out).mono ?_
        rintro e W3 ⟨rfl, hb3⟩
        have HB3 := Lib.hid hb3
        clear hb3 HT
        go_wp2_with fail
        refine (HBR.out _).mono ?_
        rintro e W4 ⟨rfl, hb4⟩
        obtain ⟨⟨k0, f0⟩, hrd⟩ := HRD.out W4 (HB3.out.trans (hb4.mono HB3.out.size))
        have HQ := Lib.hid hrd
        clear hrd hb4 HBR
        go_wp2
        go_meet
        case rel => exact ⟨rfl, HQ.out⟩
    case rest =>
      obtain ⟨rfl, hrd⟩ := hcut
      obtain ⟨p0, p1, p2, d1, d2, res, hBc, hKc⟩ := hrd.out
      have r0 : wc.cell? ⟨w.heap.size, 0, none⟩ = some (.string ⟨#[]⟩) := by rw [Lib.cell_of_heap res]; rfl
      have r1 : wc.cell? ⟨w.heap.size, 1, none⟩ = some (.int .i64 0) := by rw [Lib.cell_of_heap res]; rfl
      have r2 : wc.cell? ⟨w.heap.size, 2, none⟩ = some (.bool false) := by rw [Lib.cell_of_heap res]; rfl
      have g0 : wc.frozen? ⟨w.heap.size, 0, none⟩ = false := Lib.frozen_of_heap res 0
      have g1 : wc.frozen? ⟨w.heap.size, 1, none⟩ = false := Lib.frozen_of_heap res 1
      have g2 : wc.frozen? ⟨w.heap.size, 2, none⟩ = false := Lib.frozen_of_heap res 2
      have HLT := Lib.hid (fun W => later_room n ((m : Int) + 1) W hn1 hn2 (by omega) (by omega))
      have HNB : Hid (Below w.heap.size w wc) := by
        show Below _ _ _
        have h1 : Below w.heap.size w W1 := by rw [hW1]; exact (Below.refl _ _).alloc (Nat.le_refl _) _
        exact h1.trans (hBc.mono (Nat.le_succ _))
      have HKc := Lib.hid hKc
      have HRes := Lib.hid res
      have HNX2 := Lib.hid (congrArg (fun x : Nat => (x : Int)) HNX.out)
      clear hrd hBc hKc res l0 l2 hcv2
      have HXX : Hid (bs TX = bs (textL (dropT s k))) := by show _ = _; rw [HTX.out]
      generalize ((nx s k ys : Nat) : Int) = nxt at *
      generalize bs TX = X at *
      go_wp2_with fail
      go_region_held3 (fun w' => w'.cell? ⟨gl, 0, none⟩ = some (.string X) ∧ w'.cell? ⟨gl, 1, none⟩ = some (.int .i64 n) ∧ w'.cell? ⟨gl, 2, none⟩ = some (.bool rt) ∧ w'.cell? ⟨w.heap.size + 1 + 1, 0, none⟩ = some (.int .i64 nxt) ∧ w'.cell? ⟨w.heap.size + 1, 0, none⟩ = some (.slice (some ⟨g, 0, none⟩) (m + 1) cap)) (first | exact keepS (by omega) ⟨p0, p1, p2, d1, d2⟩ _ _ _ | go_keep) (first | (go_at_call 29; refine (HLT.out _).mono ?_; rintro e w1 ⟨rfl, rfl⟩))
      go_wp2
      have hne : D ≠ w.heap.size := by have := HDs.out; omega
      refine ⟨by simp, .inl ⟨_, _, rfl, run_takeDeferred (heap3 hne HKc.out), ?_⟩⟩
      obtain ⟨v0, v1, v2⟩ := res_cells (o := .deferred none) HRes.out hne (.string X) (.int .i64 n) (.bool rt)
      refine ⟨.tuple #[.agg #[.string X, .int .i64 n, .bool rt], .int .i64 nxt, .int .i64 (n + ((m : Int) + 1)), .bool true], by simp [results, Tryd.results11, go_sem, v0, v1, v2], ?_, ?_⟩
      · have h3 : isTab (lineOf (dropT s k)) = rt := HRT.out
        rw [lineV, ← HXX.out, h3, ← HNX2.out, HP.out, ← HM.out]
        rfl
      · exact (((end3 (Nat.le_refl _) HNB.out _ _ _).drew)).trans (belowK_b (w := w) (Nat.le_refl _) _ D _ _ (by have := HDs.out; omega) (heap3 hne HKc.out) rfl rfl)
  case stop =>
    rintro D c ys W hD hSp ⟨hmid, rfl, hst⟩ hK
    have hp := stopped_is (s := s) (by rw [dropT_len]; omega) hSp hst
    clear hSp hst
    refine wpIn_wide.2 ?_
    obtain ⟨g, cap, m, hm, hv, hsl, hc0, hr0, hm1, hrs, hro, hnx⟩ := tail_facts hk hs hp hmid
    have hres : W.heap[w.heap.size]? = some (.cells #[.string ⟨#[]⟩, .int .i64 0, .bool false] 26 (0, 0)) := by
      rw [hmid.2.block w.heap.size (by omega), hB0.block w.heap.size (by omega), hW1]
      exact World.alloc_heap_new w _
    have HB := Lib.hid (Below.trans hB0 hmid.2)
    have HN := Lib.hid hmid.1.2
    have HR := Lib.hid hres
    obtain ⟨rt, hrt⟩ : ∃ rt, isTab (bd (bs (lineOf (dropT s k)))) = rt := ⟨_, rfl⟩
    have HPX := Lib.hid (fun W => prefix_tab (bs (lineOf (dropT s k))) W)
    rw [hrt] at HPX
    have HRT := Lib.hid hrt
    have HV := Lib.hid hv
    have hcv := hv.cell
    have HSL := Lib.hid hsl
    have HRS := Lib.hid hrs
    have HRO := Lib.hid hro
    have HK := Lib.hid hK
    have HDs : Hid (w.heap.size + 5 ≤ D) := by show _ ≤ _; omega
    have HP := Lib.hid hp
    have HM := Lib.hid hm
    have HNX := Lib.hid hnx
    have hWs : w.heap.size + 5 ≤ W.heap.size := by have := hmid.2.size; omega
    clear hmid hv hsl hrs hro hK hp hm hnx hr0 hres hD bR bN bT bF hB0 hrt
    go_wp2_with fail
    refine (HPX.out _).mono ?_
    rintro e w' ⟨rfl, rfl⟩
    go_upto_region 11 with fail
    obtain ⟨W2, hW2⟩ : ∃ W2, W2 = W.alloc (.cells #[.string ⟨#[]⟩, .int .i64 n, .bool rt] 26) := ⟨_, rfl⟩
    rw [← hW2]
    obtain ⟨gl, hgl⟩ : ∃ gl, gl = W.heap.size := ⟨_, rfl⟩
    rw [← hgl]
    have hL : W2.heap[gl]? = some (.cells #[.string ⟨#[]⟩, .int .i64 n, .bool rt] 26 (0, 0)) := by rw [hW2, hgl]; exact World.alloc_heap_new W _
    have l0 : W2.cell? ⟨gl, 0, none⟩ = some (.string ⟨#[]⟩) := by rw [Lib.cell_of_heap hL]; rfl
    have l2 : W2.cell? ⟨gl, 2, none⟩ = some (.bool rt) := by rw [Lib.cell_of_heap hL]; rfl
    have hcv2 : W2.cell? ⟨w.heap.size + 1, 0, none⟩ = some (.slice (some ⟨g, 0, none⟩) (m + 1) cap) := by rw [hW2]; exact (HV.out.alloc _).cell
    have HA2 : Hid (Below W.heap.size W W2) := by show Below _ _ _; rw [hW2]; exact (Below.refl _ _).alloc (Nat.le_refl _) _
    have HL := Lib.hid hL
    have hgls : w.heap.size + 5 ≤ gl := by omega
    have HS2 : Hid (W2.heap.size = gl + 1) := by show _ = _; rw [hW2, hgl, World.size_alloc]
    have HG := Lib.hid hgl
    clear hW2 hL hgl hcv hc0
    have HX : Hid (textL (dropT s k) = if rt then Lib.join ((raws ys).map (fun x => tab9 (bd x))) [10] else bare (textR false ((raws ys).map bd))) := by
      show _ = _
      have hrt : isTab (lineOf (dropT s k)) = rt := HRT.out
      have hne : dropT s k ≠ [] := by
        intro e
        have := dropT_len s k
        rw [e] at this
        simp at this
        omega
      unfold textL
      rw [hrt, HP.out, raws_bd, raws_tab]
      cases rt with
      | false => rfl
      | true =>
        have hpc := pieces_cons hne
        rw [HP.out] at hpc
        rw [hpc, if_pos rfl, if_pos rfl, List.map_cons, recipe_is _ _ hrt]
    have HRD : Hid (∀ (W3 : World), Below W2.heap.size W2 W3 → (W3.cell? ⟨gl, 0, none⟩ = some (.string ⟨#[]⟩) ∧ W3.frozen? ⟨gl, 0, none⟩ = false) ∧ Rdy w.heap.size gl D W1 (textL (dropT s k)) n (nx s k ys : Nat) rt (.slice (some ⟨g, 0, none⟩) (m + 1) cap) (W3.setCell ⟨gl, 0, none⟩ (.string (bs (textL (dropT s k)))))) :=
      fun W3 hb3 => rdy_mk (n5 := 0) hWs HG.out HL.out HA2.out HS2.out hb3 HB.out HN.out HV.out HR.out HK.out rfl
    rw [HX.out] at HRD
    obtain ⟨TX, hTX⟩ : ∃ TX, TX = textL (dropT s k) := ⟨_, rfl⟩
    have HTX := Lib.hid hTX
    rw [← hTX] at HX
    clear hTX
    go_upto_if 45 with fail
    go_cut [45] from 46 to 52 (fun b wx => b = .bool rt ∧ Hid (Rdy w.heap.size gl D W1 TX n (nx s k ys : Nat) rt (.slice (some ⟨g, 0, none⟩) (m + 1) cap) wx))
    case first =>
      cases rt with
      | true =>
        have HT := Lib.hid (recipe_text (some ⟨g, 0, none⟩) (m + 1) cap (raws ys) W2 (by unfold raws; rw [List.length_map]; exact HM.out.symm) (HSL.out.below HA2.out) hm1 HRS.out)
        rw [if_pos rfl] at HX HRD
        rw [← HX.out] at HT HRD
        go_wp2_with fail
        refine (HT.out).mono ?_
        rintro e W3 ⟨rfl, hb3⟩
        obtain ⟨⟨k0, f0⟩, hrd⟩ := HRD.out W3 hb3
        have HQ := Lib.hid hrd
        clear hrd hb3 HT
        go_wp2
        go_meet
        case rel => exact ⟨rfl, HQ.out⟩
      | false =>
        have HT := Lib.hid (plain_text (some ⟨g, 0, none⟩) (m + 1) cap (raws ys) W2 (by unfold raws; rw [List.length_map]; exact HM.out.symm) (by omega) (HSL.out.below HA2.out) hm1 HRS.out HRO.out)
        rw [if_neg (by decide)] at HX HRD
        have hlen : (textR false ((raws ys).map bd)).length ≤ 1099511627776 := by
          have h1 := textR_len 1000000 ((raws ys).map bd) (fun t ht => by
            obtain ⟨x, hx, rfl⟩ := List.mem_map.1 ht
            have := HRS.out x hx
            rw [Lib.size_eq] at this
            exact this)
          have h2 : ((raws ys).map bd).length ≤ 1000000 := by
            have := HM.out
            unfold raws
            rw [List.length_map, List.length_map]
            omega
          have h3 := Nat.mul_le_mul h2 (Nat.le_refl (1000000 + 1))
          omega
        have HBR := Lib.hid (fun W => bare_is (bs (textR false ((raws ys).map bd))) W (by rw [size_bs]; exact hlen))
        have hbd : (bs (textR false ((raws ys).map bd))).data.toList = textR false ((raws ys).map bd) := rfl
        rw [hbd] at HBR
        rw [← HX.out] at HBR HRD
        clear hlen hbd
        go_wp2_with fail
        refine (HT.out).mono ?_
        rintro e W3 ⟨rfl, hb3⟩
        have HB3 := Lib.hid hb3
        clear hb3 HT
        go_wp2_with fail
        refine (HBR.out _).mono ?_
        rintro e W4 ⟨rfl, hb4⟩
        obtain ⟨⟨k0, f0⟩, hrd⟩ := HRD.out W4 (HB3.out.trans (hb4.mono HB3.out.size))
        have HQ := Lib.hid hrd
        clear hrd hb4 HBR
        go_wp2
        go_meet
        case rel => exact ⟨rfl, HQ.out⟩
    case rest =>
      obtain ⟨rfl, hrd⟩ := hcut
      obtain ⟨p0, p1, p2, d1, d2, res, hBc, hKc⟩ := hrd.out
      have r0 : wc.cell? ⟨w.heap.size, 0, none⟩ = some (.string ⟨#[]⟩) := by rw [Lib.cell_of_heap res]; rfl
      have r1 : wc.cell? ⟨w.heap.size, 1, none⟩ = some (.int .i64 0) := by rw [Lib.cell_of_heap res]; rfl
      have r2 : wc.cell? ⟨w.heap.size, 2, none⟩ = some (.bool false) := by rw [Lib.cell_of_heap res]; rfl
      have g0 : wc.frozen? ⟨w.heap.size, 0, none⟩ = false := Lib.frozen_of_heap res 0
      have g1 : wc.frozen? ⟨w.heap.size, 1, none⟩ = false := Lib.frozen_of_heap res 1
      have g2 : wc.frozen? ⟨w.heap.size, 2, none⟩ = false := Lib.frozen_of_heap res 2
      have HLT := Lib.hid (fun W => later_room n ((m : Int) + 1) W hn1 hn2 (by omega) (by omega))
      have HNB : Hid (Below w.heap.size w wc) := by
        show Below _ _ _
        have h1 : Below w.heap.size w W1 := by rw [hW1]; exact (Below.refl _ _).alloc (Nat.le_refl _) _
        exact h1.trans (hBc.mono (Nat.le_succ _))
      have HKc := Lib.hid hKc
      have HRes := Lib.hid res
      have HNX2 := Lib.hid (congrArg (fun x : Nat => (x : Int)) HNX.out)
      clear hrd hBc hKc res l0 l2 hcv2
      have HXX : Hid (bs TX = bs (textL (dropT s k))) := by show _ = _; rw [HTX.out]
      generalize ((nx s k ys : Nat) : Int) = nxt at *
      generalize bs TX = X at *
      go_wp2_with fail
      go_region_held3 (fun w' => w'.cell? ⟨gl, 0, none⟩ = some (.string X) ∧ w'.cell? ⟨gl, 1, none⟩ = some (.int .i64 n) ∧ w'.cell? ⟨gl, 2, none⟩ = some (.bool rt) ∧ w'.cell? ⟨w.heap.size + 1 + 1, 0, none⟩ = some (.int .i64 nxt) ∧ w'.cell? ⟨w.heap.size + 1, 0, none⟩ = some (.slice (some ⟨g, 0, none⟩) (m + 1) cap)) (first | exact keepS (by omega) ⟨p0, p1, p2, d1, d2⟩ _ _ _ | go_keep) (first | (go_at_call 29; refine (HLT.out _).mono ?_; rintro e w1 ⟨rfl, rfl⟩))
      go_wp2
      have hne : D ≠ w.heap.size := by have := HDs.out; omega
      refine ⟨by simp, .inl ⟨_, _, rfl, run_takeDeferred (heap3 hne HKc.out), ?_⟩⟩
      obtain ⟨v0, v1, v2⟩ := res_cells (o := .deferred none) HRes.out hne (.string X) (.int .i64 n) (.bool rt)
      refine ⟨.tuple #[.agg #[.string X, .int .i64 n, .bool rt], .int .i64 nxt, .int .i64 (n + ((m : Int) + 1)), .bool true], by simp [results, Tryd.results11, go_sem, v0, v1, v2], ?_, ?_⟩
      · have h3 : isTab (lineOf (dropT s k)) = rt := HRT.out
        rw [lineV, ← HXX.out, h3, ← HNX2.out, HP.out, ← HM.out]
        rfl
      · exact (((end3 (Nat.le_refl _) HNB.out _ _ _).drew)).trans (belowK_b (w := w) (Nat.le_refl _) _ D _ _ (by have := HDs.out; omega) (heap3 hne HKc.out) rfl rfl)

end Go.Proofs.YtcopddepnphfmaaDoor.Lnext
