/- The program's readAll: texts side by side, by what read says of each. -/
import Derived.Test.YtndnialpedocnaaUnod
import Derived.Test.YtndnialpedocnaaUcall
namespace Go.Proofs.Ytndnialpedocnaa.Uall
open Go.RowKit Go.Proofs.Ytndnialpedocnaa.Strs Go.Proofs.Ytndnialpedocnaa.Spl Go.Proofs.Ytndnialpedocnaa.Nodm Go.Proofs.Ytndnialpedocnaa.Unod Go.Proofs.Ytndnialpedocnaa.Ucall
open Go.Proofs.Ytndnialpedocnaa.Pure (bs)

theorem infoNode : (Try.prog.info? 25).map (fun i => (i.zero, i.size, i.bytes)) = some (some (.agg #[.int .i64 0, .string .empty, .slice none 0 0]), 3, 48) := by kernel_rfl
def errN : Er → Nat
  | .form => 2
  | .few => 5
  | .deep => 8
/-- how a reading ends -/
def ReadOut (H : Nat) (W : World) (e : Ending) : Rd Nod → Prop
  | .ok n => ∃ v, e = .returned v ∧ NodeIn (SF H W) W v n
  | .bad x => e = errPan (errN x)
/-- what read does with texts of at most M bytes, N deep -/
def ReadIs (N : Nat) (p : T → Rd Nod) (M : Nat) : Prop := ∀ (s : T) (w : World), s.length ≤ M → Calls Try.prog 13 #[.string (bs s), .int .i64 (N : Int)] w fun e W' => ReadOut w.heap.size W' e (p s) ∧ Below w.heap.size w W'
def AllOut (H : Nat) (W : World) (e : Ending) : Rd (List Nod) → Prop
  | .ok l => ∃ A c, e = .returned (.slice A l.length c) ∧ NodesIn (SF H W) W A c l
  | .bad x => e = errPan (errN x)

def zs3 : Array Value := #[.int .i64 0, .string .empty, .slice none 0 0]
theorem make_nodes (n : Nat) (h : n ≤ 1000000) (w : World) :
    (Instr.makeSlice 23 (.int .i64 (n : Int)) (.int .i64 (n : Int))).run Try.prog w = .ok (.slice (some ⟨w.heap.size, 0, none⟩) n n) (w.alloc (.cells (madeCells zs3 (n * 3)) 25)) := by
  obtain ⟨i0, hi, hz0, hz1, hz2⟩ := info_parts infoNode
  have := run_make (P := Try.prog) w 23 25 i0 _ Try.underlying23 hi hz0 .i64 .i64 (n : Int) (n : Int) (by omega) (Int.le_refl _) (by rw [hz2]; omega) (by omega)
  rw [hz1] at this
  simpa [Value.cells, zs3] using this

abbrev Tri := Value × Value × Value
def rowT (u : Nat → Tri) (i : Nat) : Value := if i % 3 = 0 then (u (i / 3)).1 else if i % 3 = 1 then (u (i / 3)).2.1 else (u (i / 3)).2.2
def put3 (u : Nat → Tri) (k : Nat) (x : Tri) (j : Nat) : Tri := if j = k then x else u j
theorem rowT_start (w : World) (n : Nat) : (w.alloc (.cells (madeCells zs3 (n * 3)) 25)).rowIs w.heap.size 25 (n * 3) (rowT fun _ => (.int .i64 0, .string .empty, .slice none 0 0)) := by
  refine ⟨_, heap_alloc_new w _, size_madeCells _ _, fun i hi => ?_⟩
  have h3 : i % 3 = 0 ∨ i % 3 = 1 ∨ i % 3 = 2 := by omega
  rcases h3 with h | h | h <;> simp [madeCells, rowT, hi, zs3, h]
theorem rowT_step {w : World} {g n k : Nat} {u : Nat → Tri} (h : w.rowIs g 25 (n * 3) (rowT u)) (x y z : Value) :
    (((w.setCell ⟨g, k * 3, none⟩ x).setCell ⟨g, k * 3 + 1, none⟩ y).setCell ⟨g, k * 3 + 2, none⟩ z).rowIs g 25 (n * 3) (rowT (put3 u k (x, y, z))) := by
  refine (((h.set (k * 3) _).set (k * 3 + 1) _).set (k * 3 + 2) _).congr (fun j hj => ?_)
  by_cases h2 : j = k * 3 + 2
  · subst h2
    simp [rowT, put3, show (k * 3 + 2) / 3 = k by omega, show (k * 3 + 2) % 3 = 2 by omega]
  · by_cases h1 : j = k * 3 + 1
    · subst h1
      simp [rowT, put3, show (k * 3 + 1) / 3 = k by omega, show (k * 3 + 1) % 3 = 1 by omega]
    · by_cases h0 : j = k * 3
      · subst h0
        simp [rowT, put3, show (k * 3) / 3 = k by omega, show (k * 3) % 3 = 0 by omega]
      · have : j / 3 ≠ k := by omega
        simp only [if_neg h2, if_neg h1, if_neg h0, rowT, put3, if_neg this]
theorem rowT_at {w : World} {g n : Nat} {u : Nat → Tri} (h : w.rowIs g 25 (n * 3) (rowT u)) {j : Nat} (hj : j < n) : w.cell? ⟨g, j * 3, none⟩ = some (u j).1 ∧ w.cell? ⟨g, j * 3 + 1, none⟩ = some (u j).2.1 ∧ w.cell? ⟨g, j * 3 + 2, none⟩ = some (u j).2.2 := by
  refine ⟨(h.cell (i := j * 3) (by omega)).trans ?_, (h.cell (i := j * 3 + 1) (by omega)).trans ?_, (h.cell (i := j * 3 + 2) (by omega)).trans ?_⟩
  · simp [rowT, show j * 3 / 3 = j by omega]
  · simp [rowT, show (j * 3 + 1) / 3 = j by omega, show (j * 3 + 1) % 3 = 1 by omega]
  · simp [rowT, show (j * 3 + 2) / 3 = j by omega, show (j * 3 + 2) % 3 = 2 by omega]

/-- while the texts are read: the first ones lie in the row -/
structure Mk (w : World) (n : Nat) (acc : List Nod) (wr : World) : Prop where
  size : w.heap.size + 1 ≤ wr.heap.size
  below : Below w.heap.size w wr
  row : ∃ u, wr.rowIs w.heap.size 25 (n * 3) (rowT u) ∧ ∀ j m, acc[j]? = some m → NodeIn (SF (w.heap.size + 1) wr) wr (.agg #[(u j).1, (u j).2.1, (u j).2.2]) m
theorem Mk.start (w : World) (n : Nat) : Mk w n [] (w.alloc (.cells (madeCells zs3 (n * 3)) 25)) :=
  ⟨by rw [World.size_alloc]; omega, (Below.refl _ _).alloc (Nat.le_refl _) _, _, rowT_start w n, fun j m h => by cases h⟩
theorem Mk.later {w wr W : World} {n : Nat} {acc : List Nod} (h : Mk w n acc wr) (hb : Below wr.heap.size wr W) : Mk w n acc W := by
  have hs := h.size
  have hs2 := hb.size
  obtain ⟨u, h1, h2⟩ := h.row
  exact ⟨by omega, h.below.trans (hb.mono (by omega)), u, h1.of_block (hb.block _ (by omega)), fun j m hj => Unod.on (h2 j m hj) hb⟩
theorem set3_other (w : World) (g k : Nat) (x y z : Value) (b : Nat) (hb : b ≠ g) : (((w.setCell ⟨g, k * 3, none⟩ x).setCell ⟨g, k * 3 + 1, none⟩ y).setCell ⟨g, k * 3 + 2, none⟩ z).heap[b]? = w.heap[b]? := by
  rw [Deep.blk_setCell_other _ _ _ _ hb, Deep.blk_setCell_other _ _ _ _ hb, Deep.blk_setCell_other _ _ _ _ hb]
theorem Mk.step {w wr : World} {n k : Nat} {acc : List Nod} (h : Mk w n acc wr) (hk : acc.length = k) {x y z : Value} {m : Nod} (hm : NodeIn (SF (w.heap.size + 1) wr) wr (.agg #[x, y, z]) m) :
    Mk w n (acc ++ [m]) (((wr.setCell ⟨w.heap.size, k * 3, none⟩ x).setCell ⟨w.heap.size, k * 3 + 1, none⟩ y).setCell ⟨w.heap.size, k * 3 + 2, none⟩ z) := by
  obtain ⟨u, h1, h2⟩ := h.row
  have hs := h.size
  obtain ⟨W, hW⟩ : ∃ W, W = ((wr.setCell ⟨w.heap.size, k * 3, none⟩ x).setCell ⟨w.heap.size, k * 3 + 1, none⟩ y).setCell ⟨w.heap.size, k * 3 + 2, none⟩ z := ⟨_, rfl⟩
  have hoth : ∀ b, b ≠ w.heap.size → W.heap[b]? = wr.heap[b]? := fun b hb => by rw [hW]; exact set3_other wr _ k x y z b hb
  have hszW : wr.heap.size ≤ W.heap.size := by rw [hW]; simp
  have hmv : ∀ {v : Value} {q : Nod}, NodeIn (SF (w.heap.size + 1) wr) wr v q → NodeIn (SF (w.heap.size + 1) W) W v q := fun hq => hq.move (fun b hb _ => by
    have hb1 := hb.1
    exact ⟨hb.of (hoth b (by omega)), hoth b (by omega)⟩) hszW
  rw [hW] at hmv
  refine ⟨by simpa using hs, ((h.below.setCell (p := ⟨_, _, none⟩) (Nat.le_refl _) _).setCell (p := ⟨_, _, none⟩) (Nat.le_refl _) _).setCell (p := ⟨_, _, none⟩) (Nat.le_refl _) _, _, rowT_step h1 x y z, fun j q hj => ?_⟩
  by_cases hjk : j = k
  · subst hjk
    rw [List.getElem?_append_right (by omega), hk, Nat.sub_self] at hj
    cases hj
    rw [show put3 u j (x, y, z) j = (x, y, z) by unfold put3; rw [if_pos rfl]]
    exact hmv hm
  · have hjl : j < acc.length := by
      have := (List.getElem?_eq_some_iff.1 hj).1
      rw [List.length_append, List.length_singleton] at this
      omega
    rw [List.getElem?_append_left hjl] at hj
    rw [show put3 u k (x, y, z) j = u j by unfold put3; rw [if_neg hjk]]
    exact hmv (h2 j q hj)
theorem Mk.done {w wr : World} {n : Nat} {acc : List Nod} (h : Mk w n acc wr) (hn : acc.length = n) : NodesIn (SF w.heap.size wr) wr (some ⟨w.heap.size, 0, none⟩) n acc := by
  obtain ⟨u, h1, h2⟩ := h.row
  have hs := h.size
  refine ⟨by omega, fun j => .agg #[(u j).1, (u j).2.1, (u j).2.2], .inr ⟨w.heap.size, 0, rfl, by omega, ⟨Nat.le_refl _, h1.imp fun cs hcs => ⟨_, hcs.1⟩⟩, fun j hj => ?_⟩, fun j m hj => Unod.lower (h2 j m hj) (Nat.le_succ _)⟩
  obtain ⟨e1, e2, e3⟩ := rowT_at h1 (j := j) (by omega)
  exact ⟨_, _, _, rfl, by rw [Nat.zero_add]; exact e1, by rw [Nat.zero_add]; exact e2, by rw [Nat.zero_add]; exact e3⟩
theorem listP_step (p : T → Rd Nod) (ts : List T) (k : Nat) (t : T) (h : ts[k]? = some t) : listP p (ts.drop k) = match p t with | .bad e => .bad e | .ok n => (listP p (ts.drop (k + 1))).map (n :: ·) := by
  obtain ⟨hk, e⟩ := List.getElem?_eq_some_iff.1 h
  rw [List.drop_eq_getElem_cons hk, e]
  rfl
theorem Rd.map_map {α β γ : Type} (f : α → β) (g : β → γ) : ∀ x : Rd α, (x.map f).map g = x.map fun a => g (f a)
  | .bad _ => rfl
  | .ok _ => rfl

set_option maxRecDepth 100000 in
set_option maxHeartbeats 1000000 in
theorem readAll_is (N : Nat) (p : T → Rd Nod) (M : Nat) (HP0 : ReadIs N p M) (ts : List T) (A : Option Addr) (c : Nat) (w : World) (hl : ts.length ≤ 1000000) (hM : ∀ t ∈ ts, t.length ≤ M) (h : SlIs w A c (ts.map bs)) :
    Calls Try.prog 40 #[.int .i64 (N : Int), .slice A ts.length c] w fun e W' => AllOut w.heap.size W' e (listP p ts) ∧ Below w.heap.size w W' := by
  have hc : ts.length ≤ c := by have := h.1; rwa [List.length_map] at this
  have HP := Lib.hid HP0
  have HM := Lib.hid hM
  have HSl := Lib.hid h
  obtain ⟨R, hR⟩ : ∃ R, R = listP p ts := ⟨_, rfl⟩
  have HR0 := Lib.hid hR
  rw [← hR]
  obtain ⟨n, hn⟩ : ∃ n, ts.length = n := ⟨_, rfl⟩
  have HN := Lib.hid hn
  rw [hn] at hl hc ⊢
  have hmk := make_nodes n hl
  clear hR hM h HP0 hn
  go_enter Try.func40, Try.ntmps40
  go_wp2_with fail
  go_loopw [13] (fun i wr => ∃ (k : Nat) (acc : List Nod), k ≤ n ∧ i = .int .i64 k ∧ Hid (acc.length = k) ∧ Hid (Mk w n acc wr) ∧ Hid (R = (listP p (ts.drop k)).map (acc ++ ·))) (fun i _ => n - (intOf i).toNat)
  case atStart =>
    refine ⟨0, [], Nat.zero_le _, rfl, rfl, Mk.start w n, ?_⟩
    show R = _
    rw [HR0.out, List.drop_zero]
    cases listP p ts <;> rfl
  case round =>
    obtain ⟨k, acc, hk, rfl, HK, HA, HL⟩ := hrel
    by_cases hlt : k < n
    · have hl : k < ts.length := by have := HN.out; omega
      obtain ⟨t, ht⟩ : ∃ t, ts[k]? = some t := ⟨ts[k], List.getElem?_eq_getElem hl⟩
      have htm : (ts.map bs)[k]? = some (bs t) := by rw [List.getElem?_map, ht]; rfl
      obtain ⟨bb, oo, rfl, hbb, hcell⟩ := HSl.out.at_ htm
      have c1 := (HA.out.below.cell (p := ⟨bb, oo + k, none⟩) hbb).trans (hcell w (Below.refl _ _))
      have htM : t.length ≤ M := HM.out t (List.mem_of_getElem? ht)
      have HC := Lib.hid (HP.out t wr htM)
      have hst := listP_step p ts k t ht
      have hsz := HA.out.size
      cases hx : p t with
      | bad x =>
        rw [hx] at HC hst
        have HF : Hid (R = .bad x) := by
          show _ = _
          rw [HL.out, hst]
          rfl
        unfold ReadOut errPan at HC
        clear hcell hst hx htm ht HL
        go_wp2_with (go_at_call 13; refine HC.out.mono ?_; rintro e W2 ⟨rfl, hb2⟩; have HB2 := Lib.hid (HA.out.below.trans (hb2.mono (by omega))); clear hb2)
        rw [HF.out]
        exact ⟨rfl, rfl, HB2.out⟩
      | ok m =>
        obtain ⟨mk, ms, ml⟩ := m
        rw [hx] at HC hst
        have HL2 : Hid (R = (listP p (ts.drop (k + 1))).map ((acc ++ [Nod.mk mk ms ml]) ++ ·)) := by
          show _ = _
          rw [HL.out, hst]
          show ((listP p (ts.drop (k + 1))).map (Nod.mk mk ms ml :: ·)).map (acc ++ ·) = _
          rw [Rd.map_map]
          congr 1
          funext a
          rw [List.append_assoc]; rfl
        unfold ReadOut at HC
        have HD : Hid (∀ W, Below wr.heap.size wr W → Mk w n acc W ∧ (∃ r0 r1 r2, W.cell? ⟨w.heap.size, k * 3, none⟩ = some r0 ∧ W.cell? ⟨w.heap.size, k * 3 + 1, none⟩ = some r1 ∧ W.cell? ⟨w.heap.size, k * 3 + 2, none⟩ = some r2) ∧ W.frozen? ⟨w.heap.size, k * 3, none⟩ = false ∧ W.frozen? ⟨w.heap.size, k * 3 + 1, none⟩ = false ∧ W.frozen? ⟨w.heap.size, k * 3 + 2, none⟩ = false) := fun W hW => by
          have h1 := HA.out.later hW
          obtain ⟨u, hu, _⟩ := h1.row
          obtain ⟨e1, e2, e3⟩ := rowT_at hu hlt
          exact ⟨h1, ⟨_, _, _, e1, e2, e3⟩, hu.frozen _, hu.frozen _, hu.frozen _⟩
        clear hcell hst hx htm ht HL
        go_wp2_with (go_at_call 13; refine HC.out.mono ?_; rintro e W2 ⟨⟨v, rfl, hv⟩, hb2⟩; obtain ⟨A2, c2, rfl, hns⟩ := hv.inv; obtain ⟨hmk2, ⟨r0, r1, r2, d0, d1, d2⟩, f0, f1, f2⟩ := HD.out W2 hb2; have HST := Lib.hid (hmk2.step HK.out (Unod.lower hv hsz)); clear hmk2 hv hns hb2)
        go_roundw
        case rel => exact ⟨k + 1, acc ++ [Nod.mk mk ms ml], by omega, by go_num, (by show _ = _; rw [List.length_append, HK.out]; rfl), HST.out, HL2⟩
        case measure => simp [intOf]; omega
    · obtain rfl : k = n := by omega
      have HF : Hid (R = .ok acc) := by
        show _ = _
        rw [HL.out, List.drop_of_length_le (by have := HN.out; omega)]
        show Rd.ok (acc ++ []) = _
        rw [List.append_nil]
      have hak := HK.out
      have HD := Lib.hid (HA.out.done hak)
      have HB := Lib.hid HA.out.below
      clear hak
      go_wp2
      go_ret
      rw [HF.out]
      exact ⟨⟨some ⟨w.heap.size, 0, none⟩, k, by rw [HK.out]; rfl, HD.out⟩, HB.out⟩

end Go.Proofs.Ytndnialpedocnaa.Uall
