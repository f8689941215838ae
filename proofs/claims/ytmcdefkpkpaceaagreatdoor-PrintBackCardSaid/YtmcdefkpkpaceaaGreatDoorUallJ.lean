/- The program's readAll: texts side by side, by what read says of each. -/
import Derived.Test.YtmcdefkpkpaceaaGreatDoorUcutJ
import Derived.Test.YtmcdefkpkpaceaaGreatDoorFmpJ
import Derived.Test.YtmcdefkpkpaceaaGreatDoorUplJ
namespace Go.Proofs.YtmcdefkpkpaceaaGreatDoor.Uall
open Go.RowKit Go.Proofs.YtmcdefkpkpaceaaGreatDoor.Strs Go.Proofs.YtmcdefkpkpaceaaGreatDoor.Spl Go.Proofs.YtmcdefkpkpaceaaGreatDoor.Nodm Go.Proofs.YtmcdefkpkpaceaaGreatDoor.Unod Go.Proofs.YtmcdefkpkpaceaaGreatDoor.Ucall
open Go.Proofs.YtmcdefkpkpaceaaGreatDoor.Pure (bs)

theorem infoNode : (Tryz.prog.info? 25).map (fun i => (i.zero, i.size, i.bytes)) = some (some (.agg #[.int .i64 0, .string .empty, .slice none 0 0]), 3, 48) := by kernel_rfl
def errN : Er → Nat
  | .form => 2
  | .few => 5
  | .deep => 8
/-- how a reading ends -/
def ReadOut (H : Nat) (W : World) (e : Ending) : Rd Nod → Prop
  | .ok n => ∃ v, e = .returned v ∧ NodeIn (SF H W) W v n
  | .bad x => e = errPan (errN x)
/-- what read does with texts of at most M bytes, N deep -/
def ReadIs (N : Nat) (p : T → Rd Nod) (M : Nat) : Prop := ∀ (s : T) (w : World), s.length ≤ M → Calls Tryz.prog 33 #[.string (bs s), .int .i64 (N : Int)] w fun e W' => ReadOut w.heap.size W' e (p s) ∧ Below w.heap.size w W'
def AllOut (H : Nat) (W : World) (e : Ending) : Rd (List Nod) → Prop
  | .ok l => ∃ A c, e = .returned (.slice A l.length c) ∧ NodesIn (SF H W) W A c l
  | .bad x => e = errPan (errN x)

def zs3 : Array Value := #[.int .i64 0, .string .empty, .slice none 0 0]
theorem make_nodes (n : Nat) (h : n ≤ 1000000) (w : World) :
    (Instr.makeSlice 23 (.int .i64 (n : Int)) (.int .i64 (n : Int))).run Tryz.prog w = .ok (.slice (some ⟨w.heap.size, 0, none⟩) n n) (w.alloc (.cells (madeCells zs3 (n * 3)) 25)) := by
  obtain ⟨i0, hi, hz0, hz1, hz2⟩ := info_parts infoNode
  have := run_make (P := Tryz.prog) w 23 25 i0 _ Tryz.underlying23 hi hz0 .i64 .i64 (n : Int) (n : Int) (by omega) (Int.le_refl _) (by rw [hz2]; omega) (by omega)
  rw [hz1] at this
  simpa [Value.cells, zs3] using this

abbrev Tri := Value × Value × Value
def rowT (u : Nat → Tri) (i : Nat) : Value := if i % 3 = 0 then (u (i / 3)).1 else if i % 3 = 1 then (u (i / 3)).2.1 else (u (i / 3)).2.2
def put3 (u : Nat → Tri) (k : Nat) (x : Tri) (j : Nat) : Tri := if j = k then x else u j
theorem rowT_start (w : World) (n : Nat) : (w.alloc (.cells (madeCells zs3 (n * 3)) 25)).rowIs w.heap.size 25 (n * 3) (rowT fun _ => (.int .i64 0, .string .empty, .slice none 0 0)) := by
  refine ⟨_, heap_alloc_new w _, size_madeCells _ _, fun i hi => ?_⟩
  have h3 : i % 3 = 0 ∨ i % 3 = 1 ∨ i % 3 = 2 := by omega
  rcases h3 with h | h | h <;> simp [madeCells, rowT, hi, zs3, h]
theorem rowT_step {w : World} {g n k : Nat} {u : Nat → Tri} (h : w.rowIs g 25 (n * 3) (rowT u)) (x y z : Value) :
    (((w.setCell ⟨g, k * 3, none⟩ x).setCell ⟨g, k * 3 + 1, none⟩ y).setCell ⟨g, k * 3 + 2, none⟩ z).rowIs g 25 (n * 3) (rowT (put3 u k (x, y, z))) := by
  refine (((h.set (k * 3) _).set (k * 3 + 1) _).set (k * 3 + 2) _).congr (fun j hj => ?_)
  by_cases h2 : j = k * 3 + 2
  · subst h2
    simp [rowT, put3, show (k * 3 + 2) / 3 = k by omega, show (k * 3 + 2) % 3 = 2 by omega]
  · by_cases h1 : j = k * 3 + 1
    · subst h1
      simp [rowT, put3, show (k * 3 + 1) / 3 = k by omega, show (k * 3 + 1) % 3 = 1 by omega]
    · by_cases h0 : j = k * 3
      · subst h0
        simp [rowT, put3, show (k * 3) / 3 = k by omega, show (k * 3) % 3 = 0 by omega]
      · have : j / 3 ≠ k := by omega
        simp only [if_neg h2, if_neg h1, if_neg h0, rowT, put3, if_neg this]
theorem rowT_at {w : World} {g n : Nat} {u : Nat → Tri} (h : w.rowIs g 25 (n * 3) (rowT u)) {j : Nat} (hj : j < n) : w.cell? ⟨g, j * 3, none⟩ = some (u j).1 ∧ w.cell? ⟨g, j * 3 + 1, none⟩ = some (u j).2.1 ∧ w.cell? ⟨g, j * 3 + 2, none⟩ = some (u j).2.2 := by
  refine ⟨(h.cell (i := j * 3) (by omega)).trans ?_, (h.cell (i := j * 3 + 1) (by omega)).trans ?_, (h.cell (i := j * 3 + 2) (by omega)).trans ?_⟩
  · simp [rowT, show j * 3 / 3 = j by omega]
  · simp [rowT, show (j * 3 + 1) / 3 = j by omega, show (j * 3 + 1) % 3 = 1 by omega]
  · simp [rowT, show (j * 3 + 2) / 3 = j by omega, show (j * 3 + 2) % 3 = 2 by omega]

/-- while the texts are read: the first ones lie in the row -/
structure Mk (w : World) (n : Nat) (acc : List Nod) (wr : World) : Prop where
  size : w.heap.size + 1 ≤ wr.heap.size
  below : Below w.heap.size w wr
  row : ∃ u, wr.rowIs w.heap.size 25 (n * 3) (rowT u) ∧ ∀ j m, acc[j]? = some m → NodeIn (SF (w.heap.size + 1) wr) wr (.agg #[(u j).1, (u j).2.1, (u j).2.2]) m
theorem Mk.start (w : World) (n : Nat) : Mk w n [] (w.alloc (.cells (madeCells zs3 (n * 3)) 25)) :=
  ⟨by rw [World.size_alloc]; omega, (Below.refl _ _).alloc (Nat.le_refl _) _, _, rowT_start w n, fun j m h => by cases h⟩
theorem Mk.later {w wr W : World} {n : Nat} {acc : List Nod} (h : Mk w n acc wr) (hb : Below wr.heap.size wr W) : Mk w n acc W := by
  have hs := h.size
  have hs2 := hb.size
  obtain ⟨u, h1, h2⟩ := h.row
  exact ⟨by omega, h.below.trans (hb.mono (by omega)), u, h1.of_block (hb.block _ (by omega)), fun j m hj => Unod.on (h2 j m hj) hb⟩
theorem set3_other (w : World) (g k : Nat) (x y z : Value) (b : Nat) (hb : b ≠ g) : (((w.setCell ⟨g, k * 3, none⟩ x).setCell ⟨g, k * 3 + 1, none⟩ y).setCell ⟨g, k * 3 + 2, none⟩ z).heap[b]? = w.heap[b]? := by
  rw [Deep.blk_setCell_other _ _ _ _ hb, Deep.blk_setCell_other _ _ _ _ hb, Deep.blk_setCell_other _ _ _ _ hb]
theorem Mk.step {w wr : World} {n k : Nat} {acc : List Nod} (h : Mk w n acc wr) (hk : acc.length = k) {x y z : Value} {m : Nod} (hm : NodeIn (SF (w.heap.size + 1) wr) wr (.agg #[x, y, z]) m) :
    Mk w n (acc ++ [m]) (((wr.setCell ⟨w.heap.size, k * 3, none⟩ x).setCell ⟨w.heap.size, k * 3 + 1, none⟩ y).setCell ⟨w.heap.size, k * 3 + 2, none⟩ z) := by
  obtain ⟨u, h1, h2⟩ := h.row
  have hs := h.size
  obtain ⟨W, hW⟩ : ∃ W, W = ((wr.setCell ⟨w.heap.size, k * 3, none⟩ x).setCell ⟨w.heap.size, k * 3 + 1, none⟩ y).setCell ⟨w.heap.size, k * 3 + 2, none⟩ z := ⟨_, rfl⟩
  have hoth : ∀ b, b ≠ w.heap.size → W.heap[b]? = wr.heap[b]? := fun b hb => by rw [hW]; exact set3_other wr _ k x y z b hb
  have hszW : wr.heap.size ≤ W.heap.size := by rw [hW]; simp
  have hmv : ∀ {v : Value} {q : Nod}, NodeIn (SF (w.heap.size + 1) wr) wr v q → NodeIn (SF (w.heap.size + 1) W) W v q := fun hq => hq.move (fun b hb _ => by
    have hb1 := hb.1
    exact ⟨hb.of (hoth b (by omega)), hoth b (by omega)⟩) hszW
  rw [hW] at hmv
  refine ⟨by simpa using hs, ((h.below.setCell (p := ⟨_, _, none⟩) (Nat.le_refl _) _).setCell (p := ⟨_, _, none⟩) (Nat.le_refl _) _).setCell (p := ⟨_, _, none⟩) (Nat.le_refl _) _, _, rowT_step h1 x y z, fun j q hj => ?_⟩
  by_cases hjk : j = k
  · subst hjk
    rw [List.getElem?_append_right (by omega), hk, Nat.sub_self] at hj
    cases hj
    rw [show put3 u j (x, y, z) j = (x, y, z) by unfold put3; rw [if_pos rfl]]
    exact hmv hm
  · have hjl : j < acc.length := by
      have := (List.getElem?_eq_some_iff.1 hj).1
      rw [List.length_append, List.length_singleton] at this
      omega
    rw [List.getElem?_append_left hjl] at hj
    rw [show put3 u k (x, y, z) j = u j by unfold put3; rw [if_neg hjk]]
    exact hmv (h2 j q hj)
theorem Mk.done {w wr : World} {n : Nat} {acc : List Nod} (h : Mk w n acc wr) (hn : acc.length = n) : NodesIn (SF w.heap.size wr) wr (some ⟨w.heap.size, 0, none⟩) n acc := by
  obtain ⟨u, h1, h2⟩ := h.row
  have hs := h.size
  refine ⟨by omega, fun j => .agg #[(u j).1, (u j).2.1, (u j).2.2], .inr ⟨w.heap.size, 0, rfl, by omega, ⟨Nat.le_refl _, h1.imp fun cs hcs => ⟨_, hcs.1⟩⟩, .inr (h1.imp fun cs hcs => ⟨_, hcs.1⟩), fun j hj => ?_⟩, fun j m hj => Unod.lower (h2 j m hj) (Nat.le_succ _)⟩
  obtain ⟨e1, e2, e3⟩ := rowT_at h1 (j := j) (by omega)
  exact ⟨_, _, _, rfl, by rw [Nat.zero_add]; exact e1, by rw [Nat.zero_add]; exact e2, by rw [Nat.zero_add]; exact e3⟩
theorem listP_step (p : T → Rd Nod) (ts : List T) (k : Nat) (t : T) (h : ts[k]? = some t) : listP p (ts.drop k) = match p t with | .bad e => .bad e | .ok n => (listP p (ts.drop (k + 1))).map (n :: ·) := by
  obtain ⟨hk, e⟩ := List.getElem?_eq_some_iff.1 h
  rw [List.drop_eq_getElem_cons hk, e]
  rfl
theorem Rd.map_map {α β γ : Type} (f : α → β) (g : β → γ) : ∀ x : Rd α, (x.map f).map g = x.map fun a => g (f a)
  | .bad _ => rfl
  | .ok _ => rfl

set_option maxRecDepth 100000 in
set_option maxHeartbeats 1000000 in
theorem readAll_is (N : Nat) (p : T → Rd Nod) (M : Nat) (HP0 : ReadIs N p M) (ts : List T) (A : Option Addr) (c : Nat) (w : World) (hl : ts.length ≤ 1000000) (hM : ∀ t ∈ ts, t.length ≤ M) (h : SlIs w A c (ts.map bs)) :
    Calls Tryz.prog 88 #[.int .i64 (N : Int), .slice A ts.length c] w fun e W' => AllOut w.heap.size W' e (listP p ts) ∧ Below w.heap.size w W' := by
  have hc : ts.length ≤ c := by have := h.1; rwa [List.length_map] at this
  have HP := Lib.hid HP0
  have HM := Lib.hid hM
  have HSl := Lib.hid h
  obtain ⟨R, hR⟩ : ∃ R, R = listP p ts := ⟨_, rfl⟩
  have HR0 := Lib.hid hR
  rw [← hR]
  obtain ⟨n, hn⟩ : ∃ n, ts.length = n := ⟨_, rfl⟩
  have HN := Lib.hid hn
  rw [hn] at hl hc ⊢
  have hmk := make_nodes n hl
  clear hR hM h HP0 hn
  go_enter Tryz.func88, Tryz.ntmps88
  go_wp2_with fail
  go_loopw [13] (fun i wr => ∃ (k : Nat) (acc : List Nod), k ≤ n ∧ i = .int .i64 k ∧ Hid (acc.length = k) ∧ Hid (Mk w n acc wr) ∧ Hid (R = (listP p (ts.drop k)).map (acc ++ ·))) (fun i _ => n - (intOf i).toNat)
  case atStart =>
    refine ⟨0, [], Nat.zero_le _, rfl, rfl, Mk.start w n, ?_⟩
    show R = _
    rw [HR0.out, List.drop_zero]
    cases listP p ts <;> rfl
  case round =>
    obtain ⟨k, acc, hk, rfl, HK, HA, HL⟩ := hrel
    by_cases hlt : k < n
    · have hl : k < ts.length := by have := HN.out; omega
      obtain ⟨t, ht⟩ : ∃ t, ts[k]? = some t := ⟨ts[k], List.getElem?_eq_getElem hl⟩
      have htm : (ts.map bs)[k]? = some (bs t) := by rw [List.getElem?_map, ht]; rfl
      obtain ⟨bb, oo, rfl, hbb, hcell⟩ := HSl.out.at_ htm
      have c1 := (HA.out.below.cell (p := ⟨bb, oo + k, none⟩) hbb).trans (hcell w (Below.refl _ _))
      have htM : t.length ≤ M := HM.out t (List.mem_of_getElem? ht)
      have HC := Lib.hid (HP.out t wr htM)
      have hst := listP_step p ts k t ht
      have hsz := HA.out.size
      cases hx : p t with
      | bad x =>
        rw [hx] at HC hst
        have HF : Hid (R = .bad x) := by
          show _ = _
          rw [HL.out, hst]
          rfl
        unfold ReadOut errPan at HC
        clear hcell hst hx htm ht HL
        go_wp2_with (go_at_call 33; refine HC.out.mono ?_; rintro e W2 ⟨rfl, hb2⟩; have HB2 := Lib.hid (HA.out.below.trans (hb2.mono (by omega))); clear hb2)
        rw [HF.out]
        exact ⟨rfl, rfl, HB2.out⟩
      | ok m =>
        obtain ⟨mk, ms, ml⟩ := m
        rw [hx] at HC hst
        have HL2 : Hid (R = (listP p (ts.drop (k + 1))).map ((acc ++ [Nod.mk mk ms ml]) ++ ·)) := by
          show _ = _
          rw [HL.out, hst]
          show ((listP p (ts.drop (k + 1))).map (Nod.mk mk ms ml :: ·)).map (acc ++ ·) = _
          rw [Rd.map_map]
          congr 1
          funext a
          rw [List.append_assoc]; rfl
        unfold ReadOut at HC
        have HD : Hid (∀ W, Below wr.heap.size wr W → Mk w n acc W ∧ (∃ r0 r1 r2, W.cell? ⟨w.heap.size, k * 3, none⟩ = some r0 ∧ W.cell? ⟨w.heap.size, k * 3 + 1, none⟩ = some r1 ∧ W.cell? ⟨w.heap.size, k * 3 + 2, none⟩ = some r2) ∧ W.frozen? ⟨w.heap.size, k * 3, none⟩ = false ∧ W.frozen? ⟨w.heap.size, k * 3 + 1, none⟩ = false ∧ W.frozen? ⟨w.heap.size, k * 3 + 2, none⟩ = false) := fun W hW => by
          have h1 := HA.out.later hW
          obtain ⟨u, hu, _⟩ := h1.row
          obtain ⟨e1, e2, e3⟩ := rowT_at hu hlt
          exact ⟨h1, ⟨_, _, _, e1, e2, e3⟩, hu.frozen _, hu.frozen _, hu.frozen _⟩
        clear hcell hst hx htm ht HL
        go_wp2_with (go_at_call 33; refine HC.out.mono ?_; rintro e W2 ⟨⟨v, rfl, hv⟩, hb2⟩; obtain ⟨A2, c2, rfl, hns⟩ := hv.inv; obtain ⟨hmk2, ⟨r0, r1, r2, d0, d1, d2⟩, f0, f1, f2⟩ := HD.out W2 hb2; have HST := Lib.hid (hmk2.step HK.out (Unod.lower hv hsz)); clear hmk2 hv hns hb2)
        go_roundw
        case rel => exact ⟨k + 1, acc ++ [Nod.mk mk ms ml], by omega, by go_num, (by show _ = _; rw [List.length_append, HK.out]; rfl), HST.out, HL2⟩
        case measure => simp [intOf]; omega
    · obtain rfl : k = n := by omega
      have HF : Hid (R = .ok acc) := by
        show _ = _
        rw [HL.out, List.drop_of_length_le (by have := HN.out; omega)]
        show Rd.ok (acc ++ []) = _
        rw [List.append_nil]
      have hak := HK.out
      have HD := Lib.hid (HA.out.done hak)
      have HB := Lib.hid HA.out.below
      clear hak
      go_wp2
      go_ret
      rw [HF.out]
      exact ⟨⟨some ⟨w.heap.size, 0, none⟩, k, by rw [HK.out]; rfl, HD.out⟩, HB.out⟩

end Go.Proofs.YtmcdefkpkpaceaaGreatDoor.Uall

/- The program's substitution: the parts of a text, if it asks for one. -/
namespace Go.Proofs.YtmcdefkpkpaceaaGreatDoor.Usub
open Go.RowKit Go.Proofs.YtmcdefkpkpaceaaGreatDoor.Strs Go.Proofs.YtmcdefkpkpaceaaGreatDoor.Spl Go.Proofs.YtmcdefkpkpaceaaGreatDoor.Upl Go.Proofs.YtmcdefkpkpaceaaGreatDoor.Uout Go.Proofs.YtmcdefkpkpaceaaGreatDoor.Uargs
open Go.Proofs.YtmcdefkpkpaceaaGreatDoor.Pure (bs)

def subV : Option (T × T × T) → Value
  | none => .tuple #[.string .empty, .string .empty, .string .empty, .bool false]
  | some (x, y, z) => .tuple #[.string (bs x), .string (bs y), .string (bs z), .bool true]

set_option maxRecDepth 100000 in
set_option maxHeartbeats 1000000 in
theorem sub_is (s : T) (w : World) (hs : s.length ≤ 1000000) :
    Calls Tryz.prog 89 #[.string (bs s)] w fun e W' => e = .returned (subV (cutsP s)) ∧ Below w.heap.size w W' := by
  have hsz : (bs s).size = s.length := Pure.size_bs s
  have HO := Lib.hid (fun W => outside_is [40, 123] [41, 125] s 58 W hs)
  rw [show (((58 : UInt8).toNat : Nat) : Int) = 58 from rfl, outI_zero] at HO
  have hc := colon_out s 0 []
  have HB0 := Lib.hid ((Below.refl w.heap.size w).alloc (Nat.le_refl _) (.cells #[.string (bs [40, 123]), .string (bs [41, 125])] 136))
  have HG0 := Lib.hid (heap_alloc_new w (.cells #[.string (bs [40, 123]), .string (bs [41, 125])] 136))
  have b1 : (⟨#[40, 123]⟩ : ByteArray) = bs [40, 123] := rfl
  have b2 : (⟨#[41, 125]⟩ : ByteArray) = bs [41, 125] := rfl
  cases hx : outP [40, 123] [41, 125] 58 0 s with
  | none =>
    rw [hx] at HO hc
    have hcut : cutsP s = none := by unfold cutsP; rw [hc]; rfl
    rw [hcut]
    clear hcut hc hx HG0
    go_enter Tryz.func89, Tryz.ntmps89
    go_wp2_with (go_at_call 79; refine (HO.out _).mono ?_; rintro e W2 ⟨rfl, hb2⟩; have HB2 := Lib.hid hb2; clear hb2)
    refine bodyPost_ret (v := subV none) (by simp [results, Tryz.results89, go_sem, subV]; rfl) rfl ?_
    exact ⟨rfl, HB0.out.trans (HB2.out.mono HB0.out.size)⟩
  | some k =>
    rw [hx] at HO hc
    have hkl := out_lt _ _ _ _ _ _ hx
    have hp1 := part_to s k
    have hp2 := part_from s (k + 1)
    have hl2 : (s.drop (k + 1)).length ≤ 1000000 := by rw [List.length_drop]; omega
    have hsz2 : (bs (s.drop (k + 1))).size = (s.drop (k + 1)).length := Pure.size_bs _
    have he := equal_out (s.drop (k + 1)) 0 []
    have HO2 := Lib.hid (fun W => outside_is [40, 123] [41, 125] (s.drop (k + 1)) 61 W hl2)
    rw [show (((61 : UInt8).toNat : Nat) : Int) = 61 from rfl, outI_zero] at HO2
    have hk2 : (k : Int) + 1 ≤ (s.length : Int) := by omega
    have hk3 : ((k : Int) < 0) = False := by simp
    have hcc : colonP 0 [] s = some (s.take k, s.drop (k + 1)) := hc
    clear hc hx
    generalize hr : s.drop (k + 1) = r at *
    generalize hq : s.take k = q at *
    cases hy : outP [40, 123] [41, 125] 61 0 r with
    | none =>
      rw [hy] at HO2 he
      have hcut : cutsP s = none := by unfold cutsP; rw [hcc]; dsimp only; rw [he]; rfl
      rw [hcut]
      clear hcut hcc he hy hr hq
      go_enter Tryz.func89, Tryz.ntmps89
      go_upto_region 6 with (go_at_call 79; refine (HO.out _).mono ?_; rintro e W2 ⟨rfl, hb2⟩; have HB2 := Lib.hid hb2; clear hb2)
      have hb2 := HB2.out
      have hz2 := hb2.size
      rw [World.size_alloc] at hz2
      have hg2 : W2.heap[w.heap.size]? = some (.cells #[.string (bs [40, 123]), .string (bs [41, 125])] 136) := (hb2.block _ (by rw [World.size_alloc]; omega)).trans HG0.out
      have c0 : W2.cell? ⟨w.heap.size, 0, none⟩ = some (.string (bs [40, 123])) := by rw [Lib.cell_of_heap hg2]; rfl
      have c1 : W2.cell? ⟨w.heap.size, 1, none⟩ = some (.string (bs [41, 125])) := by rw [Lib.cell_of_heap hg2]; rfl
      have HBw := Lib.hid (HB0.out.trans (hb2.mono HB0.out.size))
      clear hb2 hg2 HB2 HB0 HG0
      go_wp2_with (go_at_call 79; refine (HO2.out _).mono ?_; rintro e W3 ⟨rfl, hb3⟩; have HB3 := Lib.hid hb3; clear hb3)
      refine bodyPost_ret (v := subV none) (by simp [results, Tryz.results89, go_sem, subV]; rfl) rfl ?_
      exact ⟨rfl, HBw.out.trans (HB3.out.mono HBw.out.size)⟩
    | some j =>
      rw [hy] at HO2 he
      have hjl := out_lt _ _ _ _ _ _ hy
      have hp3 := part_to r j
      have hp4 := part_from r (j + 1)
      have hj2 : (j : Int) + 1 ≤ (r.length : Int) := by omega
      have hcut : cutsP s = some (q, r.take j, r.drop (j + 1)) := by unfold cutsP; rw [hcc]; dsimp only; rw [he]; rfl
      rw [hcut]
      clear hcut hcc he hy hr hq
      go_enter Tryz.func89, Tryz.ntmps89
      go_upto_region 6 with (go_at_call 79; refine (HO.out _).mono ?_; rintro e W2 ⟨rfl, hb2⟩; have HB2 := Lib.hid hb2; clear hb2)
      have hb2 := HB2.out
      have hz2 := hb2.size
      rw [World.size_alloc] at hz2
      have hg2 : W2.heap[w.heap.size]? = some (.cells #[.string (bs [40, 123]), .string (bs [41, 125])] 136) := (hb2.block _ (by rw [World.size_alloc]; omega)).trans HG0.out
      have c0 : W2.cell? ⟨w.heap.size, 0, none⟩ = some (.string (bs [40, 123])) := by rw [Lib.cell_of_heap hg2]; rfl
      have c1 : W2.cell? ⟨w.heap.size, 1, none⟩ = some (.string (bs [41, 125])) := by rw [Lib.cell_of_heap hg2]; rfl
      have HBw := Lib.hid (HB0.out.trans (hb2.mono HB0.out.size))
      clear hb2 hg2 HB2 HB0 HG0
      go_wp2_with (go_at_call 79; refine (HO2.out _).mono ?_; rintro e W3 ⟨rfl, hb3⟩; have HB3 := Lib.hid hb3; clear hb3)
      go_quiet (fail)
      go_wp2
      refine bodyPost_ret (v := subV (some (q, r.take j, r.drop (j + 1)))) (by simp [results, Tryz.results89, go_sem, subV]) rfl ?_
      exact ⟨rfl, below_drewN (HBw.out.trans (HB3.out.mono HBw.out.size)) _⟩

end Go.Proofs.YtmcdefkpkpaceaaGreatDoor.Usub

/- The program's reference: what a text between brackets is (by what read says of what is within). -/
namespace Go.Proofs.YtmcdefkpkpaceaaGreatDoor.Uref
open Go.RowKit Go.Proofs.YtmcdefkpkpaceaaGreatDoor.Strs Go.Proofs.YtmcdefkpkpaceaaGreatDoor.Spl Go.Proofs.YtmcdefkpkpaceaaGreatDoor.Nodm Go.Proofs.YtmcdefkpkpaceaaGreatDoor.Unod Go.Proofs.YtmcdefkpkpaceaaGreatDoor.Uargs Go.Proofs.YtmcdefkpkpaceaaGreatDoor.Ucall Go.Proofs.YtmcdefkpkpaceaaGreatDoor.Usub Go.Proofs.YtmcdefkpkpaceaaGreatDoor.Uall
open Go.Proofs.YtmcdefkpkpaceaaGreatDoor.Pure (bs)

/-- three cells put into the block H: all else stays -/
theorem three_far (wr W : World) (H : Nat) (x0 y0 z0 x y z : Value) (ty : TypeId) (hg : wr.heap[H]? = some (.cells #[x0, y0, z0] ty)) (hW : ((wr.setCell ⟨H, 0, none⟩ x).setCell ⟨H, 1, none⟩ y).setCell ⟨H, 2, none⟩ z = W) :
    W.heap[H]? = some (.cells #[x, y, z] ty) ∧ wr.heap.size ≤ W.heap.size ∧ (∀ b, b ≠ H → W.heap[b]? = wr.heap[b]?) ∧ Below H wr W := by
  have g1 := heap_setCell_same wr H 0 _ _ x hg
  have g2 := heap_setCell_same _ H 1 _ _ y g1
  have g3 := heap_setCell_same _ H 2 _ _ z g2
  have hfar : ∀ b, b ≠ H → W.heap[b]? = wr.heap[b]? := by
    rw [← hW]
    exact fun b hb => (heap_setCell_other _ ⟨H, 2, none⟩ b z (fun e => hb e)).trans ((heap_setCell_other _ ⟨H, 1, none⟩ b y (fun e => hb e)).trans (heap_setCell_other _ ⟨H, 0, none⟩ b x (fun e => hb e)))
  have hsz : wr.heap.size ≤ W.heap.size := by rw [← hW]; simp
  refine ⟨by rw [← hW]; exact g3, hsz, hfar, ?_⟩
  refine ⟨by rw [← hW]; rfl, by rw [← hW]; rfl, by rw [← hW]; rfl, hsz, fun b hb => hfar b (by omega)⟩
theorem cells_three {W : World} {H : Nat} {x y z : Value} {ty : TypeId} (h : W.heap[H]? = some (.cells #[x, y, z] ty)) : W.cell? ⟨H, 0, none⟩ = some x ∧ W.cell? ⟨H, 1, none⟩ = some y ∧ W.cell? ⟨H, 2, none⟩ = some z :=
  ⟨by rw [Lib.cell_of_heap h]; rfl, by rw [Lib.cell_of_heap h]; rfl, by rw [Lib.cell_of_heap h]; rfl⟩
theorem frozen_of_row (w : World) (b j : Nat) (cs : Array Value) (t : TypeId) (h : w.heap[b]? = some (.cells cs t)) : w.frozen? ⟨b, j, none⟩ = false := Lib.frozen_of_heap h j
theorem one_is (W : World) (s : T) (t : TypeId) : SlIs (W.alloc (.cells #[.string (bs s)] t)) (some ⟨W.heap.size, 0, none⟩) 1 ([s].map bs) := by
  refine ⟨Nat.le_refl _, .inr ⟨W.heap.size, 0, rfl, by rw [World.size_alloc]; omega, fun j x hj => ?_⟩⟩
  cases j with
  | zero =>
    cases hj
    rw [Lib.cell_of_heap (heap_alloc_new W _)]; rfl
  | succ j => cases hj
theorem three_texts (W : World) (a b c : T) (t : TypeId) : SlIs (W.alloc (.cells #[.string (bs a), .string (bs b), .string (bs c)] t)) (some ⟨W.heap.size, 0, none⟩) 3 ([a, b, c].map bs) := by
  refine ⟨Nat.le_refl _, .inr ⟨W.heap.size, 0, rfl, by rw [World.size_alloc]; omega, fun j x hj => ?_⟩⟩
  rw [Lib.cell_of_heap (heap_alloc_new W _)]
  match j, hj with
  | 0, hj => cases hj; rfl
  | 1, hj => cases hj; rfl
  | 2, hj => cases hj; rfl
  | j + 3, hj => cases hj
theorem ReadOut.map {H : Nat} {W : World} {e : Ending} {f : List Nod → Nod} {x : Er} (h : AllOut H W e (.bad x)) : ReadOut H W e ((Rd.bad x : Rd (List Nod)).map f) := h

set_option maxRecDepth 100000 in
set_option maxHeartbeats 1000000 in
/-- neither a call nor a substitution -/
theorem ref_plain (N : Nat) (p : T → Rd Nod) (M : Nat) (HP0 : ReadIs N p M) (s : T) (o c : UInt8) (w : World) (hs : s.length ≤ 1000000) (hM : s.length ≤ M) (hn : nameP s = none) (hk : cutsP s = none) :
    Calls Tryz.prog 80 #[.agg #[.string (bs [o]), .string (bs [c])], .string (bs s), .int .i64 (N : Int)] w fun e W' => ReadOut w.heap.size W' e (refP p o s) ∧ Below w.heap.size w W' := by
  have hR : refP p o s = (listP p [s]).map (.mk 2 []) := by unfold refP; rw [hn]; dsimp only; rw [hk]
  rw [hR]
  have HC := Lib.hid (fun W => call_none s o c W hs hn)
  have HS := Lib.hid (fun W => sub_is s W hs)
  rw [hk] at HS
  unfold subV at HS
  have HL := Lib.hid (fun W A c h => readAll_is N p M HP0 [s] A c W (by show 1 ≤ 1000000; decide) (fun t ht => by rw [List.mem_singleton.1 ht]; exact hM) h)
  obtain ⟨R, hRR⟩ : ∃ R, listP p [s] = R := ⟨_, rfl⟩
  rw [hRR] at HL ⊢
  clear hn hk hR hM HP0 hRR
  obtain ⟨W0, hW0⟩ : ∃ W0, W0 = (w.alloc (.cells #[.string (bs [o]), .string (bs [c])] 136)).alloc (.cells #[.int .i64 0, .string .empty, .slice none 0 0] 25) := ⟨_, rfl⟩
  have hz0 : W0.heap.size = w.heap.size + 2 := by rw [hW0, World.size_alloc, World.size_alloc]
  have hg0 : W0.heap[w.heap.size + 1]? = some (.cells #[.int .i64 0, .string .empty, .slice none 0 0] 25) := by
    rw [hW0]
    have := heap_alloc_new (w.alloc (.cells #[.string (bs [o]), .string (bs [c])] 136)) (.cells #[.int .i64 0, .string .empty, .slice none 0 0] 25)
    rw [World.size_alloc] at this
    exact this
  have hb0 : Below w.heap.size w W0 := by rw [hW0]; exact ((Below.refl _ _).alloc (Nat.le_refl _) _).alloc (by rw [World.size_alloc]; omega) _
  have HW0 := Lib.hid hW0
  clear hW0
  go_enter Tryz.func80, Tryz.ntmps80
  go_upto_region 7 with (first | (go_at_call 87; refine (HC.out _).mono ?_; rintro e W1 ⟨rfl, hb1⟩; have HB1 := Lib.hid hb1; clear hb1) | (go_at_call 89; refine (HS.out _).mono ?_; rintro e W2 ⟨rfl, hb2⟩; have HB2 := Lib.hid hb2; clear hb2))
  have hb1 : Below W0.heap.size W0 W1 := by rw [HW0.out]; exact HB1.out
  have hb2 : Below W0.heap.size W0 W2 := hb1.trans (HB2.out.mono hb1.size)
  have hz2 := hb2.size
  clear HB1 HB2 hb1 HC HS HW0
  have HCl := Lib.hid (HL.out _ _ _ (one_is W2 s 9))
  obtain ⟨W3, hW3⟩ : ∃ W3, W3 = W2.alloc (.cells #[.string (bs s)] 9) := ⟨_, rfl⟩
  have hb3 : Below W0.heap.size W0 W3 := by rw [hW3]; exact hb2.alloc (by omega) _
  have hz3 : W3.heap.size = W2.heap.size + 1 := by rw [hW3, World.size_alloc]
  rw [← hW3] at HCl
  have HW3 := Lib.hid hW3
  clear hW3 HL
  have hgn : W3.heap[w.heap.size + 1]? = some (.cells #[.int .i64 0, .string .empty, .slice none 0 0] 25) := (hb3.block _ (by omega)).trans hg0
  have hbw : Below w.heap.size w W3 := hb0.trans (hb3.mono (by omega))
  have HBw := Lib.hid hbw
  have HGn := Lib.hid hgn
  clear hb2 hb3 hb0 hg0 hgn hbw
  cases R with
  | bad x =>
    unfold AllOut errPan at HCl
    go_wp2_with (go_at_call 88; rw [← HW3.out]; refine HCl.out.mono ?_; rintro e W4 ⟨rfl, hb4⟩; have HB4 := Lib.hid hb4; clear hb4)
    exact ⟨rfl, rfl, HBw.out.trans (HB4.out.mono (by omega))⟩
  | ok l =>
    unfold AllOut at HCl
    go_upto_region 8 with (go_at_call 88; rw [← HW3.out]; refine HCl.out.mono ?_; rintro e W4 ⟨⟨A4, c4, rfl, hn4⟩, hb4⟩; have hg4 := (hb4.block _ (by omega)).trans HGn.out; obtain ⟨e0, e1, e2⟩ := cells_three hg4; have f0 := frozen_of_row W4 (w.heap.size + 1) 0 _ _ hg4; have f1 := frozen_of_row W4 (w.heap.size + 1) 1 _ _ hg4; have f2 := frozen_of_row W4 (w.heap.size + 1) 2 _ _ hg4; have HG4 := Lib.hid hg4; have HB4 := Lib.hid hb4; have HN4 := Lib.hid hn4; clear hb4 hn4 hg4)
    obtain ⟨W5, hW5⟩ : ∃ W5, ((W4.setCell ⟨w.heap.size + 1, 0, none⟩ (.int .i64 2)).setCell ⟨w.heap.size + 1, 1, none⟩ (.string ByteArray.empty)).setCell ⟨w.heap.size + 1, 2, none⟩ (.slice A4 l.length c4) = W5 := ⟨_, rfl⟩
    obtain ⟨z1, z2, z3, z4⟩ := three_far W4 W5 _ _ _ _ _ _ _ _ HG4.out hW5
    obtain ⟨y0, y1, y2⟩ := cells_three z1
    first | rw [hW5] | rw [show (Value.string { data := #[] }) = Value.string ByteArray.empty from rfl, hW5]
    refine bodyPost_ret (v := .agg #[.int .i64 2, .string ByteArray.empty, .slice A4 l.length c4]) (by simp [results, Tryz.results80, go_sem, y0, y1, y2]) rfl ?_
    exact ⟨⟨_, rfl, ((HN4.out.move (S' := SF w.heap.size W5) (fun b hb _ => by
      have hb1 := hb.1
      exact ⟨⟨by omega, hb.2.of (z3 b (by omega))⟩, z3 b (by omega)⟩) z2).node 2 [])⟩, (HBw.out.trans (HB4.out.mono (by omega))).trans (z4.mono (by omega))⟩

set_option maxRecDepth 100000 in
set_option maxHeartbeats 1000000 in
/-- a substitution -/
theorem ref_sub (N : Nat) (p : T → Rd Nod) (M : Nat) (HP0 : ReadIs N p M) (s : T) (o c : UInt8) (w : World) (hs : s.length ≤ 1000000) (hn : nameP s = none) (x y z : T) (hk : cutsP s = some (x, y, z)) (hxyz : x.length ≤ M ∧ y.length ≤ M ∧ z.length ≤ M) :
    Calls Tryz.prog 80 #[.agg #[.string (bs [o]), .string (bs [c])], .string (bs s), .int .i64 (N : Int)] w fun e W' => ReadOut w.heap.size W' e (refP p o s) ∧ Below w.heap.size w W' := by
  have hR : refP p o s = (listP p [x, y, z]).map (.mk 3 []) := by unfold refP; rw [hn]; dsimp only; rw [hk]
  rw [hR]
  have HC := Lib.hid (fun W => call_none s o c W hs hn)
  have HS := Lib.hid (fun W => sub_is s W hs)
  rw [hk] at HS
  unfold subV at HS
  have HL := Lib.hid (fun W A c h => readAll_is N p M HP0 [x, y, z] A c W (by show 3 ≤ 1000000; decide) (fun t ht => by
    simp only [List.mem_cons, List.not_mem_nil, or_false] at ht
    rcases ht with rfl | rfl | rfl
    · exact hxyz.1
    · exact hxyz.2.1
    · exact hxyz.2.2) h)
  obtain ⟨R, hRR⟩ : ∃ R, listP p [x, y, z] = R := ⟨_, rfl⟩
  rw [hRR] at HL ⊢
  clear hn hk hR HP0 hRR hxyz
  obtain ⟨W0, hW0⟩ : ∃ W0, W0 = (w.alloc (.cells #[.string (bs [o]), .string (bs [c])] 136)).alloc (.cells #[.int .i64 0, .string .empty, .slice none 0 0] 25) := ⟨_, rfl⟩
  have hz0 : W0.heap.size = w.heap.size + 2 := by rw [hW0, World.size_alloc, World.size_alloc]
  have hg0 : W0.heap[w.heap.size + 1]? = some (.cells #[.int .i64 0, .string .empty, .slice none 0 0] 25) := by
    rw [hW0]
    have := heap_alloc_new (w.alloc (.cells #[.string (bs [o]), .string (bs [c])] 136)) (.cells #[.int .i64 0, .string .empty, .slice none 0 0] 25)
    rw [World.size_alloc] at this
    exact this
  have hb0 : Below w.heap.size w W0 := by rw [hW0]; exact ((Below.refl _ _).alloc (Nat.le_refl _) _).alloc (by rw [World.size_alloc]; omega) _
  have HW0 := Lib.hid hW0
  clear hW0
  go_enter Tryz.func80, Tryz.ntmps80
  go_upto_region 6 with (first | (go_at_call 87; refine (HC.out _).mono ?_; rintro e W1 ⟨rfl, hb1⟩; have HB1 := Lib.hid hb1; clear hb1) | (go_at_call 89; refine (HS.out _).mono ?_; rintro e W2 ⟨rfl, hb2⟩; have HB2 := Lib.hid hb2; clear hb2))
  have hb1 : Below W0.heap.size W0 W1 := by rw [HW0.out]; exact HB1.out
  have hb2 : Below W0.heap.size W0 W2 := hb1.trans (HB2.out.mono hb1.size)
  have hz2 := hb2.size
  clear HB1 HB2 hb1 HC HS HW0
  have HCl := Lib.hid (HL.out _ _ _ (three_texts W2 x y z 9))
  obtain ⟨W3, hW3⟩ : ∃ W3, W3 = W2.alloc (.cells #[.string (bs x), .string (bs y), .string (bs z)] 9) := ⟨_, rfl⟩
  have hb3 : Below W0.heap.size W0 W3 := by rw [hW3]; exact hb2.alloc (by omega) _
  have hz3 : W3.heap.size = W2.heap.size + 1 := by rw [hW3, World.size_alloc]
  rw [← hW3] at HCl
  have HW3 := Lib.hid hW3
  clear hW3 HL
  have hgn : W3.heap[w.heap.size + 1]? = some (.cells #[.int .i64 0, .string .empty, .slice none 0 0] 25) := (hb3.block _ (by omega)).trans hg0
  have hbw : Below w.heap.size w W3 := hb0.trans (hb3.mono (by omega))
  have HBw := Lib.hid hbw
  have HGn := Lib.hid hgn
  clear hb2 hb3 hb0 hg0 hgn hbw
  cases R with
  | bad x =>
    unfold AllOut errPan at HCl
    go_wp2_with (go_at_call 88; rw [← HW3.out]; refine HCl.out.mono ?_; rintro e W4 ⟨rfl, hb4⟩; have HB4 := Lib.hid hb4; clear hb4)
    exact ⟨rfl, rfl, HBw.out.trans (HB4.out.mono (by omega))⟩
  | ok l =>
    unfold AllOut at HCl
    go_upto_region 8 with (go_at_call 88; rw [← HW3.out]; refine HCl.out.mono ?_; rintro e W4 ⟨⟨A4, c4, rfl, hn4⟩, hb4⟩; have hg4 := (hb4.block _ (by omega)).trans HGn.out; obtain ⟨e0, e1, e2⟩ := cells_three hg4; have f0 := frozen_of_row W4 (w.heap.size + 1) 0 _ _ hg4; have f1 := frozen_of_row W4 (w.heap.size + 1) 1 _ _ hg4; have f2 := frozen_of_row W4 (w.heap.size + 1) 2 _ _ hg4; have HG4 := Lib.hid hg4; have HB4 := Lib.hid hb4; have HN4 := Lib.hid hn4; clear hb4 hn4 hg4)
    obtain ⟨W5, hW5⟩ : ∃ W5, ((W4.setCell ⟨w.heap.size + 1, 0, none⟩ (.int .i64 3)).setCell ⟨w.heap.size + 1, 1, none⟩ (.string ByteArray.empty)).setCell ⟨w.heap.size + 1, 2, none⟩ (.slice A4 l.length c4) = W5 := ⟨_, rfl⟩
    obtain ⟨z1, z2, z3, z4⟩ := three_far W4 W5 _ _ _ _ _ _ _ _ HG4.out hW5
    obtain ⟨y0, y1, y2⟩ := cells_three z1
    first | rw [hW5] | rw [show (Value.string { data := #[] }) = Value.string ByteArray.empty from rfl, hW5]
    refine bodyPost_ret (v := .agg #[.int .i64 3, .string ByteArray.empty, .slice A4 l.length c4]) (by simp [results, Tryz.results80, go_sem, y0, y1, y2]) rfl ?_
    exact ⟨⟨_, rfl, ((HN4.out.move (S' := SF w.heap.size W5) (fun b hb _ => by
      have hb1 := hb.1
      exact ⟨⟨by omega, hb.2.of (z3 b (by omega))⟩, z3 b (by omega)⟩) z2).node 3 [])⟩, (HBw.out.trans (HB4.out.mono (by omega))).trans (z4.mono (by omega))⟩

theorem args_len (o c : UInt8) : ∀ (s : T) (d : Nat) (m : Option Nat) (cur : T), (argsP o c d m cur s).length ≤ s.length + 1 ∧ ∀ t ∈ argsP o c d m cur s, t.length ≤ cur.length + s.length
  | [], d, m, cur => by
    rw [argsP]
    exact ⟨Nat.le_refl _, fun t ht => by rw [List.mem_singleton.1 ht]; omega⟩
  | b :: r, d, m, cur => by
    have hstep : ∀ d m, (argsP o c d m (cur ++ [b]) r).length ≤ (b :: r).length + 1 ∧ ∀ t ∈ argsP o c d m (cur ++ [b]) r, t.length ≤ cur.length + (b :: r).length := fun d m => by
      obtain ⟨h1, h2⟩ := args_len o c r d m (cur ++ [b])
      refine ⟨by rw [List.length_cons]; omega, fun t ht => ?_⟩
      have := h2 t ht
      rw [List.length_append, List.length_singleton] at this
      rw [List.length_cons]; omega
    rw [argsP]
    split
    · exact hstep _ _
    · split
      · exact hstep _ _
      · split
        · obtain ⟨h1, h2⟩ := args_len o c r 0 (m.map (· - 1)) []
          refine ⟨by rw [List.length_cons, List.length_cons]; omega, fun t ht => ?_⟩
          rcases List.mem_cons.1 ht with rfl | h
          · omega
          · have := h2 t h
            rw [List.length_nil] at this
            rw [List.length_cons]; omega
        · exact hstep _ _

set_option maxRecDepth 100000 in
set_option maxHeartbeats 1000000 in
/-- a call -/
theorem ref_call (N : Nat) (p : T → Rd Nod) (M : Nat) (HP0 : ReadIs N p M) (s : T) (o : UInt8) (w : World) (hs : s.length ≤ 999999) (ho : (44 : UInt8) ≠ o) (hc : (44 : UInt8) ≠ shutOf o) (hne : shutOf o ≠ o) (f r : T) (n1 n2 : Nat) (lz pu : Bool) (hn : nameP s = some (f, r, ⟨n1, n2, lz, pu⟩)) (hb : n2 ≤ 100) (hrl : r.length ≤ s.length) (hrM : r.length ≤ M) :
    Calls Tryz.prog 80 #[.agg #[.string (bs [o]), .string (bs [shutOf o])], .string (bs s), .int .i64 (N : Int)] w fun e W' => ReadOut w.heap.size W' e (refP p o s) ∧ Below w.heap.size w W' := by
  have hR : refP p o s = if (argsP o (shutOf o) 0 (more n2 0) [] (Pure.left r)).length < n1 then .bad .few else (listP p (argsP o (shutOf o) 0 (more n2 0) [] (Pure.left r))).map (.mk 4 f) := by
    unfold refP
    rw [hn]
    dsimp only
    have e1 : (if ((n2 : Nat) : Int) = 0 then none else some (((n2 : Nat) : Int).toNat - 1)) = more n2 0 := by
      unfold more
      by_cases h0 : n2 = 0
      · rw [if_pos (by omega), if_pos h0]
      · rw [if_neg (by omega), if_neg h0, Int.toNat_natCast, Nat.sub_zero]
    rw [e1, Int.toNat_natCast]
  rw [hR]
  have HC := Lib.hid (fun W => call_some s o (shutOf o) W (by omega) ho hc hne f r n1 n2 lz pu hn hb)
  obtain ⟨hal, hat⟩ := args_len o (shutOf o) (Pure.left r) 0 (more n2 0) []
  have hll := Pure.left_length r
  clear hR hn
  generalize argsP o (shutOf o) 0 (more n2 0) [] (Pure.left r) = L at *
  have HL := Lib.hid (fun W A c h => readAll_is N p M HP0 L A c W (by omega) (fun t ht => by have := hat t ht; rw [List.length_nil] at this; omega) h)
  obtain ⟨R, hRR⟩ : ∃ R, listP p L = R := ⟨_, rfl⟩
  rw [hRR] at HL ⊢
  generalize shutOf o = c at *
  clear hrM HP0 hRR hat hal hll hrl ho hc hne hb
  obtain ⟨W0, hW0⟩ : ∃ W0, W0 = (w.alloc (.cells #[.string (bs [o]), .string (bs [c])] 136)).alloc (.cells #[.int .i64 0, .string .empty, .slice none 0 0] 25) := ⟨_, rfl⟩
  have hz0 : W0.heap.size = w.heap.size + 2 := by rw [hW0, World.size_alloc, World.size_alloc]
  have hg0 : W0.heap[w.heap.size + 1]? = some (.cells #[.int .i64 0, .string .empty, .slice none 0 0] 25) := by
    rw [hW0]
    have := heap_alloc_new (w.alloc (.cells #[.string (bs [o]), .string (bs [c])] 136)) (.cells #[.int .i64 0, .string .empty, .slice none 0 0] 25)
    rw [World.size_alloc] at this
    exact this
  have hb0 : Below w.heap.size w W0 := by rw [hW0]; exact ((Below.refl _ _).alloc (Nat.le_refl _) _).alloc (by rw [World.size_alloc]; omega) _
  have HW0 := Lib.hid hW0
  clear hW0
  by_cases hfew : L.length < n1
  · have HF := Lib.hid hfew
    have HC2 := Lib.hid (fun W => (HC.out W).mono fun e W' ⟨h1, h2⟩ => (⟨by rw [if_pos hfew] at h1; exact h1, h2⟩ : e = errPan 5 ∧ Below W.heap.size W W'))
    unfold errPan at HC2
    clear HC hfew HL hg0
    go_enter Tryz.func80, Tryz.ntmps80
    go_wp2_with (first | (go_at_call 87; refine (HC2.out _).mono ?_; rintro e W1 ⟨rfl, hb1⟩; have HB1 := Lib.hid hb1; clear hb1))
    have hb1 : Below W0.heap.size W0 W1 := by rw [HW0.out]; exact HB1.out
    refine ⟨rfl, ?_, hb0.trans (hb1.mono (by omega))⟩
    try rw [if_pos HF.out]
    rfl
  · have HF := Lib.hid hfew
    have HC2 := Lib.hid (fun W => (HC.out W).mono fun e W' ⟨h1, h2⟩ => (⟨by rw [if_neg hfew] at h1; exact h1, h2⟩ : (∃ A cp, e = Ending.returned (.tuple #[.string (bs f), .slice A L.length cp, .bool true]) ∧ SlIs W' A cp (L.map bs)) ∧ Below W.heap.size W W'))
    clear HC hfew
    go_enter Tryz.func80, Tryz.ntmps80
    go_upto_region 3 with (first | (go_at_call 87; refine (HC2.out _).mono ?_; rintro e W1 ⟨⟨A1, c1, rfl, hsl⟩, hb1⟩; have HB1 := Lib.hid hb1; have HCl := Lib.hid (HL.out W1 A1 c1 hsl); clear hb1 hsl))
    have hb1 : Below W0.heap.size W0 W1 := by rw [HW0.out]; exact HB1.out
    have hz1 := hb1.size
    have hgn : W1.heap[w.heap.size + 1]? = some (.cells #[.int .i64 0, .string .empty, .slice none 0 0] 25) := (hb1.block _ (by omega)).trans hg0
    have HBw := Lib.hid (hb0.trans (hb1.mono (by omega)))
    have HGn := Lib.hid hgn
    clear hb0 hg0 hgn hb1 HB1 HW0 HL HC2
    cases R with
    | bad x =>
      unfold AllOut errPan at HCl
      go_wp2_with (go_at_call 88; refine HCl.out.mono ?_; rintro e W4 ⟨rfl, hb4⟩; have HB4 := Lib.hid hb4; clear hb4)
      refine ⟨rfl, ?_, HBw.out.trans (HB4.out.mono (by omega))⟩
      try rw [if_neg HF.out]
      rfl
    | ok l =>
      unfold AllOut at HCl
      go_upto_region 8 with (go_at_call 88; refine HCl.out.mono ?_; rintro e W4 ⟨⟨A4, c4, rfl, hn4⟩, hb4⟩; have hg4 := (hb4.block _ (by omega)).trans HGn.out; obtain ⟨e0, e1, e2⟩ := cells_three hg4; have f0 := frozen_of_row W4 (w.heap.size + 1) 0 _ _ hg4; have f1 := frozen_of_row W4 (w.heap.size + 1) 1 _ _ hg4; have f2 := frozen_of_row W4 (w.heap.size + 1) 2 _ _ hg4; have HG4 := Lib.hid hg4; have HB4 := Lib.hid hb4; have HN4 := Lib.hid hn4; clear hb4 hn4 hg4)
      obtain ⟨W5, hW5⟩ : ∃ W5, ((W4.setCell ⟨w.heap.size + 1, 0, none⟩ (.int .i64 4)).setCell ⟨w.heap.size + 1, 1, none⟩ (.string (bs f))).setCell ⟨w.heap.size + 1, 2, none⟩ (.slice A4 l.length c4) = W5 := ⟨_, rfl⟩
      obtain ⟨z1, z2, z3, z4⟩ := three_far W4 W5 _ _ _ _ _ _ _ _ HG4.out hW5
      obtain ⟨y0, y1, y2⟩ := cells_three z1
      rw [hW5]
      refine bodyPost_ret (v := .agg #[.int .i64 4, .string (bs f), .slice A4 l.length c4]) (by simp [results, Tryz.results80, go_sem, y0, y1, y2]) rfl ?_
      try rw [if_neg HF.out]
      exact ⟨⟨_, rfl, ((HN4.out.move (S' := SF w.heap.size W5) (fun b hb _ => by
      have hb1 := hb.1
      exact ⟨⟨by omega, hb.2.of (z3 b (by omega))⟩, z3 b (by omega)⟩) z2).node 4 f)⟩, (HBw.out.trans (HB4.out.mono (by omega))).trans (z4.mono (by omega))⟩

theorem look_mem : ∀ {l : List (T × Fpl.Inf)} {x : T} {i : Fpl.Inf}, Fpl.lookI l x = some i → (x, i) ∈ l
  | [], _, _, h => by cases h
  | (y, k) :: l, x, i, h => by
    unfold Fpl.lookI at h
    by_cases e : y = x
    · rw [if_pos e] at h
      cases h
      rw [e]
      exact List.mem_cons_self ..
    · rw [if_neg e] at h
      exact List.mem_cons_of_mem _ (look_mem h)
theorem tab_bounds : (Fpl.tab.all fun x => decide (x.1 ≠ [] ∧ 0 ≤ x.2.mn ∧ x.2.mn ≤ 100 ∧ 0 ≤ x.2.mx ∧ x.2.mx ≤ 100)) = true := by kernel_rfl
theorem name_parts {s f r : T} {i : Fpl.Inf} (h : nameP s = some (f, r, i)) : s = f ++ r ∧ Fpl.lookI Fpl.tab f = some i := by
  unfold nameP at h
  have e : s.takeWhile letB ++ s.dropWhile letB = s := List.takeWhile_append_dropWhile
  cases h1 : s.dropWhile letB with
  | nil => rw [h1] at h; cases h
  | cons b r' =>
    cases h2 : Fpl.lookI Fpl.tab (s.takeWhile letB) with
    | none => rw [h1, h2] at h; cases h
    | some k =>
      rw [h1, h2] at h
      dsimp only at h
      split at h
      · cases h
        exact ⟨by rw [← h1]; exact e.symm, h2⟩
      · cases h

theorem cuts_len {s x y z : T} (h : cutsP s = some (x, y, z)) : x.length ≤ s.length ∧ y.length ≤ s.length ∧ z.length ≤ s.length := by
  unfold cutsP at h
  rw [Upl.colon_out s 0 []] at h
  cases hx : Upl.outP [40, 123] [41, 125] 58 0 s with
  | none => rw [hx] at h; cases h
  | some k =>
    rw [hx] at h
    have hr : (s.drop (k + 1)).length ≤ s.length := by rw [List.length_drop]; omega
    replace h : (match equalP 0 [] (s.drop (k + 1)) with | none => none | some (b, c) => some ([] ++ s.take k, b, c)) = some (x, y, z) := h
    rw [Upl.equal_out _ 0 []] at h
    cases hy : Upl.outP [40, 123] [41, 125] 61 0 (s.drop (k + 1)) with
    | none => rw [hy] at h; cases h
    | some j =>
      rw [hy] at h
      replace h : some ([] ++ s.take k, [] ++ (s.drop (k + 1)).take j, (s.drop (k + 1)).drop (j + 1)) = some (x, y, z) := h
      simp only [Option.some.injEq, Prod.mk.injEq, List.nil_append] at h
      obtain ⟨rfl, rfl, rfl⟩ := h
      refine ⟨?_, ?_, ?_⟩
      · rw [List.length_take]; omega
      · rw [List.length_take]; omega
      · rw [List.length_drop]; omega
theorem ref_is (N : Nat) (p : T → Rd Nod) (M : Nat) (HP0 : ReadIs N p M) (s : T) (o : UInt8) (ho : o = 40 ∨ o = 123) (w : World) (hs : s.length ≤ 999999) (hM : s.length ≤ M) :
    Calls Tryz.prog 80 #[.agg #[.string (bs [o]), .string (bs [shutOf o])], .string (bs s), .int .i64 (N : Int)] w fun e W' => ReadOut w.heap.size W' e (refP p o s) ∧ Below w.heap.size w W' := by
  cases hn : nameP s with
  | some x =>
    obtain ⟨f, r, ⟨m1, m2, lz, pu⟩⟩ := x
    obtain ⟨h1, h2⟩ := name_parts hn
    have h3 := List.all_eq_true.1 tab_bounds _ (look_mem h2)
    obtain ⟨_, b1, b2, b3, b4⟩ := of_decide_eq_true h3
    obtain ⟨n1, rfl⟩ := Int.eq_ofNat_of_zero_le (show 0 ≤ m1 from b1)
    obtain ⟨n2, rfl⟩ := Int.eq_ofNat_of_zero_le (show 0 ≤ m2 from b3)
    have hb : n2 ≤ 100 := by
      have : ((n2 : Nat) : Int) ≤ 100 := b4
      omega
    have hl : r.length ≤ s.length := by rw [h1, List.length_append]; omega
    have h44 : (44 : UInt8) ≠ o ∧ (44 : UInt8) ≠ shutOf o ∧ shutOf o ≠ o := by rcases ho with rfl | rfl <;> decide
    exact ref_call N p M HP0 s o w hs h44.1 h44.2.1 h44.2.2 f r n1 n2 lz pu hn hb hl (by omega)
  | none =>
    cases hk : cutsP s with
    | none => exact ref_plain N p M HP0 s o (shutOf o) w (by omega) hM hn hk
    | some x =>
      obtain ⟨x, y, z⟩ := x
      have hl := cuts_len hk
      exact ref_sub N p M HP0 s o (shutOf o) w (by omega) hn x y z hk (by omega)

end Go.Proofs.YtmcdefkpkpaceaaGreatDoor.Uref
