/- The program's find, Look. -/
import Derived.Lib.BufferAt
import Derived.Test.YtghfmbmdfojapaaGreatDoorVaddJ
namespace Go.Proofs.YtghfmbmdfojapaaGreatDoor.Vfind
open Go.RowKit Go.Maps Go.Proofs.YtghfmbmdfojapaaGreatDoor.Pth Go.Proofs.YtghfmbmdfojapaaGreatDoor.Pabs Go.Proofs.YtghfmbmdfojapaaGreatDoor.Strs Go.Proofs.YtghfmbmdfojapaaGreatDoor.Vfs Go.Proofs.YtghfmbmdfojapaaGreatDoor.Vmap Go.Proofs.YtghfmbmdfojapaaGreatDoor.Vnames Go.Proofs.YtghfmbmdfojapaaGreatDoor.Vadd Go.Proofs.YtghfmbmdfojapaaGreatDoor.Vput Go.Proofs.YtghfmbmdfojapaaGreatDoor.Vnew

/-- what a node tells: its path, whether it is a directory, its text, its number -/
structure Nd where
  p : ByteArray
  d : Bool
  t : ByteArray
  n : Nat
def Nd.v (q : Nd) : Value := .agg #[.string q.p, .bool q.d, .string q.t, .int .i64 q.n]
def ndOf (L : List Ent) (e : Ent) : Nd := ⟨pathB e.pt, e.dir, e.text, numE (dl L) e⟩
def ndRoot : Nd := ⟨⟨#[47]⟩, true, ⟨#[]⟩, 1⟩
def ndZero : Nd := ⟨⟨#[]⟩, false, ⟨#[]⟩, 0⟩
/-- a way from the root on -/
def nodeAt (L : List Ent) (p : Wy) : Option Nd := if p = [] then some ndRoot else (at_ L p).map (ndOf L)
def lookN (L : List Ent) (s : ByteArray) : Option Nd := if s.size = 0 then none else nodeAt L (partsOf s)
def lookV (L : List Ent) (s : ByteArray) : Value := .tuple #[((lookN L s).getD ndZero).v, .bool (lookN L s).isSome]

theorem nodeAt_nil (L : List Ent) : nodeAt L [] = some ndRoot := rfl
theorem nodeAt_snoc (L : List Ent) (p : Wy) (x : List UInt8) : nodeAt L (p ++ [x]) = (at_ L (p ++ [x])).map (ndOf L) := by
  rw [nodeAt, if_neg (by simp)]
/-- a node's number leads to its directory, or to nothing -/
theorem nodeAt_num {L : List Ent} (hi : Inv L) {p : Wy} {q : Nd} (h : nodeAt L p = some q) : (IsDir L p ∧ q.n = num (dl L) p) ∨ (q.n = 0 ∧ ∀ x, at_ L (p ++ [x]) = none) := by
  unfold nodeAt at h
  split at h
  · rename_i h0
    subst h0
    cases h
    exact .inl ⟨.inl rfl, rfl⟩
  · rename_i h0
    obtain ⟨e, he, rfl⟩ := Option.map_eq_some_iff.1 h
    cases hd : e.dir with
    | true =>
      left
      refine ⟨.inr ⟨e, he, hd⟩, ?_⟩
      show numE (dl L) e = _
      unfold numE
      rw [hd, if_pos rfl, (at_mem he).2]
    | false =>
      right
      refine ⟨?_, fun x => ?_⟩
      · show numE (dl L) e = _
        unfold numE
        rw [hd]; rfl
      · cases hc : at_ L (p ++ [x]) with
        | none => rfl
        | some a =>
          obtain ⟨d, h1, h2⟩ := hi.pre hc h0 (by simp)
          rw [he] at h1
          rw [← Option.some.inj h1, hd] at h2
          cases h2
theorem nodeAt_up {L : List Ent} (hi : Inv L) {p s : Wy} (hp : p ≠ []) (h : at_ L p = none) : at_ L (p ++ s) = none := by
  by_cases hs : s = []
  · rw [hs, List.append_nil]; exact h
  · cases hc : at_ L (p ++ s) with
    | none => rfl
    | some a =>
      obtain ⟨d, h1, _⟩ := hi.pre hc hp hs
      rw [h] at h1; cases h1

theorem node_cells {W : World} {g : Nat} (q : Nd) (h : W.heap[g]? = some (.cells #[.string q.p, .bool q.d, .string q.t, .int .i64 q.n] 65 (0, 0))) :
    W.cell? ⟨g, 0, none⟩ = some (.string q.p) ∧ W.cell? ⟨g, 1, none⟩ = some (.bool q.d) ∧ W.cell? ⟨g, 2, none⟩ = some (.string q.t) ∧ W.cell? ⟨g, 3, none⟩ = some (.int .i64 q.n) ∧ W.frozen? ⟨g, 0, none⟩ = false ∧ W.frozen? ⟨g, 1, none⟩ = false ∧ W.frozen? ⟨g, 2, none⟩ = false ∧ W.frozen? ⟨g, 3, none⟩ = false :=
  ⟨by rw [Lib.cell_of_heap h]; rfl, by rw [Lib.cell_of_heap h]; rfl, by rw [Lib.cell_of_heap h]; rfl, by rw [Lib.cell_of_heap h]; rfl, Lib.frozen_of_heap h 0, Lib.frozen_of_heap h 1, Lib.frozen_of_heap h 2, Lib.frozen_of_heap h 3⟩

theorem set4 {W : World} {g : Nat} {a0 a1 a2 a3 : Value} {e : TypeId} (v0 v1 v2 v3 : Value) (h : W.heap[g]? = some (.cells #[a0, a1, a2, a3] e (0, 0))) :
    ((((W.setCell ⟨g, 0, none⟩ v0).setCell ⟨g, 1, none⟩ v1).setCell ⟨g, 2, none⟩ v2).setCell ⟨g, 3, none⟩ v3).heap[g]? = some (.cells #[v0, v1, v2, v3] e (0, 0)) := by
  have h0 := Lib.heap_setCell_same (i := 0) h v0
  have h1 := Lib.heap_setCell_same (i := 1) h0 v1
  have h2 := Lib.heap_setCell_same (i := 2) h1 v2
  have h3 := Lib.heap_setCell_same (i := 3) h2 v3
  exact h3

/-- while the parts are gone through: w at the call, w1 at the loop's start -/
structure Going (w w1 : World) (fa : Addr) (B : Nat) (bl : List Nat) (L : List Ent) (p : Wy) (wr : World) (q : Nd) : Prop where
  fs : FsIs wr fa B bl (dl L) L
  below : Below w.heap.size w wr
  keep : ∀ k, k < w1.heap.size → k ≠ w.heap.size + 1 → wr.heap[k]? = w1.heap[k]?
  cur : wr.heap[w.heap.size + 1]? = some (.cells #[.string q.p, .bool q.d, .string q.t, .int .i64 q.n] 65 (0, 0))
  node : nodeAt L p = some q
  size : w1.heap.size ≤ wr.heap.size

theorem Going.next {w w1 : World} {fa : Addr} {B : Nat} {bl : List Nat} {L : List Ent} {p p' : Wy} {wr : World} {q q' : Nd} (h : Going w w1 fa B bl L p wr q) (hne : w.heap.size + 1 ≠ fa.block ∧ w.heap.size + 1 ≠ B ∧ ∀ b ∈ bl, w.heap.size + 1 ≠ b) (hn : nodeAt L p' = some q') (hs : w.heap.size + 2 ≤ wr.heap.size) (W : World)
    (hW : W = (wr.alloc (.cells #[.string q'.p, .bool q'.d, .string q'.t, .int .i64 q'.n] 65)).drew) :
    Going w w1 fa B bl L p' ((((W.setCell ⟨w.heap.size + 1, 0, none⟩ (.string q'.p)).setCell ⟨w.heap.size + 1, 1, none⟩ (.bool q'.d)).setCell ⟨w.heap.size + 1, 2, none⟩ (.string q'.t)).setCell ⟨w.heap.size + 1, 3, none⟩ (.int .i64 q'.n)) q' := by
  have hb : Below wr.heap.size wr W := by rw [hW]; exact (alloc_below wr _).drew
  have hF : FsIs W fa B bl (dl L) L := h.fs.below hb
  have hc : W.heap[w.heap.size + 1]? = some (.cells #[.string q.p, .bool q.d, .string q.t, .int .i64 q.n] 65 (0, 0)) := (hb.block _ (by omega)).trans h.cur
  have hB := h.below.trans (hb.mono (by omega))
  refine ⟨(((hF.setCell _ _ hne.1 hne.2.1 hne.2.2).setCell _ _ hne.1 hne.2.1 hne.2.2).setCell _ _ hne.1 hne.2.1 hne.2.2).setCell _ _ hne.1 hne.2.1 hne.2.2,
    (((hB.setCell (p := ⟨_, _, none⟩) (Nat.le_succ _) _).setCell (p := ⟨_, _, none⟩) (Nat.le_succ _) _).setCell (p := ⟨_, _, none⟩) (Nat.le_succ _) _).setCell (p := ⟨_, _, none⟩) (Nat.le_succ _) _, fun k hk k1 => ?_, set4 _ _ _ _ hc, hn, ?_⟩
  · rw [setCell_heap _ _ _ _ k1, setCell_heap _ _ _ _ k1, setCell_heap _ _ _ _ k1, setCell_heap _ _ _ _ k1]
    exact (hb.block _ (Nat.lt_of_lt_of_le hk h.size)).trans (h.keep k hk k1)
  · have := hb.size
    have := h.size
    simp; omega

set_option maxRecDepth 100000 in
set_option maxHeartbeats 8000000 in
theorem find_is (fa : Addr) (B : Nat) (bl : List Nat) (L : List Ent) (s : ByteArray) (w : World) (h : FsIs w fa B bl (dl L) L) (hi : Inv L) (hs : s.size ≤ 1000000) (hL : L.length ≤ 900000000) :
    Calls Tryz.prog 25 #[.pointer (some fa), .string s] w fun e W' => e = .returned (lookV L s) ∧ Below w.heap.size w W' := by
  have HH := Lib.hid h
  have HI := Lib.hid hi
  clear h hi
  by_cases h0 : s.size = 0
  · obtain rfl : s = ⟨#[]⟩ := by
      apply eq_of_data
      exact List.eq_nil_of_length_eq_zero h0
    have HV : Hid (lookV L ⟨#[]⟩ = .tuple #[.agg #[.string ⟨#[]⟩, .bool false, .string ⟨#[]⟩, .int .i64 0], .bool false]) := by
      show _ = _
      rfl
    rw [HV.out]
    clear h0 HV
    go_enter Tryz.func25, Tryz.ntmps25
    go_wp2
    exact bodyPost_ret (v := .tuple #[.agg #[.string ⟨#[]⟩, .bool false, .string ⟨#[]⟩, .int .i64 0], .bool false]) (by simp [results, Tryz.results25, go_sem]) rfl ⟨rfl, (Below.refl _ _).alloc (Nat.le_refl _) _⟩
  · have hbe : (s.toList == []) = false := by
      rw [Lib.toList_data, beq_eq_false_iff_ne]
      intro e
      exact h0 (by rw [← len_data, e]; rfl)
    have HV : Hid (lookV L s = .tuple #[((nodeAt L (partsOf s)).getD ndZero).v, .bool (nodeAt L (partsOf s)).isSome]) := by
      show _ = _
      unfold lookV lookN
      rw [if_neg h0]
    have hpp := parts_small s hs
    have HAbs := Lib.hid (fun W => abs_is s W hs)
    have HNm := Lib.hid (fun W => names_is (partsOf s) (bs (absL s.data.toList)) W (abs_text s) (partsOf_good s) (by omega))
    rw [HV.out]
    clear HV
    generalize partsOf s = pt at *
    generalize bs (absL s.data.toList) = ab at *
    obtain ⟨n, hn⟩ : ∃ n, n = pt.length := ⟨_, rfl⟩
    have HN := Lib.hid hn
    rw [← hn] at HNm
    have hn2 : n ≤ 2000002 := by omega
    have HZ : Hid ((flatL pt).length ≤ 2000003) := hpp.1
    clear hn hpp h0
    go_enter Tryz.func25, Tryz.ntmps25
    go_wp2_with fail
    refine (HAbs.out _).mono ?_
    rintro e w0 ⟨rfl, hb0⟩
    have HB0 := Lib.hid hb0
    clear hb0 HAbs
    go_wp2_with fail
    refine (HNm.out _).mono ?_
    rintro e w1 ⟨A, rfl, hsl, hA, hb1⟩
    have h1 := heap_alloc_new (w.alloc zNode) (.cells #[.string ⟨#[47]⟩, .bool true, .string ⟨#[]⟩, .int .i64 1] 65)
    have h0 := heap_alloc_new w zNode
    have hb02 := HB0.out.trans (hb1.mono HB0.out.size)
    rw [World.size_alloc] at h1
    have g1 : w1.heap[w.heap.size + 1]? = some (.cells #[.string ⟨#[47]⟩, .bool true, .string ⟨#[]⟩, .int .i64 1] 65 (0, 0)) := (hb02.block _ (by simp)).trans h1
    have g0 : w1.heap[w.heap.size]? = some (.cells #[.string ⟨#[]⟩, .bool false, .string ⟨#[]⟩, .int .i64 0] 65 (0, 0)) := (hb02.block _ (by simp; omega)).trans ((Lib.alloc_old _ _ _ (by simp)).trans h0)
    have hw1 : Below w.heap.size w w1 := ((alloc_below w _).alloc (by simp) _).trans (hb02.mono (by simp; omega))
    have hs0 := HB0.out.size
    have hs1 := hb1.size
    simp only [World.size_alloc] at hs0
    have hsz1 : w.heap.size + 2 ≤ w1.heap.size := by omega
    have HSL := Lib.hid hsl
    have HA : Hid (pt ≠ [] → ∃ g, A = some ⟨g, 0, none⟩ ∧ w.heap.size + 2 ≤ g) := fun h5 => ⟨w0.heap.size, hA h5, by omega⟩
    have HG0 := Lib.hid g0
    have HStart : Hid (Going w w1 fa B bl L [] w1 ndRoot) := ⟨HH.out.below hw1, hw1, fun _ _ _ => rfl, g1, rfl, Nat.le_refl _⟩
    have HFa : Hid (w.heap.size + 1 ≠ fa.block ∧ w.heap.size + 1 ≠ B ∧ ∀ b ∈ bl, w.heap.size + 1 ≠ b) := ⟨by have := HH.out.lt; omega, by have := HH.out.lt_outer; omega, fun b hb => by have := HH.out.lt_inner hb; omega⟩
    clear hsl hA hb1 hb02 h1 h0 g1 g0 hw1 hs0 hs1 HB0 HNm
    go_wp2_with fail
    go_loopw [20] (fun i wr => ∃ (k : Nat) (q : Nd), k ≤ n ∧ i = .int .i64 k ∧ w1.heap.size ≤ wr.heap.size ∧ Hid (Going w w1 fa B bl L (pt.take k) wr q)) (fun i _ => n - (intOf i).toNat)
    case atStart => exact ⟨0, ndRoot, Nat.zero_le _, rfl, Nat.le_refl _, HStart.out⟩
    case round =>
      obtain ⟨k, q, hk, rfl, hsz, H⟩ := hrel
      have hG := H.out
      obtain ⟨q0, q1, q2, q3, r0, r1, r2, r3⟩ := node_cells q hG.cur
      have gz : wr.heap[w.heap.size]? = some (.cells #[.string ⟨#[]⟩, .bool false, .string ⟨#[]⟩, .int .i64 0] 65 (0, 0)) := (hG.keep _ (by omega) (by omega)).trans HG0.out
      obtain ⟨z0, z1, z2, z3, y0, y1, y2, y3⟩ := zNode_cells gz
      by_cases hlt : k < n
      · have hl : k < pt.length := by have := HN.out; omega
        have hx : pt[k]? = some pt[k] := List.getElem?_eq_getElem hl
        have htk : pt.take (k + 1) = pt.take k ++ [pt[k]] := List.take_succ_eq_append_getElem hl
        have hdk : pt.drop k = pt[k] :: pt.drop (k + 1) := List.drop_eq_getElem_cons hl
        have hpt : pt = (pt.take k ++ [pt[k]]) ++ pt.drop (k + 1) := by rw [← htk, List.take_append_drop]
        obtain ⟨gA, hAe, hgA⟩ := HA.out (fun h5 => by rw [h5] at hl; exact Nat.not_lt_zero _ hl)
        obtain ⟨bA, oA, hAA, hbA, hcA⟩ := HSL.out.at_ (k := k) (x := bs pt[k]) (by rw [List.getElem?_map, hx]; rfl)
        have hbo : bA = gA ∧ oA = 0 := by rw [hAe] at hAA; simp at hAA; exact ⟨hAA.1.symm, hAA.2.symm⟩
        obtain ⟨rfl, rfl⟩ := hbo
        have cn : wr.cell? ⟨bA, 0 + k, none⟩ = some (.string (bs pt[k])) := (World.cell?_of_block (a := ⟨bA, 0 + k, none⟩) (hG.keep _ hbA (by show bA ≠ _; omega))).trans (hcA w1 (Below.refl _ _))
        rw [Nat.zero_add] at cn
        have hml : (maxLen : Nat) = 9223372036854775807 := by unfold maxLen; rfl
        have hxz : (bs pt[k]).size ≤ maxLen := by
          rw [size_bs, hml]
          have h5 := flat_pre_le (pt.take (k + 1)) (pt.drop (k + 1))
          rw [List.take_append_drop, htk, flatL_app, List.length_append, flatL_one, List.length_cons] at h5
          have := HZ.out
          omega
        have c0 := hG.fs.cell
        have c0d : wr.drew.cell? fa = some (.map (some B)) := c0
        have hFd : FsIs wr.drew fa B bl (dl L) L := hG.fs.of_heap rfl
        have hFa : FsIs (wr.alloc zNode).drew fa B bl (dl L) L := (hG.fs.below (alloc_below wr zNode)).of_heap rfl
        have c0a := hFa.cell
        have q3a : (wr.alloc zNode).drew.cell? ⟨w.heap.size + 1, 3, none⟩ = some (.int .i64 q.n) := ((alloc_below wr zNode).cell (p := ⟨w.heap.size + 1, 3, none⟩) (by show w.heap.size + 1 < wr.heap.size; omega)).trans q3
        have HBelow : Hid (Below w.heap.size w wr) := hG.below
        rcases nodeAt_num HI.out hG.node with ⟨hD, hnum⟩ | ⟨hnum, hnone⟩
        · obtain ⟨j, hj1, hj2, hj3⟩ := num_at (HI.out.isDir.2 hD)
          have hjb : j < bl.length := by rw [hG.fs.len]; exact hj2
          obtain ⟨bj, hbj⟩ : ∃ bj, bl[j]? = some bj := ⟨bl[j], List.getElem?_eq_getElem hjb⟩
          have hblen : bl.length ≤ 1099511627776 := by rw [hG.fs.len]; have := dl_len L; omega
          have l1 := hFd.look_dir hbj hblen
          have hqn : ((q.n : Nat) : Int) = (j : Int) + 1 := by rw [hnum, hj1]; omega
          have l1a := hFa.look_dir hbj hblen
          rw [← hqn] at l1 l1a
          have hdm := hFd.inner j _ _ hj3 hbj
          have hdma := hFa.inner j _ _ hj3 hbj
          cases hc : at_ L (pt.take k ++ [pt[k]]) with
          | some e0 =>
            have l2 : (Instr.lookup 43 (.map (some bj)) (.string (bs pt[k])) true).run Tryz.prog wr.drew = .ok (.tuple #[(ndOf L e0).v, .bool true]) wr.drew := hdm.look_some (bs pt[k]) hxz (e := e0) hc
            have l2a : (Instr.lookup 43 (.map (some bj)) (.string (bs pt[k])) true).run Tryz.prog (wr.alloc zNode).drew = .ok (.tuple #[(ndOf L e0).v, .bool true]) (wr.alloc zNode).drew := hdma.look_some (bs pt[k]) hxz (e := e0) hc
            have HNx : Hid (nodeAt L (pt.take (k + 1)) = some (ndOf L e0)) := by
              show _ = _
              rw [htk, nodeAt_snoc, hc]; rfl
            have HNext := Lib.hid (fun W hW => hG.next HFa.out HNx.out (by omega) W hW)
            have gq := (Lib.alloc_old wr (.cells #[.string (ndOf L e0).p, .bool (ndOf L e0).d, .string (ndOf L e0).t, .int .i64 (ndOf L e0).n] 65) (w.heap.size + 1) (by omega)).trans hG.cur
            obtain ⟨p0', p1', p2', p3', s0', s1', s2', s3'⟩ := node_cells (W := wr.alloc (.cells #[.string (ndOf L e0).p, .bool (ndOf L e0).d, .string (ndOf L e0).t, .int .i64 (ndOf L e0).n] 65)) q gq
            obtain ⟨p0, p1, p2, p3, s0, s1, s2, s3⟩ := node_cells (W := (wr.alloc (.cells #[.string (ndOf L e0).p, .bool (ndOf L e0).d, .string (ndOf L e0).t, .int .i64 (ndOf L e0).n] 65)).drew) q gq
            clear gq
            clear hx htk hdk hpt hAA hbA hcA hD hj1 hj2 hj3 hjb hbj hblen hqn hdm hdma hc hFd hFa hnum gz hxz hml
            unfold Nd.v at l2 l2a
            generalize ndOf L e0 = q' at *
            subst hAe
            generalize bs pt[k] = xb at *
            go_wp2_with fail
            go_region
            all_goals go_wp2
            all_goals go_roundw
            all_goals first | exact ⟨k + 1, q', by omega, by go_num, by simp; omega, HNext.out _ rfl⟩ | (simp [intOf]; omega)
          | none =>
            have l2 : (Instr.lookup 43 (.map (some bj)) (.string (bs pt[k])) true).run Tryz.prog wr.drew = .ok (.tuple #[.agg #[.string ⟨#[]⟩, .bool false, .string ⟨#[]⟩, .int .i64 0], .bool false]) wr.drew := hdm.look_no (bs pt[k]) hxz hc
            have l2a : (Instr.lookup 43 (.map (some bj)) (.string (bs pt[k])) true).run Tryz.prog (wr.alloc zNode).drew = .ok (.tuple #[.agg #[.string ⟨#[]⟩, .bool false, .string ⟨#[]⟩, .int .i64 0], .bool false]) (wr.alloc zNode).drew := hdma.look_no (bs pt[k]) hxz hc
            have HE : Hid (Ending.returned (Value.tuple #[.agg #[.string ⟨#[]⟩, .bool false, .string ⟨#[]⟩, .int .i64 0], .bool false]) = Ending.returned (Value.tuple #[((nodeAt L pt).getD ndZero).v, .bool (nodeAt L pt).isSome])) := by
              show _ = _
              have h5 : nodeAt L pt = none := by
                have h6 := nodeAt_up HI.out (p := pt.take k ++ [pt[k]]) (s := pt.drop (k + 1)) (fun h7 => by cases (List.append_eq_nil_iff.1 h7).2) hc
                rw [← hpt] at h6
                rw [nodeAt, if_neg (fun h7 => by rw [h7] at hl; exact Nat.not_lt_zero _ hl), h6]; rfl
              rw [h5]; rfl
            have gz2 : (wr.alloc zNode).drew.heap[w.heap.size]? = some (.cells #[.string ⟨#[]⟩, .bool false, .string ⟨#[]⟩, .int .i64 0] 65 (0, 0)) := (Lib.alloc_old wr zNode _ (by omega)).trans gz
            have gz3 : (wr.alloc zNode).heap[w.heap.size]? = some (.cells #[.string ⟨#[]⟩, .bool false, .string ⟨#[]⟩, .int .i64 0] 65 (0, 0)) := gz2
            obtain ⟨p0', p1', p2', p3', s0', s1', s2', s3'⟩ := zNode_cells gz3
            obtain ⟨p0, p1, p2, p3, s0, s1, s2, s3⟩ := zNode_cells gz2
            clear hx htk hdk hpt hAA hbA hcA hD hj1 hj2 hj3 hjb hbj hblen hqn hdm hdma hc hFd hFa hnum gz gz2 gz3 hxz hml
            subst hAe
            generalize bs pt[k] = xb at *
            go_wp2_with fail
            go_region
            all_goals go_wp2
            all_goals exact bodyPost_ret (v := .tuple #[.agg #[.string ⟨#[]⟩, .bool false, .string ⟨#[]⟩, .int .i64 0], .bool false]) (by simp [results, Tryz.results25, go_sem, p0', p1', p2', p3']) rfl ⟨HE.out, ((((HBelow.out.alloc (by omega) _).drew.setCell (p := ⟨_, _, none⟩) (Nat.le_refl _) _).setCell (p := ⟨_, _, none⟩) (Nat.le_refl _) _).setCell (p := ⟨_, _, none⟩) (Nat.le_refl _) _).setCell (p := ⟨_, _, none⟩) (Nat.le_refl _) _⟩
        · have l1 : (Instr.lookup 44 (.map (some B)) (.int .i64 (q.n : Nat)) false).run Tryz.prog wr.drew = .ok (.map none) wr.drew := by rw [hnum]; exact hFd.look_zero
          have l1a : (Instr.lookup 44 (.map (some B)) (.int .i64 (q.n : Nat)) false).run Tryz.prog (wr.alloc zNode).drew = .ok (.map none) (wr.alloc zNode).drew := by rw [hnum]; exact hFa.look_zero
          have l2 : (Instr.lookup 43 (.map none) (.string (bs pt[k])) true).run Tryz.prog wr.drew = .ok (.tuple #[.agg #[.string ⟨#[]⟩, .bool false, .string ⟨#[]⟩, .int .i64 0], .bool false]) wr.drew := look_none (bs pt[k]) hxz _
          have l2a : (Instr.lookup 43 (.map none) (.string (bs pt[k])) true).run Tryz.prog (wr.alloc zNode).drew = .ok (.tuple #[.agg #[.string ⟨#[]⟩, .bool false, .string ⟨#[]⟩, .int .i64 0], .bool false]) (wr.alloc zNode).drew := look_none (bs pt[k]) hxz _
          have HE : Hid (Ending.returned (Value.tuple #[.agg #[.string ⟨#[]⟩, .bool false, .string ⟨#[]⟩, .int .i64 0], .bool false]) = Ending.returned (Value.tuple #[((nodeAt L pt).getD ndZero).v, .bool (nodeAt L pt).isSome])) := by
            show _ = _
            have h5 : nodeAt L pt = none := by
              have h6 := nodeAt_up HI.out (p := pt.take k ++ [pt[k]]) (s := pt.drop (k + 1)) (fun h7 => by cases (List.append_eq_nil_iff.1 h7).2) (hnone _)
              rw [← hpt] at h6
              rw [nodeAt, if_neg (fun h7 => by rw [h7] at hl; exact Nat.not_lt_zero _ hl), h6]; rfl
            rw [h5]; rfl
          have gz2 : (wr.alloc zNode).drew.heap[w.heap.size]? = some (.cells #[.string ⟨#[]⟩, .bool false, .string ⟨#[]⟩, .int .i64 0] 65 (0, 0)) := (Lib.alloc_old wr zNode _ (by omega)).trans gz
          have gz3 : (wr.alloc zNode).heap[w.heap.size]? = some (.cells #[.string ⟨#[]⟩, .bool false, .string ⟨#[]⟩, .int .i64 0] 65 (0, 0)) := gz2
          obtain ⟨p0', p1', p2', p3', s0', s1', s2', s3'⟩ := zNode_cells gz3
          obtain ⟨p0, p1, p2, p3, s0, s1, s2, s3⟩ := zNode_cells gz2
          clear hx htk hdk hpt hAA hbA hcA hnone hFd hFa hnum gz gz2 gz3 hxz hml
          subst hAe
          generalize bs pt[k] = xb at *
          go_wp2_with fail
          go_region
          all_goals go_wp2
          all_goals exact bodyPost_ret (v := .tuple #[.agg #[.string ⟨#[]⟩, .bool false, .string ⟨#[]⟩, .int .i64 0], .bool false]) (by simp [results, Tryz.results25, go_sem, p0', p1', p2', p3']) rfl ⟨HE.out, ((((HBelow.out.alloc (by omega) _).drew.setCell (p := ⟨_, _, none⟩) (Nat.le_refl _) _).setCell (p := ⟨_, _, none⟩) (Nat.le_refl _) _).setCell (p := ⟨_, _, none⟩) (Nat.le_refl _) _).setCell (p := ⟨_, _, none⟩) (Nat.le_refl _) _⟩
      · have hk2 : pt.length ≤ k := by have := HN.out; omega
        have HNd : Hid (nodeAt L pt = some q) := by
          show _ = _
          have := hG.node
          rw [List.take_of_length_le hk2] at this
          exact this
        have HBl : Hid (Below w.heap.size w wr) := hG.below
        have HE : Hid (Ending.returned (Value.tuple #[.agg #[.string q.p, .bool q.d, .string q.t, .int .i64 q.n], .bool true]) = Ending.returned (Value.tuple #[((nodeAt L pt).getD ndZero).v, .bool (nodeAt L pt).isSome])) := by
          show _ = _
          rw [HNd.out]; rfl
        clear hG H hk2 gz HNd
        go_wp2
        exact bodyPost_ret (v := .tuple #[.agg #[.string q.p, .bool q.d, .string q.t, .int .i64 q.n], .bool true]) (by simp [results, Tryz.results25, go_sem, z0, z1, z2, z3]) rfl
          ⟨HE.out, (((HBl.out.setCell (p := ⟨_, _, none⟩) (Nat.le_refl _) _).setCell (p := ⟨_, _, none⟩) (Nat.le_refl _) _).setCell (p := ⟨_, _, none⟩) (Nat.le_refl _) _).setCell (p := ⟨_, _, none⟩) (Nat.le_refl _) _⟩

end Go.Proofs.YtghfmbmdfojapaaGreatDoor.Vfind
