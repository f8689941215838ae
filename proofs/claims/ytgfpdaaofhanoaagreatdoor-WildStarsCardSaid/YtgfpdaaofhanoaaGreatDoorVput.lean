/- The program's put. -/
import Derived.Test.YtgfpdaaofhanoaaGreatDoorVadd
namespace Go.Proofs.YtgfpdaaofhanoaaGreatDoor.Vput
open Go.RowKit Go.Maps Go.Proofs.YtgfpdaaofhanoaaGreatDoor.Pth Go.Proofs.YtgfpdaaofhanoaaGreatDoor.Pabs Go.Proofs.YtgfpdaaofhanoaaGreatDoor.Strs Go.Proofs.YtgfpdaaofhanoaaGreatDoor.Vfs Go.Proofs.YtgfpdaaofhanoaaGreatDoor.Vmap Go.Proofs.YtgfpdaaofhanoaaGreatDoor.Vnames Go.Proofs.YtgfpdaaofhanoaaGreatDoor.Vadd

/-- while the parts are gone through: w0 at the call, w1 at the loop's start -/
structure Under (w0 w1 : World) (fa : Addr) (B base : Nat) (bl : List Nat) (wr : World) (blk : List Nat) (L : List Ent) : Prop where
  fs : FsIs wr fa B blk (dl L) L
  inv : Inv L
  below : Below base w0 wr
  keep : ∀ k, k < w1.heap.size → k ≠ B → k ∉ bl → wr.heap[k]? = w1.heap[k]?
  blk : ∀ b ∈ blk, base ≤ b ∧ (b ∈ bl ∨ w1.heap.size ≤ b)
  size : w1.heap.size ≤ wr.heap.size
theorem Under.later {w0 w1 wr W : World} {fa : Addr} {B base : Nat} {bl blk : List Nat} {L : List Ent} (h : Under w0 w1 fa B base bl wr blk L) (hbase : base ≤ wr.heap.size) (hb : Below wr.heap.size wr W) : Under w0 w1 fa B base bl W blk L :=
  ⟨h.fs.below hb, h.inv, h.below.trans (hb.mono hbase), fun k hk h1 h2 => (hb.block k (Nat.lt_of_lt_of_le hk h.size)).trans (h.keep k hk h1 h2), h.blk, Nat.le_trans h.size hb.size⟩

theorem zNode_cells {W : World} {g : Nat} (h : W.heap[g]? = some (.cells #[.string ⟨#[]⟩, .bool false, .string ⟨#[]⟩, .int .i64 0] 77 (0, 0))) :
    W.cell? ⟨g, 0, none⟩ = some (.string ⟨#[]⟩) ∧ W.cell? ⟨g, 1, none⟩ = some (.bool false) ∧ W.cell? ⟨g, 2, none⟩ = some (.string ⟨#[]⟩) ∧ W.cell? ⟨g, 3, none⟩ = some (.int .i64 0) ∧ W.frozen? ⟨g, 0, none⟩ = false ∧ W.frozen? ⟨g, 1, none⟩ = false ∧ W.frozen? ⟨g, 2, none⟩ = false ∧ W.frozen? ⟨g, 3, none⟩ = false :=
  ⟨by rw [Lib.cell_of_heap h]; rfl, by rw [Lib.cell_of_heap h]; rfl, by rw [Lib.cell_of_heap h]; rfl, by rw [Lib.cell_of_heap h]; rfl, Lib.frozen_of_heap h 0, Lib.frozen_of_heap h 1, Lib.frozen_of_heap h 2, Lib.frozen_of_heap h 3⟩

theorem Under.stored {w0 w1 wr : World} {fa : Addr} {B base : Nat} {bl blk : List Nat} {L : List Ent} (h : Under w0 w1 fa B base bl wr blk L) (a : Addr) (v : Value) (h0 : w1.heap.size ≤ a.block) (hb : base ≤ a.block) (h1 : a.block ≠ fa.block) (h2 : a.block ≠ B) (h3 : a.block ∉ blk) : Under w0 w1 fa B base bl (wr.setCell a v) blk L :=
  ⟨h.fs.setCell a v h1 h2 (fun b hb2 e => h3 (e ▸ hb2)), h.inv, h.below.setCell hb v, fun k hk k1 k2 => by rw [setCell_heap _ _ _ _ (by omega)]; exact h.keep k hk k1 k2, h.blk, by simpa using h.size⟩

/-- the next thing laid: what add leaves -/
theorem Under.added {w0 w1 wr : World} {fa : Addr} {B base : Nat} {bl blk : List Nat} {L : List Ent} (h : Under w0 w1 fa B base bl wr blk L) (x p t : ByteArray) (q : Wy) (e : Ent) (d : Int)
    (hd : IsDir L q) (hnum : d = (num (dl L) q : Nat)) (he : e.pt = q ++ [x.data.toList]) (hn : at_ L e.pt = none) (hx : x.size ≤ 3000000) (hL : L.length ≤ 900000000) (hp : pathB e.pt = p) (ht : e.text = t) (hg : ∀ y ∈ e.pt, Pth.Good y) (hb : e.dir = true → e.text = ⟨#[]⟩)
    (hbase : base ≤ w1.heap.size) (hbB : base ≤ B) (W : World) (hW : Below (wr.alloc zNode).heap.size (wr.alloc zNode) W) :
    Calls Tryz.prog 43 #[.pointer (some fa), .int .i64 d, .string x, .agg #[.string p, .bool e.dir, .string t]] W fun r W' => r = .returned (.agg #[.string p, .bool e.dir, .string t, .int .i64 (numE (dl (L ++ [e])) e)]) ∧ ∃ bl', Under w0 w1 fa B base bl W' bl' (L ++ [e]) ∧ (wr.heap.size ≠ fa.block ∧ wr.heap.size ≠ B ∧ wr.heap.size ∉ bl') ∧ W'.heap[wr.heap.size]? = some (.cells #[.string ⟨#[]⟩, .bool false, .string ⟨#[]⟩, .int .i64 0] 77 (0, 0)) ∧ w1.heap.size ≤ W'.heap.size := by
  have hWs := hW.size
  rw [World.size_alloc] at hWs
  have hws := h.size
  have hB0 : Below wr.heap.size wr W := (alloc_below wr zNode).trans (hW.mono (by simp))
  have hU : Under w0 w1 fa B base bl W blk L := h.later (by omega) hB0
  have hz : W.heap[wr.heap.size]? = some (.cells #[.string ⟨#[]⟩, .bool false, .string ⟨#[]⟩, .int .i64 0] 77 (0, 0)) := (hW.block _ (by simp)).trans (heap_alloc_new wr zNode)
  have hnb : wr.heap.size ∉ blk := fun hm => by have := h.fs.lt_inner hm; omega
  have hnB : wr.heap.size ≠ B := by have := h.fs.lt_outer; omega
  refine (add_is W fa B base x p t blk L q e d hU.fs hU.inv hd hnum he hn hx hL hp ht (by omega) hbB (fun b hb => (h.blk b hb).1)).mono ?_
  rintro r W' ⟨rfl, bl', hF, hbl, hB, hK⟩
  refine ⟨by rw [nodeV, hp, ht], bl', ⟨hF, hU.inv.snoc he hn hd hg hb, hU.below.trans hB, fun k hk k1 k2 => ?_, fun b hb2 => ?_, Nat.le_trans hU.size hB.size⟩, ⟨by have := h.fs.lt; omega, hnB, fun hm => ?_⟩, (hK _ (by omega) hnB hnb).trans hz, Nat.le_trans hU.size hB.size⟩
  · refine (hK k (by omega) k1 (fun hm => ?_)).trans (hU.keep k hk k1 k2)
    rcases (h.blk k hm).2 with h5 | h5
    · exact k2 h5
    · omega
  · refine ⟨(hbl b hb2).1, ?_⟩
    rcases (hbl b hb2).2 with h5 | h5
    · exact (h.blk b h5).2
    · exact .inr (by omega)
  · rcases (hbl _ hm).2 with h5 | h5
    · exact hnb h5
    · omega

set_option maxRecDepth 100000 in
set_option maxHeartbeats 8000000 in
theorem put_is (w : World) (fa : Addr) (B base : Nat) (bl : List Nat) (L : List Ent) (pt : Wy) (s t : ByteArray) (dir : Bool)
    (h : FsIs w fa B bl (dl L) L) (hi : Inv L) (hs : s = absT pt ∨ (s = ⟨#[]⟩ ∧ pt = [])) (hg : ∀ y ∈ pt, Pth.Good y) (hz : (flatL pt).length ≤ 3000000) (ht : t.size ≤ 1000000) (hbare : dir = true → t = ⟨#[]⟩)
    (m : Nat) (hsm : Small m L) (hm : m + pt.length ≤ 900000000) (hbase : base ≤ w.heap.size) (hbB : base ≤ B) (hbb : ∀ b ∈ bl, base ≤ b) :
    Calls Tryz.prog 22 #[.pointer (some fa), .agg #[.string s, .bool dir, .string t]] w fun r W' => r = .returned (.tuple #[]) ∧ ∃ bl', FsIs W' fa B bl' (dl (putR dir t L [] pt)) (putR dir t L [] pt) ∧ (∀ b ∈ bl', base ≤ b ∧ (b ∈ bl ∨ w.heap.size ≤ b)) ∧ Below base w W' ∧ ∀ k, k < w.heap.size → k ≠ B → k ∉ bl → W'.heap[k]? = w.heap[k]? := by
  have HNm := Lib.hid (fun W => names_is pt s W hs hg hz)
  have HH := Lib.hid h
  have HI := Lib.hid hi
  have HG := Lib.hid hg
  have HS := Lib.hid hs
  have HSm := Lib.hid hsm
  have HBB := Lib.hid hbb
  have HBare := Lib.hid hbare
  obtain ⟨n, hn⟩ : ∃ n, n = pt.length := ⟨_, rfl⟩
  have hn3 : n ≤ 900000000 := by omega
  have HN := Lib.hid hn
  rw [← hn] at HNm
  clear h hi hg hs hsm hbb hbare hn
  go_enter Tryz.func22, Tryz.ntmps22
  go_wp2_with fail
  refine (HNm.out _).mono ?_
  rintro e w1 ⟨A, rfl, hsl, hA, hb1⟩
  clear HNm
  have HSL := Lib.hid hsl
  have HA := Lib.hid hA
  have hs1 := hb1.size
  rw [World.size_alloc] at hs1
  have HB1 := Lib.hid ((alloc_below w (.cells #[.string s, .bool dir, .string t] 40)).trans (hb1.mono (by simp)))
  have hbox : w1.heap[w.heap.size]? = some (.cells #[.string s, .bool dir, .string t] 40 (0, 0)) := (hb1.block _ (by simp)).trans (heap_alloc_new w _)
  have HBox := Lib.hid hbox
  have hbase1 : base ≤ w1.heap.size := by omega
  have HU0 : Hid (Under w w1 fa B base bl w1 bl L) := ⟨HH.out.below HB1.out, HI.out, HB1.out.mono hbase, fun _ _ _ _ => rfl, fun b hb => ⟨HBB.out b hb, .inl hb⟩, Nat.le_refl _⟩
  have HFr : Hid (w.heap.size ≠ B ∧ w.heap.size ∉ bl ∧ w.heap.size + 1 ≠ B ∧ w.heap.size + 1 ∉ bl) := ⟨by have := HH.out.lt_outer; omega, fun hm2 => by have := HH.out.lt_inner hm2; omega, by have := HH.out.lt_outer; omega, fun hm2 => by have := HH.out.lt_inner hm2; omega⟩
  have HEnd : Hid (∀ wr blk L', L' = putR dir t L [] pt → Under w w1 fa B base bl wr blk L' → ∃ bl', FsIs wr fa B bl' (dl (putR dir t L [] pt)) (putR dir t L [] pt) ∧ (∀ b ∈ bl', base ≤ b ∧ (b ∈ bl ∨ w.heap.size ≤ b)) ∧ Below base w wr ∧ ∀ k, k < w.heap.size → k ≠ B → k ∉ bl → wr.heap[k]? = w.heap[k]?) := fun wr blk L' e hU => by
    subst e
    exact ⟨blk, hU.fs, fun b hb => ⟨(hU.blk b hb).1, (hU.blk b hb).2.imp id (fun h => by omega)⟩, hU.below, fun k hk k1 k2 => (hU.keep k (by omega) k1 k2).trans (HB1.out.block k hk)⟩
  clear hsl hA hb1 hbox HI HH HBB
  go_wp2_with fail
  go_loopw [4, 5, 14] (fun d en i wr => ∃ (k en' : Nat) (d' : Int) (Lk : List Ent) (blk : List Nat), k ≤ n ∧ en' ≤ 3000000 ∧ i = .int .i64 k ∧ en = .int .i64 en' ∧ d = .int .i64 d' ∧ w1.heap.size ≤ wr.heap.size ∧ Hid (Under w w1 fa B base bl wr blk Lk ∧ Small (m + k) Lk ∧ en' = (flatL (pt.take k)).length ∧ putR dir t Lk (pt.take k) (pt.drop k) = putR dir t L [] pt ∧ (k < n → IsDir Lk (pt.take k) ∧ d' = (num (dl Lk) (pt.take k) : Nat)))) (fun _ _ i _ => n - (intOf i).toNat)
  case atStart => exact ⟨0, 0, 1, L, bl, Nat.zero_le _, Nat.zero_le _, rfl, rfl, rfl, Nat.le_refl _, HU0.out, HSm.out, rfl, rfl, fun _ => ⟨.inl rfl, rfl⟩⟩
  case round =>
    obtain ⟨k, en', d', Lk, blk, hk, hen, rfl, rfl, rfl, hsz, H⟩ := hrel
    by_cases hlt : k < n
    · have hl : k < pt.length := by have := HN.out; omega
      have hx : pt[k]? = some pt[k] := List.getElem?_eq_getElem hl
      obtain ⟨hUn, hSm, hflat, hput, hdir⟩ := H.out
      obtain ⟨hD, hnum⟩ := hdir hlt
      have htk : pt.take (k + 1) = pt.take k ++ [pt[k]] := List.take_succ_eq_append_getElem hl
      have hdk : pt.drop k = pt[k] :: pt.drop (k + 1) := List.drop_eq_getElem_cons hl
      have hpt : pt = pt.take k ++ pt[k] :: pt.drop (k + 1) := by rw [← hdk, List.take_append_drop]
      rw [hdk] at hput
      have hgood : ∀ y ∈ pt.take k ++ [pt[k]], Pth.Good y := fun y hy => HG.out y (by rw [← htk] at hy; exact List.mem_of_mem_take hy)
      have hAe := HA.out (fun h0 => by rw [h0] at hl; exact Nat.not_lt_zero _ hl)
      rw [World.size_alloc] at hAe
      obtain ⟨bA, oA, hAA, hbA, hcA⟩ := HSL.out.at_ (k := k) (x := bs pt[k]) (by rw [List.getElem?_map, hx]; rfl)
      have hbo : bA = w.heap.size + 1 ∧ oA = 0 := by rw [hAe] at hAA; simp at hAA; exact ⟨hAA.1.symm, hAA.2.symm⟩
      obtain ⟨rfl, rfl⟩ := hbo
      have cn : wr.cell? ⟨w.heap.size + 1, 0 + k, none⟩ = some (.string (bs pt[k])) := (World.cell?_of_block (a := ⟨w.heap.size + 1, 0 + k, none⟩) (hUn.keep _ hbA HFr.out.2.2.1 HFr.out.2.2.2)).trans (hcA w1 (Below.refl _ _))
      rw [Nat.zero_add] at cn
      have hAs : A = some ⟨w.heap.size + 1, 0, none⟩ := hAe
      have hbx : wr.heap[w.heap.size]? = some (.cells #[.string s, .bool dir, .string t] 40 (0, 0)) := (hUn.keep _ (by omega) HFr.out.1 HFr.out.2.1).trans HBox.out
      have hfl : (flatL (pt.take k ++ [pt[k]])).length = en' + (1 + pt[k].length) := by rw [flatL_app, List.length_append, flatL_one, List.length_cons, hflat]; omega
      have hfle : (flatL (pt.take k ++ [pt[k]])).length ≤ 3000000 := by 
        have h5 := flat_pre_le (pt.take (k + 1)) (pt.drop (k + 1))
        rw [List.take_append_drop] at h5
        rw [← htk]; omega
      have hs2 : s = pathB pt := by
        rcases HS.out with h5 | ⟨_, h5⟩
        · rw [h5]; exact absT_ne (fun h6 => by rw [h6] at hl; exact Nat.not_lt_zero _ hl)
        · rw [h5] at hl; exact absurd hl (Nat.not_lt_zero _)
      obtain ⟨j, hj1, hj2, hj3⟩ := num_at (hUn.inv.isDir.2 hD)
      have hLk : Lk.length ≤ m + k := hSm.len
      have hjb : j < blk.length := by rw [hUn.fs.len]; exact hj2
      obtain ⟨bj, hbj⟩ : ∃ bj, blk[j]? = some bj := ⟨blk[j], List.getElem?_eq_getElem hjb⟩
      have hblen : blk.length ≤ 1099511627776 := by rw [hUn.fs.len]; have := dl_len Lk; omega
      have l1 := hUn.fs.look_dir hbj hblen
      have hdm := hUn.fs.inner j _ _ hj3 hbj
      have hd' : d' = (j : Int) + 1 := by rw [hnum, hj1]; omega
      rw [← hd'] at l1
      have c0 := hUn.fs.cell
      have hxz : (bs pt[k]).size ≤ 3000000 := by rw [size_bs]; omega
      have hml : (maxLen : Nat) = 9223372036854775807 := by unfold maxLen; rfl
      have w1' : IntKind.i64.wrap (1 + ((bs pt[k]).size : Int)) = 1 + ((bs pt[k]).size : Int) := IntWalk.i64_in _ (by omega)
      have hsz1 : en' + (1 + (bs pt[k]).size) ≤ 3000000 := by rw [size_bs]; omega
      cases hc : at_ Lk (pt.take k ++ [pt[k]]) with
      | some e0 =>
        have l2 := hdm.look_some (bs pt[k]) (by omega) (e := e0) hc
        unfold nodeV at l2
        have hUL : Hid (∀ o, Under w w1 fa B base bl (wr.alloc o) blk Lk) := fun o => hUn.later (by omega) (alloc_below wr o)
        cases hed : e0.dir with
        | true =>
          have HN2 : Hid (Small (m + (k + 1)) Lk ∧ en' + (1 + (bs pt[k]).size) = (flatL (pt.take (k + 1))).length ∧ putR dir t Lk (pt.take (k + 1)) (pt.drop (k + 1)) = putR dir t L [] pt ∧ (k + 1 < n → IsDir Lk (pt.take (k + 1)) ∧ ((numE (dl Lk) e0 : Nat) : Int) = (num (dl Lk) (pt.take (k + 1)) : Nat))) := by
            refine ⟨hSm.mono (by omega), by rw [htk, hfl, size_bs], by rw [htk, ← hput, putR_there hc hed], fun _ => ⟨by rw [htk]; exact .inr ⟨e0, hc, hed⟩, ?_⟩⟩
            unfold numE
            rw [hed, if_pos rfl, (at_mem hc).2, htk]
          rw [hed] at l2
          clear hUn hSm hflat hput hdir hD hnum htk hdk hpt hgood hAe hAA hbA hcA hbx hfl hfle hs2 hj1 hj2 hj3 hjb hbj hblen hdm hd' hc hed H hx hLk hml
          subst hAs
          generalize bs pt[k] = xb at *
          generalize pathB e0.pt = pe at *
          generalize e0.text = te at *
          generalize ((numE (dl Lk) e0 : Nat) : Int) = ne at *
          go_wp2
          go_roundw
          case rel => exact ⟨k + 1, en' + (1 + xb.size), ne, Lk, blk, by omega, hsz1, by go_num, by go_num, rfl, by simp; omega, hUL.out _, HN2.out.1, HN2.out.2.1, HN2.out.2.2.1, HN2.out.2.2.2⟩
          case measure => simp [intOf]; omega
        | false =>
          have HT : Hid (Lk = putR dir t L [] pt) := by
            show _ = _
            rw [← hput, putR_file hc hed]
          have HX := Lib.hid (fun o => HEnd.out (wr.alloc o) blk Lk HT.out (hUL.out o))
          rw [hed] at l2
          clear hUn hSm hflat hput hdir hD hnum htk hdk hpt hgood hAe hAA hbA hcA hbx hfl hfle hs2 hj1 hj2 hj3 hjb hbj hblen hdm hd' hc hed H hx hLk hml HT hUL
          subst hAs
          generalize bs pt[k] = xb at *
          generalize pathB e0.pt = pe at *
          generalize e0.text = te at *
          generalize ((numE (dl Lk) e0 : Nat) : Int) = ne at *
          go_wp2
          exact bodyPost_ret (v := .tuple #[]) (by simp [results, Tryz.results22, go_sem]) rfl ⟨rfl, HX.out _⟩
      | none =>
        have l2 : (Instr.lookup 49 (.map (some bj)) (.string (bs pt[k])) true).run Tryz.prog wr = .ok (.tuple #[.agg #[.string ⟨#[]⟩, .bool false, .string ⟨#[]⟩, .int .i64 0], .bool false]) wr := hdm.look_no (bs pt[k]) (by omega) hc
        have hUp := fun W => upTo_is pt (pt.take k) (pt.drop (k + 1)) pt[k] dir t W hpt hz
        have hen2 : (((flatL (pt.take k ++ [pt[k]])).length : Nat) : Int) = (en' : Int) + (1 + ((bs pt[k]).size : Int)) := by rw [hfl, size_bs]; omega
        rw [← hs2, hen2] at hUp
        obtain ⟨ne, hne⟩ : ∃ ne, ne = nextE dir t (pt.take k) pt[k] (pt.drop (k + 1)) := ⟨_, rfl⟩
        have hpe : ne.pt = pt.take k ++ [pt[k]] := by rw [hne]; exact nextE_pt ..
        have hte : ne.text.size ≤ 1000000 := by
          rw [hne]; unfold nextE; split
          · exact ht
          · exact Nat.zero_le _
        have hAdd := fun W hW => hUn.added (bs pt[k]) (pathB (pt.take k ++ [pt[k]])) ne.text (pt.take k) ne d' hD hnum hpe (by rw [hpe]; exact hc) hxz (by omega) (by rw [hpe]) rfl (by rw [hpe]; exact hgood) (fun hd2 => by rw [hne] at hd2 ⊢; exact nextE_bare HBare.out _ _ _ hd2) hbase1 hbB W hW
        have HN2 : Hid (Small (m + (k + 1)) (Lk ++ [ne]) ∧ en' + (1 + (bs pt[k]).size) = (flatL (pt.take (k + 1))).length ∧ putR dir t (Lk ++ [ne]) (pt.take (k + 1)) (pt.drop (k + 1)) = putR dir t L [] pt ∧ (k + 1 < n → IsDir (Lk ++ [ne]) (pt.take (k + 1)) ∧ ((numE (dl (Lk ++ [ne])) ne : Nat) : Int) = (num (dl (Lk ++ [ne])) (pt.take (k + 1)) : Nat))) := by
          refine ⟨(hSm.snoc (by rw [hpe]; exact hfle) hte).mono (by omega), by rw [htk, hfl, size_bs], by rw [htk, ← hput, putR_new hc, hne], fun hk1 => ?_⟩
          have hr : pt.drop (k + 1) ≠ [] := fun h5 => by
            have h6 := List.drop_eq_nil_iff.1 h5
            have := HN.out
            omega
          have hd2 : ne.dir = true := by rw [hne]; exact nextE_dir _ _ _ _ _ hr
          refine ⟨by rw [htk]; exact .inr ⟨ne, at_snoc_same hc hpe, hd2⟩, ?_⟩
          unfold numE
          rw [hd2, if_pos rfl, hpe, htk]
        rw [← hne] at hUp
        have b0 : (wr.alloc zNode).cell? ⟨w.heap.size, 0, none⟩ = some (.string s) := by
          rw [Lib.cell_of_heap ((Lib.alloc_old _ _ _ (by omega)).trans hbx)]; rfl
        have b1 : (wr.alloc zNode).cell? ⟨w.heap.size, 1, none⟩ = some (.bool dir) := by
          rw [Lib.cell_of_heap ((Lib.alloc_old _ _ _ (by omega)).trans hbx)]; rfl
        have b2 : (wr.alloc zNode).cell? ⟨w.heap.size, 2, none⟩ = some (.string t) := by
          rw [Lib.cell_of_heap ((Lib.alloc_old _ _ _ (by omega)).trans hbx)]; rfl
        have HUp := Lib.hid hUp
        have HAdd := Lib.hid hAdd
        clear hUn hSm hflat hput hdir hD hnum htk hdk hpt hgood hAe hAA hbA hcA hbx hfl hfle hs2 hj1 hj2 hj3 hjb hbj hblen hdm hd' hc H hx hLk hml hUp hAdd hne hpe hte
        clear hen2
        subst hAs
        generalize bs pt[k] = xb at *
        generalize pathB (pt.take k ++ [pt[k]]) = pe at *
        generalize ne.text = te at *
        go_wp2_with fail
        refine (HUp.out _).mono ?_
        rintro e W2 ⟨rfl, hb2⟩
        have hAd := HAdd.out W2 hb2
        clear HUp HAdd hb2
        generalize ne.dir = nd at *
        have HAd := Lib.hid hAd
        clear hAd
        go_wp2_with fail
        refine HAd.out.mono ?_
        rintro e W3 ⟨rfl, bl', hU3, hfr3, hz3, hs3⟩
        obtain ⟨z0, z1, z2, z3, f0, f1, f2, f3⟩ := zNode_cells hz3
        have HU3 : Hid (∀ v0 v1 v2 v3, Under w w1 fa B base bl ((((W3.setCell ⟨wr.heap.size, 0, none⟩ v0).setCell ⟨wr.heap.size, 1, none⟩ v1).setCell ⟨wr.heap.size, 2, none⟩ v2).setCell ⟨wr.heap.size, 3, none⟩ v3) bl' (Lk ++ [ne])) := fun v0 v1 v2 v3 =>
          (((hU3.stored ⟨wr.heap.size, 0, none⟩ v0 (by show w1.heap.size ≤ wr.heap.size; omega) (by show base ≤ wr.heap.size; omega) hfr3.1 hfr3.2.1 hfr3.2.2).stored ⟨wr.heap.size, 1, none⟩ v1 (by show w1.heap.size ≤ wr.heap.size; omega) (by show base ≤ wr.heap.size; omega) hfr3.1 hfr3.2.1 hfr3.2.2).stored ⟨wr.heap.size, 2, none⟩ v2 (by show w1.heap.size ≤ wr.heap.size; omega) (by show base ≤ wr.heap.size; omega) hfr3.1 hfr3.2.1 hfr3.2.2).stored ⟨wr.heap.size, 3, none⟩ v3 (by show w1.heap.size ≤ wr.heap.size; omega) (by show base ≤ wr.heap.size; omega) hfr3.1 hfr3.2.1 hfr3.2.2
        clear hU3 hfr3 hz3 HAd
        generalize ((numE (dl (Lk ++ [ne])) ne : Nat) : Int) = nv at *
        go_wp2
        go_roundw
        case rel => exact ⟨k + 1, en' + (1 + xb.size), nv, Lk ++ [ne], bl', by omega, hsz1, by go_num, by go_num, rfl, by simp; omega, HU3.out _ _ _ _, HN2.out.1, HN2.out.2.1, HN2.out.2.2.1, HN2.out.2.2.2⟩
        case measure => simp [intOf]; omega
    · have hk2 : pt.length ≤ k := by have := HN.out; omega
      have HT : Hid (Lk = putR dir t L [] pt) := by
        show _ = _
        rw [← H.out.2.2.2.1, List.drop_eq_nil_of_le hk2]; rfl
      have HX := Lib.hid (HEnd.out wr blk Lk HT.out H.out.1)
      clear H HT hk2
      go_wp2
      go_end0
      exact ⟨rfl, HX.out⟩

end Go.Proofs.YtgfpdaaofhanoaaGreatDoor.Vput
