/- Words with wildcards, cut into parts (no program); slices of parts in memory. -/
import Derived.OwnWalk
import Derived.Laws.OwnMore
import Derived.Deep.DeepCutAuto
import Derived.Test.YtgfpdaaofhanoaaGreatDoorVlook
import Derived.Test.YtgfpdaaofhanoaaGreatDoorGplain
namespace Go.Proofs.YtgfpdaaofhanoaaGreatDoor.Wdp
open Go.RowKit Go.Proofs.YtgfpdaaofhanoaaGreatDoor.Pth Go.Proofs.YtgfpdaaofhanoaaGreatDoor.Strs

abbrev T := List UInt8
/-- a part, or a step: its text, whether it is Magic -/
structure Pt where
  text : T
  magic : Bool
def ptOf (x : T) : Option Pt := if x = [] then none else if Gmagic.magicL x then some ⟨x, true⟩ else some ⟨Glb.plainL x, false⟩
def partsP (s : T) : List Pt := (splitL s).filterMap ptOf
def upP (xs : List T) (k : Nat) : List Pt := (xs.take k).filterMap ptOf
theorem upP_zero (xs : List T) : upP xs 0 = [] := rfl
theorem upP_none {xs : List T} {k : Nat} {x : T} (h : xs[k]? = some x) (hp : ptOf x = none) : upP xs (k + 1) = upP xs k := by
  obtain ⟨hl, rfl⟩ := List.getElem?_eq_some_iff.1 h
  rw [upP, List.take_succ_eq_append_getElem hl, List.filterMap_append, List.filterMap_cons, hp]
  exact List.append_nil _
theorem upP_some {xs : List T} {k : Nat} {x : T} {p : Pt} (h : xs[k]? = some x) (hp : ptOf x = some p) : upP xs (k + 1) = upP xs k ++ [p] := by
  obtain ⟨hl, rfl⟩ := List.getElem?_eq_some_iff.1 h
  rw [upP, List.take_succ_eq_append_getElem hl, List.filterMap_append, List.filterMap_cons, hp]
  rfl
theorem upP_all (xs : List T) (k : Nat) (h : xs.length ≤ k) : upP xs k = xs.filterMap ptOf := by rw [upP, List.take_of_length_le h]
theorem upP_len (xs : List T) (k : Nat) : (upP xs k).length ≤ k := Nat.le_trans (List.length_filterMap_le ..) (by rw [List.length_take]; omega)

theorem rows_below {w W : World} {B e k : Nat} {v : Value} {n : Nat} {xs : List Value} (h : w.ownsRow B e k v n xs) (hg : ∀ g, v.ownBlock = some g → W.heap[g]? = w.heap[g]?) : W.ownsRow B e k v n xs := by
  refine ⟨h.1, ?_⟩
  rcases h.2 with h0 | ⟨g, cap, cur, hv, hB, hb, hr⟩
  · exact .inl h0
  · exact .inr ⟨g, cap, cur, hv, hB, (hg g (by rw [hv]; rfl)).trans hb, hr⟩

/-! ### in memory -/
def encP (p : Pt) : List Value := [.string (bs p.text), .bool p.magic]
def cellsP (l : List Pt) : List Value := l.flatMap encP
theorem cellsP_len : ∀ l : List Pt, (cellsP l).length = l.length * 2
  | [] => rfl
  | x :: l => by
    have := cellsP_len l
    unfold cellsP at *
    rw [List.flatMap_cons, List.length_append, this, List.length_cons]
    show 2 + _ = _
    omega
theorem cellsP_app (a b : List Pt) : cellsP (a ++ b) = cellsP a ++ cellsP b := List.flatMap_append
theorem cellsP_at : ∀ (l : List Pt) (j : Nat) (x : Pt), l[j]? = some x → (cellsP l)[j * 2]? = some (.string (bs x.text)) ∧ (cellsP l)[j * 2 + 1]? = some (.bool x.magic)
  | [], _, _, h => by cases h
  | y :: l, 0, x, h => by cases h; exact ⟨rfl, rfl⟩
  | y :: l, j + 1, x, h => by
    obtain ⟨h1, h2⟩ := cellsP_at l j x (by simpa using h)
    have e : ∀ k, (cellsP (y :: l))[(j + 1) * 2 + k]? = (cellsP l)[j * 2 + k]? := fun k => by
      show (encP y ++ cellsP l)[(j + 1) * 2 + k]? = _
      rw [List.getElem?_append_right (by show 2 ≤ _; omega)]
      congr 1
      show (j + 1) * 2 + k - 2 = _
      omega
    exact ⟨(e 0).trans h1, (e 1).trans h2⟩
theorem cellsP_one (l : List Pt) : ∀ u ∈ cellsP l, u.oneCell' = true := fun u hu => by
  obtain ⟨p, _, hp⟩ := List.mem_flatMap.1 hu
  simp [encP] at hp
  rcases hp with rfl | rfl <;> rfl
/-- a slice of parts -/
def PtIs (w : World) (A : Option Addr) (c : Nat) (l : List Pt) : Prop :=
  l.length ≤ c ∧ (l = [] ∨ ∃ b o, A = some ⟨b, o, none⟩ ∧ b < w.heap.size ∧ ∀ j x, l[j]? = some x → w.cell? ⟨b, o + j * 2, none⟩ = some (.string (bs x.text)) ∧ w.cell? ⟨b, o + j * 2 + 1, none⟩ = some (.bool x.magic))
theorem PtIs.below {w w' : World} {A : Option Addr} {c : Nat} {l : List Pt} (h : PtIs w A c l) (hb : Below w.heap.size w w') : PtIs w' A c l :=
  ⟨h.1, h.2.imp id fun ⟨b, o, e, hl, hc⟩ => ⟨b, o, e, Nat.lt_of_lt_of_le hl hb.size, fun j x hj => ⟨(hb.cell (p := ⟨b, o + j * 2, none⟩) hl).trans (hc j x hj).1, (hb.cell (p := ⟨b, o + j * 2 + 1, none⟩) hl).trans (hc j x hj).2⟩⟩⟩
theorem PtIs.at_ {w : World} {A : Option Addr} {c k : Nat} {l : List Pt} (h : PtIs w A c l) {x : Pt} (hx : l[k]? = some x) :
    ∃ b o, A = some ⟨b, o, none⟩ ∧ b < w.heap.size ∧ ∀ W, Below w.heap.size w W → W.cell? ⟨b, o + k * 2, none⟩ = some (.string (bs x.text)) ∧ W.cell? ⟨b, o + k * 2 + 1, none⟩ = some (.bool x.magic) := by
  rcases h.2 with rfl | ⟨b, o, e, hl, hc⟩
  · cases hx
  · exact ⟨b, o, e, hl, fun W hb => ⟨(hb.cell (p := ⟨b, o + k * 2, none⟩) hl).trans (hc k x hx).1, (hb.cell (p := ⟨b, o + k * 2 + 1, none⟩) hl).trans (hc k x hx).2⟩⟩
/-- cut -/
theorem PtIs.drop {w : World} {b o c : Nat} {l : List Pt} (h : PtIs w (some ⟨b, o, none⟩) c l) (k : Nat) (hk : k ≤ l.length) : PtIs w (some ⟨b, o + k * 2, none⟩) (c - k) (l.drop k) := by
  refine ⟨by rw [List.length_drop]; have := h.1; omega, ?_⟩
  rcases h.2 with rfl | ⟨b1, o1, e, hl, hc⟩
  · left; simp
  · obtain ⟨rfl, rfl⟩ : b = b1 ∧ o = o1 := by simpa using e
    refine .inr ⟨b, o + k * 2, rfl, hl, fun j x hj => ?_⟩
    rw [List.getElem?_drop] at hj
    obtain ⟨h1, h2⟩ := hc _ _ hj
    rw [show o + k * 2 + j * 2 = o + (k + j) * 2 by omega]
    exact ⟨h1, h2⟩
theorem PtIs.take {w : World} {A : Option Addr} {c : Nat} {l : List Pt} (h : PtIs w A c l) (k : Nat) : PtIs w A c (l.take k) := by
  refine ⟨by rw [List.length_take]; have := h.1; omega, ?_⟩
  rcases h.2 with rfl | ⟨b, o, e, hl, hc⟩
  · left; simp
  · refine .inr ⟨b, o, e, hl, fun j x hj => ?_⟩
    rw [List.getElem?_take] at hj
    split at hj
    · exact hc _ _ hj
    · cases hj
theorem ptIs_of_own {w : World} {base e : Nat} {v : Value} {n : Nat} {l : List Pt} (hn : l.length = n) (h : w.ownsRow base e 2 v n (cellsP l)) :
    ∃ A c, v = .slice A n c ∧ PtIs w A c l := by
  rcases h.2 with ⟨rfl, h0⟩ | ⟨g, cap, cur, rfl, _, hg, hle, _, _, _⟩
  · exact ⟨none, 0, by rw [h0], by rw [hn, h0]; exact Nat.le_refl _, .inl (List.eq_nil_of_length_eq_zero (by rw [hn, h0]))⟩
  · have hlt : g < w.heap.size := (Array.getElem?_eq_some_iff.1 hg).1
    refine ⟨_, cap, rfl, by rw [hn]; exact hle, .inr ⟨g, 0, rfl, hlt, fun j x hj => ?_⟩⟩
    have hjl := (List.getElem?_eq_some_iff.1 hj).1
    obtain ⟨h1, h2⟩ := cellsP_at l j x hj
    have k1 := h.cellAt (j * 2) (by omega)
    have k2 := h.cellAt (j * 2 + 1) (by omega)
    rw [Nat.zero_add]
    exact ⟨k1.trans h1, k2.trans h2⟩
theorem infoPart : (Tryz.prog.info? 63).map (fun i => (i.zero, i.size, i.bytes)) = some (some (.agg #[.string .empty, .bool false]), 2, 24) := by kernel_rfl
theorem infoStep : (Tryz.prog.info? 89).map (fun i => (i.zero, i.size, i.bytes)) = some (some (.agg #[.string .empty, .bool false]), 2, 24) := by kernel_rfl
theorem newsP (w : World) (p : Pt) (t : TypeId) : ∀ (j : Nat) u, (encP p)[j]? = some u → (w.alloc (.cells #[.string (bs p.text), .bool p.magic] t)).cell? ((⟨w.heap.size, 0, none⟩ : Addr).add j) = some u := fun j u hu => by
  rw [addr_add, Nat.zero_add, Lib.cell_of_heap (heap_alloc_new w _)]
  rw [← List.getElem?_toArray] at hu
  exact hu
theorem encP_one (p : Pt) : ∀ u ∈ encP p, u.oneCell' = true := fun u hu => by
  simp [encP] at hu
  rcases hu with rfl | rfl <;> rfl
theorem mem_lens {x : T} : ∀ {xs : List T}, x ∈ xs → x.length ≤ Lib.lens xs
  | [], h => absurd h List.not_mem_nil
  | y :: xs, h => by
    have e : Lib.lens (y :: xs) = y.length + Lib.lens xs := by simp [Lib.lens]
    rcases List.mem_cons.1 h with rfl | h1
    · omega
    · have := mem_lens h1; omega
theorem eq_empty (x : T) : ((bs x).toList == []) = decide (x = []) := by
  rw [Lib.toList_data, data_bs, Bool.eq_iff_iff]
  simp

set_option maxRecDepth 100000 in
set_option maxHeartbeats 4000000 in
/-- the program's partsOf -/
theorem partsOf_is (s : ByteArray) (w : World) (hs : s.size ≤ 1000000) :
    Calls Tryz.prog 24 #[.string s] w fun e W' => ∃ A c, e = .returned (.slice A (partsP s.data.toList).length c) ∧ PtIs W' A c (partsP s.data.toList) ∧ Below w.heap.size w W' := by
  obtain ⟨i0, hi0, hz0, hz1, hz2⟩ := info_parts infoPart
  have HSp := Lib.hid (Pabs.split_is s w (by omega))
  obtain ⟨xs, hxs⟩ : ∃ xs, xs = splitL s.data.toList := ⟨_, rfl⟩
  have hpb : partsB s = xs.map bs := by rw [hxs]; rfl
  have hlen : xs.length ≤ 1000001 := by rw [hxs]; have := splitL_length s.data.toList; rw [len_data] at this; omega
  have hsz : ∀ x ∈ xs, x.length ≤ 1000000 := fun x hx => by
    have h1 := splitL_total s.data.toList
    rw [len_data, ← hxs] at h1
    have h2 := mem_lens hx
    have h3 : 0 < xs.length := List.length_pos_of_mem hx
    omega
  rw [hpb] at HSp
  have HSz := Lib.hid hsz
  obtain ⟨n, hn⟩ : ∃ n, n = xs.length := ⟨_, rfl⟩
  have HN := Lib.hid hn
  have hl2 : (xs.map bs).length = n := by rw [List.length_map, hn]
  rw [hl2] at HSp
  rw [show partsP s.data.toList = xs.filterMap ptOf by rw [hxs]; rfl]
  rw [← hn] at hlen
  have HRow := Lib.hid (Vnames.lits_is w (xs.map bs))
  clear hxs hpb hsz hn hl2
  go_enter Tryz.func24, Tryz.ntmps24
  go_wp2_with fail
  refine HSp.out.mono ?_
  rintro e w1 ⟨rfl, rfl⟩
  obtain ⟨w1, hw1⟩ : ∃ w1, w1 = w.alloc (.cells ((xs.map bs).map Value.string).toArray 9) := ⟨_, rfl⟩
  rw [← hw1] at HRow
  have HB1 : Hid (Below w.heap.size w w1) := by show Below _ _ _; rw [hw1]; exact (Below.refl _ _).alloc (Nat.le_refl _) _
  rw [← hw1]
  clear hw1 HSp
  go_wp2_with fail
  go_loopw [3, 9] (fun v i wr => ∃ k : Nat, k ≤ n ∧ i = .int .i64 k ∧ wr.ownsRow w1.heap.size 63 2 v (upP xs k).length (cellsP (upP xs k)) ∧ Hid (Below w1.heap.size w1 wr)) (fun _ i _ => n - (intOf i).toNat)
  case atStart => exact ⟨0, Nat.zero_le _, rfl, World.ownsRow_nil _ _ _ _, Below.refl _ _⟩
  case round =>
    obtain ⟨k, hk, rfl, hown, HB⟩ := hrel
    have hBs := HB.out.size
    by_cases hlt : k < n
    · have hx : xs[k]? = some (xs[k]'(by rw [← HN.out]; exact hlt)) := List.getElem?_eq_getElem _
      have hxm := HSz.out _ (List.getElem_mem (by rw [← HN.out]; exact hlt : k < xs.length))
      have hrow := HRow.out
      have hx2 : (xs.map bs)[k]? = some (bs (xs[k]'(by rw [← HN.out]; exact hlt))) := by rw [List.getElem?_map, hx]; rfl
      obtain ⟨b, o, hbo, hb, hc⟩ := hrow.at_ hx2
      obtain ⟨rfl, rfl⟩ : w.heap.size = b ∧ 0 = o := by simpa using hbo
      have c1 := hc wr HB.out
      rw [Nat.zero_add] at c1
      have hupl := upP_len xs k
      have b0 := eq_empty (xs[k]'(by rw [← HN.out]; exact hlt))
      have HNone := Lib.hid (upP_none hx)
      have HSome := Lib.hid (fun p => upP_some (p := p) hx)
      clear hx2 hc hbo hx
      generalize (xs[k]'(by rw [← HN.out]; exact hlt)) = x at *
      have hsx : (bs x).size ≤ 1000000 := by rw [size_bs]; exact hxm
      have HMg := Lib.hid (fun W => Gmagic.magic_is (bs x) W hsx)
      have HPl := Lib.hid (fun W => Gplain.plain_is (bs x) W hsx)
      rw [data_bs] at HMg HPl
      by_cases h0 : x = []
      · rw [decide_eq_true h0] at b0
        have HU := Lib.hid (HNone.out (by unfold ptOf; rw [if_pos h0]))
        clear h0 HNone HSome HMg HPl
        generalize bs x = sx at *
        go_wp2_with fail
        go_roundw
        case rel => exact ⟨k + 1, by omega, by go_num, by rw [HU.out]; exact hown, HB.out⟩
        case measure => simp [intOf]; omega
      · rw [decide_eq_false h0] at b0
        cases hm : Gmagic.magicL x with
        | true =>
          have HU := Lib.hid (HSome.out ⟨x, true⟩ (by unfold ptOf; rw [if_neg h0, hm]; rfl))
          rw [hm] at HMg
          clear h0 HNone HSome HPl hm
          go_wp2_with fail
          refine (HMg.out _).mono ?_
          rintro e w2 ⟨rfl, hb2⟩
          have hown2 := rows_below (W := w2) hown (fun g hg => hb2.block g (hown.lt g hg).2)
          have HB2 := Lib.hid (HB.out.trans (hb2.mono HB.out.size))
          have hs2 := HB2.out.size
          have HNW := Lib.hid (newsP w2 ⟨x, true⟩ 63)
          have hz4 : (encP ⟨x, true⟩).length = 1 * 2 := rfl
          have HOne := Lib.hid (encP_one ⟨x, true⟩)
          clear hown hb2 HB
          go_wp2_with (at_builtin; refine wpList_append_own _ rfl _ _ 57 rfl w1.heap.size 63 i0 (.agg #[.string .empty, .bool false]) 2 24 Tryz.underlying57 hi0 hz0 hz1 hz2 rfl (by decide) _ _ _ rfl (hown2.alloc _) ⟨w2.heap.size, 0, none⟩ 1 1 (encP ⟨x, true⟩) rfl hz4 HNW.out HOne.out (by unfold maxLen; omega) (by omega) (by simp; omega) ?_; intro v' w4 hown' hgrow _; have HO := Lib.hid hown'; have HG : Hid (Below w1.heap.size w1 w4) := (HB2.out.alloc hs2 _).grown hgrow (by simp; omega) (fun k e => (hown2.lt k e).1); clear hown' hgrow)
          go_roundw
          case rel => exact ⟨k + 1, by omega, by go_num, by rw [HU.out, List.length_append, cellsP_app]; exact HO.out, HG.out⟩
          case measure => simp [intOf]; omega
        | false =>
          have HU := Lib.hid (HSome.out ⟨Glb.plainL x, false⟩ (by unfold ptOf; rw [if_neg h0, hm]; rfl))
          rw [hm] at HMg
          clear h0 HNone HSome hm
          go_wp2_with fail
          refine (HMg.out _).mono ?_
          rintro e w2 ⟨rfl, hb2⟩
          have HB2 := Lib.hid (HB.out.trans (hb2.mono HB.out.size))
          have hown2 := rows_below (W := w2) hown (fun g hg => hb2.block g (hown.lt g hg).2)
          have HOw2 := Lib.hid hown2
          clear hown hb2 HB hown2
          go_wp2_with fail
          refine (HPl.out _).mono ?_
          rintro e w3 ⟨rfl, hb3⟩
          have hown3 := rows_below (W := w3) HOw2.out (fun g hg => hb3.block g (HOw2.out.lt g hg).2)
          have HB3 := Lib.hid (HB2.out.trans (hb3.mono HB2.out.size))
          have hs2 := HB3.out.size
          have HNW := Lib.hid (newsP w3 ⟨Glb.plainL x, false⟩ 63)
          have hz4 : (encP ⟨Glb.plainL x, false⟩).length = 1 * 2 := rfl
          have HOne := Lib.hid (encP_one ⟨Glb.plainL x, false⟩)
          clear hb3 HB2 HOw2
          go_wp2_with (at_builtin; refine wpList_append_own _ rfl _ _ 57 rfl w1.heap.size 63 i0 (.agg #[.string .empty, .bool false]) 2 24 Tryz.underlying57 hi0 hz0 hz1 hz2 rfl (by decide) _ _ _ rfl (hown3.alloc _) ⟨w3.heap.size, 0, none⟩ 1 1 (encP ⟨Glb.plainL x, false⟩) rfl hz4 HNW.out HOne.out (by unfold maxLen; omega) (by omega) (by simp; omega) ?_; intro v' w4 hown' hgrow _; have HO := Lib.hid hown'; have HG : Hid (Below w1.heap.size w1 w4) := (HB3.out.alloc hs2 _).grown hgrow (by simp; omega) (fun k e => (hown3.lt k e).1); clear hown' hgrow)
          go_roundw
          case rel => exact ⟨k + 1, by omega, by go_num, by rw [HU.out, List.length_append, cellsP_app]; exact HO.out, HG.out⟩
          case measure => simp [intOf]; omega
    · have hu := upP_all xs k (by rw [← HN.out]; omega)
      rw [hu] at hown
      obtain ⟨A, c, rfl, hP⟩ := ptIs_of_own rfl hown
      have HP := Lib.hid hP
      have HBe := Lib.hid (HB1.out.trans (HB.out.mono HB1.out.size))
      clear hP hown hu HB
      go_wp2
      go_ret
      exact ⟨A, c, rfl, HP.out, HBe.out⟩

end Go.Proofs.YtgfpdaaofhanoaaGreatDoor.Wdp
