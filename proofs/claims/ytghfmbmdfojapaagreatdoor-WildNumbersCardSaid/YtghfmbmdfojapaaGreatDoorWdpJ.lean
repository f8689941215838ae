/- Words with wildcards, cut into parts (no program); slices of parts in memory. -/
import Derived.OwnWalk
import Derived.Laws.OwnMore
import Derived.Deep.DeepCutAuto
import Derived.Test.YtghfmbmdfojapaaGreatDoorVlookJ
import Derived.Test.YtghfmbmdfojapaaGreatDoorGbuildJ
import Derived.Deep.RegionHeld3
import Derived.Deep.QuietTactic
namespace Go.Proofs.YtghfmbmdfojapaaGreatDoor.Wdp
open Go.RowKit Go.Proofs.YtghfmbmdfojapaaGreatDoor.Pth Go.Proofs.YtghfmbmdfojapaaGreatDoor.Strs

abbrev T := List UInt8
/-- a part, or a step: its text, whether it is Magic -/
structure Pt where
  text : T
  magic : Bool
def ptOf (x : T) : Option Pt := if x = [] then none else if Gmagic.magicL x then some ⟨x, true⟩ else some ⟨Glb.plainL x, false⟩
def partsP (s : T) : List Pt := (splitL s).filterMap ptOf
def upP (xs : List T) (k : Nat) : List Pt := (xs.take k).filterMap ptOf
theorem upP_zero (xs : List T) : upP xs 0 = [] := rfl
theorem upP_none {xs : List T} {k : Nat} {x : T} (h : xs[k]? = some x) (hp : ptOf x = none) : upP xs (k + 1) = upP xs k := by
  obtain ⟨hl, rfl⟩ := List.getElem?_eq_some_iff.1 h
  rw [upP, List.take_succ_eq_append_getElem hl, List.filterMap_append, List.filterMap_cons, hp]
  exact List.append_nil _
theorem upP_some {xs : List T} {k : Nat} {x : T} {p : Pt} (h : xs[k]? = some x) (hp : ptOf x = some p) : upP xs (k + 1) = upP xs k ++ [p] := by
  obtain ⟨hl, rfl⟩ := List.getElem?_eq_some_iff.1 h
  rw [upP, List.take_succ_eq_append_getElem hl, List.filterMap_append, List.filterMap_cons, hp]
  rfl
theorem upP_all (xs : List T) (k : Nat) (h : xs.length ≤ k) : upP xs k = xs.filterMap ptOf := by rw [upP, List.take_of_length_le h]
theorem upP_len (xs : List T) (k : Nat) : (upP xs k).length ≤ k := Nat.le_trans (List.length_filterMap_le ..) (by rw [List.length_take]; omega)

theorem rows_below {w W : World} {B e k : Nat} {v : Value} {n : Nat} {xs : List Value} (h : w.ownsRow B e k v n xs) (hg : ∀ g, v.ownBlock = some g → W.heap[g]? = w.heap[g]?) : W.ownsRow B e k v n xs := by
  refine ⟨h.1, ?_⟩
  rcases h.2 with h0 | ⟨g, cap, cur, hv, hB, hb, hr⟩
  · exact .inl h0
  · exact .inr ⟨g, cap, cur, hv, hB, (hg g (by rw [hv]; rfl)).trans hb, hr⟩

/-! ### in memory -/
def encP (p : Pt) : List Value := [.string (bs p.text), .bool p.magic]
def cellsP (l : List Pt) : List Value := l.flatMap encP
theorem cellsP_len : ∀ l : List Pt, (cellsP l).length = l.length * 2
  | [] => rfl
  | x :: l => by
    have := cellsP_len l
    unfold cellsP at *
    rw [List.flatMap_cons, List.length_append, this, List.length_cons]
    show 2 + _ = _
    omega
theorem cellsP_app (a b : List Pt) : cellsP (a ++ b) = cellsP a ++ cellsP b := List.flatMap_append
theorem cellsP_at : ∀ (l : List Pt) (j : Nat) (x : Pt), l[j]? = some x → (cellsP l)[j * 2]? = some (.string (bs x.text)) ∧ (cellsP l)[j * 2 + 1]? = some (.bool x.magic)
  | [], _, _, h => by cases h
  | y :: l, 0, x, h => by cases h; exact ⟨rfl, rfl⟩
  | y :: l, j + 1, x, h => by
    obtain ⟨h1, h2⟩ := cellsP_at l j x (by simpa using h)
    have e : ∀ k, (cellsP (y :: l))[(j + 1) * 2 + k]? = (cellsP l)[j * 2 + k]? := fun k => by
      show (encP y ++ cellsP l)[(j + 1) * 2 + k]? = _
      rw [List.getElem?_append_right (by show 2 ≤ _; omega)]
      congr 1
      show (j + 1) * 2 + k - 2 = _
      omega
    exact ⟨(e 0).trans h1, (e 1).trans h2⟩
theorem cellsP_one (l : List Pt) : ∀ u ∈ cellsP l, u.oneCell' = true := fun u hu => by
  obtain ⟨p, _, hp⟩ := List.mem_flatMap.1 hu
  simp [encP] at hp
  rcases hp with rfl | rfl <;> rfl
/-- a slice of parts -/
def PtIs (w : World) (A : Option Addr) (c : Nat) (l : List Pt) : Prop :=
  l.length ≤ c ∧ (l = [] ∨ ∃ b o, A = some ⟨b, o, none⟩ ∧ b < w.heap.size ∧ ∀ j x, l[j]? = some x → w.cell? ⟨b, o + j * 2, none⟩ = some (.string (bs x.text)) ∧ w.cell? ⟨b, o + j * 2 + 1, none⟩ = some (.bool x.magic))
theorem PtIs.below {w w' : World} {A : Option Addr} {c : Nat} {l : List Pt} (h : PtIs w A c l) (hb : Below w.heap.size w w') : PtIs w' A c l :=
  ⟨h.1, h.2.imp id fun ⟨b, o, e, hl, hc⟩ => ⟨b, o, e, Nat.lt_of_lt_of_le hl hb.size, fun j x hj => ⟨(hb.cell (p := ⟨b, o + j * 2, none⟩) hl).trans (hc j x hj).1, (hb.cell (p := ⟨b, o + j * 2 + 1, none⟩) hl).trans (hc j x hj).2⟩⟩⟩
theorem PtIs.at_ {w : World} {A : Option Addr} {c k : Nat} {l : List Pt} (h : PtIs w A c l) {x : Pt} (hx : l[k]? = some x) :
    ∃ b o, A = some ⟨b, o, none⟩ ∧ b < w.heap.size ∧ ∀ W, Below w.heap.size w W → W.cell? ⟨b, o + k * 2, none⟩ = some (.string (bs x.text)) ∧ W.cell? ⟨b, o + k * 2 + 1, none⟩ = some (.bool x.magic) := by
  rcases h.2 with rfl | ⟨b, o, e, hl, hc⟩
  · cases hx
  · exact ⟨b, o, e, hl, fun W hb => ⟨(hb.cell (p := ⟨b, o + k * 2, none⟩) hl).trans (hc k x hx).1, (hb.cell (p := ⟨b, o + k * 2 + 1, none⟩) hl).trans (hc k x hx).2⟩⟩
/-- cut -/
theorem PtIs.drop {w : World} {b o c : Nat} {l : List Pt} (h : PtIs w (some ⟨b, o, none⟩) c l) (k : Nat) (hk : k ≤ l.length) : PtIs w (some ⟨b, o + k * 2, none⟩) (c - k) (l.drop k) := by
  refine ⟨by rw [List.length_drop]; have := h.1; omega, ?_⟩
  rcases h.2 with rfl | ⟨b1, o1, e, hl, hc⟩
  · left; simp
  · obtain ⟨rfl, rfl⟩ : b = b1 ∧ o = o1 := by simpa using e
    refine .inr ⟨b, o + k * 2, rfl, hl, fun j x hj => ?_⟩
    rw [List.getElem?_drop] at hj
    obtain ⟨h1, h2⟩ := hc _ _ hj
    rw [show o + k * 2 + j * 2 = o + (k + j) * 2 by omega]
    exact ⟨h1, h2⟩
theorem PtIs.take {w : World} {A : Option Addr} {c : Nat} {l : List Pt} (h : PtIs w A c l) (k : Nat) : PtIs w A c (l.take k) := by
  refine ⟨by rw [List.length_take]; have := h.1; omega, ?_⟩
  rcases h.2 with rfl | ⟨b, o, e, hl, hc⟩
  · left; simp
  · refine .inr ⟨b, o, e, hl, fun j x hj => ?_⟩
    rw [List.getElem?_take] at hj
    split at hj
    · exact hc _ _ hj
    · cases hj
theorem ptIs_of_own {w : World} {base e : Nat} {v : Value} {n : Nat} {l : List Pt} (hn : l.length = n) (h : w.ownsRow base e 2 v n (cellsP l)) :
    ∃ A c, v = .slice A n c ∧ PtIs w A c l := by
  rcases h.2 with ⟨rfl, h0⟩ | ⟨g, cap, cur, rfl, _, hg, hle, _, _, _⟩
  · exact ⟨none, 0, by rw [h0], by rw [hn, h0]; exact Nat.le_refl _, .inl (List.eq_nil_of_length_eq_zero (by rw [hn, h0]))⟩
  · have hlt : g < w.heap.size := (Array.getElem?_eq_some_iff.1 hg).1
    refine ⟨_, cap, rfl, by rw [hn]; exact hle, .inr ⟨g, 0, rfl, hlt, fun j x hj => ?_⟩⟩
    have hjl := (List.getElem?_eq_some_iff.1 hj).1
    obtain ⟨h1, h2⟩ := cellsP_at l j x hj
    have k1 := h.cellAt (j * 2) (by omega)
    have k2 := h.cellAt (j * 2 + 1) (by omega)
    rw [Nat.zero_add]
    exact ⟨k1.trans h1, k2.trans h2⟩
theorem infoPart : (Tryz.prog.info? 58).map (fun i => (i.zero, i.size, i.bytes)) = some (some (.agg #[.string .empty, .bool false]), 2, 24) := by kernel_rfl
theorem infoStep : (Tryz.prog.info? 82).map (fun i => (i.zero, i.size, i.bytes)) = some (some (.agg #[.string .empty, .bool false]), 2, 24) := by kernel_rfl
theorem newsP (w : World) (p : Pt) (t : TypeId) : ∀ (j : Nat) u, (encP p)[j]? = some u → (w.alloc (.cells #[.string (bs p.text), .bool p.magic] t)).cell? ((⟨w.heap.size, 0, none⟩ : Addr).add j) = some u := fun j u hu => by
  rw [addr_add, Nat.zero_add, Lib.cell_of_heap (heap_alloc_new w _)]
  rw [← List.getElem?_toArray] at hu
  exact hu
theorem encP_one (p : Pt) : ∀ u ∈ encP p, u.oneCell' = true := fun u hu => by
  simp [encP] at hu
  rcases hu with rfl | rfl <;> rfl
theorem mem_lens {x : T} : ∀ {xs : List T}, x ∈ xs → x.length ≤ Lib.lens xs
  | [], h => absurd h List.not_mem_nil
  | y :: xs, h => by
    have e : Lib.lens (y :: xs) = y.length + Lib.lens xs := by simp [Lib.lens]
    rcases List.mem_cons.1 h with rfl | h1
    · omega
    · have := mem_lens h1; omega
theorem eq_empty (x : T) : ((bs x).toList == []) = decide (x = []) := by
  rw [Lib.toList_data, data_bs, Bool.eq_iff_iff]
  simp

set_option maxRecDepth 100000 in
set_option maxHeartbeats 4000000 in
/-- the program's partsOf -/
theorem partsOf_is (s : ByteArray) (w : World) (hs : s.size ≤ 1000000) :
    Calls Tryz.prog 17 #[.string s] w fun e W' => ∃ A c, e = .returned (.slice A (partsP s.data.toList).length c) ∧ PtIs W' A c (partsP s.data.toList) ∧ Below w.heap.size w W' := by
  obtain ⟨i0, hi0, hz0, hz1, hz2⟩ := info_parts infoPart
  have HSp := Lib.hid (Pabs.split_is s w (by omega))
  obtain ⟨xs, hxs⟩ : ∃ xs, xs = splitL s.data.toList := ⟨_, rfl⟩
  have hpb : partsB s = xs.map bs := by rw [hxs]; rfl
  have hlen : xs.length ≤ 1000001 := by rw [hxs]; have := splitL_length s.data.toList; rw [len_data] at this; omega
  have hsz : ∀ x ∈ xs, x.length ≤ 1000000 := fun x hx => by
    have h1 := splitL_total s.data.toList
    rw [len_data, ← hxs] at h1
    have h2 := mem_lens hx
    have h3 : 0 < xs.length := List.length_pos_of_mem hx
    omega
  rw [hpb] at HSp
  have HSz := Lib.hid hsz
  obtain ⟨n, hn⟩ : ∃ n, n = xs.length := ⟨_, rfl⟩
  have HN := Lib.hid hn
  have hl2 : (xs.map bs).length = n := by rw [List.length_map, hn]
  rw [hl2] at HSp
  rw [show partsP s.data.toList = xs.filterMap ptOf by rw [hxs]; rfl]
  rw [← hn] at hlen
  have HRow := Lib.hid (Vnames.lits_is w (xs.map bs))
  clear hxs hpb hsz hn hl2
  go_enter Tryz.func17, Tryz.ntmps17
  go_wp2_with fail
  refine HSp.out.mono ?_
  rintro e w1 ⟨rfl, rfl⟩
  obtain ⟨w1, hw1⟩ : ∃ w1, w1 = w.alloc (.cells ((xs.map bs).map Value.string).toArray 9) := ⟨_, rfl⟩
  rw [← hw1] at HRow
  have HB1 : Hid (Below w.heap.size w w1) := by show Below _ _ _; rw [hw1]; exact (Below.refl _ _).alloc (Nat.le_refl _) _
  rw [← hw1]
  clear hw1 HSp
  go_wp2_with fail
  go_loopw [3, 9] (fun v i wr => ∃ k : Nat, k ≤ n ∧ i = .int .i64 k ∧ wr.ownsRow w1.heap.size 58 2 v (upP xs k).length (cellsP (upP xs k)) ∧ Hid (Below w1.heap.size w1 wr)) (fun _ i _ => n - (intOf i).toNat)
  case atStart => exact ⟨0, Nat.zero_le _, rfl, World.ownsRow_nil _ _ _ _, Below.refl _ _⟩
  case round =>
    obtain ⟨k, hk, rfl, hown, HB⟩ := hrel
    have hBs := HB.out.size
    by_cases hlt : k < n
    · have hx : xs[k]? = some (xs[k]'(by rw [← HN.out]; exact hlt)) := List.getElem?_eq_getElem _
      have hxm := HSz.out _ (List.getElem_mem (by rw [← HN.out]; exact hlt : k < xs.length))
      have hrow := HRow.out
      have hx2 : (xs.map bs)[k]? = some (bs (xs[k]'(by rw [← HN.out]; exact hlt))) := by rw [List.getElem?_map, hx]; rfl
      obtain ⟨b, o, hbo, hb, hc⟩ := hrow.at_ hx2
      obtain ⟨rfl, rfl⟩ : w.heap.size = b ∧ 0 = o := by simpa using hbo
      have c1 := hc wr HB.out
      rw [Nat.zero_add] at c1
      have hupl := upP_len xs k
      have b0 := eq_empty (xs[k]'(by rw [← HN.out]; exact hlt))
      have HNone := Lib.hid (upP_none hx)
      have HSome := Lib.hid (fun p => upP_some (p := p) hx)
      clear hx2 hc hbo hx
      generalize (xs[k]'(by rw [← HN.out]; exact hlt)) = x at *
      have hsx : (bs x).size ≤ 1000000 := by rw [size_bs]; exact hxm
      have HMg := Lib.hid (fun W => Gmagic.magic_is (bs x) W hsx)
      have HPl := Lib.hid (fun W => Gplain.plain_is (bs x) W hsx)
      rw [data_bs] at HMg HPl
      by_cases h0 : x = []
      · rw [decide_eq_true h0] at b0
        have HU := Lib.hid (HNone.out (by unfold ptOf; rw [if_pos h0]))
        clear h0 HNone HSome HMg HPl
        generalize bs x = sx at *
        go_wp2_with fail
        go_roundw
        case rel => exact ⟨k + 1, by omega, by go_num, by rw [HU.out]; exact hown, HB.out⟩
        case measure => simp [intOf]; omega
      · rw [decide_eq_false h0] at b0
        cases hm : Gmagic.magicL x with
        | true =>
          have HU := Lib.hid (HSome.out ⟨x, true⟩ (by unfold ptOf; rw [if_neg h0, hm]; rfl))
          rw [hm] at HMg
          clear h0 HNone HSome HPl hm
          go_wp2_with fail
          refine (HMg.out _).mono ?_
          rintro e w2 ⟨rfl, hb2⟩
          have hown2 := rows_below (W := w2) hown (fun g hg => hb2.block g (hown.lt g hg).2)
          have HB2 := Lib.hid (HB.out.trans (hb2.mono HB.out.size))
          have hs2 := HB2.out.size
          have HNW := Lib.hid (newsP w2 ⟨x, true⟩ 58)
          have hz4 : (encP ⟨x, true⟩).length = 1 * 2 := rfl
          have HOne := Lib.hid (encP_one ⟨x, true⟩)
          clear hown hb2 HB
          go_wp2_with (at_builtin; refine wpList_append_own _ rfl _ _ 52 rfl w1.heap.size 58 i0 (.agg #[.string .empty, .bool false]) 2 24 Tryz.underlying52 hi0 hz0 hz1 hz2 rfl (by decide) _ _ _ rfl (hown2.alloc _) ⟨w2.heap.size, 0, none⟩ 1 1 (encP ⟨x, true⟩) rfl hz4 HNW.out HOne.out (by unfold maxLen; omega) (by omega) (by simp; omega) ?_; intro v' w4 hown' hgrow _; have HO := Lib.hid hown'; have HG : Hid (Below w1.heap.size w1 w4) := (HB2.out.alloc hs2 _).grown hgrow (by simp; omega) (fun k e => (hown2.lt k e).1); clear hown' hgrow)
          go_roundw
          case rel => exact ⟨k + 1, by omega, by go_num, by rw [HU.out, List.length_append, cellsP_app]; exact HO.out, HG.out⟩
          case measure => simp [intOf]; omega
        | false =>
          have HU := Lib.hid (HSome.out ⟨Glb.plainL x, false⟩ (by unfold ptOf; rw [if_neg h0, hm]; rfl))
          rw [hm] at HMg
          clear h0 HNone HSome hm
          go_wp2_with fail
          refine (HMg.out _).mono ?_
          rintro e w2 ⟨rfl, hb2⟩
          have HB2 := Lib.hid (HB.out.trans (hb2.mono HB.out.size))
          have hown2 := rows_below (W := w2) hown (fun g hg => hb2.block g (hown.lt g hg).2)
          have HOw2 := Lib.hid hown2
          clear hown hb2 HB hown2
          go_wp2_with fail
          refine (HPl.out _).mono ?_
          rintro e w3 ⟨rfl, hb3⟩
          have hown3 := rows_below (W := w3) HOw2.out (fun g hg => hb3.block g (HOw2.out.lt g hg).2)
          have HB3 := Lib.hid (HB2.out.trans (hb3.mono HB2.out.size))
          have hs2 := HB3.out.size
          have HNW := Lib.hid (newsP w3 ⟨Glb.plainL x, false⟩ 58)
          have hz4 : (encP ⟨Glb.plainL x, false⟩).length = 1 * 2 := rfl
          have HOne := Lib.hid (encP_one ⟨Glb.plainL x, false⟩)
          clear hb3 HB2 HOw2
          go_wp2_with (at_builtin; refine wpList_append_own _ rfl _ _ 52 rfl w1.heap.size 58 i0 (.agg #[.string .empty, .bool false]) 2 24 Tryz.underlying52 hi0 hz0 hz1 hz2 rfl (by decide) _ _ _ rfl (hown3.alloc _) ⟨w3.heap.size, 0, none⟩ 1 1 (encP ⟨Glb.plainL x, false⟩) rfl hz4 HNW.out HOne.out (by unfold maxLen; omega) (by omega) (by simp; omega) ?_; intro v' w4 hown' hgrow _; have HO := Lib.hid hown'; have HG : Hid (Below w1.heap.size w1 w4) := (HB3.out.alloc hs2 _).grown hgrow (by simp; omega) (fun k e => (hown3.lt k e).1); clear hown' hgrow)
          go_roundw
          case rel => exact ⟨k + 1, by omega, by go_num, by rw [HU.out, List.length_append, cellsP_app]; exact HO.out, HG.out⟩
          case measure => simp [intOf]; omega
    · have hu := upP_all xs k (by rw [← HN.out]; omega)
      rw [hu] at hown
      obtain ⟨A, c, rfl, hP⟩ := ptIs_of_own rfl hown
      have HP := Lib.hid hP
      have HBe := Lib.hid (HB1.out.trans (HB.out.mono HB1.out.size))
      clear hP hown hu HB
      go_wp2
      go_ret
      exact ⟨A, c, rfl, HP.out, HBe.out⟩

end Go.Proofs.YtghfmbmdfojapaaGreatDoor.Wdp

/- join, oneIf, dots, alike, goEnd. -/
namespace Go.Proofs.YtghfmbmdfojapaaGreatDoor.Wst
open Go.RowKit Go.Proofs.YtghfmbmdfojapaaGreatDoor.Pth Go.Proofs.YtghfmbmdfojapaaGreatDoor.Strs Go.Proofs.YtghfmbmdfojapaaGreatDoor.Wdp

def joinT (l : List Pt) : T := Lib.join (l.map Pt.text) [47]

/-- the library's Join of texts that lie in memory -/
theorem joins_is (A : Option Addr) (n c : Nat) (xs : List T) (w : World) (hn : xs.length = n) (h : SlIs w A c (xs.map bs)) (hl : (Lib.join xs [47]).length ≤ 140737488355328) (hm : n ≤ 140737488355328) :
    Calls Tryz.prog 33 #[.slice A n c, .string ⟨#[47]⟩] w fun e W' => e = .returned (.string (bs (Lib.join xs [47]))) ∧ Below w.heap.size w W' := by
  rcases h.2 with h0 | ⟨b, o, rfl, hb, hc⟩
  · have hx : xs = [] := List.map_eq_nil_iff.1 h0
    subst hx
    obtain rfl : n = 0 := by rw [← hn]; rfl
    exact (Tryz.strings_Join_none A c ⟨#[47]⟩ w).mono fun e W' ⟨h1, h2⟩ => ⟨h1, by rw [h2]; exact Below.refl _ _⟩
  · have e1 : (xs.map bs).map (·.data.toList) = xs := by rw [List.map_map]; exact List.map_id _
    have e2 : (⟨#[47]⟩ : ByteArray).data.toList = [47] := rfl
    have hc0 := h.1
    have c0 := Tryz.strings_Join b o c (xs.map bs) ⟨#[47]⟩ w hc hb (by rw [List.length_map]; omega) hc0 (by rw [e1, e2]; exact hl)
    rw [e1, e2, List.length_map, hn] at c0
    exact c0

def rowT (xs : List ByteArray) (k j : Nat) : Value := .string (if j < k then xs.getD j .empty else .empty)
theorem make_strs (n : Nat) (h : n ≤ 1000001) (w : World) :
    (Instr.makeSlice 30 (.int .i64 (n : Int)) (.int .i64 (n : Int))).run Tryz.prog w = .ok (.slice (some ⟨w.heap.size, 0, none⟩) n n) (w.alloc (.cells (madeCells #[.string .empty] n) 9)) :=
  run_make_row' 30 9 _ 16 Tryz.underlying30 infoString rfl .i64 .i64 n (by omega) (by omega) w

theorem rowIs_below {w W : World} {g t n : Nat} {f : Nat → Value} (h : w.rowIs g t n f) (hb : W.heap[g]? = w.heap[g]?) : W.rowIs g t n f := by
  obtain ⟨c, h1, h2, h3⟩ := h
  exact ⟨c, hb.trans h1, h2, h3⟩

set_option maxRecDepth 100000 in
set_option maxHeartbeats 2000000 in
theorem join_is (A : Option Addr) (n c : Nat) (l : List Pt) (w : World) (hn : l.length = n) (h : PtIs w A c l) (hm : n ≤ 1000001) (hl : (joinT l).length ≤ 140737488355328) :
    Calls Tryz.prog 22 #[.slice A n c] w fun e W' => e = .returned (.string (bs (joinT l))) ∧ Below w.heap.size w W' := by
  have HN := Lib.hid hn
  have HL := Lib.hid h
  have HJ := Lib.hid hl
  clear hn h hl
  have hmk := make_strs n hm
  go_enter Tryz.func22, Tryz.ntmps22
  go_wp2_with fail
  go_loopw [11] (fun i wr => ∃ k : Nat, k ≤ n ∧ i = .int .i64 k ∧ Hid (wr.rowIs w.heap.size 9 n (rowT ((l.map Pt.text).map bs) k) ∧ Below w.heap.size w wr ∧ w.heap.size < wr.heap.size)) (fun i _ => n - (intOf i).toNat)
  case atStart => exact ⟨0, Nat.zero_le _, rfl, (World.rowIs_made w _ n _).congr (fun j _ => rfl), (Below.refl _ _).alloc (Nat.le_refl _) _, by rw [World.size_alloc]; omega⟩
  case round =>
    obtain ⟨k, hk, rfl, H⟩ := hrel
    by_cases hlt : k < n
    · have hl : k < l.length := by have := HN.out; omega
      have hxk : l[k]? = some l[k] := List.getElem?_eq_getElem hl
      have hxk2 : ((l.map Pt.text).map bs)[k]? = some (bs l[k].text) := by rw [List.getElem?_map, List.getElem?_map, hxk]; rfl
      obtain ⟨bb, o, rfl, hbb, hc⟩ := HL.out.at_ hxk
      obtain ⟨c1, c1'⟩ := hc wr H.out.2.1
      have HS : Hid (∀ W : World, (∀ j, j < wr.heap.size → W.heap[j]? = wr.heap[j]?) → Below w.heap.size w W → w.heap.size < W.heap.size → (W.cell? ⟨w.heap.size, k, none⟩ = some (.string .empty) ∧ W.frozen? ⟨w.heap.size, k, none⟩ = false) ∧ (W.setCell ⟨w.heap.size, k, none⟩ (.string (bs l[k].text))).rowIs w.heap.size 9 n (rowT ((l.map Pt.text).map bs) (k + 1)) ∧ Below w.heap.size w (W.setCell ⟨w.heap.size, k, none⟩ (.string (bs l[k].text)))) := fun W hW hb hs => by
        have hr := rowIs_below H.out.1 (hW w.heap.size H.out.2.2)
        refine ⟨⟨(hr.cell hlt).trans (by simp [rowT]), hr.frozen k⟩, (hr.set k _).congr (fun j hj => ?_), hb.setCell (p := ⟨w.heap.size, k, none⟩) (Nat.le_refl _) _⟩
        by_cases e : j = k
        · subst e
          simp only [if_pos, rowT, if_pos (Nat.lt_succ_self j), List.getD_eq_getElem?_getD, hxk2]
          rfl
        · simp only [if_neg e, rowT]
          have : (j < k + 1) = (j < k) := by simp; omega
          simp only [this]
      have HB := Lib.hid H.out.2
      clear hc hxk hxk2 H
      generalize l[k] = x at *
      obtain ⟨w2, hw2⟩ : ∃ w2, w2 = wr.alloc (.cells #[.string (bs x.text), .bool x.magic] 58) := ⟨_, rfl⟩
      have hb2 : Below w.heap.size w w2 := by rw [hw2]; exact HB.out.1.alloc HB.out.1.size _
      have hs2 : w.heap.size < w2.heap.size := by rw [hw2, World.size_alloc]; have := HB.out.2; omega
      obtain ⟨⟨c2, f2⟩, h3, h4⟩ := HS.out w2 (fun j hj => by rw [hw2]; exact Below.heap_alloc _ _ _ hj) hb2 hs2
      have HO := Lib.hid (And.intro h3 h4)
      have HS2 := Lib.hid hs2
      have c3 : w2.cell? ⟨wr.heap.size, 0, none⟩ = some (.string (bs x.text)) := by
        rw [hw2, Lib.cell_of_heap (heap_alloc_new wr _)]; rfl
      clear h3 h4 hb2 hs2 HS
      go_upto_region 5 with fail
      rw [← hw2]
      clear hw2 c1 c1'
      go_wp2_with fail
      go_roundw
      case rel => exact ⟨k + 1, by omega, by go_num, HO.out.1, HO.out.2, by rw [World.size_setCell]; exact HS2.out⟩
      case measure => simp [intOf]; omega
    · obtain rfl : k = n := by omega
      have hsl : SlIs wr (some ⟨w.heap.size, 0, none⟩) k ((l.map Pt.text).map bs) := slIs_of_row (by rw [List.length_map, List.length_map]; exact HN.out) H.out.1 (fun j x hj => by
        have hjl := (List.getElem?_eq_some_iff.1 hj).1
        rw [List.length_map, List.length_map, HN.out] at hjl
        simp only [rowT, if_pos hjl, List.getD_eq_getElem?_getD, hj]
        rfl)
      have HJo := Lib.hid (joins_is (some ⟨w.heap.size, 0, none⟩) k k (l.map Pt.text) wr (by rw [List.length_map]; exact HN.out) hsl HJ.out (by omega))
      have HB := Lib.hid H.out.2.1
      clear hsl H
      go_wp2_with fail
      refine HJo.out.mono ?_
      rintro e w3 ⟨rfl, hb3⟩
      have HB3 := Lib.hid (HB.out.trans (hb3.mono HB.out.size))
      clear hb3 HB HJo
      go_wp2
      go_ret
      exact ⟨rfl, HB3.out⟩

def oneL (b : Bool) (x : T) : List T := if b then [x] else []
set_option maxRecDepth 100000 in
set_option maxHeartbeats 400000 in
theorem oneIf_is (b : Bool) (x : T) (w : World) :
    Calls Tryz.prog 18 #[.bool b, .string (bs x)] w fun e W' => ∃ v, e = .returned v ∧ W'.ownsRow w.heap.size 9 1 v (oneL b x).length (((oneL b x).map bs).map Value.string) ∧ Below w.heap.size w W' := by
  cases b with
  | true =>
    go_enter Tryz.func18, Tryz.ntmps18
    go_wp2
    go_ret
    exact ⟨_, rfl, World.ownsRow_lit w #[.string (bs x)] 1 (Nat.le_refl _) (by decide) rfl, (Below.refl _ _).alloc (Nat.le_refl _) _⟩
  | false =>
    go_enter Tryz.func18, Tryz.ntmps18
    go_wp2
    go_ret
    exact ⟨_, rfl, World.ownsRow_nil _ _ _ _, Below.refl _ _⟩

/-! ### which go together -/
def dotsT (x : T) : Bool := decide (x = [46]) || decide (x = [46, 46])
def dotsP (p : Pt) : Bool := dotsT p.text
theorem eq_dot (x : T) : ((bs x).toList == [46]) = decide (x = [46]) := by
  rw [Lib.toList_data, data_bs, Bool.eq_iff_iff]
  simp
theorem eq_dots (x : T) : ((bs x).toList == [46, 46]) = decide (x = [46, 46]) := by
  rw [Lib.toList_data, data_bs, Bool.eq_iff_iff]
  simp
set_option maxRecDepth 100000 in
set_option maxHeartbeats 400000 in
theorem dots_is (x : T) (m : Bool) (w : World) :
    Calls Tryz.prog 95 #[.agg #[.string (bs x), .bool m]] w fun e W' => e = .returned (.bool (dotsT x)) ∧ Below w.heap.size w W' := by
  have b1 := eq_dot x
  have b2 := eq_dots x
  have HE : Hid (dotsT x = (decide (x = [46]) || decide (x = [46, 46]))) := rfl
  cases h1 : decide (x = [46]) <;> cases h2 : decide (x = [46, 46])
  all_goals
    rw [h1] at b1
    rw [h2] at b2
    have HE2 := HE.out
    rw [h1, h2] at HE2
    have HF := Lib.hid HE2
    clear HE2 HE h1 h2
    go_enter Tryz.func95, Tryz.ntmps95
    go_wp2
    go_ret
    exact ⟨ret_bool HF.out.symm, (Below.refl _ _).alloc (Nat.le_refl _) _⟩

theorem keep4 {b1 b2 : Nat} {u1 u2 u3 u4 : Value} {w W : World} (hb : Below w.heap.size w W) (h : b1 < w.heap.size ∧ w.cell? ⟨b1, 0, none⟩ = some u1 ∧ w.cell? ⟨b1, 1, none⟩ = some u2 ∧ b2 < w.heap.size ∧ w.cell? ⟨b2, 0, none⟩ = some u3 ∧ w.cell? ⟨b2, 1, none⟩ = some u4) :
    b1 < W.heap.size ∧ W.cell? ⟨b1, 0, none⟩ = some u1 ∧ W.cell? ⟨b1, 1, none⟩ = some u2 ∧ b2 < W.heap.size ∧ W.cell? ⟨b2, 0, none⟩ = some u3 ∧ W.cell? ⟨b2, 1, none⟩ = some u4 :=
  ⟨Nat.lt_of_lt_of_le h.1 hb.size, (hb.cell (p := ⟨b1, 0, none⟩) h.1).trans h.2.1, (hb.cell (p := ⟨b1, 1, none⟩) h.1).trans h.2.2.1, Nat.lt_of_lt_of_le h.2.2.2.1 hb.size, (hb.cell (p := ⟨b2, 0, none⟩) h.2.2.2.1).trans h.2.2.2.2.1, (hb.cell (p := ⟨b2, 1, none⟩) h.2.2.2.1).trans h.2.2.2.2.2⟩

theorem dots_held (w0 : World) (B : Nat) (hB : ∀ W : World, Below B w0 W → B ≤ W.heap.size) (x : T) (m : Bool) (w : World) (h : Below B w0 w) :
    Calls Tryz.prog 95 #[.agg #[.string (bs x), .bool m]] w fun e W' => e = .returned (.bool (dotsT x)) ∧ Below w.heap.size w W' ∧ Below B w0 W' :=
  (dots_is x m w).mono fun _ _ ⟨h1, h2⟩ => ⟨h1, h2, h.trans (h2.mono (hB w h))⟩

def alikeP (a b : Pt) : Bool := !a.magic && !b.magic && (dotsP a == dotsP b)
def runP : Pt → List Pt → Nat
  | _, [] => 0
  | a, b :: r => if alikeP a b then runP b r + 1 else 0
def endP : List Pt → Nat
  | [] => 1
  | a :: r => runP a r + 1

set_option maxRecDepth 100000 in
set_option maxHeartbeats 2000000 in
theorem alike_is (x y : T) (m1 m2 : Bool) (w : World) :
    Calls Tryz.prog 67 #[.agg #[.string (bs x), .bool m1], .agg #[.string (bs y), .bool m2]] w fun e W' => e = .returned (.bool (alikeP ⟨x, m1⟩ ⟨y, m2⟩)) ∧ Below w.heap.size w W' := by
  have HD := Lib.hid (dots_held w w.heap.size (fun W h => h.size))
  have HE : Hid (alikeP ⟨x, m1⟩ ⟨y, m2⟩ = (!m1 && !m2 && (dotsT x == dotsT y))) := rfl
  obtain ⟨w2, hw2⟩ : ∃ w2, w2 = (w.alloc (.cells #[.string (bs x), .bool m1] 58)).alloc (.cells #[.string (bs y), .bool m2] 58) := ⟨_, rfl⟩
  have hb : Below w.heap.size w w2 := by rw [hw2]; exact ((Below.refl _ _).alloc (Nat.le_refl _) _).alloc (by rw [World.size_alloc]; omega) _
  have hs : w2.heap.size = w.heap.size + 2 := by rw [hw2, World.size_alloc, World.size_alloc]
  have g0 : w2.heap[w.heap.size]? = some (.cells #[.string (bs x), .bool m1] 58 (0, 0)) := by rw [hw2]; exact heap_alloc2_old _ _ _
  have g1 : w2.heap[w.heap.size + 1]? = some (.cells #[.string (bs y), .bool m2] 58 (0, 0)) := by rw [hw2]; exact heap_alloc2_new _ _ _
  have c0 : w2.cell? ⟨w.heap.size, 0, none⟩ = some (.string (bs x)) := by rw [Lib.cell_of_heap g0]; rfl
  have c1 : w2.cell? ⟨w.heap.size, 1, none⟩ = some (.bool m1) := by rw [Lib.cell_of_heap g0]; rfl
  have c2 : w2.cell? ⟨w.heap.size + 1, 0, none⟩ = some (.string (bs y)) := by rw [Lib.cell_of_heap g1]; rfl
  have c3 : w2.cell? ⟨w.heap.size + 1, 1, none⟩ = some (.bool m2) := by rw [Lib.cell_of_heap g1]; rfl
  have HB := Lib.hid hb
  have hl1 : w.heap.size < w2.heap.size := by omega
  have hl2 : w.heap.size + 1 < w2.heap.size := by omega
  clear hb hs g0 g1
  go_enter Tryz.func67, Tryz.ntmps67
  go_wp2_with fail
  rw [← hw2]
  clear hw2
  cases m1 with
  | true =>
    go_quiet (fail)
    go_wp2
    go_ret
    exact ⟨ret_bool HE.out.symm, below_drewN HB.out _⟩
  | false =>
    cases m2 with
    | true =>
      go_quiet (fail)
      go_wp2
      go_ret
      exact ⟨ret_bool HE.out.symm, below_drewN HB.out _⟩
    | false =>
      go_region_held3 (fun w' => w.heap.size < w'.heap.size ∧ w'.cell? ⟨w.heap.size, 0, none⟩ = some (.string (bs x)) ∧ w'.cell? ⟨w.heap.size, 1, none⟩ = some (.bool false) ∧ w.heap.size + 1 < w'.heap.size ∧ w'.cell? ⟨w.heap.size + 1, 0, none⟩ = some (.string (bs y)) ∧ w'.cell? ⟨w.heap.size + 1, 1, none⟩ = some (.bool false)) (first | go_keep | exact ⟨hl1, c0, c1, hl2, c2, c3⟩ | exact keep4 hb3 (by go_keep)) (first | (go_at_call 95; refine (HD.out _ _ _ (by first | assumption | exact HB.out.drew)).mono ?_; rintro e w3 ⟨rfl, hb3, hz3⟩))
      all_goals go_wp2
      all_goals go_ret
      all_goals exact ⟨ret_bool HE.out.symm, hz3⟩

/-- how far the parts go together -/
theorem run_step {p : Nat} {a b : Pt} {r : List Pt} : (alikeP a b = true → p + 1 + runP a (b :: r) = p + 2 + runP b r) ∧ (alikeP a b = false → runP a (b :: r) = 0) := by
  constructor
  · intro h1
    rw [runP, if_pos h1]; omega
  · intro h1
    rw [runP, if_neg (by rw [h1]; exact Bool.false_ne_true)]

theorem keepP {b o1 o2 : Nat} {u1 u2 u3 u4 : Value} {w W : World} (hb : Below w.heap.size w W) (h : b < w.heap.size ∧ w.cell? ⟨b, o1, none⟩ = some u1 ∧ w.cell? ⟨b, o1 + 1, none⟩ = some u2 ∧ w.cell? ⟨b, o2, none⟩ = some u3 ∧ w.cell? ⟨b, o2 + 1, none⟩ = some u4) :
    b < W.heap.size ∧ W.cell? ⟨b, o1, none⟩ = some u1 ∧ W.cell? ⟨b, o1 + 1, none⟩ = some u2 ∧ W.cell? ⟨b, o2, none⟩ = some u3 ∧ W.cell? ⟨b, o2 + 1, none⟩ = some u4 :=
  ⟨Nat.lt_of_lt_of_le h.1 hb.size, (hb.cell (p := ⟨b, o1, none⟩) h.1).trans h.2.1, (hb.cell (p := ⟨b, o1 + 1, none⟩) h.1).trans h.2.2.1, (hb.cell (p := ⟨b, o2, none⟩) h.1).trans h.2.2.2.1, (hb.cell (p := ⟨b, o2 + 1, none⟩) h.1).trans h.2.2.2.2⟩

set_option maxRecDepth 100000 in
set_option maxHeartbeats 4000000 in
theorem goEnd_is (A : Option Addr) (n c : Nat) (l : List Pt) (w : World) (hn : l.length = n) (h : PtIs w A c l) (h0 : 0 < n) (hm : n ≤ 1000001) :
    Calls Tryz.prog 48 #[.slice A n c] w fun e W' => e = .returned (.int .i64 (endP l : Nat)) ∧ Below w.heap.size w W' := by
  have HN := Lib.hid hn
  have HL := Lib.hid h
  obtain ⟨b0, o0, rfl, hb0, hcc⟩ := h.at_ (k := 0) (x := l[0]'(by omega)) (List.getElem?_eq_getElem _)
  clear hcc
  have HAl := Lib.hid alike_is
  have HStart : Hid (∃ a r, l.drop 0 = a :: r ∧ 1 + runP a r = endP l) := by
    cases l with
    | nil => rw [← hn] at h0; exact absurd h0 (Nat.lt_irrefl _)
    | cons a r => exact ⟨a, r, rfl, by show 1 + runP a r = runP a r + 1; omega⟩
  clear hn h
  go_enter Tryz.func48, Tryz.ntmps48
  go_wp2_with fail
  go_loopw [3] (fun i wr => ∃ p q : Nat, p < n ∧ q ≤ n ∧ i = .int .i64 (q : Int) ∧ Hid (q = p + 1) ∧ Hid (∃ a r, l.drop p = a :: r ∧ p + 1 + runP a r = endP l) ∧ Hid (Below w.heap.size w wr)) (fun i _ => n - (intOf i).toNat)
  case atStart => exact ⟨0, 1, h0, h0, rfl, rfl, (by obtain ⟨a, r, h1, h2⟩ := HStart.out; exact ⟨a, r, h1, by omega⟩), Below.refl _ _⟩
  case round =>
    obtain ⟨p, q, hp, hq, rfl, HQ, HR, HB⟩ := hrel
    go_upto_region 2 with fail
    go_cut [19] (fun v wx => ∃ (g : Bool) (W : World), v = .bool g ∧ W = wx ∧ Hid (g = true → p + 1 < n ∧ ∃ a r, l.drop (p + 1) = a :: r ∧ p + 2 + runP a r = endP l) ∧ Hid (g = false → p + 1 = endP l) ∧ Hid (Below w.heap.size w W))
    case first =>
      by_cases hltq : q < n
      · have hlt : p + 1 < n := by have := HQ.out; omega
        have hx : l[p]? = some (l[p]'(by rw [HN.out]; omega)) := List.getElem?_eq_getElem _
        have hy : l[p + 1]? = some (l[p + 1]'(by rw [HN.out]; omega)) := List.getElem?_eq_getElem _
        have HRs : Hid (∀ al : Bool, alikeP (l[p]'(by rw [HN.out]; omega)) (l[p + 1]'(by rw [HN.out]; omega)) = al → (al = true → p + 1 < n ∧ ∃ a r, l.drop (p + 1) = a :: r ∧ p + 2 + runP a r = endP l) ∧ (al = false → p + 1 = endP l)) := fun al hal => by
          obtain ⟨a, r, h1, h2⟩ := HR.out
          have e1 : l.drop p = l[p]'(by rw [HN.out]; omega) :: l.drop (p + 1) := List.drop_eq_getElem_cons _
          have e2 : l.drop (p + 1) = l[p + 1]'(by rw [HN.out]; omega) :: l.drop (p + 2) := List.drop_eq_getElem_cons _
          rw [e1] at h1
          obtain ⟨rfl, rfl⟩ := List.cons.inj h1
          obtain ⟨k1, k2⟩ := run_step (p := p) (a := l[p]'(by rw [HN.out]; omega)) (b := l[p + 1]'(by rw [HN.out]; omega)) (r := l.drop (p + 2))
          rw [e2] at h2
          rw [hal] at k1 k2
          exact ⟨fun h => ⟨hlt, _, _, e2, by rw [← h2]; have := k1 h; omega⟩, fun h => by have := k2 h; omega⟩
        obtain ⟨b1, o1, hbo1, hbl1, hc1⟩ := HL.out.at_ hx
        obtain ⟨rfl, rfl⟩ : b0 = b1 ∧ o0 = o1 := by simpa using hbo1
        obtain ⟨b2, o2, hbo2, hbl2, hc2⟩ := HL.out.at_ hy
        obtain ⟨rfl, rfl⟩ : b0 = b2 ∧ o0 = o2 := by simpa using hbo2
        obtain ⟨d0, d1⟩ := hc1 wr HB.out
        obtain ⟨d2, d3⟩ := hc2 wr HB.out
        have hbs : b0 < wr.heap.size := Nat.lt_of_lt_of_le hbl1 HB.out.size
        have q1 : IntKind.i64.wrap ((q : Int) - 1) = (p : Int) := by
          rw [show ((q : Int) - 1) = (p : Int) by have := HQ.out; omega]; exact IntWalk.i64_in _ (by omega)
        clear hc1 hc2 hbo1 hbo2 hx hy
        generalize (l[p]'(by rw [HN.out]; omega)) = x at *
        generalize (l[p + 1]'(by rw [HN.out]; omega)) = y at *
        rw [← HQ.out] at d2 d3
        clear hlt
        obtain ⟨xt, xm⟩ := x
        obtain ⟨yt, ym⟩ := y
        have HR2 := Lib.hid (HRs.out _ rfl)
        clear HRs
        go_region_held3 (fun w' => b0 < w'.heap.size ∧ w'.cell? ⟨b0, o0 + p * 2, none⟩ = some (.string (bs xt)) ∧ w'.cell? ⟨b0, o0 + p * 2 + 1, none⟩ = some (.bool xm) ∧ w'.cell? ⟨b0, o0 + q * 2, none⟩ = some (.string (bs yt)) ∧ w'.cell? ⟨b0, o0 + q * 2 + 1, none⟩ = some (.bool ym)) (first | go_keep | exact ⟨hbs, d0, d1, d2, d3⟩ | exact keepP hb3 (by go_keep)) (first | (go_at_call 67; refine (HAl.out _ _ _ _ _).mono ?_; rintro e w3 ⟨rfl, hb3⟩))
        all_goals go_wp2_with fail
        all_goals go_meet
        all_goals exact ⟨_, _, rfl, rfl, HR2.out.1, HR2.out.2, HB.out.drew.trans (hb3.mono HB.out.size)⟩
      · have HE : Hid (p + 1 = endP l) := by
          obtain ⟨a, r, h1, h2⟩ := HR.out
          have hl : (l.drop p).length = 1 := by rw [List.length_drop, HN.out]; have := HQ.out; omega
          rw [h1, List.length_cons] at hl
          obtain rfl : r = [] := List.eq_nil_of_length_eq_zero (by omega)
          exact h2
        go_quiet (fail)
        go_wp2_with fail
        go_meet
        exact ⟨false, _, rfl, rfl, (fun h => nomatch h), (fun _ => HE.out), below_drewN HB.out _⟩
    case rest =>
      obtain ⟨g, w3, rfl, rfl, HT, HF, HB3⟩ := hcut
      cases g with
      | true =>
        have hlt := (HT.out rfl).1
        go_wp2_with fail
        go_roundw
        case rel => exact ⟨p + 1, q + 1, hlt, by have := HQ.out; omega, by go_num, by show _ = _; have := HQ.out; omega, (HT.out rfl).2, HB3.out⟩
        case measure => simp [intOf]; have := HQ.out; omega
      | false =>
        have HQE := Lib.hid (HQ.out.trans (HF.out rfl))
        go_wp2_with fail
        go_ret
        exact ⟨by rw [← HQE.out]; rfl, HB3.out⟩

end Go.Proofs.YtghfmbmdfojapaaGreatDoor.Wst
