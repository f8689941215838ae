/- All: what words find. -/
import Derived.Test.YtgfpdaaofhanoaaGreatDoorWex
namespace Go.Proofs.YtgfpdaaofhanoaaGreatDoor.Wal
open Go.RowKit Go.Maps Go.Proofs.YtgfpdaaofhanoaaGreatDoor.Pth Go.Proofs.YtgfpdaaofhanoaaGreatDoor.Strs Go.Proofs.YtgfpdaaofhanoaaGreatDoor.StepAny Go.Proofs.YtgfpdaaofhanoaaGreatDoor.Vfs Go.Proofs.YtgfpdaaofhanoaaGreatDoor.Vmap Go.Proofs.YtgfpdaaofhanoaaGreatDoor.Wdp Go.Proofs.YtgfpdaaofhanoaaGreatDoor.Wnm Go.Proofs.YtgfpdaaofhanoaaGreatDoor.Wno Go.Proofs.YtgfpdaaofhanoaaGreatDoor.Wnn Go.Proofs.YtgfpdaaofhanoaaGreatDoor.Wex

theorem own_cells {w : World} {base n : Nat} {A : Option Addr} {m c : Nat} {zs : List T} (h : w.ownsRow base 9 1 (.slice A m c) n (vals zs)) (hn : n = zs.length) : m = n ∧ (A = none → m = 0 ∧ c = 0) ∧ ∀ ad, A = some ad → ∀ j u, (vals zs)[j]? = some u → w.cell? (ad.add j) = some u := by
  subst hn
  rcases h.2 with ⟨h1, h2⟩ | ⟨g, cap, cur, h1, _⟩
  · injection h1 with e1 e2 e3
    subst e1 e2 e3
    exact ⟨h2.symm, fun _ => ⟨rfl, rfl⟩, fun ad e => by cases e⟩
  · injection h1 with e1 e2 e3
    subst e1 e2 e3
    refine ⟨rfl, fun e => (by cases e), fun ad e j u hu => ?_⟩
    cases e
    exact h.cells (g := g) rfl j u hu
theorem own_slice {w : World} {base n : Nat} {v : Value} {xs : List Value} (h : w.ownsRow base 9 1 v n xs) : ∃ A m c, v = .slice A m c := by
  rcases h.2 with ⟨h1, _⟩ | ⟨g, cap, cur, h1, _⟩
  · exact ⟨_, _, _, h1⟩
  · exact ⟨_, _, _, h1⟩
def allP (L : List Ent) (ws : List T) : List T := ws.flatMap (expandP L)
theorem allP_take (L : List Ent) (ws : List T) (k : Nat) {x : T} (h : ws[k]? = some x) : allP L (ws.take (k + 1)) = allP L (ws.take k) ++ expandP L x := by
  obtain ⟨hl, he⟩ := List.getElem?_eq_some_iff.1 h
  unfold allP
  rw [List.take_succ_eq_append_getElem hl, List.flatMap_append, he, List.flatMap_cons, List.flatMap_nil, List.append_nil]
theorem allP_le (L : List Ent) (ws : List T) (k : Nat) : (allP L (ws.take k)).length ≤ (allP L ws).length := by
  have h : allP L ws = allP L (ws.take k) ++ allP L (ws.drop k) := by
    unfold allP
    rw [← List.flatMap_append, List.take_append_drop]
  rw [h, List.length_append]
  exact Nat.le_add_right ..

set_option maxRecDepth 100000 in
set_option maxHeartbeats 8000000 in
theorem all_is (fa : Addr) (Bm : Nat) (bl : List Nat) (L : List Ent) (w : World) (A : Option Addr) (N c : Nat) (ws : List T) (h : FsIs w fa Bm bl (dl L) L) (hf : FsOk L) (hN : ws.length = N) (hs : SlIs w A c (ws.map bs)) (hw : ∀ s ∈ ws, WordOk L s) (hT : (allP L ws).length ≤ 1000000000000) (hNb : N ≤ 1000000) :
    Calls Tryz.prog 14 #[.pointer (some fa), .slice A N c] w fun e W' => ∃ v, e = .returned v ∧ W'.ownsRow w.heap.size 9 1 v (allP L ws).length (vals (allP L ws)) ∧ Below w.heap.size w W' := by
  obtain ⟨i0, hi0, hz0, hz1, hz2⟩ := info_parts infoString
  have HF := Lib.hid h
  have HFo := Lib.hid hf
  have HN := Lib.hid hN
  have HS := Lib.hid hs
  have HW := Lib.hid hw
  have HT := Lib.hid hT
  clear h hf hN hs hw hT
  go_enter Tryz.func14, Tryz.ntmps14
  go_wp2_with fail
  go_loopw [5, 10] (fun v i wr => ∃ (k : Nat) (zs : List T), i = .int .i64 k ∧ k ≤ N ∧ wr.ownsRow w.heap.size 9 1 v zs.length (vals zs) ∧ Hid (zs = allP L (ws.take k)) ∧ Hid (Below w.heap.size w wr)) (fun _ i _ => N - (intOf i).toNat)
  case atStart => exact ⟨0, [], rfl, Nat.zero_le _, World.ownsRow_nil _ _ _ _, rfl, Below.refl _ _⟩
  case round =>
    obtain ⟨k, zs, rfl, hk, hown, HZ, HB⟩ := hrel
    by_cases hkl : k < N
    · obtain ⟨x, hx⟩ : ∃ x, ws[k]? = some x := ⟨_, List.getElem?_eq_getElem (by rw [HN.out]; exact hkl)⟩
      have hcap : N ≤ c := by have := HS.out.1; rw [List.length_map, HN.out] at this; exact this
      obtain ⟨b5, o5, rfl, hb5, hc5⟩ := HS.out.at_ (show (ws.map bs)[k]? = some (bs x) by rw [List.getElem?_map, hx]; rfl)
      have c5 := hc5 wr HB.out
      have HEx := Lib.hid (expand_is fa Bm bl L x wr (HF.out.below HB.out) HFo.out (HW.out x (List.mem_of_getElem? hx)))
      have HZn : Hid (zs ++ expandP L x = allP L (ws.take (k + 1))) := by
        show _ = _
        rw [allP_take L ws k hx, HZ.out]
      have HOw := Lib.hid hown
      clear hc5 hb5 hx hown
      go_wp2_with fail
      refine HEx.out.mono ?_
      rintro e w2 ⟨v2, rfl, ho2, hb2⟩
      have HB2 := Lib.hid (HB.out.trans (hb2.mono HB.out.size))
      have hown2 := rows_below (W := w2) HOw.out (fun g hg => hb2.block g (HOw.out.lt g hg).2)
      obtain ⟨A2, m2, c2, rfl⟩ := own_slice ho2
      obtain ⟨hm2, hfo, hcl⟩ := own_cells ho2 rfl
      have HCl := Lib.hid hcl
      have HFm := Lib.hid hfo
      have HOn : Hid (∀ u ∈ vals (expandP L x), u.oneCell' = true) := fun u hu => by
        unfold vals at hu
        obtain ⟨y, _, rfl⟩ := List.mem_map.1 hu
        rfl
      have hvl : (vals (expandP L x)).length = m2 * 1 := by rw [vals_len, Nat.mul_one, hm2]
      have hbz : zs.length + m2 ≤ 1000000000000 := by
        have h1 := allP_le L ws (k + 1)
        rw [← HZn.out, List.length_append, ← hm2] at h1
        have := HT.out
        omega
      have hsb := HB2.out.size
      have HM2 := Lib.hid hm2
      clear ho2 hb2 hcl hfo hm2 HEx c5
      go_wp2_with (at_builtin; refine wpList_append_any rfl _ _ 23 rfl w.heap.size 9 i0 (.string .empty) 1 16 Tryz.underlying23 hi0 hz0 hz1 hz2 rfl (by decide) _ zs.length (vals zs) rfl hown2 A2 m2 c2 (vals (expandP L x)) rfl HFm.out hvl HCl.out HOn.out (by unfold maxLen; omega) (by omega) hsb ?_; intro v6 w6 hown6 hgrow)
      have HB6 : Hid (Below w.heap.size w w6) := HB2.out.grown hgrow hsb (fun k e1 => (hown2.lt k e1).1)
      have HO6 : Hid (w6.ownsRow w.heap.size 9 1 v6 (zs ++ expandP L x).length (vals (zs ++ expandP L x))) := by
        have e1 : vals (zs ++ expandP L x) = vals zs ++ vals (expandP L x) := by unfold vals; rw [List.map_append, List.map_append]
        rw [e1, List.length_append, ← HM2.out]; exact hown6
      clear hown6 hown2 hgrow hsb
      go_wp2_with fail
      go_roundw
      case rel => exact ⟨k + 1, zs ++ expandP L x, by go_num, by omega, HO6.out, HZn.out, HB6.out⟩
      case measure => simp [intOf]; omega
    · obtain rfl : k = N := by omega
      have hz : zs = allP L ws := by rw [HZ.out, List.take_of_length_le (by rw [HN.out]; exact Nat.le_refl _)]
      have HO := Lib.hid hown
      have HZz := Lib.hid hz
      clear hown hz
      go_wp2
      go_ret
      rw [← HZz.out]
      exact ⟨_, rfl, HO.out, HB.out⟩

end Go.Proofs.YtgfpdaaofhanoaaGreatDoor.Wal
