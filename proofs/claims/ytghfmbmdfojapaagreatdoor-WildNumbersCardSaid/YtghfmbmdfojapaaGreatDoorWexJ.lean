/- Expand: what a word finds. -/
import Derived.Test.YtghfmbmdfojapaaGreatDoorWseJ
import Derived.Test.YtghfmbmdfojapaaGreatDoorWspJ
namespace Go.Proofs.YtghfmbmdfojapaaGreatDoor.Wex
open Go.RowKit Go.Maps Go.Proofs.YtghfmbmdfojapaaGreatDoor.Pth Go.Proofs.YtghfmbmdfojapaaGreatDoor.Strs Go.Proofs.YtghfmbmdfojapaaGreatDoor.StepAny Go.Proofs.YtghfmbmdfojapaaGreatDoor.Vfs Go.Proofs.YtghfmbmdfojapaaGreatDoor.Vmap Go.Proofs.YtghfmbmdfojapaaGreatDoor.Vfind Go.Proofs.YtghfmbmdfojapaaGreatDoor.Vlook Go.Proofs.YtghfmbmdfojapaaGreatDoor.Wdp Go.Proofs.YtghfmbmdfojapaaGreatDoor.Wst Go.Proofs.YtghfmbmdfojapaaGreatDoor.Wsp Go.Proofs.YtghfmbmdfojapaaGreatDoor.Wnm Go.Proofs.YtghfmbmdfojapaaGreatDoor.Wno Go.Proofs.YtghfmbmdfojapaaGreatDoor.Wnn Go.Proofs.YtghfmbmdfojapaaGreatDoor.Wlv Go.Proofs.YtghfmbmdfojapaaGreatDoor.Wrc Go.Proofs.YtghfmbmdfojapaaGreatDoor.Wwk Go.Proofs.YtghfmbmdfojapaaGreatDoor.Wwt Go.Proofs.YtghfmbmdfojapaaGreatDoor.Wwa Go.Proofs.YtghfmbmdfojapaaGreatDoor.Wlx Go.Proofs.YtghfmbmdfojapaaGreatDoor.Wly Go.Proofs.YtghfmbmdfojapaaGreatDoor.Wse

theorem sort_perm {a b : List T} (h : a.Perm b) : (a.mergeSort fun x y => decide (x ≤ y)) = b.mergeSort fun x y => decide (x ≤ y) :=
  List.Perm.eq_of_pairwise (le := fun x y : T => x ≤ y) (fun _ _ _ _ h1 h2 => List.le_antisymm h1 h2) (Srt.sorted_le a) (Srt.sorted_le b) ((List.mergeSort_perm a _).trans (h.trans (List.mergeSort_perm b _).symm))
/-- what a word finds, on lists -/
def expandP (L : List Ent) (s : T) : List T :=
  if partsP s = [] then oneL (Lib.hasPrefix s [47]) [47]
  else if anyM (partsP s) = true then ((walksP L (stepsP s (partsP s))).map fun y => Lib.join y.2 [47]).mergeSort fun x y => decide (x ≤ y)
  else oneL (lookN L (bs (47 :: joinT (partsP s)))).isSome s
/-- what the walk wants of a file system -/
structure FsOk (L : List Ent) : Prop where
  inv : Vfs.Inv L
  len : L.length ≤ 900000
  paths : ∀ k ∈ pathsL L, k.length ≤ 400000
  names : ∀ s, ∀ x ∈ listN L s, x.length ≤ 400000
  dirs : ∀ s nd, lookN L s = some nd → nd.d = dirP L nd.p.data.toList
  root : ∀ e ∈ L, flatL e.pt ≠ [47]
/-- and of a word -/
structure WordOk (L : List Ent) (s : T) : Prop where
  len : s.length ≤ 400000
  parts : (partsP s).length ≤ 1000001
  size : sizeP (partsP s) ≤ 140737488355328
  join : (joinT (partsP s)).length ≤ 400000
  texts : ∀ st ∈ stepsP s (partsP s), st.text.length ≤ 400000
  steps : (stepsP s (partsP s)).length ≤ 100000
  some : anyM (partsP s) = true → stepsP s (partsP s) ≠ []
  walks : anyM (partsP s) = true → (walksP L (stepsP s (partsP s))).length ≤ 1000000000000
  joins : anyM (partsP s) = true → ∀ y ∈ walksP L (stepsP s (partsP s)), (Lib.join y.2 [47]).length ≤ 1000000000

theorem own_mono {w : World} {a b e k n : Nat} {v : Value} {xs : List Value} (h : w.ownsRow a e k v n xs) (hb : b ≤ a) : w.ownsRow b e k v n xs :=
  ⟨h.1, h.2.imp id fun ⟨g, cap, cur, e1, e2, e3⟩ => ⟨g, cap, cur, e1, Nat.le_trans hb e2, e3⟩⟩

set_option maxRecDepth 100000 in
set_option maxHeartbeats 8000000 in
theorem expand_is (fa : Addr) (Bm : Nat) (bl : List Nat) (L : List Ent) (s : T) (w : World) (h : FsIs w fa Bm bl (dl L) L) (hf : FsOk L) (hs : WordOk L s) :
    Calls Tryz.prog 8 #[.pointer (some fa), .string (bs s)] w fun e W' => ∃ v, e = .returned v ∧ W'.ownsRow w.heap.size 9 1 v (expandP L s).length (vals (expandP L s)) ∧ Below w.heap.size w W' := by
  have hsz : (bs s).size ≤ 1000000 := by rw [size_bs]; have := hs.len; omega
  have HPa := Lib.hid (partsOf_is (bs s) w hsz)
  rw [data_bs] at HPa
  have HPre := Lib.hid (fun W => Tryz.strings_HasPrefix (bs s) ⟨#[47]⟩ W)
  rw [data_bs, show (⟨#[47]⟩ : ByteArray).data.toList = [47] from rfl] at HPre
  have HOne := Lib.hid (fun b W => oneIf_is b [47] W)
  have HOne2 := Lib.hid (fun b W => oneIf_is b s W)
  have HF := Lib.hid h
  have HFo := Lib.hid hf
  have HS := Lib.hid hs
  have HZ := Lib.hid hsz
  have HE : Hid (expandP L s = if partsP s = [] then oneL (Lib.hasPrefix s [47]) [47] else if anyM (partsP s) = true then ((walksP L (stepsP s (partsP s))).map fun y => Lib.join y.2 [47]).mergeSort fun x y => decide (x ≤ y) else oneL (lookN L (bs (47 :: joinT (partsP s)))).isSome s) := rfl
  clear h hf hs hsz
  obtain ⟨ps, hps⟩ : ∃ ps, ps = partsP s := ⟨_, rfl⟩
  rw [← hps] at HPa HE
  have HPs := Lib.hid hps
  obtain ⟨N, hN⟩ : ∃ N, N = ps.length := ⟨_, rfl⟩
  rw [← hN] at HPa
  have HN := Lib.hid hN
  have hNb : N ≤ 1000001 := by rw [hN, hps]; exact HS.out.parts
  clear hps hN
  go_enter Tryz.func8, Tryz.ntmps8
  go_wp2_with fail
  refine HPa.out.mono ?_
  rintro e w1 ⟨A, c, rfl, hpt, hb1⟩
  have HPt := Lib.hid hpt
  have HB1 := Lib.hid hb1
  clear hpt hb1 HPa
  by_cases h0 : N = 0
  · subst h0
    have hps : ps = [] := List.eq_nil_of_length_eq_zero HN.out.symm
    have HX : Hid (expandP L s = oneL (Lib.hasPrefix s [47]) [47]) := by
      show _ = _
      rw [HE.out, if_pos hps]
    generalize Lib.hasPrefix s [47] = q at *
    clear hps
    go_wp2_with fail
    refine (HPre.out _).mono ?_
    rintro e w2 ⟨rfl, rfl⟩
    go_wp2_with fail
    refine (HOne.out q _).mono ?_
    rintro e w3 ⟨v, rfl, ho3, hb3⟩
    have HO3 := Lib.hid ho3
    have HB3 := Lib.hid hb3
    clear ho3 hb3
    go_wp2
    go_ret
    rw [HX.out]
    exact ⟨_, rfl, own_mono HO3.out HB1.out.size, HB1.out.trans (HB3.out.mono HB1.out.size)⟩
  · have HPn : Hid (ps ≠ []) := fun e => h0 (by rw [HN.out, e]; rfl)
    have HCo := Lib.hid (contains_is A N c ps w1 HN.out.symm HPt.out hNb)
    have HAm : Hid (anyM ps = anyM (partsP s)) := by rw [HPs.out]; rfl
    obtain ⟨am, ham⟩ : ∃ am, am = anyM ps := ⟨_, rfl⟩
    rw [← ham] at HCo HE HAm
    have HAe := Lib.hid ham
    clear ham
    go_wp2_with fail
    refine HCo.out.mono ?_
    rintro e w2 ⟨rfl, hb2⟩
    have HB2 := Lib.hid (HB1.out.trans (hb2.mono HB1.out.size))
    have HPt2 := Lib.hid (HPt.out.below hb2)
    clear hb2 HCo HPt
    cases am with
    | true =>
      have HX : Hid (expandP L s = ((walksP L (stepsP s ps)).map fun y => Lib.join y.2 [47]).mergeSort fun x y => decide (x ≤ y)) := by
        show _ = _
        rw [HE.out, if_neg HPn.out, if_pos rfl]
      have HSt := Lib.hid (stepsOf_is (bs s) A N c ps w2 HZ.out HN.out.symm HPt2.out hNb (by rw [HPs.out]; exact HS.out.size))
      rw [data_bs] at HSt
      go_wp2_with fail
      refine HSt.out.mono ?_
      rintro e w3 ⟨A3, c3, rfl, hpt3, hb3⟩
      have HB3 := Lib.hid (HB2.out.trans (hb3.mono HB2.out.size))
      have hm : anyM (partsP s) = true := HAm.out.symm
      have hpe : ps = partsP s := HPs.out
      have hSe := search_is fa Bm bl L w3 A3 (stepsP s ps).length c3 (stepsP s ps) (HF.out.below HB3.out) HFo.out.inv HFo.out.len HFo.out.paths HFo.out.names HFo.out.dirs HFo.out.root (by rw [hpe]; exact HS.out.texts) hpt3 rfl (by rw [hpe]; exact HS.out.steps) (by rw [hpe]; exact HS.out.some hm) (by rw [hpe]; exact HS.out.walks hm) (by rw [hpe]; exact HS.out.joins hm)
      have HSe := Lib.hid hSe
      clear hb3 hpt3 hm hpe hSe HSt
      go_wp2_with fail
      refine HSe.out.mono ?_
      rintro e w4 ⟨v, ys, rfl, hys, ho4, hb4⟩
      have HO4 : Hid (w4.ownsRow w.heap.size 9 1 v (expandP L s).length (vals (expandP L s))) := by
        rw [sort_perm hys] at ho4
        have hl : ys.length = (expandP L s).length := by rw [HX.out, List.length_mergeSort]; exact hys.length_eq
        rw [hl, ← HX.out] at ho4
        exact own_mono ho4 HB3.out.size
      have HB4 := Lib.hid (HB3.out.trans (hb4.mono HB3.out.size))
      clear hys ho4 hb4 HSe
      go_wp2
      go_ret
      exact ⟨_, rfl, HO4.out, HB4.out⟩
    | false =>
      have HX : Hid (expandP L s = oneL (lookN L (bs (47 :: joinT ps))).isSome s) := by
        show _ = _
        rw [HE.out, if_neg HPn.out, if_neg Bool.false_ne_true]
      have hjl : (joinT ps).length ≤ 400000 := by rw [HPs.out]; exact HS.out.join
      have HJo := Lib.hid (join_is A N c ps w2 HN.out.symm HPt2.out hNb (by omega))
      have a1 : ∀ W, (Op.stringOp .add ⟨#[47]⟩ (bs (joinT ps))).run Tryz.prog W = .ok (.string (bs (47 :: joinT ps))) W := fun W => by rw [run_string_add_sum W _ _ (by rw [size_bs]; show 1 + _ ≤ _; omega)]; exact congrArg (fun z => Result.ok (Value.string z) W) (bs_app [47] (joinT ps)).symm
      have hls : (bs (47 :: joinT ps)).size ≤ 1000000 := by rw [size_bs, List.length_cons]; omega
      have HLs := Lib.hid hls
      clear hjl hls
      go_wp2_with fail
      refine HJo.out.mono ?_
      rintro e w3 ⟨rfl, hb3⟩
      have HB3 := Lib.hid (HB2.out.trans (hb3.mono HB2.out.size))
      have HLo := Lib.hid (look_is fa Bm bl L (bs (47 :: joinT ps)) w3 (HF.out.below HB3.out) HFo.out.inv HLs.out (by have := HFo.out.len; omega))
      clear hb3 HJo
      generalize lookN L (bs (47 :: joinT ps)) = lk at *
      go_wp2_with fail
      refine HLo.out.mono ?_
      rintro e w4 ⟨rfl, hb4⟩
      have HB4 := Lib.hid (HB3.out.trans (hb4.mono HB3.out.size))
      clear hb4 HLo a1
      generalize lk.isSome = q at *
      unfold Nd.e
      have hal : ∀ o, Below w.heap.size w (w4.alloc o) := fun o => HB4.out.alloc HB4.out.size _
      have HAl := Lib.hid hal
      clear hal
      go_wp2_with fail
      refine (HOne2.out q _).mono ?_
      rintro e w5 ⟨v, rfl, ho5, hb5⟩
      have HO5 := Lib.hid ho5
      have HB5 := Lib.hid hb5
      clear ho5 hb5
      go_wp2
      go_ret
      rw [HX.out]
      exact ⟨_, rfl, own_mono HO5.out (HAl.out _).size, (HAl.out _).trans (HB5.out.mono (HAl.out _).size)⟩

end Go.Proofs.YtghfmbmdfojapaaGreatDoor.Wex

/- All: what words find. -/
namespace Go.Proofs.YtghfmbmdfojapaaGreatDoor.Wal
open Go.RowKit Go.Maps Go.Proofs.YtghfmbmdfojapaaGreatDoor.Pth Go.Proofs.YtghfmbmdfojapaaGreatDoor.Strs Go.Proofs.YtghfmbmdfojapaaGreatDoor.StepAny Go.Proofs.YtghfmbmdfojapaaGreatDoor.Vfs Go.Proofs.YtghfmbmdfojapaaGreatDoor.Vmap Go.Proofs.YtghfmbmdfojapaaGreatDoor.Wdp Go.Proofs.YtghfmbmdfojapaaGreatDoor.Wnm Go.Proofs.YtghfmbmdfojapaaGreatDoor.Wno Go.Proofs.YtghfmbmdfojapaaGreatDoor.Wnn Go.Proofs.YtghfmbmdfojapaaGreatDoor.Wex

theorem own_cells {w : World} {base n : Nat} {A : Option Addr} {m c : Nat} {zs : List T} (h : w.ownsRow base 9 1 (.slice A m c) n (vals zs)) (hn : n = zs.length) : m = n ∧ (A = none → m = 0 ∧ c = 0) ∧ ∀ ad, A = some ad → ∀ j u, (vals zs)[j]? = some u → w.cell? (ad.add j) = some u := by
  subst hn
  rcases h.2 with ⟨h1, h2⟩ | ⟨g, cap, cur, h1, _⟩
  · injection h1 with e1 e2 e3
    subst e1 e2 e3
    exact ⟨h2.symm, fun _ => ⟨rfl, rfl⟩, fun ad e => by cases e⟩
  · injection h1 with e1 e2 e3
    subst e1 e2 e3
    refine ⟨rfl, fun e => (by cases e), fun ad e j u hu => ?_⟩
    cases e
    exact h.cells (g := g) rfl j u hu
theorem own_slice {w : World} {base n : Nat} {v : Value} {xs : List Value} (h : w.ownsRow base 9 1 v n xs) : ∃ A m c, v = .slice A m c := by
  rcases h.2 with ⟨h1, _⟩ | ⟨g, cap, cur, h1, _⟩
  · exact ⟨_, _, _, h1⟩
  · exact ⟨_, _, _, h1⟩
def allP (L : List Ent) (ws : List T) : List T := ws.flatMap (expandP L)
theorem allP_take (L : List Ent) (ws : List T) (k : Nat) {x : T} (h : ws[k]? = some x) : allP L (ws.take (k + 1)) = allP L (ws.take k) ++ expandP L x := by
  obtain ⟨hl, he⟩ := List.getElem?_eq_some_iff.1 h
  unfold allP
  rw [List.take_succ_eq_append_getElem hl, List.flatMap_append, he, List.flatMap_cons, List.flatMap_nil, List.append_nil]
theorem allP_le (L : List Ent) (ws : List T) (k : Nat) : (allP L (ws.take k)).length ≤ (allP L ws).length := by
  have h : allP L ws = allP L (ws.take k) ++ allP L (ws.drop k) := by
    unfold allP
    rw [← List.flatMap_append, List.take_append_drop]
  rw [h, List.length_append]
  exact Nat.le_add_right ..

set_option maxRecDepth 100000 in
set_option maxHeartbeats 8000000 in
theorem all_is (fa : Addr) (Bm : Nat) (bl : List Nat) (L : List Ent) (w : World) (A : Option Addr) (N c : Nat) (ws : List T) (h : FsIs w fa Bm bl (dl L) L) (hf : FsOk L) (hN : ws.length = N) (hs : SlIs w A c (ws.map bs)) (hw : ∀ s ∈ ws, WordOk L s) (hT : (allP L ws).length ≤ 1000000000000) (hNb : N ≤ 1000000) :
    Calls Tryz.prog 32 #[.pointer (some fa), .slice A N c] w fun e W' => ∃ v, e = .returned v ∧ W'.ownsRow w.heap.size 9 1 v (allP L ws).length (vals (allP L ws)) ∧ Below w.heap.size w W' := by
  obtain ⟨i0, hi0, hz0, hz1, hz2⟩ := info_parts infoString
  have HF := Lib.hid h
  have HFo := Lib.hid hf
  have HN := Lib.hid hN
  have HS := Lib.hid hs
  have HW := Lib.hid hw
  have HT := Lib.hid hT
  clear h hf hN hs hw hT
  go_enter Tryz.func32, Tryz.ntmps32
  go_wp2_with fail
  go_loopw [5, 10] (fun v i wr => ∃ (k : Nat) (zs : List T), i = .int .i64 k ∧ k ≤ N ∧ wr.ownsRow w.heap.size 9 1 v zs.length (vals zs) ∧ Hid (zs = allP L (ws.take k)) ∧ Hid (Below w.heap.size w wr)) (fun _ i _ => N - (intOf i).toNat)
  case atStart => exact ⟨0, [], rfl, Nat.zero_le _, World.ownsRow_nil _ _ _ _, rfl, Below.refl _ _⟩
  case round =>
    obtain ⟨k, zs, rfl, hk, hown, HZ, HB⟩ := hrel
    by_cases hkl : k < N
    · obtain ⟨x, hx⟩ : ∃ x, ws[k]? = some x := ⟨_, List.getElem?_eq_getElem (by rw [HN.out]; exact hkl)⟩
      have hcap : N ≤ c := by have := HS.out.1; rw [List.length_map, HN.out] at this; exact this
      obtain ⟨b5, o5, rfl, hb5, hc5⟩ := HS.out.at_ (show (ws.map bs)[k]? = some (bs x) by rw [List.getElem?_map, hx]; rfl)
      have c5 := hc5 wr HB.out
      have HEx := Lib.hid (expand_is fa Bm bl L x wr (HF.out.below HB.out) HFo.out (HW.out x (List.mem_of_getElem? hx)))
      have HZn : Hid (zs ++ expandP L x = allP L (ws.take (k + 1))) := by
        show _ = _
        rw [allP_take L ws k hx, HZ.out]
      have HOw := Lib.hid hown
      clear hc5 hb5 hx hown
      go_wp2_with fail
      refine HEx.out.mono ?_
      rintro e w2 ⟨v2, rfl, ho2, hb2⟩
      have HB2 := Lib.hid (HB.out.trans (hb2.mono HB.out.size))
      have hown2 := rows_below (W := w2) HOw.out (fun g hg => hb2.block g (HOw.out.lt g hg).2)
      obtain ⟨A2, m2, c2, rfl⟩ := own_slice ho2
      obtain ⟨hm2, hfo, hcl⟩ := own_cells ho2 rfl
      have HCl := Lib.hid hcl
      have HFm := Lib.hid hfo
      have HOn : Hid (∀ u ∈ vals (expandP L x), u.oneCell' = true) := fun u hu => by
        unfold vals at hu
        obtain ⟨y, _, rfl⟩ := List.mem_map.1 hu
        rfl
      have hvl : (vals (expandP L x)).length = m2 * 1 := by rw [vals_len, Nat.mul_one, hm2]
      have hbz : zs.length + m2 ≤ 1000000000000 := by
        have h1 := allP_le L ws (k + 1)
        rw [← HZn.out, List.length_append, ← hm2] at h1
        have := HT.out
        omega
      have hsb := HB2.out.size
      have HM2 := Lib.hid hm2
      clear ho2 hb2 hcl hfo hm2 HEx c5
      go_wp2_with (at_builtin; refine wpList_append_any rfl _ _ 30 rfl w.heap.size 9 i0 (.string .empty) 1 16 Tryz.underlying30 hi0 hz0 hz1 hz2 rfl (by decide) _ zs.length (vals zs) rfl hown2 A2 m2 c2 (vals (expandP L x)) rfl HFm.out hvl HCl.out HOn.out (by unfold maxLen; omega) (by omega) hsb ?_; intro v6 w6 hown6 hgrow)
      have HB6 : Hid (Below w.heap.size w w6) := HB2.out.grown hgrow hsb (fun k e1 => (hown2.lt k e1).1)
      have HO6 : Hid (w6.ownsRow w.heap.size 9 1 v6 (zs ++ expandP L x).length (vals (zs ++ expandP L x))) := by
        have e1 : vals (zs ++ expandP L x) = vals zs ++ vals (expandP L x) := by unfold vals; rw [List.map_append, List.map_append]
        rw [e1, List.length_append, ← HM2.out]; exact hown6
      clear hown6 hown2 hgrow hsb
      go_wp2_with fail
      go_roundw
      case rel => exact ⟨k + 1, zs ++ expandP L x, by go_num, by omega, HO6.out, HZn.out, HB6.out⟩
      case measure => simp [intOf]; omega
    · obtain rfl : k = N := by omega
      have hz : zs = allP L ws := by rw [HZ.out, List.take_of_length_le (by rw [HN.out]; exact Nat.le_refl _)]
      have HO := Lib.hid hown
      have HZz := Lib.hid hz
      clear hown hz
      go_wp2
      go_ret
      rw [← HZz.out]
      exact ⟨_, rfl, HO.out, HB.out⟩

end Go.Proofs.YtghfmbmdfojapaaGreatDoor.Wal

/- What a walk wants of a file system and of a word (no program). -/
namespace Go.Proofs.YtghfmbmdfojapaaGreatDoor.Wok
open Go.RowKit Go.Proofs.YtghfmbmdfojapaaGreatDoor.Pth Go.Proofs.YtghfmbmdfojapaaGreatDoor.Strs Go.Proofs.YtghfmbmdfojapaaGreatDoor.Vfs Go.Proofs.YtghfmbmdfojapaaGreatDoor.Vmap Go.Proofs.YtghfmbmdfojapaaGreatDoor.Vnames Go.Proofs.YtghfmbmdfojapaaGreatDoor.Vnew Go.Proofs.YtghfmbmdfojapaaGreatDoor.Vfind Go.Proofs.YtghfmbmdfojapaaGreatDoor.Vlook Go.Proofs.YtghfmbmdfojapaaGreatDoor.Wdp Go.Proofs.YtghfmbmdfojapaaGreatDoor.Wst Go.Proofs.YtghfmbmdfojapaaGreatDoor.Wsp Go.Proofs.YtghfmbmdfojapaaGreatDoor.Wnm Go.Proofs.YtghfmbmdfojapaaGreatDoor.Wwk Go.Proofs.YtghfmbmdfojapaaGreatDoor.Wwt Go.Proofs.YtghfmbmdfojapaaGreatDoor.Wlx Go.Proofs.YtghfmbmdfojapaaGreatDoor.Wly Go.Proofs.YtghfmbmdfojapaaGreatDoor.Wex

theorem flat_inj {a b : Wy} (ha : ∀ p ∈ a, 47 ∉ p) (hb : ∀ p ∈ b, 47 ∉ p) (h : flatL a = flatL b) : a = b := by
  by_cases h0 : a = []
  · subst h0
    exact (flatL_nil b h.symm).symm
  · have h1 : b ≠ [] := fun e => by
      rw [e] at h
      exact h0 (flatL_nil a h)
    have := split_flat0 a ha h0
    rw [h, split_flat0 b hb h1] at this
    exact (List.cons.inj this).2.symm
theorem FsOk.of {L : List Ent} (hi : Vfs.Inv L) (hL : L.length ≤ 900000) (hsz : ∀ e ∈ L, (flatL e.pt).length ≤ 400000) : FsOk L := by
  have hroot : ∀ e ∈ L, flatL e.pt ≠ [47] := fun e he h => by
    cases hp : e.pt with
    | nil => exact hi.ne e he hp
    | cons x r =>
      have hx := (hi.good e he x (by rw [hp]; exact List.mem_cons_self)).1
      rw [hp, flatL_cons] at h
      have h1 := (List.cons.inj h).2
      exact hx (List.append_eq_nil_iff.1 h1).1
  refine ⟨hi, hL, fun k hk => ?_, fun s x hx => ?_, fun s nd h => ?_, hroot⟩
  · unfold pathsL at hk
    rcases List.mem_cons.1 hk with rfl | h1
    · decide
    · obtain ⟨e, he, rfl⟩ := List.mem_map.1 h1
      exact hsz e he
  · unfold listN at hx
    split at hx
    · split at hx
      · rw [Srt.sortT_mem, kids_mem] at hx
        obtain ⟨e, he, hp⟩ := hx
        have := hsz e he
        rw [hp, flatL_app, List.length_append, flatL_cons, List.length_cons, List.length_append] at this
        omega
      · exact absurd hx List.not_mem_nil
    · exact absurd hx List.not_mem_nil
  · exact look_dir hroot (fun a ha b hb e => eq_of_pt hi.nodup ha hb (flat_inj (fun p hp => (hi.good a ha p hp).2.2.2) (fun p hp => (hi.good b hb p hp).2.2.2) e)) h

end Go.Proofs.YtghfmbmdfojapaaGreatDoor.Wok

/- Walks without sorting (no program): what can be reckoned out. -/
namespace Go.Proofs.YtghfmbmdfojapaaGreatDoor.Wq
open Go.RowKit Go.Proofs.YtghfmbmdfojapaaGreatDoor.Pth Go.Proofs.YtghfmbmdfojapaaGreatDoor.Strs Go.Proofs.YtghfmbmdfojapaaGreatDoor.Vfs Go.Proofs.YtghfmbmdfojapaaGreatDoor.Vmap Go.Proofs.YtghfmbmdfojapaaGreatDoor.Vnames Go.Proofs.YtghfmbmdfojapaaGreatDoor.Vnew Go.Proofs.YtghfmbmdfojapaaGreatDoor.Vfind Go.Proofs.YtghfmbmdfojapaaGreatDoor.Vlook Go.Proofs.YtghfmbmdfojapaaGreatDoor.Wdp Go.Proofs.YtghfmbmdfojapaaGreatDoor.Wst Go.Proofs.YtghfmbmdfojapaaGreatDoor.Wsp Go.Proofs.YtghfmbmdfojapaaGreatDoor.Wnm Go.Proofs.YtghfmbmdfojapaaGreatDoor.Wwk Go.Proofs.YtghfmbmdfojapaaGreatDoor.Wwt Go.Proofs.YtghfmbmdfojapaaGreatDoor.Wlx Go.Proofs.YtghfmbmdfojapaaGreatDoor.Wly Go.Proofs.YtghfmbmdfojapaaGreatDoor.Wex Go.Proofs.YtghfmbmdfojapaaGreatDoor.Wok

def listQ (L : List Ent) (s : ByteArray) : List T := match lookN L s with
  | some q => if q.d then kids L (partsOf s) else []
  | none => []
def namesQ (L : List Ent) (st : Pt) (s : ByteArray) : List T := if st.magic then (listQ L s).filter (Gmatch.matchL st.text) else [st.text]
def stepQ (L : List Ent) (st : Pt) (k : T) (t : List T) : List (T × List T) := if dirP L k then (namesQ L st (bs k)).flatMap (stepX L k t) else []
def walksQ (L : List Ent) (sts : List Pt) : List (T × List T) := sts.foldl (fun W st => W.flatMap fun y => stepQ L st y.1 y.2) [([47], [])]
theorem list_perm {L : List Ent} (hi : Vfs.Inv L) (s : ByteArray) : (listN L s).Perm (listQ L s) := by
  unfold listN listQ
  cases lookN L s with
  | none => exact List.Perm.refl _
  | some q =>
    show (if q.d then Srt.sortT (kids L (partsOf s)) else []).Perm (if q.d then kids L (partsOf s) else [])
    cases q.d with
    | false => exact List.Perm.refl _
    | true =>
      have h1 : (Srt.sortT (kids L (partsOf s))).Nodup := (Srt.sortT_up _).imp fun h e => by rw [e] at h; exact List.lt_irrefl _ h
      exact (List.perm_ext_iff_of_nodup h1 (kids_nodup _ L hi.nodup)).2 fun x => Srt.sortT_mem _ x
theorem names_perm {L : List Ent} (hi : Vfs.Inv L) (st : Pt) (s : ByteArray) : (namesP L st s).Perm (namesQ L st s) := by
  unfold namesP namesQ
  split
  · exact (list_perm hi s).filter _
  · exact List.Perm.refl _
theorem step_perm {L : List Ent} (hi : Vfs.Inv L) (st : Pt) (k : T) (t : List T) : (stepW L st k t).Perm (stepQ L st k t) := by
  unfold stepW stepQ
  split
  · exact (names_perm hi st _).flatMap_right _
  · exact List.Perm.refl _
theorem walks_perm {L : List Ent} (hi : Vfs.Inv L) (sts : List Pt) : (walksP L sts).Perm (walksQ L sts) := by
  unfold walksP walksQ
  generalize [(([47] : T), ([] : List T))] = W0
  have h : ∀ (sts : List Pt) (W W' : List (T × List T)), W.Perm W' → (sts.foldl (fun W st => W.flatMap fun y => stepW L st y.1 y.2) W).Perm (sts.foldl (fun W st => W.flatMap fun y => stepQ L st y.1 y.2) W') := by
    intro sts
    induction sts with
    | nil => intro W W' h; exact h
    | cons st r ih =>
      intro W W' h
      exact ih _ _ ((flatMap_perm fun y _ => step_perm hi st y.1 y.2).trans (h.flatMap_right _))
  exact h sts _ _ (List.Perm.refl _)
/-- the names, unsorted -/
def foundQ (L : List Ent) (s : T) : List T := (walksQ L (stepsP s (partsP s))).map fun y => Lib.join y.2 [47]
/-- all that is asked of a word, as a check -/
def okQ (L : List Ent) (s : T) : Bool :=
  decide (s.length ≤ 400000) && decide ((partsP s).length ≤ 1000001) && decide (sizeP (partsP s) ≤ 140737488355328) && decide ((joinT (partsP s)).length ≤ 400000) &&
  (stepsP s (partsP s)).all (fun st => decide (st.text.length ≤ 400000)) && decide ((stepsP s (partsP s)).length ≤ 100000) &&
  (!anyM (partsP s) || (!(stepsP s (partsP s)).isEmpty && decide ((walksQ L (stepsP s (partsP s))).length ≤ 1000000000000) && (walksQ L (stepsP s (partsP s))).all fun y => decide ((Lib.join y.2 [47]).length ≤ 1000000000)))
theorem WordOk.of {L : List Ent} (hi : Vfs.Inv L) {s : T} (h : okQ L s = true) : WordOk L s := by
  unfold okQ at h
  simp only [Bool.and_eq_true, decide_eq_true_eq, List.all_eq_true] at h
  obtain ⟨⟨⟨⟨⟨⟨h1, h2⟩, h3⟩, h4⟩, h5⟩, h6⟩, h7⟩ := h
  have h8 : anyM (partsP s) = true → ((stepsP s (partsP s)) ≠ [] ∧ (walksQ L (stepsP s (partsP s))).length ≤ 1000000000000) ∧ ∀ y ∈ walksQ L (stepsP s (partsP s)), (Lib.join y.2 [47]).length ≤ 1000000000 := fun ha => by
    rw [ha] at h7
    simp only [Bool.not_true, Bool.false_or, Bool.and_eq_true, decide_eq_true_eq, List.all_eq_true, Bool.not_eq_true', List.isEmpty_eq_false_iff] at h7
    exact h7
  have hp := walks_perm hi (stepsP s (partsP s))
  exact ⟨h1, h2, h3, h4, h5, h6, fun ha => (h8 ha).1.1, fun ha => by rw [hp.length_eq]; exact (h8 ha).1.2, fun ha y hy => (h8 ha).2 y (hp.mem_iff.1 hy)⟩
theorem expand_magic {L : List Ent} (hi : Vfs.Inv L) {s : T} (h : anyM (partsP s) = true) : expandP L s = (foundQ L s).mergeSort fun x y => decide (x ≤ y) := by
  unfold expandP
  have hne : partsP s ≠ [] := fun e => by rw [e] at h; cases h
  rw [if_neg hne, if_pos h]
  exact sort_perm ((walks_perm hi _).map _)
theorem expand_one {L : List Ent} (hi : Vfs.Inv L) {s x : T} (h : anyM (partsP s) = true) (hf : foundQ L s = [x]) : expandP L s = [x] := by
  rw [expand_magic hi h, hf, List.mergeSort_singleton]
theorem expand_len {L : List Ent} (hi : Vfs.Inv L) {s : T} (h : anyM (partsP s) = true) : (expandP L s).length = (foundQ L s).length := by
  rw [expand_magic hi h, List.length_mergeSort]

end Go.Proofs.YtghfmbmdfojapaaGreatDoor.Wq

/- The document's example: awake. -/
namespace Go.Proofs.YtghfmbmdfojapaaGreatDoor.Wawk
open Go.RowKit Go.Proofs.YtghfmbmdfojapaaGreatDoor.Pth Go.Proofs.YtghfmbmdfojapaaGreatDoor.Strs Go.Proofs.YtghfmbmdfojapaaGreatDoor.Vfs Go.Proofs.YtghfmbmdfojapaaGreatDoor.Vmap Go.Proofs.YtghfmbmdfojapaaGreatDoor.Vnames Go.Proofs.YtghfmbmdfojapaaGreatDoor.Vnew Go.Proofs.YtghfmbmdfojapaaGreatDoor.Vfind Go.Proofs.YtghfmbmdfojapaaGreatDoor.Vlook Go.Proofs.YtghfmbmdfojapaaGreatDoor.Wdp Go.Proofs.YtghfmbmdfojapaaGreatDoor.Wst Go.Proofs.YtghfmbmdfojapaaGreatDoor.Wsp Go.Proofs.YtghfmbmdfojapaaGreatDoor.Wnm Go.Proofs.YtghfmbmdfojapaaGreatDoor.Wex Go.Proofs.YtghfmbmdfojapaaGreatDoor.Wal Go.Proofs.YtghfmbmdfojapaaGreatDoor.Wok Go.Proofs.YtghfmbmdfojapaaGreatDoor.Wq

def raw1 : List Raw := [⟨⟨#[97, 46, 99]⟩, false, ⟨#[]⟩⟩, ⟨⟨#[98, 46, 104]⟩, false, ⟨#[]⟩⟩, ⟨⟨#[100, 47, 101, 46, 99]⟩, false, ⟨#[]⟩⟩]
def L1 : List Ent := [⟨[[97, 46, 99]], false, ⟨#[]⟩⟩, ⟨[[98, 46, 104]], false, ⟨#[]⟩⟩, ⟨[[100]], true, ⟨#[]⟩⟩, ⟨[[100], [101, 46, 99]], false, ⟨#[]⟩⟩]
theorem new1 : newL raw1 = L1 := by kernel_rfl
theorem inv1 : Vfs.Inv L1 := by rw [← new1]; exact newL_inv _
theorem fs1 : FsOk L1 := FsOk.of inv1 (by decide) (by decide)
theorem ok1 : WordOk L1 [42, 46, 99] := WordOk.of inv1 (by kernel_rfl)
theorem ok2 : WordOk L1 [47, 42, 47, 101, 46, 99] := WordOk.of inv1 (by kernel_rfl)
theorem ok3 : WordOk L1 [120] := WordOk.of inv1 (by kernel_rfl)
theorem ok4 : WordOk L1 [97, 46, 99] := WordOk.of inv1 (by kernel_rfl)
theorem ok5 : WordOk L1 [42] := WordOk.of inv1 (by kernel_rfl)
theorem ex1 : expandP L1 [42, 46, 99] = [[97, 46, 99]] := expand_one inv1 (by kernel_rfl) (by kernel_rfl)
theorem ex2 : expandP L1 [47, 42, 47, 101, 46, 99] = [[47, 100, 47, 101, 46, 99]] := expand_one inv1 (by kernel_rfl) (by kernel_rfl)
theorem ex3 : expandP L1 [120] = [] := by
  unfold expandP
  rw [if_neg (show partsP [120] ≠ [] by decide), if_neg (show ¬ anyM (partsP [120]) = true by decide)]
  kernel_rfl
theorem ex4 : expandP L1 [97, 46, 99] = [[97, 46, 99]] := by
  unfold expandP
  rw [if_neg (show partsP [97, 46, 99] ≠ [] by decide), if_neg (show ¬ anyM (partsP [97, 46, 99]) = true by decide)]
  kernel_rfl
theorem ex5 : (expandP L1 [42]).length = 3 := by rw [expand_len inv1 (by kernel_rfl)]; kernel_rfl

/-- an entry's cells -/
def encR (x : Raw) : List Value := [.string x.path, .bool x.dir, .string x.text]
def cells (l : List Raw) : List Value := l.flatMap encR
theorem cells_at : ∀ (l : List Raw) (j : Nat) (x : Raw), l[j]? = some x → (cells l)[j * 3]? = some (.string x.path) ∧ (cells l)[j * 3 + 1]? = some (.bool x.dir) ∧ (cells l)[j * 3 + 2]? = some (.string x.text)
  | [], _, _, h => by cases h
  | y :: l, 0, x, h => by
    cases h
    exact ⟨rfl, rfl, rfl⟩
  | y :: l, j + 1, x, h => by
    obtain ⟨h1, h2, h3⟩ := cells_at l j x (by simpa using h)
    have e : ∀ k, (cells (y :: l))[(j + 1) * 3 + k]? = (cells l)[j * 3 + k]? := fun k => by
      show (encR y ++ cells l)[(j + 1) * 3 + k]? = _
      rw [List.getElem?_append_right (by show 3 ≤ _; omega)]
      congr 1
      show (j + 1) * 3 + k - 3 = _
      omega
    exact ⟨(e 0).trans h1, (e 1).trans h2, (e 2).trans h3⟩
theorem ents_is (w : World) (l : List Raw) : EnIs (w.alloc (.cells (cells l).toArray 33)) (some ⟨w.heap.size, 0, none⟩) l.length l := by
  refine ⟨Nat.le_refl _, .inr ⟨w.heap.size, 0, rfl, by simp, fun j x hx => ?_⟩⟩
  obtain ⟨h1, h2, h3⟩ := cells_at l j x hx
  rw [Nat.zero_add, Lib.cell_of_heap (heap_alloc_new w _), Lib.cell_of_heap (heap_alloc_new w _), Lib.cell_of_heap (heap_alloc_new w _), List.getElem?_toArray, List.getElem?_toArray, List.getElem?_toArray]
  exact ⟨h1, h2, h3⟩
/-- Expand, as a slice -/
theorem exp_is (fa : Addr) (Bm : Nat) (bl : List Nat) (L : List Ent) (s : T) (x : ByteArray) (zs : List T) (n : Nat) (w : World) (h : FsIs w fa Bm bl (dl L) L) (hf : FsOk L) (hs : WordOk L s) (hx : x = bs s) (hz : expandP L s = zs) (hn : zs.length = n) :
    Calls Tryz.prog 8 #[.pointer (some fa), .string x] w fun e W' => ∃ A c, e = .returned (.slice A n c) ∧ SlIs W' A c (zs.map bs) ∧ Below w.heap.size w W' := by
  subst hx hn
  refine (expand_is fa Bm bl L s w h hf hs).mono ?_
  rintro e W' ⟨v, rfl, ho, hb⟩
  rw [hz] at ho
  obtain ⟨A, c, rfl, hsl⟩ := slIs_of_own (xs := zs.map bs) (List.length_map _) ho
  exact ⟨A, c, rfl, hsl, hb⟩
theorem all4 : (allP L1 [[97, 46, 99], [42]]).length = 4 := by
  show (expandP L1 [97, 46, 99] ++ (expandP L1 [42] ++ [])).length = 4
  rw [List.length_append, List.append_nil, ex4, ex5]; rfl

set_option maxRecDepth 100000 in
set_option maxHeartbeats 4000000 in
theorem awake_is (w : World) : Calls Tryz.prog 12 #[] w fun e W' => e = .returned (.bool true) ∧ Below w.heap.size w W' := by
  have hnew := new_is (some ⟨w.heap.size, 0, none⟩) 3 3 raw1 (w.alloc (.cells #[.string ⟨#[97, 46, 99]⟩, .bool false, .string ⟨#[]⟩, .string ⟨#[98, 46, 104]⟩, .bool false, .string ⟨#[]⟩, .string ⟨#[100, 47, 101, 46, 99]⟩, .bool false, .string ⟨#[]⟩] 33)) rfl (ents_is w raw1) (fun x hx => by simp [raw1] at hx; rcases hx with rfl | rfl | rfl <;> exact ⟨by decide, by decide⟩) (by decide)
  rw [new1] at hnew
  have HNew := Lib.hid hnew
  clear hnew
  go_enter Tryz.func12, Tryz.ntmps12
  go_wp2_with fail
  refine HNew.out.mono ?_
  rintro e w1 ⟨fa, B, bl, rfl, hF, hb1⟩
  have HB1 := Lib.hid ((alloc_below w (.cells #[.string ⟨#[97, 46, 99]⟩, .bool false, .string ⟨#[]⟩, .string ⟨#[98, 46, 104]⟩, .bool false, .string ⟨#[]⟩, .string ⟨#[100, 47, 101, 46, 99]⟩, .bool false, .string ⟨#[]⟩] 33)).trans (hb1.mono (by simp)))
  have HF := Lib.hid hF
  have HX1 := Lib.hid (fun W (hW : Below w1.heap.size w1 W) => exp_is fa B bl L1 [42, 46, 99] ⟨#[42, 46, 99]⟩ _ 1 W (HF.out.below hW) fs1 ok1 rfl ex1 rfl)
  have HX2 := Lib.hid (fun W (hW : Below w1.heap.size w1 W) => exp_is fa B bl L1 [47, 42, 47, 101, 46, 99] ⟨#[47, 42, 47, 101, 46, 99]⟩ _ 1 W (HF.out.below hW) fs1 ok2 rfl ex2 rfl)
  have HX3 := Lib.hid (fun W (hW : Below w1.heap.size w1 W) => exp_is fa B bl L1 [120] ⟨#[120]⟩ _ 0 W (HF.out.below hW) fs1 ok3 rfl ex3 rfl)
  have HX4 := Lib.hid (fun W (hW : Below w1.heap.size w1 W) A c (hs : SlIs W A c ([[97, 46, 99], [42]].map bs)) => all_is fa B bl L1 W A 2 c [[97, 46, 99], [42]] (HF.out.below hW) fs1 rfl hs (fun s h => by simp at h; rcases h with rfl | rfl; exact ok4; exact ok5) (by rw [all4]; decide) (by decide))
  clear hF hb1 HNew
  go_wp2_with fail
  refine (HX1.out _ (Below.refl _ _)).mono ?_
  rintro e w2 ⟨A2, c2, rfl, hs2, hb2⟩
  have HB2 := Lib.hid hb2
  have hba : Below w1.heap.size w1 (w2.alloc (.cells #[.string ⟨#[97, 46, 99]⟩] 9)) := hb2.alloc hb2.size _
  have HSa := Lib.hid (same_is A2 (some ⟨w2.heap.size, 0, none⟩) 1 c2 1 [⟨#[97, 46, 99]⟩] (w2.alloc (.cells #[.string ⟨#[97, 46, 99]⟩] 9)) rfl (hs2.below (alloc_below w2 _)) (lits_is w2 [⟨#[97, 46, 99]⟩]) (by decide))
  have HBa := Lib.hid hba
  clear hs2 hb2 hba HX1
  go_wp2_with fail
  refine HSa.out.mono ?_
  rintro e w3 ⟨rfl, hb3⟩
  have HB3 := Lib.hid (HBa.out.trans (hb3.mono HBa.out.size))
  clear hb3 HSa
  go_wp2_with fail
  refine (HX2.out _ HB3.out).mono ?_
  rintro e w4 ⟨A4, c4, rfl, hs4, hb4⟩
  have hba : Below w1.heap.size w1 (w4.alloc (.cells #[.string ⟨#[47, 100, 47, 101, 46, 99]⟩] 9)) := (HB3.out.trans (hb4.mono HB3.out.size)).alloc (Nat.le_trans HB3.out.size hb4.size) _
  have HSb := Lib.hid (same_is A4 (some ⟨w4.heap.size, 0, none⟩) 1 c4 1 [⟨#[47, 100, 47, 101, 46, 99]⟩] (w4.alloc (.cells #[.string ⟨#[47, 100, 47, 101, 46, 99]⟩] 9)) rfl (hs4.below (alloc_below w4 _)) (lits_is w4 [⟨#[47, 100, 47, 101, 46, 99]⟩]) (by decide))
  have HBb := Lib.hid hba
  clear hs4 hb4 hba HX2
  go_wp2_with fail
  refine HSb.out.mono ?_
  rintro e w5 ⟨rfl, hb5⟩
  have HB5 := Lib.hid (HBb.out.trans (hb5.mono HBb.out.size))
  clear hb5 HSb
  go_wp2_with fail
  refine (HX3.out _ HB5.out).mono ?_
  rintro e w6 ⟨A6, c6, rfl, hs6, hb6⟩
  have HB6 := Lib.hid (HB5.out.trans (hb6.mono HB5.out.size))
  have hba : Below w1.heap.size w1 (w6.alloc (.cells #[.string ⟨#[97, 46, 99]⟩, .string ⟨#[42]⟩] 9)) := HB6.out.alloc HB6.out.size _
  have HAl := Lib.hid (HX4.out _ hba (some ⟨w6.heap.size, 0, none⟩) 2 (lits_is w6 [⟨#[97, 46, 99]⟩, ⟨#[42]⟩]))
  have HBc := Lib.hid hba
  clear hs6 hb6 hba HX3 HX4
  go_wp2_with fail
  refine HAl.out.mono ?_
  rintro e w7 ⟨v, rfl, ho7, hb7⟩
  rw [all4] at ho7
  obtain ⟨A7, c7, rfl, _⟩ := slIs_of_own (xs := (allP L1 [[97, 46, 99], [42]]).map bs) (by rw [List.length_map]; exact all4) ho7
  have HB7 := Lib.hid (HBc.out.trans (hb7.mono HBc.out.size))
  clear ho7 hb7 HAl
  go_wp2
  go_ret
  exact ⟨rfl, HB1.out.trans (HB7.out.mono HB1.out.size)⟩

end Go.Proofs.YtghfmbmdfojapaaGreatDoor.Wawk
