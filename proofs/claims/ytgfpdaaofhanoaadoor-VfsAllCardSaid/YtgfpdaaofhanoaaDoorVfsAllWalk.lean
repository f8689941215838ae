/- The law VfsAll, walked. -/
import Derived.Deep.DeepCutAuto
import Derived.Laws.OwnMore
import Derived.Test.YtgfpdaaofhanoaaDoorStepAny
import Derived.Test.YtgfpdaaofhanoaaDoorVawake
import Derived.Test.YtgfpdaaofhanoaaDoorWsame
import Derived.Test.YtgfpdaaofhanoaaDoorWnew
import Derived.Test.YtgfpdaaofhanoaaDoorWrot
import Derived.Test.YtgfpdaaofhanoaaDoorWfew
import Derived.Test.YtgfpdaaofhanoaaDoorWlinks
import Derived.Test.YtgfpdaaofhanoaaDoorEopen
namespace Go.Proofs.YtgfpdaaofhanoaaDoor.VfsAll
open Go.RowKit Go.Proofs.YtgfpdaaofhanoaaDoor.Pth Go.Proofs.YtgfpdaaofhanoaaDoor.Strs Go.Proofs.YtgfpdaaofhanoaaDoor.Vfs Go.Proofs.YtgfpdaaofhanoaaDoor.Vmap Go.Proofs.YtgfpdaaofhanoaaDoor.Vnames Go.Proofs.YtgfpdaaofhanoaaDoor.Vnew Go.Proofs.YtgfpdaaofhanoaaDoor.Vfind Go.Proofs.YtgfpdaaofhanoaaDoor.Vlook Go.Proofs.YtgfpdaaofhanoaaDoor.Vsort Go.Proofs.YtgfpdaaofhanoaaDoor.Vall Go.Proofs.YtgfpdaaofhanoaaDoor.Vawake Go.Proofs.YtgfpdaaofhanoaaDoor.Wfind Go.Proofs.YtgfpdaaofhanoaaDoor.Wfs Go.Proofs.YtgfpdaaofhanoaaDoor.Wown Go.Proofs.YtgfpdaaofhanoaaDoor.Wall Go.Proofs.YtgfpdaaofhanoaaDoor.Wrot Go.Proofs.YtgfpdaaofhanoaaDoor.Wlook Go.Proofs.YtgfpdaaofhanoaaDoor.Wlist Go.Proofs.YtgfpdaaofhanoaaDoor.Wlink Go.Proofs.YtgfpdaaofhanoaaDoor.Wlinks Go.Proofs.YtgfpdaaofhanoaaDoor.Wfew Go.Proofs.YtgfpdaaofhanoaaDoor.StepAny

/-! ### facts without the program -/
theorem few_small {l : List Raw} (h : Few l) : ∀ x ∈ l, RawSmall x := fun x hx => ⟨Nat.le_trans (h.2 x hx).1 (by decide), Nat.le_trans (h.2 x hx).2 (by decide)⟩
theorem fold_len2 : ∀ (l : List Raw) (K : List Ent), (∀ x ∈ l, (partsOf x.path).length ≤ 402) → (l.foldl putE K).length ≤ K.length + 402 * l.length
  | [], _, _ => Nat.le_refl _
  | x :: l, K, h => by
    have h1 := putR_len x.dir (textOf x) (partsOf x.path) K []
    have h2 := h x List.mem_cons_self
    have h3 := fold_len2 l (putE K x) (fun y hy => h y (List.mem_cons_of_mem _ hy))
    have h4 : (putE K x).length ≤ K.length + (partsOf x.path).length := h1
    rw [List.length_cons]
    show ((l.foldl putE (putE K x))).length ≤ _
    omega
theorem few_len {l : List Raw} (h : Few l) : (newL l).length ≤ 16080 := by
  have hp : ∀ x ∈ l.take 200, (partsOf x.path).length ≤ 402 := fun x hx => by
    have h1 := (h.2 x (List.mem_of_mem_take hx)).1
    have h2 := parts_bounds x.path.data.toList
    rw [len_data] at h2
    unfold partsOf
    omega
  have h3 := fold_len2 (l.take 200) [] hp
  have h4 : (l.take 200).length ≤ 40 := by rw [List.length_take]; have := h.1; omega
  show ((l.take 200).foldl putE []).length ≤ _
  have : ([] : List Ent).length = 0 := rfl
  omega
theorem rows_slash {L : List Ent} (hi : Vfs.Inv L) {m : Nat} (hs : Small m L) : ∀ x ∈ (rows L).tail, 1 ≤ wayB x.path ∧ x.path.size ≤ 3000000 := fun x hx => by
  obtain ⟨e, he, rfl⟩ := List.mem_map.1 (show x ∈ L.map rawOf from hx)
  have h0 := hi.ne e he
  have hg := hi.good e he
  have hw := hs.way e he
  refine ⟨?_, by show (pathB e.pt).size ≤ _; unfold pathB; rw [size_bs]; exact hw⟩
  have hd := List.dropLast_concat_getLast h0
  show 1 ≤ wayB (pathB e.pt)
  rw [← hd] at hg ⊢
  rw [way_path _ _ (hg _ (List.mem_append_right _ List.mem_cons_self)).2.2.2]
  omega
theorem listN_len (L : List Ent) (s : ByteArray) : (listN L s).length ≤ L.length := by
  unfold listN
  split
  · split
    · refine Nat.le_trans (Srt.sortT_len _) ?_
      unfold kids
      exact List.length_filterMap_le ..
    · exact Nat.zero_le _
  · exact Nat.zero_le _
theorem en_all {W : World} {A : Option Addr} {c : Nat} {l : List Raw} (h : EnIs W A c l) : ∀ ad, A = some ad → ∀ j u, (cells l)[j]? = some u → W.cell? (ad.add j) = some u := by
  intro ad hA j u hj
  rcases h.2 with rfl | ⟨b1, o1, e1, _, hc⟩
  · cases hj
  · rw [hA] at e1
    obtain rfl : ad = ⟨b1, o1, none⟩ := Option.some.inj e1
    rw [addr_add]
    have hlt := (List.getElem?_eq_some_iff.1 hj).1
    rw [cells_len] at hlt
    have hq : j / 3 < l.length := by omega
    obtain ⟨x1, x2, x3⟩ := cells_at l (j / 3) _ (List.getElem?_eq_getElem hq)
    obtain ⟨d1, d2, d3⟩ := hc (j / 3) _ (List.getElem?_eq_getElem hq)
    have hm : j % 3 = 0 ∨ j % 3 = 1 ∨ j % 3 = 2 := by omega
    rcases hm with hm | hm | hm
    · have e : j = j / 3 * 3 := by omega
      rw [e] at hj ⊢
      rw [x1] at hj
      rw [d1]; exact hj
    · have e : j = j / 3 * 3 + 1 := by omega
      rw [e] at hj ⊢
      rw [x2] at hj
      rw [← Nat.add_assoc, d2]; exact hj
    · have e : j = j / 3 * 3 + 2 := by omega
      rw [e] at hj ⊢
      rw [x3] at hj
      rw [← Nat.add_assoc, d3]; exact hj
/-- what both looks tell -/
theorem both {L : List Ent} (hi : Vfs.Inv L) (s : ByteArray) {q : Raw} {r : Bool} (h : q = (lk (rows L) s).getD zeroR ∧ r = (lk (rows L) s).isSome) :
    q = rawN ((lookN L s).getD ndZero) ∧ r = (lookN L s).isSome := by
  obtain ⟨rfl, rfl⟩ := h
  rw [look_both hi]
  cases lookN L s <;> exact ⟨rfl, rfl⟩

theorem cell_new3 (w : World) (a b c : Value) (t : TypeId) (j : Nat) (hj : j < 3) : (w.alloc (.cells #[a, b, c] t)).cell? ⟨w.heap.size, j, none⟩ = some #[a, b, c][j] := by
  rw [Lib.cell_of_heap (heap_alloc_new w _)]
  exact Array.getElem?_eq_getElem (xs := #[a, b, c]) hj

set_option maxRecDepth 100000 in
set_option maxHeartbeats 8000000 in
theorem walk (A0 : Option Addr) (n0 c0 : Nat) (l0 : List Raw) (s1 : ByteArray) (w : World)
    (hn0 : l0.length = n0) (hl0 : EnIs w A0 c0 l0) (hm0 : n0 ≤ maxLen) (hf0 : A0 = none → n0 = 0 ∧ c0 = 0) (z1 : s1.size ≤ 140737488355328) :
    Calls Tryd.prog 3 #[.slice A0 n0 c0, .string s1] w fun e W' => e = .returned (.bool true) ∧ Below w.heap.size w W' := by
  obtain ⟨i0, hi0, hz0, hz1, hz2⟩ := info_parts infoEnt
  have HFew := Lib.hid (few_is A0 n0 c0 l0 w hn0 hl0 hm0)
  have HL0 := Lib.hid hl0
  have HN0 := Lib.hid hn0
  have HF0 := Lib.hid hf0
  have HCells := Lib.hid (en_all hl0)
  have hcl : (cells l0).length = n0 * 3 := by rw [cells_len, hn0]
  have HCl := Lib.hid hcl
  clear hn0 hl0 hf0 hcl
  go_enter Tryd.func3, Tryd.ntmps3
  go_wp2_with fail
  refine HFew.out.mono ?_
  rintro e w' ⟨⟨b, rfl, HB⟩, rfl⟩
  clear HFew
  by_cases hgo : b = true ∧ s1.size ≤ 300
  · obtain ⟨rfl, hs1⟩ := hgo
    have HFw := Lib.hid (HB.out rfl)
    have hn40 : n0 ≤ 40 := by rw [← HN0.out]; exact HFw.out.1
    have HLen := Lib.hid (few_len HFw.out)
    have HSm := Lib.hid (newL_small l0 (few_small HFw.out))
    have HInv := Lib.hid (newL_inv l0)
    have HSlash := Lib.hid (rows_slash HInv.out HSm.out)
    have HN1 := Lib.hid (fun A n c W (hn : l0.length = n) (h : EnIs W A c l0) (hm : n ≤ 40) => new_is A n c l0 W hn h (few_small HFw.out) (by unfold maxLen; omega))
    have HN2 := Lib.hid (fun A n c W (hn : l0.length = n) (h : EnIs W A c l0) => Wnew.new_is A n c l0 W hn h (few_small HFw.out))
    have HPath : Hid (∀ x ∈ l0, x.path.size ≤ 200) := fun x hx => (HFw.out.2 x hx).1
    clear HB
    obtain ⟨L, hL⟩ : ∃ L, L = newL l0 := ⟨_, rfl⟩
    rw [← hL] at HLen HSm HInv HSlash HN1 HN2
    clear hL
    have HOne := Lib.hid (cells_one l0)
    go_wp2_with (at_builtin; refine wpList_append_any rfl _ _ 22 rfl w.heap.size 30 i0 (.agg #[.string .empty, .bool false, .string .empty]) 3 40 Tryd.underlying22 hi0 hz0 hz1 hz2 rfl (by decide) (.slice none 0 0) 0 [] rfl (World.ownsRow_nil _ _ _ _) A0 n0 c0 (cells l0) rfl HF0.out HCl.out HCells.out HOne.out (by unfold maxLen; omega) (by omega) (Nat.le_refl _) ?_; intro v2 w2 hown hgrow; have HG2 : Hid (Below w.heap.size w w2) := (Below.refl _ _).grown hgrow (Nat.le_refl _) (fun k e => by cases e))
    rw [Nat.zero_add, List.nil_append] at hown
    obtain ⟨A2, c2, rfl, hE2, _⟩ := enIs_of_own HN0.out hown
    have HNew1 := Lib.hid (HN1.out A2 n0 c2 w2 HN0.out hE2 hn40)
    clear hown hgrow hE2 HN1 HOne HCells HCl HF0
    refine HNew1.out.mono ?_
    rintro e w3 ⟨fa, B, bl, rfl, hF, hb3⟩
    have HB3 := Lib.hid (HG2.out.trans (hb3.mono HG2.out.size))
    have HF := Lib.hid hF
    clear hF hb3 HNew1 HG2
    go_wp2_with fail
    refine (HN2.out A0 n0 c0 w3 HN0.out (HL0.out.below HB3.out)).mono ?_
    rintro e w4 ⟨f, rfl, hFo, hb4⟩
    have HFA := Lib.hid hFo.fat
    have HF4 := Lib.hid (HF.out.below hb4)
    have HB4 := Lib.hid (HB3.out.trans (hb4.mono HB3.out.size))
    clear hFo hb4 HN2 HF HB3
    go_wp2_with fail
    go_loopw [7] (fun i wr => ∃ z : Int, -1 ≤ z ∧ z ≤ n0 ∧ i = .int .i64 z ∧ Hid (Below w4.heap.size w4 wr)) (fun i _ => ((n0 : Int) - intOf i).toNat)
    case atStart => exact ⟨-1, by omega, by omega, rfl, Below.refl _ _⟩
    case round =>
      obtain ⟨z, hz1', hz2', rfl, HBr⟩ := hrel
      by_cases hlt : z < n0
      · go_upto_if 37 with fail
        go_cut [8] (fun v wx => ∃ u : ByteArray, v = .string u ∧ u.size ≤ 300 ∧ wr = wx)
        case first =>
          by_cases h0 : 0 ≤ z
          · obtain ⟨k, rfl⟩ : ∃ k : Nat, z = (k : Int) := ⟨z.toNat, by omega⟩
            have hk : k < l0.length := by rw [HN0.out]; omega
            have hx : l0[k]? = some l0[k] := List.getElem?_eq_getElem hk
            obtain ⟨b, o, rfl, hb, hcc⟩ := HL0.out.at_ hx
            obtain ⟨d1, _, _⟩ := hcc wr (HB4.out.trans (HBr.out.mono HB4.out.size))
            have hsz := HPath.out _ (List.getElem_mem hk)
            clear hcc hb hx
            generalize l0[k] = x at *
            clear hk
            go_wp2_with fail
            go_meet
            exact ⟨_, rfl, by omega, rfl⟩
          · obtain rfl : z = -1 := by omega
            go_wp2_with fail
            go_meet
            exact ⟨_, rfl, hs1, rfl⟩
        case rest =>
          obtain ⟨u, rfl, hu, rfl⟩ := hcut
          have HLk1 := Lib.hid (look_is fa B bl L u wr (HF4.out.below HBr.out) HInv.out (by omega) (by have := HLen.out; omega))
          go_wp2_with fail
          refine HLk1.out.mono ?_
          rintro e w5 ⟨rfl, hb5⟩
          have HB5 := Lib.hid (HBr.out.trans (hb5.mono HBr.out.size))
          clear hb5 HLk1 HBr
          unfold Nd.e
          obtain ⟨w6, hw6⟩ : ∃ w6, w6 = w5.alloc (.cells #[.string ((lookN L u).getD ndZero).p, .bool ((lookN L u).getD ndZero).d, .string ((lookN L u).getD ndZero).t] 30) := ⟨_, rfl⟩
          have hb6 : Below w4.heap.size w4 w6 := by rw [hw6]; exact HB5.out.alloc HB5.out.size _
          have HB6 := Lib.hid hb6
          have hE : w5.heap.size < w6.heap.size := by rw [hw6, World.size_alloc]; omega
          have HE := Lib.hid hE
          have e0 : w6.cell? ⟨w5.heap.size, 0, none⟩ = some (.string ((lookN L u).getD ndZero).p) := by rw [hw6]; exact cell_new3 _ _ _ _ _ 0 (by decide)
          have e1 : w6.cell? ⟨w5.heap.size, 1, none⟩ = some (.bool ((lookN L u).getD ndZero).d) := by rw [hw6]; exact cell_new3 _ _ _ _ _ 1 (by decide)
          have e2 : w6.cell? ⟨w5.heap.size, 2, none⟩ = some (.string ((lookN L u).getD ndZero).t) := by rw [hw6]; exact cell_new3 _ _ _ _ _ 2 (by decide)
          have HEs := Lib.hid (And.intro e0 (And.intro e1 e2))
          have HLk2 := Lib.hid (Wlook.look_is f (rows L) u w6 (HFA.out.below hb6) (by rw [rows_len]; have := HLen.out; omega) (by omega))
          have HBoth := Lib.hid (fun q r h => both HInv.out u (q := q) (r := r) h)
          go_upto_region 13 with fail
          rw [← hw6]
          clear hw6 hb6 hE e0 e1 e2
          go_wp2_with fail
          refine HLk2.out.mono ?_
          rintro e w7 ⟨q, r, hqr, rfl, hb7⟩
          obtain ⟨rfl, rfl⟩ := HBoth.out q r hqr.out
          unfold rawN
          generalize (lookN L u).getD ndZero = q at *
          generalize (lookN L u).isSome = ok at *
          have HB7 := Lib.hid (HB6.out.trans (hb7.mono HB6.out.size))
          obtain ⟨w8, hw8⟩ : ∃ w8, w8 = w7.alloc (.cells #[.string q.p, .bool q.d, .string q.t] 30) := ⟨_, rfl⟩
          have hb8 : Below w4.heap.size w4 w8 := by rw [hw8]; exact HB7.out.alloc HB7.out.size _
          have hb78 : Below w6.heap.size w6 w8 := by rw [hw8]; exact hb7.alloc hb7.size _
          have HB8 := Lib.hid hb8
          have g0 : w8.cell? ⟨w7.heap.size, 0, none⟩ = some (.string q.p) := by rw [hw8]; exact cell_new3 _ _ _ _ _ 0 (by decide)
          have g1 : w8.cell? ⟨w7.heap.size, 1, none⟩ = some (.bool q.d) := by rw [hw8]; exact cell_new3 _ _ _ _ _ 1 (by decide)
          have g2 : w8.cell? ⟨w7.heap.size, 2, none⟩ = some (.string q.t) := by rw [hw8]; exact cell_new3 _ _ _ _ _ 2 (by decide)
          have e0 : w8.cell? ⟨w5.heap.size, 0, none⟩ = some (.string q.p) := (hb78.cell (p := ⟨w5.heap.size, 0, none⟩) HE.out).trans HEs.out.1
          have e1 : w8.cell? ⟨w5.heap.size, 1, none⟩ = some (.bool q.d) := (hb78.cell (p := ⟨w5.heap.size, 1, none⟩) HE.out).trans HEs.out.2.1
          have e2 : w8.cell? ⟨w5.heap.size, 2, none⟩ = some (.string q.t) := (hb78.cell (p := ⟨w5.heap.size, 2, none⟩) HE.out).trans HEs.out.2.2
          have hbp : (q.p.toList == q.p.toList) = true := by simp
          have hbt : (q.t.toList == q.t.toList) = true := by simp
          have HLs1 := Lib.hid (Vlook.list_is fa B bl L u w8 (HF4.out.below hb8) HInv.out (by omega) (by have := HLen.out; omega))
          clear hb78 hb7 HLk2 HBoth HEs HE hqr
          go_upto_region 14 with fail
          rw [← hw8]
          clear hw8 hb8
          go_wp2_with fail
          refine HLs1.out.mono ?_
          rintro e w9 ⟨Al, cl, rfl, hs9, hb9⟩
          have HB9 := Lib.hid (HB8.out.trans (hb9.mono HB8.out.size))
          have HSl9 := Lib.hid hs9
          have HLs2 := Lib.hid (Wlist.list_is f (rows L) u w9 (HFA.out.below HB9.out) (by rw [rows_len]; have := HLen.out; omega) (by omega) HSlash.out)
          have HLb := Lib.hid (list_both HInv.out u)
          have hll := Nat.le_trans (listN_len L u) HLen.out
          clear hs9 hb9 HLs1 HB8
          go_wp2_with fail
          refine HLs2.out.mono ?_
          rintro e w10 ⟨Am, cm, k, hk, rfl, hs10, hb10⟩
          rw [HLb.out] at hk hs10
          rw [List.length_map] at hk
          have HSm2 := Lib.hid (Strs.same_is Al Am k cl cm ((listN L u).map bs) w10 (by rw [List.length_map, hk]) (HSl9.out.below hb10) hs10 (by unfold maxLen; omega))
          have HB10 := Lib.hid (HB9.out.trans (hb10.mono HB9.out.size))
          rw [← hk]
          clear hk hs10 hb10 HLs2 HSl9 HB9 HLb hll
          go_wp2_with fail
          refine HSm2.out.mono ?_
          rintro e w11 ⟨rfl, hb11⟩
          have HB11 := Lib.hid (HB10.out.trans (hb11.mono HB10.out.size))
          clear hb11 HSm2 HB10 g0 g1 g2 e0 e1 e2 hbp hbt
          go_wp2_with fail
          go_roundw
          case rel => exact ⟨z + 1, by omega, by omega, by go_num, HB11.out⟩
          case measure => simp [intOf]; omega
      · obtain ⟨N, hN⟩ : ∃ N, N = L.length := ⟨_, rfl⟩
        have HN := Lib.hid hN
        have hNl : N ≤ 16080 := by rw [hN]; exact HLen.out
        have hAll1 := Vall.all_is fa B bl L wr (HF4.out.below HBr.out) HInv.out (by omega) sortsNone
        rw [← hN] at hAll1
        have HAll1 := Lib.hid hAll1
        have HAll2 := Lib.hid (fun W (hW : Below w4.heap.size w4 W) => Wall.all_is f L W (HFA.out.below hW) HInv.out (by rw [← HN.out]; omega))
        clear hAll1 hN
        go_wp2_with fail
        refine HAll1.out.mono ?_
        rintro e w5 ⟨A5, c5, M, rfl, hP, hU, hE5, hb5⟩
        have hM := sorted_one HInv.out hP hU
        rw [hM] at hE5
        have HB5 := Lib.hid (HBr.out.trans (hb5.mono HBr.out.size))
        have HE5 := Lib.hid hE5
        clear hP hU hE5 hb5 hM HAll1 HBr
        go_wp2_with fail
        refine (HAll2.out w5 HB5.out).mono ?_
        rintro e w6 ⟨A6, c6, rfl, hE6, hb6⟩
        rw [← HN.out]
        have hsl : ((sorted L).map rawOf).length = N := by rw [List.length_map, (sorted_perm HInv.out).length_eq, HN.out]
        have HS := Lib.hid (Wsame.same_is A5 A6 N c5 c6 ((sorted L).map rawOf) w6 hsl (HE5.out.below hb6) hE6 (by omega))
        have HB6 := Lib.hid (HB5.out.trans (hb6.mono HB5.out.size))
        clear hE6 hb6 hsl HE5 HB5 HAll2
        go_wp2_with fail
        refine HS.out.mono ?_
        rintro e w7 ⟨rfl, hb7⟩
        have HB7 := Lib.hid (HB6.out.trans (hb7.mono HB6.out.size))
        clear hb7 HS HB6
        go_wp2_with fail
        refine (awake_is _).mono ?_
        rintro e w8 ⟨rfl, hb8⟩
        have HB8 := Lib.hid (HB4.out.trans ((HB7.out.trans (hb8.mono HB7.out.size)).mono HB4.out.size))
        clear hb8 HB7
        go_wp2
        go_ret
        exact ⟨rfl, HB8.out⟩
  · have HGo := Lib.hid hgo
    clear hgo HB
    have hg : b = false ∨ (b = true ∧ 300 < s1.size) := by
      have := HGo.out
      cases b
      · exact .inl rfl
      · refine .inr ⟨rfl, ?_⟩
        simp at this
        exact this
    have HAw := Lib.hid (awake_is w)
    rcases hg with rfl | ⟨rfl, h3⟩
    · go_wp2_with fail
      refine HAw.out.mono ?_
      rintro e w8 ⟨rfl, hb8⟩
      have HB8 := Lib.hid hb8
      clear hb8
      go_wp2
      go_ret
      exact ⟨rfl, HB8.out⟩
    · go_wp2_with fail
      refine HAw.out.mono ?_
      rintro e w8 ⟨rfl, hb8⟩
      have HB8 := Lib.hid hb8
      clear hb8
      go_wp2
      go_ret
      exact ⟨rfl, HB8.out⟩

end Go.Proofs.YtgfpdaaofhanoaaDoor.VfsAll
