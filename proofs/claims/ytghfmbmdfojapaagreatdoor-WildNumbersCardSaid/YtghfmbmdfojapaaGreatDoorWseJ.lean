/- search: what the steps lead to. -/
import Derived.Sort.OwnSorted
import Derived.Sort.Grow
import Derived.Lib.OwnBridge
import Derived.Test.YtghfmbmdfojapaaGreatDoorWwkJ
namespace Go.Proofs.YtghfmbmdfojapaaGreatDoor.Wse
open Go.RowKit Go.Sort Go.Maps Go.Proofs.YtghfmbmdfojapaaGreatDoor.Pth Go.Proofs.YtghfmbmdfojapaaGreatDoor.Strs Go.Proofs.YtghfmbmdfojapaaGreatDoor.StepAny Go.Proofs.YtghfmbmdfojapaaGreatDoor.Vfs Go.Proofs.YtghfmbmdfojapaaGreatDoor.Vmap Go.Proofs.YtghfmbmdfojapaaGreatDoor.Vfind Go.Proofs.YtghfmbmdfojapaaGreatDoor.Vlook Go.Proofs.YtghfmbmdfojapaaGreatDoor.Vperm Go.Proofs.YtghfmbmdfojapaaGreatDoor.Wdp Go.Proofs.YtghfmbmdfojapaaGreatDoor.Wnm Go.Proofs.YtghfmbmdfojapaaGreatDoor.Wno Go.Proofs.YtghfmbmdfojapaaGreatDoor.Wnn Go.Proofs.YtghfmbmdfojapaaGreatDoor.Wlv Go.Proofs.YtghfmbmdfojapaaGreatDoor.Wrc Go.Proofs.YtghfmbmdfojapaaGreatDoor.Wwk Go.Proofs.YtghfmbmdfojapaaGreatDoor.Wwt Go.Proofs.YtghfmbmdfojapaaGreatDoor.Wwa Go.Proofs.YtghfmbmdfojapaaGreatDoor.Wlx Go.Proofs.YtghfmbmdfojapaaGreatDoor.Wly

theorem vals_enc (zs : List T) : vals zs = zs.map encStr := by
  unfold vals
  rw [List.map_map]; rfl
/-- the library's Sort, of a row of the call's own -/
theorem sort_own (v : Value) (base : Nat) (zs : List T) (w : World) (h : w.ownsRow base 9 1 v zs.length (vals zs)) (hb : base ≤ w.heap.size) (hm : zs.length < 4611686018427387904) :
    Calls Tryz.prog 47 #[v] w fun e W' => e = .returned (.tuple #[]) ∧ W'.ownsRow base 9 1 v zs.length (vals (zs.mergeSort fun x y => decide (x ≤ y))) ∧ Below base w W' := by
  by_cases hnn : v = .slice none 0 0
  · subst hnn
    have h0 : zs = [] := by
      rcases h.2 with ⟨_, h0⟩ | ⟨g', cap', cur, hv, _⟩
      · exact List.eq_nil_of_length_eq_zero h0
      · cases hv
    subst h0
    refine (Tryz.slices_Sort_string_none none 0 w).mono ?_
    rintro e w' ⟨rfl, rfl⟩
    exact ⟨rfl, by rw [List.mergeSort_nil]; exact h, Below.refl _ _⟩
  · rw [vals_enc] at h
    obtain ⟨g, cap, rfl, hbg, hgl, hncap, hcm, hl1, hH⟩ := Lib.holds_of_ownsRow h hnn
    refine (Tryz.slices_Sort_string g 0 cap zs w hH hgl hm).mono ?_
    rintro e w2 ⟨rfl, nn, os, rfl⟩
    rcases h.2 with ⟨h0, _⟩ | ⟨g', cap', cur, hv, hbase, hg, h1, h2, h3, h4⟩
    · cases h0
    cases hv
    refine ⟨rfl, ?_, (Below.refl _ _).grown (grownBy_sorted _) hb (fun j hj => by cases hj; exact hbase)⟩
    rw [vals_enc]
    exact ownsRow_sorted (List.length_mergeSort zs) hbase hg h1 h2 h3

/-! ### one step more -/
theorem Level.kept {L : List Ent} {w W : World} {n : Nat} {sts : List Pt} {S : List Pl} {F : Nat → List (List T)} (h : Level L w n sts S F) (ht : ∀ b ts, TreeIs w n b ts → TreeIs W n b ts) : Level L W n sts S F :=
  ⟨h.keys, h.dirs, fun e he => ht _ _ (h.tree e he), h.all⟩
theorem tree_below {w W : World} {ab m0 n : Nat} {ty : TypeId} (ha : w.heap[ab]? = some (.cells #[.map (some m0)] ty (0, 0))) (hb : Below w.heap.size w W) : ∀ b ts, TreeIs w n b ts → TreeIs W n b ts := fun _ _ h => TreeIs.kept ha (fun k hk _ => hb.block k hk) hb.size h

theorem all_names {S : List Pl} {F : Nat → List (List T)} {W : List (T × List T)} (h : (S.flatMap fun e => (F e.b).map fun t => (e.k, t)).Perm W) : (S.flatMap fun e => (F e.b).map fun t => Lib.join t [47]).Perm (W.map fun y => Lib.join y.2 [47]) := by
  have h1 := h.map fun y : T × List T => Lib.join y.2 [47]
  rw [List.map_flatMap] at h1
  have e1 : (S.flatMap fun e => (F e.b).map fun t => Lib.join t [47]) = S.flatMap fun e => ((F e.b).map fun t => (e.k, t)).map fun y => Lib.join y.2 [47] := flatMap_same fun e _ => by rw [List.map_map]; rfl
  rw [e1]
  exact h1
theorem flat_filter {α β : Type} (p : α → Bool) (f : α → List β) : ∀ S : List α, ((S.filter p).flatMap f).length ≤ (S.flatMap f).length
  | [] => Nat.le_refl _
  | a :: S => by
    have ih := flat_filter p f S
    rw [List.filter_cons, List.flatMap_cons, List.length_append]
    split
    · rw [List.flatMap_cons, List.length_append]; omega
    · omega

set_option maxRecDepth 100000 in
set_option maxHeartbeats 8000000 in
theorem search_is (fa : Addr) (Bm : Nat) (bl : List Nat) (L : List Ent) (w : World) (A : Option Addr) (N c : Nat) (sts : List Pt)
    (h : FsIs w fa Bm bl (dl L) L) (hi : Vfs.Inv L) (hL : L.length ≤ 900000) (hp : ∀ k ∈ pathsL L, k.length ≤ 400000) (hx : ∀ s, ∀ x ∈ listN L s, x.length ≤ 400000)
    (hd : ∀ s nd, lookN L s = some nd → nd.d = dirP L nd.p.data.toList) (hroot : ∀ e ∈ L, flatL e.pt ≠ [47])
    (ht : ∀ st ∈ sts, st.text.length ≤ 400000) (hst : PtIs w A c sts) (hN : sts.length = N) (hn : N ≤ 100000) (h0 : sts ≠ []) (hW : (walksP L sts).length ≤ 1000000000000) (hJ : ∀ y ∈ walksP L sts, (Lib.join y.2 [47]).length ≤ 1000000000) :
    Calls Tryz.prog 23 #[.pointer (some fa), .slice A N c] w fun e W' => ∃ v, ∃ ys : List T, e = .returned v ∧ ys.Perm ((walksP L sts).map fun y => Lib.join y.2 [47]) ∧ W'.ownsRow w.heap.size 9 1 v ys.length (vals (ys.mergeSort fun x y => decide (x ≤ y))) ∧ Below w.heap.size w W' := by
  obtain ⟨i0, hi0, hz0, hz1, hz2⟩ := info_parts infoString
  have HWk := Lib.hid (walker_is fa w)
  have HFs := Lib.hid h
  have HI := Lib.hid hi
  have HC := Lib.hid (And.intro hL (And.intro hp hx))
  have HD := Lib.hid hd
  have HR := Lib.hid hroot
  have HT := Lib.hid ht
  have HSt := Lib.hid hst
  have HN := Lib.hid hN
  have H0 := Lib.hid h0
  have HW := Lib.hid (And.intro hW hJ)
  clear h hi hL hp hx hd hroot ht hst hN h0 hW hJ
  go_enter Tryz.func23, Tryz.ntmps23
  go_wp2_with fail
  refine HWk.out.mono ?_
  rintro e w1 ⟨fb, ab, m0, b0, lo, rfl, hf, hfl, ha, hl, hlo, hb1, hab, hfb, hne⟩
  have HF1 := Lib.hid (And.intro hf (And.intro hfl (And.intro hfb hne)))
  have HA1 := Lib.hid ha
  have HL1 := Lib.hid hl
  have HB1 := Lib.hid hb1
  have HAb := Lib.hid hab
  have HLv := Lib.hid (level_start HR.out hl)
  clear hf hfl ha hl hlo hb1 hab hfb hne HWk
  unfold walkF
  go_wp2_with fail
  go_loopw [6, 16] (fun v i wr => ∃ (k m : Nat) (lo : Nat) (S : List Pl) (F : Nat → List (List T)), i = .int .i64 k ∧ k ≤ N ∧ Hid (k = 0 ∨ v = .map (some m)) ∧ Hid (Level L wr k (sts.take k) S F) ∧ Hid (LevIs wr lo m S ∧ wr.heap[ab]? = some (.cells #[.map (some m)] 81 (0, 0))) ∧ Hid (wr.cell? ⟨fb, 0, none⟩ = some (.pointer (some fa)) ∧ fb < wr.heap.size) ∧ Hid (Below w.heap.size w wr)) (fun _ i _ => N - (intOf i).toNat)
  case atStart => exact ⟨0, m0, lo, _, _, rfl, Nat.zero_le _, .inl rfl, HLv.out, ⟨HL1.out, HA1.out⟩, ⟨HF1.out.1, HF1.out.2.1⟩, HB1.out⟩
  case round =>
    obtain ⟨k, m, lo, S, F, rfl, hk, Hv, HLe, HLs, HFc, HB⟩ := hrel
    by_cases hkl : k < N
    · obtain ⟨st, hsk⟩ : ∃ st, sts[k]? = some st := ⟨_, List.getElem?_eq_getElem (by rw [HN.out]; exact hkl)⟩
      obtain ⟨b5, o5, rfl, hb5, hc5⟩ := HSt.out.at_ hsk
      obtain ⟨c0, c1⟩ := hc5 wr HB.out
      have hcap : N ≤ c := by have := HSt.out.1; rw [HN.out] at this; exact this
      obtain ⟨wA, hwA⟩ : ∃ wA, wA = wr.alloc (.cells #[.string (bs st.text), .bool st.magic] 82) := ⟨_, rfl⟩
      have hbA : Below wr.heap.size wr wA := by rw [hwA]; exact (Below.refl _ _).alloc (Nat.le_refl _) _
      have hsA : wA.heap.size = wr.heap.size + 1 := by rw [hwA, World.size_alloc]
      have gA : wA.heap[wr.heap.size]? = some (.cells #[.string (bs st.text), .bool st.magic] 82 (0, 0)) := by rw [hwA]; exact heap_alloc_new _ _
      have d0 : wA.cell? ⟨wr.heap.size, 0, none⟩ = some (.string (bs st.text)) := by rw [Lib.cell_of_heap gA]; rfl
      have d1 : wA.cell? ⟨wr.heap.size, 1, none⟩ = some (.bool st.magic) := by rw [Lib.cell_of_heap gA]; rfl
      have hBA : Below w.heap.size w wA := HB.out.trans (hbA.mono HB.out.size)
      have hal : ab < wr.heap.size := (Array.getElem?_eq_some_iff.1 HLs.out.2).1
      have hab : wA.heap[ab]? = some (.cells #[.map (some m)] 81 (0, 0)) := (hbA.block ab hal).trans HLs.out.2
      have hfc : wA.cell? ⟨fb, 0, none⟩ = some (.pointer (some fa)) := (hbA.cell (p := ⟨fb, 0, none⟩) HFc.out.2).trans HFc.out.1
      have hfl : fb < wA.heap.size := by have := HFc.out.2; omega
      have hLA : Level L wA k (sts.take k) S F := Level.kept HLe.out (tree_below HLs.out.2 hbA)
      have hvA := HLs.out.1.below hbA
      have HStep := Lib.hid (walk1_is fa Bm bl L wA fb ab m lo st S (HFs.out.below hBA) HI.out HC.out.1 HC.out.2.1 HC.out.2.2 (HT.out st (List.mem_of_getElem? hsk)) hfc hfl hab hvA hLA.keys)
      have HLA := Lib.hid hLA
      have HbA := Lib.hid (And.intro hBA (And.intro hab (And.intro hfc hfl)))
      have HTk : Hid (sts.take (k + 1) = sts.take k ++ [st]) := by
        obtain ⟨hl5, he5⟩ := List.getElem?_eq_some_iff.1 hsk
        show _ = _
        rw [List.take_succ_eq_append_getElem hl5, he5]
      clear hc5 hb5 hsk hbA hsA gA hBA hal hab hfc hfl hLA hvA
      go_upto_region 6 with fail
      rw [← hwA]
      clear hwA c0 c1
      go_wp2_with fail
      refine HStep.out.mono ?_
      rintro e w2 ⟨m', lo', ks, S', rfl, hks, hss, hl', hlo', ha', hB', hk'⟩
      have hsz : wA.heap.size ≤ w2.heap.size := (hB' 0 (Nat.zero_le _) (Nat.zero_le _)).size
      have hwab := HAb.out
      have hkeep := fun b ts => TreeIs.kept (n := k) (b := b) (ts := ts) HbA.out.2.1 hk' hsz
      have hLn := level_step HD.out HLA.out hss hks hl' hkeep
      rw [← HTk.out] at hLn
      have HLn := Lib.hid hLn
      have HLs2 := Lib.hid (And.intro hl' ha')
      have HFc2 : Hid (w2.cell? ⟨fb, 0, none⟩ = some (.pointer (some fa)) ∧ fb < w2.heap.size) := by
        have hfl := HbA.out.2.2.2
        exact ⟨(World.cell?_of_block (w := wA) (a := ⟨fb, 0, none⟩) (hk' fb hfl HF1.out.2.2.2)).trans HbA.out.2.2.1, by omega⟩
      have HB2 : Hid (Below w.heap.size w w2) := HbA.out.1.trans (hB' _ hwab HbA.out.1.size)
      clear hks hss hl' hlo' ha' hB' hk' hkeep hLn hsz hwab d0 d1
      go_wp2_with fail
      go_roundw
      case rel => exact ⟨k + 1, m', lo', S', _, by go_num, by omega, .inr rfl, HLn.out, HLs2.out, HFc2.out, HB2.out⟩
      case measure => simp [intOf]; omega
    · rename World => W0
      obtain rfl : k = N := by omega
      rcases Hv.out with h1 | h1
      · subst h1
        exact absurd (List.eq_nil_of_length_eq_zero HN.out) H0.out
      · subst h1
        have htk : sts.take k = sts := List.take_of_length_le (by rw [HN.out]; exact Nat.le_refl _)
        rw [htk] at HLe
        obtain ⟨D, n, ho, _, hh, hat0⟩ := HLs.out.1.own
        have HDD := Lib.hid (And.intro hh hat0)
        have hml := HLs.out.1.lt
        have HAll : Hid ((S.flatMap fun e => (F e.b).map fun t => Lib.join t [47]).Perm ((walksP L sts).map fun y => Lib.join y.2 [47])) := all_names HLe.out.all
        have HTot : Hid ((S.flatMap fun e => (F e.b).map fun t => Lib.join t [47]).length ≤ 1000000000000) := by
          show _ ≤ _
          rw [HAll.out.length_eq, List.length_map]; exact HW.out.1
        have HJn : Hid (∀ e ∈ S, ∀ t ∈ F e.b, (Lib.join t [47]).length ≤ 1000000000) := fun e he t ht => by
          have h1 : (e.k, t) ∈ walksP L sts := HLe.out.all.mem_iff.1 (List.mem_flatMap.2 ⟨e, he, List.mem_map.2 ⟨t, ht, rfl⟩⟩)
          exact HW.out.2 _ h1
        clear hh hat0 htk
        go_wp2_with (first | (at_range; refine wpList_range_own _ rfl _ 81 rfl 9 83 KS Tryz.underlying81 ptrElem m n D rfl ho ?_; intro w3 hrg3 hg3 hs3))
        have HB3 : Hid (Below W0.heap.size W0 w3 ∧ W0.heap.size + 1 ≤ w3.heap.size) := ⟨(Below.refl _ _).grown hg3 (Nat.le_refl _) (fun k e => by cases e), by rw [hs3]; exact Nat.le_refl _⟩
        clear hg3 hs3 ho
        go_loopw [9] (fun v wr2 => ∃ (left : Lit → Bool) (cnt : Nat) (zs : List T) (ks : List Pl), wr2.ranges Tryz.prog 9 ptrElem m W0.heap.size n D left cnt ∧ wr2.ownsRow (W0.heap.size + 1) 9 1 v zs.length (vals zs) ∧ Hid (zs.Perm (ks.flatMap fun e => (F e.b).map fun t => Lib.join t [47])) ∧ Hid (ks.Perm (S.filter fun c => !left (.string c.k))) ∧ Hid (Below W0.heap.size W0 wr2 ∧ W0.heap.size + 1 ≤ wr2.heap.size)) (fun _ wr2 => wr2.rangeLeft m W0.heap.size)
        case atStart => exact ⟨_, _, [], [], hrg3, World.ownsRow_nil _ _ _ _, List.Perm.refl _, by show List.Perm _ _; rw [keys_start HDD.out.1], HB3.out⟩
        case round =>
          obtain ⟨left, cnt, zs, ks, hrg, hown, HZ, HKs, HBr⟩ := hrel
          go_wp2_with (first | (at_next; refine wpList_next_ranges _ rfl _ rfl 9 KS ptrElem Value.string ptr invKS invP m W0.heap.size n D left cnt rfl hrg ?_ ?_))
          · intro hc0 hl0
            have hpe : ks.Perm S := by
              have := HKs.out
              rwa [keys_end hl0] at this
            have hzp : zs.Perm ((walksP L sts).map fun y => Lib.join y.2 [47]) := HZ.out.trans ((hpe.flatMap_right _).trans HAll.out)
            have hzl : zs.length ≤ 1000000000000 := by
              rw [hzp.length_eq, List.length_map]; exact HW.out.1
            have HSo := Lib.hid (sort_own _ _ zs wr hown HBr.out.2 (by omega))
            have HZp := Lib.hid hzp
            clear hpe hzp hzl hown hrg
            go_wp2_with fail
            refine HSo.out.mono ?_
            rintro e w9 ⟨rfl, ho9, hb9⟩
            have HO9 := Lib.hid ho9
            have HB9 : Hid (Below w.heap.size w w9) := HB.out.trans ((HBr.out.1.trans (hb9.mono (Nat.le_succ _))).mono HB.out.size)
            clear ho9 hb9 HSo
            go_wp2
            go_ret
            have hlo : w.heap.size ≤ W0.heap.size + 1 := Nat.le_succ_of_le HB.out.size
            refine ⟨_, zs, rfl, HZp.out, ?_, HB9.out⟩
            have h9 := HO9.out
            exact ⟨h9.1, h9.2.imp id fun ⟨g, cap, cur, e1, e2, e3⟩ => ⟨g, cap, cur, e1, Nat.le_trans hlo e2, e3⟩⟩
          · intro x c kl ya yb w4 cnt1 hkx hlx hRc hat hrg1 hlt hg1 hs1 hen
            obtain ⟨e, rfl, he, rfl, rfl⟩ := place_entry HDD.out.1 HDD.out.2 (y := (ya, yb)) hkx hRc hat
            have hB4 : Below W0.heap.size W0 w4 := HBr.out.1.grown hg1 (Nat.le_of_succ_le HBr.out.2) (fun k e1 => by cases e1; exact Nat.le_refl _)
            have hB4s : W0.heap.size + 1 ≤ w4.heap.size := by rw [hs1]; exact HBr.out.2
            have hPn : (ks ++ [e]).Perm (S.filter fun c => !(left (.string c.k) && !(Lit.string c.k).sameKey (.string e.k))) := ((List.Perm.append_right [e] HKs.out).trans (step_key HLs.out.1.keys he hlx).symm)
            have hTot : ((ks ++ [e]).flatMap fun e => (F e.b).map fun t => Lib.join t [47]).length ≤ 1000000000000 := by
              rw [(hPn.flatMap_right _).length_eq]
              exact Nat.le_trans (flat_filter _ _ S) HTot.out
            rw [List.flatMap_append, List.length_append, List.flatMap_cons, List.flatMap_nil, List.append_nil, List.length_map, ← HZ.out.length_eq] at hTot
            have hT4 := tree_below HLs.out.2 hB4 _ _ (HLe.out.tree e he)
            have HNo := Lib.hid (namesOf_is k e.b (F e.b) w4 hT4 hn (by omega) (HJn.out e he))
            have hown4 := rows_below (W := w4) hown (fun g hg => hg1.block g (hown.lt g hg).2 (fun e1 => by have h5 := (hown.lt g hg).1; have h6 := Option.some.inj e1; omega))
            have HOw4 := Lib.hid hown4
            have HB4 := Lib.hid (And.intro hB4 hB4s)
            have HPn := Lib.hid hPn
            have HNe := Lib.hid (hT4.ne)
            have HTt := Lib.hid hTot
            have HMl := Lib.hid hrg.left_eq
            have HLt := Lib.hid hlt
            have HRg := Lib.hid hrg1
            clear hB4 hB4s hPn hTot hT4 hown hown4 hkx hlx hRc hat hg1 hs1 he hrg hrg1 hlt
            unfold ptr at hen
            simp only [Option.map_some] at hen
            go_wp2_with fail
            refine HNo.out.mono ?_
            rintro e9 w5 ⟨A9, c9, zs9, rfl, hzp9, hs9, hb5⟩
            have hl9 : zs9.length = (F e.b).length := by rw [hzp9.length_eq, List.length_map]
            have hbnd := HTt.out
            obtain ⟨b9, o9, rfl, hb9, hc9⟩ : ∃ b o, A9 = some ⟨b, o, none⟩ ∧ b < w5.heap.size ∧ ∀ j x, (zs9.map bs)[j]? = some x → w5.cell? ⟨b, o + j, none⟩ = some (.string x) := by
              rcases hs9.2 with h1 | h1
              · have h2 : (zs9.map bs).length = zs9.length := List.length_map _
                rw [h1] at h2
                exact absurd (List.eq_nil_of_length_eq_zero (by rw [← hl9, ← h2]; rfl)) HNe.out
              · exact h1
            have HCl : Hid (∀ ad, (some ⟨b9, o9, none⟩ : Option Addr) = some ad → ∀ j u, (vals zs9)[j]? = some u → w5.cell? (ad.add j) = some u) := fun ad had j u hu => by
              cases had
              rw [addr_add]
              unfold vals at hu
              rw [List.getElem?_map] at hu
              obtain ⟨x, hx, rfl⟩ := Option.map_eq_some_iff.1 hu
              exact hc9 j x hx
            have HOn : Hid (∀ u ∈ vals zs9, u.oneCell' = true) := fun u hu => by
              unfold vals at hu
              obtain ⟨x, _, rfl⟩ := List.mem_map.1 hu
              rfl
            have hown5 := rows_below (W := w5) HOw4.out (fun g hg => hb5.block g (HOw4.out.lt g hg).2)
            have hml2 := hml
            have hs4 := HB4.out.2
            have HR5 := Lib.hid (ranges_block HRg.out (hb5.block _ (by omega)) (hb5.block _ (by omega)))
            have HB5 : Hid (Below W0.heap.size W0 w5 ∧ W0.heap.size + 1 ≤ w5.heap.size) := ⟨HB4.out.1.trans (hb5.mono (by omega)), Nat.le_trans hs4 hb5.size⟩
            have HZp9 := Lib.hid hzp9
            have hbz : zs.length + zs9.length ≤ 1000000000000 := by omega
            have hvl : (vals zs9).length = zs9.length * 1 := by rw [vals_len, Nat.mul_one]
            have hsb := HB5.out.2
            clear hb5 hs9 hzp9 hl9 hbnd hc9 hb9 HNo hs4 hml2
            go_wp2_with (at_builtin; refine wpList_append_any rfl _ _ 30 rfl (W0.heap.size + 1) 9 i0 (.string .empty) 1 16 Tryz.underlying30 hi0 hz0 hz1 hz2 rfl (by decide) _ zs.length (vals zs) rfl hown5 (some ⟨b9, o9, none⟩) zs9.length c9 (vals zs9) rfl (fun h => by cases h) hvl HCl.out HOn.out (by unfold maxLen; omega) (by omega) hsb ?_; intro v6 w6 hown6 hgrow)
            have HR6 := Lib.hid (HR5.out.kept hgrow (fun e1 => by have h6 := (hown5.lt m e1.symm).1; omega) (fun e1 => by have h6 := (hown5.lt W0.heap.size e1.symm).1; omega))
            have HB6 : Hid (Below W0.heap.size W0 w6 ∧ W0.heap.size + 1 ≤ w6.heap.size) := ⟨HB5.out.1.grown hgrow (by omega) (fun k e1 => by have := (hown5.lt k e1).1; omega), Nat.le_trans hsb hgrow.size⟩
            have HO6 : Hid (w6.ownsRow (W0.heap.size + 1) 9 1 v6 (zs ++ zs9).length (vals (zs ++ zs9))) := by
              have e1 : vals (zs ++ zs9) = vals zs ++ vals zs9 := by unfold vals; rw [List.map_append, List.map_append]
              rw [e1, List.length_append]; exact hown6
            have HZ6 : Hid ((zs ++ zs9).Perm ((ks ++ [e]).flatMap fun e => (F e.b).map fun t => Lib.join t [47])) := by
              show List.Perm _ _
              rw [List.flatMap_append, List.flatMap_cons, List.flatMap_nil, List.append_nil]
              exact HZ.out.append HZp9.out
            clear hown6 hown5 hgrow hsb
            go_wp2_with fail
            go_roundw
            case rel => exact ⟨_, cnt1, zs ++ zs9, ks ++ [e], HR6.out, HO6.out, HZ6.out, HPn.out, HB6.out⟩
            case measure => rw [HR6.out.left_eq, HMl.out]; exact HLt.out

end Go.Proofs.YtghfmbmdfojapaaGreatDoor.Wse
