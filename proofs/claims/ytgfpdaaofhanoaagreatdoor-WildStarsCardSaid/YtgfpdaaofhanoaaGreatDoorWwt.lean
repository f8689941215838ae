/- The walk: what walker hands out, called with a step. -/
import Derived.Test.YtgfpdaaofhanoaaGreatDoorWwk
namespace Go.Proofs.YtgfpdaaofhanoaaGreatDoor.Wwt
open Go.RowKit Go.Maps Go.Proofs.YtgfpdaaofhanoaaGreatDoor.Pth Go.Proofs.YtgfpdaaofhanoaaGreatDoor.Strs Go.Proofs.YtgfpdaaofhanoaaGreatDoor.Vfs Go.Proofs.YtgfpdaaofhanoaaGreatDoor.Vmap Go.Proofs.YtgfpdaaofhanoaaGreatDoor.Vfind Go.Proofs.YtgfpdaaofhanoaaGreatDoor.Vlook Go.Proofs.YtgfpdaaofhanoaaGreatDoor.Vperm Go.Proofs.YtgfpdaaofhanoaaGreatDoor.Wdp Go.Proofs.YtgfpdaaofhanoaaGreatDoor.Wnm Go.Proofs.YtgfpdaaofhanoaaGreatDoor.Wno Go.Proofs.YtgfpdaaofhanoaaGreatDoor.Wnn Go.Proofs.YtgfpdaaofhanoaaGreatDoor.Wlv Go.Proofs.YtgfpdaaofhanoaaGreatDoor.Wrc Go.Proofs.YtgfpdaaofhanoaaGreatDoor.Wwk

theorem list_len (L : List Ent) (s : ByteArray) : (listN L s).length ≤ L.length := by
  unfold listN
  split
  · split
    · refine Nat.le_trans (Srt.sortT_len _) ?_
      unfold kids
      exact List.length_filterMap_le ..
    · exact Nat.zero_le _
  · exact Nat.zero_le _
theorem names_len (L : List Ent) (st : Pt) (s : ByteArray) : (namesP L st s).length ≤ L.length + 1 := by
  unfold namesP
  split
  · exact Nat.le_succ_of_le (Nat.le_trans (List.length_filter_le ..) (list_len L s))
  · exact Nat.succ_le_succ (Nat.zero_le _)
theorem attsOf_len (L : List Ent) (st : Pt) (e : Pl) : (attsOf L st e).length ≤ L.length + 1 := by
  unfold attsOf
  split
  · rw [List.length_map]; exact names_len L st _
  · exact Nat.zero_le _
theorem atts_len (L : List Ent) (st : Pt) : ∀ ks, (atts L st ks).length ≤ ks.length * (L.length + 1)
  | [] => Nat.zero_le _
  | e :: ks => by
    have h1 := atts_len L st ks
    have h2 := attsOf_len L st e
    have h3 : atts L st (e :: ks) = attsOf L st e ++ atts L st ks := List.flatMap_cons
    rw [h3, List.length_append, List.length_cons, Nat.succ_mul]
    omega
theorem lev_start (w : World) (lo : Nat) : LevIs (w.alloc (.map #[] 0)) lo w.heap.size [] :=
  ⟨⟨_, 0, World.ownsMap_made w Tryz.prog 9 ptrElem, Nat.le_refl _, fun _ => rfl, fun _ _ h => by cases h⟩, List.nodup_nil, fun _ h => absurd h List.not_mem_nil, List.Pairwise.nil⟩
theorem keys_start {S : List Pl} {D : DataW U} (hh : ∀ x : T, Maps.has D (.string x) = (fnd S x).isSome) : S.filter (fun c => !(Maps.has D) (.string c.k)) = [] := by
  rw [List.filter_eq_nil_iff]
  intro e he h1
  rw [hh] at h1
  have h2 : fnd S e.k = none := by
    cases h : fnd S e.k with
    | none => rfl
    | some _ => rw [h] at h1; cases h1
  exact fnd_none.1 h2 e he rfl
theorem keys_end {S : List Pl} {left : Lit → Bool} (h0 : ∀ kl, left kl = false) : S.filter (fun c => !left (.string c.k)) = S := by
  rw [List.filter_eq_self]
  intro e _
  rw [h0]; rfl
theorem lev_apart {w : World} {lo m : Nat} {S : List Pl} (h : LevIs w lo m S) {g : Nat} (hg : w.heap.size ≤ g) : Apart S g := fun e he => by
  have h1 := (Array.getElem?_eq_some_iff.1 (h.pl e he).1).1
  refine ⟨by omega, fun e1 => ?_⟩
  have := ((h.pl e he).2.1.lt g e1.symm).2
  omega
theorem sl_kept {w W : World} {A : Option Addr} {c : Nat} {xs : List ByteArray} (h : SlIs w A c xs) (hs : w.heap.size ≤ W.heap.size) (hA : ∀ q, A = some q → W.heap[q.block]? = w.heap[q.block]?) : SlIs W A c xs := by
  refine ⟨h.1, h.2.imp id ?_⟩
  rintro ⟨b, o, e, hl, hc⟩
  exact ⟨b, o, e, Nat.lt_of_lt_of_le hl hs, fun j x hj => (World.cell?_of_block (w := w) (a := ⟨b, o + j, none⟩) (hA ⟨b, o, none⟩ e)).trans (hc j x hj)⟩
theorem lev_apart_lo {w : World} {lo m : Nat} {S : List Pl} (h : LevIs w lo m S) {g : Nat} (hg : g < lo) : Apart S g := fun e he => by
  refine ⟨by have := (h.pl e he).2.2; omega, fun e1 => ?_⟩
  have := ((h.pl e he).2.1.lt g e1.symm).1
  omega
theorem names_small {L : List Ent} {st : Pt} {s : ByteArray} {n : Nat} (h1 : ∀ x ∈ listN L s, x.length ≤ n) (h2 : st.text.length ≤ n) : ∀ x ∈ namesP L st s, x.length ≤ n := fun x hx => by
  unfold namesP at hx
  split at hx
  · exact h1 x (List.mem_filter.1 hx).1
  · rw [List.mem_singleton.1 hx]; exact h2
theorem take_snoc {α β : Type} (f : α → β) {l : List α} {j : Nat} {x : α} (h : l[j]? = some x) : (l.take (j + 1)).map f = (l.take j).map f ++ [f x] := by
  obtain ⟨hl, he⟩ := List.getElem?_eq_some_iff.1 h
  rw [List.take_succ_eq_append_getElem hl, List.map_append, he]; rfl

set_option maxRecDepth 100000 in
set_option maxHeartbeats 8000000 in
theorem walk1_is (fa : Addr) (Bm : Nat) (bl : List Nat) (L : List Ent) (w : World) (fb ab m0 lo0 : Nat) (st : Pt) (S : List Pl)
    (h : FsIs w fa Bm bl (dl L) L) (hi : Vfs.Inv L) (hL : L.length ≤ 900000) (hp : ∀ k ∈ pathsL L, k.length ≤ 400000) (hx : ∀ s, ∀ x ∈ listN L s, x.length ≤ 400000) (ht : st.text.length ≤ 400000)
    (hf : w.cell? ⟨fb, 0, none⟩ = some (.pointer (some fa))) (hfl : fb < w.heap.size) (ha : w.heap[ab]? = some (.cells #[.map (some m0)] 88 (0, 0)))
    (hl : LevIs w lo0 m0 S) (hS : ∀ e ∈ S, e.k ∈ pathsL L) :
    Calls Tryz.prog 67 #[.agg #[.string (bs st.text), .bool st.magic], .pointer (some ⟨ab, 0, none⟩), .pointer (some ⟨fb, 0, none⟩)] w fun e W' => ∃ m lo ks S', e = .returned (.map (some m)) ∧ ks.Perm S ∧ Wwk.Steps L (atts L st ks) S' ∧ LevIs W' lo m S' ∧ w.heap.size ≤ lo ∧ W'.heap[ab]? = some (.cells #[.map (some m)] 88 (0, 0)) ∧ (∀ B, B ≤ ab → B ≤ w.heap.size → Below B w W') ∧ ∀ k, k < w.heap.size → k ≠ ab → W'.heap[k]? = w.heap[k]? := by
  obtain ⟨D, n, ho, hnle, hh, hat0⟩ := hl.own
  obtain ⟨w1, hw1⟩ : ∃ w1, w1 = w.alloc (.cells #[.string (bs st.text), .bool st.magic] 89) := ⟨_, rfl⟩
  have hs1 : w1.heap.size = w.heap.size + 1 := by rw [hw1, World.size_alloc]
  have hb1 : Below w.heap.size w w1 := by rw [hw1]; exact (Below.refl _ _).alloc (Nat.le_refl _) _
  have g1 : w1.heap[w.heap.size]? = some (.cells #[.string (bs st.text), .bool st.magic] 89 (0, 0)) := by rw [hw1]; exact heap_alloc_new _ _
  obtain ⟨w2, hw2⟩ : ∃ w2, w2 = w1.alloc (.map #[] 0) := ⟨_, rfl⟩
  have hs2 : w2.heap.size = w1.heap.size + 1 := by rw [hw2, World.size_alloc]
  have hb2 : Below w1.heap.size w1 w2 := by rw [hw2]; exact (Below.refl _ _).alloc (Nat.le_refl _) _
  have hL2 : LevIs w2 (w2.heap.size + 1) w1.heap.size [] := by rw [hw2]; exact lev_start w1 _
  have hal : ab < w.heap.size := (Array.getElem?_eq_some_iff.1 ha).1
  have hb02 : Below w.heap.size w w2 := hb1.trans (hb2.mono (by omega))
  have a2 : w2.cell? ⟨ab, 0, none⟩ = some (.map (some m0)) := by rw [Lib.cell_of_heap ((hb02.block ab hal).trans ha)]; rfl
  have hm0 : m0 < w.heap.size := hl.lt
  have ho2 := owns_block ho (hb02.block m0 hm0)
  have hmm := @run_makeMap Tryz.prog
  have hS9 : S.length ≤ L.length + 1 := by
    have h1 := nodup_le hl.keys (m := pathsL L) (fun x hx => by
      obtain ⟨e, he, rfl⟩ := List.mem_map.1 hx
      exact hS e he)
    rw [List.length_map] at h1
    have : (pathsL L).length = L.length + 1 := by unfold pathsL; rw [List.length_cons, List.length_map]
    omega
  have HSz := Lib.hid (And.intro hs1 (And.intro hs2 (And.intro hm0 hal)))
  have HB1 := Lib.hid hb1
  have HL2 := Lib.hid hL2
  have HB2 := Lib.hid hb2
  have HA := Lib.hid ha
  have HG1 := Lib.hid g1
  have HF := Lib.hid hf
  have HFl := Lib.hid hfl
  have HD := Lib.hid (And.intro hh hat0)
  have HP := Lib.hid (And.intro hp (And.intro hx (And.intro ht hS)))
  have HS9 := Lib.hid hS9
  have HPl := Lib.hid hl
  have HFs := Lib.hid (h.below hb1)
  have HI := Lib.hid hi
  have HLL := Lib.hid hL
  clear h hi hL hp hx ht hf hfl ha hl hS hS9 hnle hh hat0 hs1 hs2 hb1 hb2 hb02 g1 hL2 hal hm0 ho
  go_enter Tryz.func67, Tryz.ntmps67
  go_upto_region 1 with fail
  rw [← hw1]
  clear hw1
  go_upto_region 2 with fail
  rw [← hw2]
  clear hw2 hmm
  go_wp2_with (first | (at_range; refine wpList_range_own _ rfl _ 88 rfl 9 90 KS Tryz.underlying88 ptrElem m0 n D rfl ho2 ?_; intro w3 hrg3 hg3 hs3))
  have HR3 : Hid (LevIs w3 (w2.heap.size + 1) w1.heap.size []) := HL2.out.below ((Below.refl _ _).grown hg3 (Nat.le_refl _) (fun k e => by cases e))
  have HB3 : Hid (Below w1.heap.size w1 w3 ∧ w2.heap.size + 1 ≤ w3.heap.size) := ⟨HB2.out.grown hg3 HB2.out.size (fun k e => by cases e), by rw [hs3]; exact Nat.le_refl _⟩
  clear hg3 hs3 a2 ho2
  go_frame
  go_loopw [] (fun wr => ∃ (left : Lit → Bool) (cnt : Nat) (ks S' : List Pl), wr.ranges Tryz.prog 9 ptrElem m0 w2.heap.size n D left cnt ∧ Hid (LevIs wr (w2.heap.size + 1) w1.heap.size S') ∧ Hid (Wwk.Steps L (atts L st ks) S' ∧ ks.Perm (S.filter fun c => !left (.string c.k))) ∧ Hid (Below w1.heap.size w1 wr ∧ w2.heap.size + 1 ≤ wr.heap.size)) (fun wr => wr.rangeLeft m0 w2.heap.size)
  case atStart => exact ⟨_, _, [], [], hrg3, HR3.out, ⟨.nil, by rw [keys_start HD.out.1]⟩, HB3.out⟩
  case round =>
    obtain ⟨left, cnt, ks, S', hrg, HLv, HSt, HB⟩ := hrel
    go_wp2_with (first | (at_next; refine wpList_next_ranges _ rfl _ rfl 9 KS ptrElem Value.string ptr invKS invP m0 w2.heap.size n D left cnt rfl hrg ?_ ?_))
    · intro hc0 hl0
      have hab : ab < w1.heap.size := by have := HSz.out; omega
      have hga : wr.heap[ab]? = some (.cells #[.map (some m0)] 88 (0, 0)) := (HB.out.1.block ab hab).trans ((HB1.out.block ab HSz.out.2.2.2).trans HA.out)
      have ca : wr.cell? ⟨ab, 0, none⟩ = some (.map (some m0)) := by rw [Lib.cell_of_heap hga]; rfl
      have fa0 : wr.frozen? ⟨ab, 0, none⟩ = false := Lib.frozen_of_heap hga 0
      have HGa := Lib.hid hga
      have hpe : ks.Perm S := by
        have := HSt.out.2
        rwa [keys_end hl0] at this
      have HPe := Lib.hid hpe
      clear hga hpe hab
      go_wp2_with fail
      go_ret
      have hne : ∀ k, k ≠ ab → (wr.setCell ⟨ab, 0, none⟩ (.map (some w1.heap.size))).heap[k]? = wr.heap[k]? := fun k hk => setCell_heap _ _ _ _ (fun e1 => hk e1)
      have hz := HSz.out
      refine ⟨w1.heap.size, w2.heap.size + 1, ks, S', rfl, HPe.out, HSt.out.1, ?_, by omega, ?_, fun B h1 h2 => ?_, fun k hk hka => ?_⟩
      · refine HLv.out.of_blocks (hne _ (by omega)) (fun e he => hne _ (fun e1 => ?_)) (fun e he r hr => hne _ (fun e1 => ?_))
        · have := (HLv.out.pl e he).2.2
          omega
        · have := ((HLv.out.pl e he).2.1.lt r hr).1
          omega
      · rw [heap_setCell_same wr ab 0 #[.map (some m0)] _ _ HGa.out]; rfl
      · exact ((HB1.out.mono h2).trans (HB.out.1.mono (by omega))).setCell (p := ⟨ab, 0, none⟩) h1 _
      · exact (hne k hka).trans ((HB.out.1.block k (by omega)).trans (HB1.out.block k hk))
    · intro x c kl ya yb w4 cnt1 hkx hlx hRc hat hrg1 hlt hg1 hs1 hen
      obtain ⟨e, rfl, he, rfl, rfl⟩ := place_entry HD.out.1 HD.out.2 (y := (ya, yb)) hkx hRc hat
      obtain ⟨p1, p2, p3⟩ := HPl.out.pl e he
      have hz := HSz.out
      have hbe : e.b < w.heap.size := (Array.getElem?_eq_some_iff.1 p1).1
      have hB4 : Below w1.heap.size w1 w4 := HB.out.1.grown hg1 HB.out.1.size (fun k e1 => by cases e1; omega)
      have cE : w4.cell? ⟨e.b, 0, none⟩ = some (.bool e.d) := by rw [Lib.cell_of_heap ((hB4.block _ (by omega)).trans ((HB1.out.block _ hbe).trans p1))]; rfl
      have HLv4 : Hid (LevIs w4 (w2.heap.size + 1) w1.heap.size S') := HLv.out.of_blocks (hg1.block _ (by have := HLv.out.lt; omega) (by simp; omega)) (fun c hc => hg1.block _ (Array.getElem?_eq_some_iff.1 (HLv.out.pl c hc).1).1 (by have := (HLv.out.pl c hc).2.2; simp; omega)) (fun c hc q hq => hg1.block _ ((HLv.out.pl c hc).2.1.lt q hq).2 (by have := ((HLv.out.pl c hc).2.1.lt q hq).1; simp; omega))
      have HPn : Hid ((ks ++ [e]).Perm (S.filter fun c => !(left (.string c.k) && !(Lit.string c.k).sameKey (.string e.k)))) := ((List.Perm.append_right [e] HSt.out.2).trans (step_key HPl.out.keys he hlx).symm)
      have HBe := Lib.hid hbe
      have HHe := Lib.hid he
      have HB4 : Hid (Below w1.heap.size w1 w4 ∧ w2.heap.size + 1 ≤ w4.heap.size) := ⟨hB4, by rw [hs1]; exact HB.out.2⟩
      have HSp : Hid (∀ S2, Wwk.Steps L (atts L st ks ++ attsOf L st e) S2 → Wwk.Steps L (atts L st (ks ++ [e])) S2) := fun S2 h2 => by rw [atts_snoc]; exact h2
      have hml := hrg.left_eq
      have HS0 := Lib.hid HSt.out.1
      have HMl := Lib.hid hml
      have HLt := Lib.hid hlt
      clear p1 p2 p3 hz hbe hB4 hg1 hs1 hlx hkx hRc hat he HSt hml hlt
      unfold ptr at hen
      simp only [Option.map_some] at hen
      obtain ⟨d, hd⟩ : ∃ d, d = e.d := ⟨_, rfl⟩
      rw [← hd] at cE
      cases d with
      | false =>
        have HSn : Hid (Wwk.Steps L (atts L st (ks ++ [e])) S') := HSp.out S' (by
          have : attsOf L st e = [] := by unfold attsOf; rw [← hd]; rfl
          rw [this, List.append_nil]; exact HS0.out)
        clear hd
        go_wp2_with fail
        go_roundw
        case rel => exact ⟨_, cnt1, ks ++ [e], S', hrg1, HLv4.out, ⟨HSn.out, HPn.out⟩, HB4.out⟩
        case measure => rw [hrg1.left_eq, HMl.out]; exact HLt.out
      | true =>
        have hae : attsOf L st e = (namesP L st (bs e.k)).map fun x => (e.k, e.b, x) := by unfold attsOf; rw [← hd]; rfl
        have hkl : e.k.length ≤ 400000 := HP.out.1 _ (HP.out.2.2.2 e HHe.out)
        have hN := names_is fa Bm bl L st.text st.magic (bs e.k) w4 (HFs.out.below HB4.out.1) HI.out (by rw [size_bs]; omega) (by have := HLL.out; omega) (by have := HP.out.2.2.1; omega) (fun x hx => by have := HP.out.2.1 _ x hx; omega)
        rw [show (Pt.mk st.text st.magic) = st from rfl] at hN
        have HN := Lib.hid hN
        have HNl := Lib.hid (names_len L st (bs e.k))
        have HNx := Lib.hid (names_small (st := st) (HP.out.2.1 (bs e.k)) HP.out.2.2.1)
        have HSp2 : Hid (∀ S2, Wwk.Steps L (atts L st ks ++ (namesP L st (bs e.k)).map fun x => (e.k, e.b, x)) S2 → Wwk.Steps L (atts L st (ks ++ [e])) S2) := by rw [← hae]; exact HSp.out
        have hz := HSz.out
        have g4 := (HB4.out.1.block w.heap.size (by omega)).trans HG1.out
        have s0 : w4.cell? ⟨w.heap.size, 0, none⟩ = some (.string (bs st.text)) := by rw [Lib.cell_of_heap g4]; rfl
        have s1 : w4.cell? ⟨w.heap.size, 1, none⟩ = some (.bool st.magic) := by rw [Lib.cell_of_heap g4]; rfl
        have hfl := HFl.out
        have HFc : Hid (∀ W, Below w1.heap.size w1 W → W.cell? ⟨fb, 0, none⟩ = some (.pointer (some fa))) := fun W hW => (hW.cell (p := ⟨fb, 0, none⟩) (by show fb < _; omega)).trans ((HB1.out.cell (p := ⟨fb, 0, none⟩) hfl).trans HF.out)
        have f4 := HFc.out w4 HB4.out.1
        have HKl := Lib.hid hkl
        have HMr := Lib.hid hrg1.left_eq
        have HRg := Lib.hid hrg1
        clear hae hN HSp hz g4 hfl hkl hd hrg hrg1
        generalize namesP L st (bs e.k) = nm at *
        go_wp2_with fail
        refine HN.out.mono ?_
        rintro e9 w5 ⟨A, c9, rfl, hsl, hb5, hfr⟩
        have HSl := Lib.hid hsl
        have HB5 := Lib.hid hb5
        have HFr := Lib.hid hfr
        clear hsl hb5 hfr s0 s1 f4 cE HN
        go_wp2_with fail
        go_loopw [28] (fun i wr2 => ∃ (j : Nat) (S2 : List Pl), i = .int .i64 j ∧ j ≤ nm.length ∧ Hid (wr2.ranges Tryz.prog 9 ptrElem m0 w2.heap.size n D (fun z => left z && !z.sameKey (.string e.k)) cnt1) ∧ Hid (LevIs wr2 (w2.heap.size + 1) w1.heap.size S2) ∧ Hid (Wwk.Steps L (atts L st ks ++ (nm.take j).map (fun x => (e.k, e.b, x))) S2) ∧ Hid (Below w1.heap.size w1 wr2 ∧ w5.heap.size ≤ wr2.heap.size) ∧ Hid (∀ q, A = some q → wr2.heap[q.block]? = w5.heap[q.block]? ∧ Apart S2 q.block)) (fun i _ => nm.length - (intOf i).toNat)
        case atStart =>
          have hz := HSz.out
          have h4 := HB4.out.2
          exact ⟨0, S', rfl, Nat.zero_le _, ranges_block HRg.out (HB5.out.block _ (by omega)) (HB5.out.block _ (by omega)), HLv4.out.below HB5.out, by show Wwk.Steps _ _ _; rw [List.take_zero, List.map_nil, List.append_nil]; exact HS0.out, ⟨HB4.out.1.trans (HB5.out.mono (by omega)), Nat.le_refl _⟩, fun q hq => ⟨rfl, lev_apart HLv4.out (HFr.out q hq)⟩⟩
        case round =>
          obtain ⟨j, S2, rfl, hj, HRi, HL, HSs, HBi, HAp⟩ := hrel
          have hnl := HNl.out
          have hll := HLL.out
          by_cases hjl : j < nm.length
          · obtain ⟨x, hxj⟩ : ∃ x, nm[j]? = some x := ⟨_, List.getElem?_eq_getElem hjl⟩
            have hxs := HNx.out _ (List.mem_of_getElem? hxj)
            have hsl2 := sl_kept HSl.out HBi.out.2 (fun q hq => (HAp.out q hq).1)
            rcases hsl2.2 with h0 | ⟨b5, o5, rfl, hb5l, hc5⟩
            · rw [List.map_eq_nil_iff] at h0
              rw [h0] at hjl
              exact absurd hjl (Nat.not_lt_zero _)
            · have c5 := hc5 j (bs x) (by rw [List.getElem?_map, hxj]; rfl)
              have hcap := hsl2.1
              rw [List.length_map] at hcap
              have fR := HFc.out wr HBi.out.1
              have hz := HSz.out
              have h4 := HB4.out.2
              have h45 := HB5.out.size
              have hkl := HKl.out
              have hkn : ks.length ≤ L.length + 1 := by
                have h1 := HPn.out.length_eq
                rw [List.length_append, List.length_singleton] at h1
                have h2 : (S.filter fun c => !(left (.string c.k) && !(Lit.string c.k).sameKey (.string e.k))).length ≤ S.length := List.length_filter_le ..
                have h3 := HS9.out
                omega
              have hws : ∀ y ∈ S2, y.ws.length ≤ 1000000000000 := fun y hy => by
                have h1 := (HSs.out.facts y hy).2
                have h2 := atts_len L st ks
                have h3 : ks.length * (L.length + 1) ≤ 900001 * 900001 := Nat.mul_le_mul (by omega) (by omega)
                rw [List.length_append, List.length_map, List.length_take] at h1
                omega
              have HRe := Lib.hid (reach_is fa Bm bl L w1 wr (w2.heap.size + 1) w1.heap.size e.b S2 e.k x HFs.out HI.out (by omega) HBi.out.1 (by omega) (by have := HBi.out.2; omega) (Nat.le_refl _) HL.out (by have := HSs.out.len HL.out.keys; omega) (by omega) (fun nd hnd => by
                have h1 := HP.out.1 _ (look_path hnd)
                rw [len_data] at h1
                omega) hws)
              have HTk : Hid ((nm.take (j + 1)).map (fun x => (e.k, e.b, x)) = (nm.take j).map (fun x => (e.k, e.b, x)) ++ [(e.k, e.b, x)]) := take_snoc (fun x => (e.k, e.b, x)) hxj
              have HB5l := Lib.hid hb5l
              clear hsl2 hc5 hb5l hxj hws hkn hxs hz h4 h45 hkl
              go_wp2_with fail
              refine HRe.out.mono ?_
              rintro e8 w6 ⟨rfl, S3, hr3, hl3, hb3, hs3, hk3⟩
              have hz := HSz.out
              have h4 := HB4.out.2
              have h45 := HB5.out.size
              have hbi := HBi.out.2
              have k1 := (hk3 m0 (by omega) (by omega) (lev_apart_lo HL.out (by omega))).1
              have k2 := (hk3 w2.heap.size (by omega) (by omega) (lev_apart_lo HL.out (by omega))).1
              have hfr5 := HFr.out _ rfl
              have k3 := hk3 b5 HB5l.out (by have : w4.heap.size ≤ b5 := hfr5; omega) (HAp.out _ rfl).2
              have HRn : Hid (w6.ranges Tryz.prog 9 ptrElem m0 w2.heap.size n D (fun z => left z && !z.sameKey (.string e.k)) cnt1) := ranges_block HRi.out k1 k2
              have HLn := Lib.hid hl3
              have HSn : Hid (Wwk.Steps L (atts L st ks ++ (nm.take (j + 1)).map (fun x => (e.k, e.b, x))) S3) := by
                show Wwk.Steps _ _ _
                rw [HTk.out, ← List.append_assoc]
                exact .snoc HSs.out hr3
              have HBn : Hid (Below w1.heap.size w1 w6 ∧ w5.heap.size ≤ w6.heap.size) := ⟨hb3, by omega⟩
              have HAn : Hid (∀ q, (some ⟨b5, o5, none⟩ : Option Addr) = some q → w6.heap[q.block]? = w5.heap[q.block]? ∧ Apart S3 q.block) := fun q hq => by
                cases hq
                exact ⟨k3.1.trans (HAp.out _ rfl).1, k3.2⟩
              clear hr3 hl3 hb3 hs3 hk3 k1 k2 k3 hfr5 hz h4 h45 hbi c5 fR
              go_wp2_with fail
              go_roundw
              case rel => exact ⟨j + 1, S3, by go_num, by omega, HRn.out, HLn.out, HSn.out, HBn.out, HAn.out⟩
              case measure => simp [intOf]; omega
          · obtain rfl : j = nm.length := by omega
            have HSn : Hid (Wwk.Steps L (atts L st (ks ++ [e])) S2) := HSp2.out S2 (by
              have := HSs.out
              rwa [List.take_length] at this)
            have HBn : Hid (Below w1.heap.size w1 wr ∧ w2.heap.size + 1 ≤ wr.heap.size) := ⟨HBi.out.1, by have h1 := HBi.out.2; have h2 := HB5.out.size; have h3 := HB4.out.2; omega⟩
            go_wp2_with fail
            go_roundw
            case rel => exact ⟨_, cnt1, ks ++ [e], S2, HRi.out, HL.out, ⟨HSn.out, HPn.out⟩, HBn.out⟩
            case measure => rw [HRi.out.left_eq, HMl.out]; exact HLt.out

end Go.Proofs.YtgfpdaaofhanoaaGreatDoor.Wwt
