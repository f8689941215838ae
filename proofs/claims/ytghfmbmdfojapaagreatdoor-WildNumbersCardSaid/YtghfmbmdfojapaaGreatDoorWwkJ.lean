/- One step of a walk, from all the places where it stands. -/
import Derived.Maps.RangeWalk
import Derived.Test.YtghfmbmdfojapaaGreatDoorVlookJ
import Derived.Test.YtghfmbmdfojapaaGreatDoorWlvJ
namespace Go.Proofs.YtghfmbmdfojapaaGreatDoor.Wwk
open Go.RowKit Go.Maps Go.Proofs.YtghfmbmdfojapaaGreatDoor.Pth Go.Proofs.YtghfmbmdfojapaaGreatDoor.Strs Go.Proofs.YtghfmbmdfojapaaGreatDoor.Vfs Go.Proofs.YtghfmbmdfojapaaGreatDoor.Vmap Go.Proofs.YtghfmbmdfojapaaGreatDoor.Vfind Go.Proofs.YtghfmbmdfojapaaGreatDoor.Vlook Go.Proofs.YtghfmbmdfojapaaGreatDoor.Vperm Go.Proofs.YtghfmbmdfojapaaGreatDoor.Wdp Go.Proofs.YtghfmbmdfojapaaGreatDoor.Wnm Go.Proofs.YtghfmbmdfojapaaGreatDoor.Wno Go.Proofs.YtghfmbmdfojapaaGreatDoor.Wnn Go.Proofs.YtghfmbmdfojapaaGreatDoor.Wlv Go.Proofs.YtghfmbmdfojapaaGreatDoor.Wrc

/-- what was tried: from which path, which block, by which name -/
abbrev Att := T × Nat × T
inductive Steps (L : List Ent) : List Att → List Pl → Prop
  | nil : Steps L [] []
  | snoc {ats : List Att} {S S' : List Pl} {a : Att} : Steps L ats S → Reached L a.1 a.2.2 S a.2.1 S' → Steps L (ats ++ [a]) S'
def attsOf (L : List Ent) (st : Pt) (e : Pl) : List Att := if e.d then (namesP L st (bs e.k)).map fun x => (e.k, e.b, x) else []
def atts (L : List Ent) (st : Pt) (ks : List Pl) : List Att := ks.flatMap (attsOf L st)
theorem atts_snoc (L : List Ent) (st : Pt) (ks : List Pl) (e : Pl) : atts L st (ks ++ [e]) = atts L st ks ++ attsOf L st e := by
  unfold atts
  rw [List.flatMap_append, List.flatMap_cons, List.flatMap_nil, List.append_nil]

/-! ### how many -/
def pathsL (L : List Ent) : List T := [47] :: L.map fun e => flatL e.pt
theorem look_path {L : List Ent} {s : ByteArray} {nd : Nd} (h : lookN L s = some nd) : nd.p.data.toList ∈ pathsL L := by
  unfold lookN at h
  split at h
  · cases h
  · unfold nodeAt at h
    split at h
    · cases h
      exact List.mem_cons_self
    · obtain ⟨e, he, rfl⟩ := Option.map_eq_some_iff.1 h
      refine List.mem_cons_of_mem _ (List.mem_map.2 ⟨e, (at_mem he).1, ?_⟩)
      exact (data_bs _).symm
theorem Steps.facts {L : List Ent} {ats : List Att} {S : List Pl} (h : Steps L ats S) : ∀ e ∈ S, e.k ∈ pathsL L ∧ e.ws.length ≤ ats.length := by
  induction h with
  | nil => intro e he; exact absurd he List.not_mem_nil
  | @snoc ats S S' a hs hr ih =>
    intro e he
    rw [List.length_append, List.length_singleton]
    unfold Reached at hr
    split at hr
    · rw [hr] at he
      exact ⟨(ih e he).1, Nat.le_succ_of_le (ih e he).2⟩
    · rename_i nd hl
      rcases hr with ⟨S1, e1, S2, v', h1, h2, h3⟩ | ⟨h1, b, v', h2⟩
      · rw [h3] at he
        have hm : e1 ∈ S := by rw [h1]; exact List.mem_append_right _ List.mem_cons_self
        rcases List.mem_append.1 he with h4 | h4
        · have := ih e (by rw [h1]; exact List.mem_append_left _ h4)
          exact ⟨this.1, Nat.le_succ_of_le this.2⟩
        · rcases List.mem_cons.1 h4 with rfl | h5
          · refine ⟨(ih e1 hm).1, ?_⟩
            show (e1.ws ++ [_]).length ≤ _
            rw [List.length_append, List.length_singleton]
            have := (ih e1 hm).2
            omega
          · have := ih e (by rw [h1]; exact List.mem_append_right _ (List.mem_cons_of_mem _ h5))
            exact ⟨this.1, Nat.le_succ_of_le this.2⟩
      · rw [h2] at he
        rcases List.mem_append.1 he with h4 | h4
        · exact ⟨(ih e h4).1, Nat.le_succ_of_le (ih e h4).2⟩
        · rw [List.mem_singleton.1 h4]
          exact ⟨look_path hl, by show 1 ≤ _; omega⟩
theorem nodup_le {α : Type} [DecidableEq α] : ∀ {l m : List α}, l.Nodup → (∀ x ∈ l, x ∈ m) → l.length ≤ m.length
  | [], _, _, _ => Nat.zero_le _
  | a :: l, m, h, hs => by
    obtain ⟨m1, m2, rfl⟩ := List.append_of_mem (hs a List.mem_cons_self)
    rw [List.nodup_cons] at h
    have := nodup_le (m := m1 ++ m2) h.2 (fun x hx => by
      have h1 := hs x (List.mem_cons_of_mem _ hx)
      rcases List.mem_append.1 h1 with h2 | h2
      · exact List.mem_append_left _ h2
      · rcases List.mem_cons.1 h2 with h3 | h3
        · exact absurd (h3 ▸ hx) h.1
        · exact List.mem_append_right _ h3)
    rw [List.length_append] at this ⊢
    rw [List.length_cons, List.length_cons]
    omega
theorem Steps.len {L : List Ent} {ats : List Att} {S : List Pl} (h : Steps L ats S) (hk : (S.map (·.k)).Nodup) : S.length ≤ L.length + 1 := by
  have h1 := nodup_le hk (m := pathsL L) (fun x hx => by
    obtain ⟨e, he, rfl⟩ := List.mem_map.1 hx
    exact (h.facts e he).1)
  rw [List.length_map] at h1
  have : (pathsL L).length = L.length + 1 := by unfold pathsL; rw [List.length_cons, List.length_map]
  omega

/-! ### the range -/
theorem ranges_block {H : Type} {P : Program} {k : TypeId} {R : Value → Option (DataW H × List MemPlace)} {b r n : Nat} {D : DataW H} {left : Lit → Bool} {cnt : Nat} {w W : World} (h : w.ranges P k R b r n D left cnt) (e1 : W.heap[b]? = w.heap[b]?) (e2 : W.heap[r]? = w.heap[r]?) : W.ranges P k R b r n D left cnt := by
  obtain ⟨es, clock, since, seen, c0, hb, F, hs, hD, hr, rest⟩ := h
  exact ⟨es, clock, since, seen, c0, e1.trans hb, F, hs, hD, e2.trans hr, rest⟩
theorem invKS (key : Value) (kl : Lit) (h : keyOf Tryz.prog 9 key = some kl) : ∃ x, key = Value.string x := by
  obtain ⟨x, rfl, _⟩ := Maps.keyOf_str Tryz.underlying9 h
  exact ⟨_, rfl⟩
theorem invP (v : Value) (y : DataW U × List MemPlace) (h : ptrElem v = some y) : ∃ c, v = ptr c := by
  unfold ptrElem at h
  split at h
  · exact ⟨some _, rfl⟩
  · exact ⟨none, rfl⟩
  · cases h
theorem place_entry {S : List Pl} {D : DataW U} (hh : ∀ x : T, Maps.has D (.string x) = (fnd S x).isSome) (hat0 : ∀ x e, fnd S x = some e → D.atKey (.string x) .nil = .lit (.int .i64 (e.b : Int)))
    {x : ByteArray} {c : Option Nat} {kl : Lit} {y : DataW U × List MemPlace} (hk : keyOf Tryz.prog 9 (.string x) = some kl) (hv : ptrElem (ptr c) = some y) (hat : ∀ zd, D.atKey kl zd = y.1) :
    ∃ e, kl = .string e.k ∧ e ∈ S ∧ c = some e.b ∧ x = bs e.k := by
  obtain ⟨x', ex, rfl, _⟩ := Maps.keyOf_str Tryz.underlying9 hk
  have hx : x = bs x' := by simpa [encStr, bs] using ex
  have h1 := has_true_of_atKey hat
  rw [hh] at h1
  obtain ⟨e, he⟩ := Option.isSome_iff_exists.1 h1
  obtain ⟨hm, hke⟩ := fnd_mem he
  have h2 := hat0 _ e he
  rw [hat] at h2
  have h3 : ptrElem (ptr c) = some (.lit (.int .i64 ((e.b : Nat) : Int)), y.2) := by rw [hv, ← h2]
  have h4 := ptrElem_inv h3
  refine ⟨e, by rw [hke], hm, ?_, by rw [hx, hke]⟩
  cases c with
  | none => cases h4
  | some b =>
    unfold ptr at h4
    simp at h4
    rw [h4]
theorem step_key {S : List Pl} (hk : (S.map (·.k)).Nodup) {left : Lit → Bool} {e : Pl} (he : e ∈ S) (hl : left (.string e.k) = true) :
    (S.filter fun c => !(left (.string c.k) && !(Lit.string c.k).sameKey (.string e.k))).Perm (S.filter (fun c => !left (.string c.k)) ++ [e]) := by
  have h1 := filter_split (fun c : Pl => !left (.string c.k)) (fun c => !(left (.string c.k) && !(Lit.string c.k).sameKey (.string e.k))) (fun c => decide (c.k = e.k)) S (fun c _ => by
    rw [sameKey_str]
    cases left (.string c.k) <;> cases decide (c.k = e.k) <;> rfl) (fun c _ h => by
    have h2 := of_decide_eq_true h.2
    have h3 := h.1
    rw [h2, hl] at h3
    cases h3)
  have h2 : S.filter (fun c => decide (c.k = e.k)) = [e] := by
    clear h1 hl
    induction S with
    | nil => exact absurd he List.not_mem_nil
    | cons a S ih =>
      rw [List.map_cons, List.nodup_cons] at hk
      rw [List.filter_cons]
      rcases List.mem_cons.1 he with rfl | h3
      · rw [if_pos (decide_eq_true rfl)]
        have : S.filter (fun c => decide (c.k = e.k)) = [] := by
          rw [List.filter_eq_nil_iff]
          intro c hc h4
          exact hk.1 (List.mem_map.2 ⟨c, hc, of_decide_eq_true h4⟩)
        rw [this]
      · rw [if_neg (fun h4 => hk.1 (List.mem_map.2 ⟨e, h3, (of_decide_eq_true h4).symm⟩)), ih hk.2 h3]
  rw [h2] at h1
  exact h1

end Go.Proofs.YtghfmbmdfojapaaGreatDoor.Wwk

/- The walk: what walker hands out, called with a step. -/
namespace Go.Proofs.YtghfmbmdfojapaaGreatDoor.Wwt
open Go.RowKit Go.Maps Go.Proofs.YtghfmbmdfojapaaGreatDoor.Pth Go.Proofs.YtghfmbmdfojapaaGreatDoor.Strs Go.Proofs.YtghfmbmdfojapaaGreatDoor.Vfs Go.Proofs.YtghfmbmdfojapaaGreatDoor.Vmap Go.Proofs.YtghfmbmdfojapaaGreatDoor.Vfind Go.Proofs.YtghfmbmdfojapaaGreatDoor.Vlook Go.Proofs.YtghfmbmdfojapaaGreatDoor.Vperm Go.Proofs.YtghfmbmdfojapaaGreatDoor.Wdp Go.Proofs.YtghfmbmdfojapaaGreatDoor.Wnm Go.Proofs.YtghfmbmdfojapaaGreatDoor.Wno Go.Proofs.YtghfmbmdfojapaaGreatDoor.Wnn Go.Proofs.YtghfmbmdfojapaaGreatDoor.Wlv Go.Proofs.YtghfmbmdfojapaaGreatDoor.Wrc Go.Proofs.YtghfmbmdfojapaaGreatDoor.Wwk

theorem list_len (L : List Ent) (s : ByteArray) : (listN L s).length ≤ L.length := by
  unfold listN
  split
  · split
    · refine Nat.le_trans (Srt.sortT_len _) ?_
      unfold kids
      exact List.length_filterMap_le ..
    · exact Nat.zero_le _
  · exact Nat.zero_le _
theorem names_len (L : List Ent) (st : Pt) (s : ByteArray) : (namesP L st s).length ≤ L.length + 1 := by
  unfold namesP
  split
  · exact Nat.le_succ_of_le (Nat.le_trans (List.length_filter_le ..) (list_len L s))
  · exact Nat.succ_le_succ (Nat.zero_le _)
theorem attsOf_len (L : List Ent) (st : Pt) (e : Pl) : (attsOf L st e).length ≤ L.length + 1 := by
  unfold attsOf
  split
  · rw [List.length_map]; exact names_len L st _
  · exact Nat.zero_le _
theorem atts_len (L : List Ent) (st : Pt) : ∀ ks, (atts L st ks).length ≤ ks.length * (L.length + 1)
  | [] => Nat.zero_le _
  | e :: ks => by
    have h1 := atts_len L st ks
    have h2 := attsOf_len L st e
    have h3 : atts L st (e :: ks) = attsOf L st e ++ atts L st ks := List.flatMap_cons
    rw [h3, List.length_append, List.length_cons, Nat.succ_mul]
    omega
theorem lev_start (w : World) (lo : Nat) : LevIs (w.alloc (.map #[] 0)) lo w.heap.size [] :=
  ⟨⟨_, 0, World.ownsMap_made w Tryz.prog 9 ptrElem, Nat.le_refl _, fun _ => rfl, fun _ _ h => by cases h⟩, List.nodup_nil, fun _ h => absurd h List.not_mem_nil, List.Pairwise.nil⟩
theorem keys_start {S : List Pl} {D : DataW U} (hh : ∀ x : T, Maps.has D (.string x) = (fnd S x).isSome) : S.filter (fun c => !(Maps.has D) (.string c.k)) = [] := by
  rw [List.filter_eq_nil_iff]
  intro e he h1
  rw [hh] at h1
  have h2 : fnd S e.k = none := by
    cases h : fnd S e.k with
    | none => rfl
    | some _ => rw [h] at h1; cases h1
  exact fnd_none.1 h2 e he rfl
theorem keys_end {S : List Pl} {left : Lit → Bool} (h0 : ∀ kl, left kl = false) : S.filter (fun c => !left (.string c.k)) = S := by
  rw [List.filter_eq_self]
  intro e _
  rw [h0]; rfl
theorem lev_apart {w : World} {lo m : Nat} {S : List Pl} (h : LevIs w lo m S) {g : Nat} (hg : w.heap.size ≤ g) : Apart S g := fun e he => by
  have h1 := (Array.getElem?_eq_some_iff.1 (h.pl e he).1).1
  refine ⟨by omega, fun e1 => ?_⟩
  have := ((h.pl e he).2.1.lt g e1.symm).2
  omega
theorem sl_kept {w W : World} {A : Option Addr} {c : Nat} {xs : List ByteArray} (h : SlIs w A c xs) (hs : w.heap.size ≤ W.heap.size) (hA : ∀ q, A = some q → W.heap[q.block]? = w.heap[q.block]?) : SlIs W A c xs := by
  refine ⟨h.1, h.2.imp id ?_⟩
  rintro ⟨b, o, e, hl, hc⟩
  exact ⟨b, o, e, Nat.lt_of_lt_of_le hl hs, fun j x hj => (World.cell?_of_block (w := w) (a := ⟨b, o + j, none⟩) (hA ⟨b, o, none⟩ e)).trans (hc j x hj)⟩
theorem lev_apart_lo {w : World} {lo m : Nat} {S : List Pl} (h : LevIs w lo m S) {g : Nat} (hg : g < lo) : Apart S g := fun e he => by
  refine ⟨by have := (h.pl e he).2.2; omega, fun e1 => ?_⟩
  have := ((h.pl e he).2.1.lt g e1.symm).1
  omega
theorem names_small {L : List Ent} {st : Pt} {s : ByteArray} {n : Nat} (h1 : ∀ x ∈ listN L s, x.length ≤ n) (h2 : st.text.length ≤ n) : ∀ x ∈ namesP L st s, x.length ≤ n := fun x hx => by
  unfold namesP at hx
  split at hx
  · exact h1 x (List.mem_filter.1 hx).1
  · rw [List.mem_singleton.1 hx]; exact h2
theorem take_snoc {α β : Type} (f : α → β) {l : List α} {j : Nat} {x : α} (h : l[j]? = some x) : (l.take (j + 1)).map f = (l.take j).map f ++ [f x] := by
  obtain ⟨hl, he⟩ := List.getElem?_eq_some_iff.1 h
  rw [List.take_succ_eq_append_getElem hl, List.map_append, he]; rfl

set_option maxRecDepth 100000 in
set_option maxHeartbeats 8000000 in
theorem walk1_is (fa : Addr) (Bm : Nat) (bl : List Nat) (L : List Ent) (w : World) (fb ab m0 lo0 : Nat) (st : Pt) (S : List Pl)
    (h : FsIs w fa Bm bl (dl L) L) (hi : Vfs.Inv L) (hL : L.length ≤ 900000) (hp : ∀ k ∈ pathsL L, k.length ≤ 400000) (hx : ∀ s, ∀ x ∈ listN L s, x.length ≤ 400000) (ht : st.text.length ≤ 400000)
    (hf : w.cell? ⟨fb, 0, none⟩ = some (.pointer (some fa))) (hfl : fb < w.heap.size) (ha : w.heap[ab]? = some (.cells #[.map (some m0)] 81 (0, 0)))
    (hl : LevIs w lo0 m0 S) (hS : ∀ e ∈ S, e.k ∈ pathsL L) :
    Calls Tryz.prog 61 #[.agg #[.string (bs st.text), .bool st.magic], .pointer (some ⟨ab, 0, none⟩), .pointer (some ⟨fb, 0, none⟩)] w fun e W' => ∃ m lo ks S', e = .returned (.map (some m)) ∧ ks.Perm S ∧ Wwk.Steps L (atts L st ks) S' ∧ LevIs W' lo m S' ∧ w.heap.size ≤ lo ∧ W'.heap[ab]? = some (.cells #[.map (some m)] 81 (0, 0)) ∧ (∀ B, B ≤ ab → B ≤ w.heap.size → Below B w W') ∧ ∀ k, k < w.heap.size → k ≠ ab → W'.heap[k]? = w.heap[k]? := by
  obtain ⟨D, n, ho, hnle, hh, hat0⟩ := hl.own
  obtain ⟨w1, hw1⟩ : ∃ w1, w1 = w.alloc (.cells #[.string (bs st.text), .bool st.magic] 82) := ⟨_, rfl⟩
  have hs1 : w1.heap.size = w.heap.size + 1 := by rw [hw1, World.size_alloc]
  have hb1 : Below w.heap.size w w1 := by rw [hw1]; exact (Below.refl _ _).alloc (Nat.le_refl _) _
  have g1 : w1.heap[w.heap.size]? = some (.cells #[.string (bs st.text), .bool st.magic] 82 (0, 0)) := by rw [hw1]; exact heap_alloc_new _ _
  obtain ⟨w2, hw2⟩ : ∃ w2, w2 = w1.alloc (.map #[] 0) := ⟨_, rfl⟩
  have hs2 : w2.heap.size = w1.heap.size + 1 := by rw [hw2, World.size_alloc]
  have hb2 : Below w1.heap.size w1 w2 := by rw [hw2]; exact (Below.refl _ _).alloc (Nat.le_refl _) _
  have hL2 : LevIs w2 (w2.heap.size + 1) w1.heap.size [] := by rw [hw2]; exact lev_start w1 _
  have hal : ab < w.heap.size := (Array.getElem?_eq_some_iff.1 ha).1
  have hb02 : Below w.heap.size w w2 := hb1.trans (hb2.mono (by omega))
  have a2 : w2.cell? ⟨ab, 0, none⟩ = some (.map (some m0)) := by rw [Lib.cell_of_heap ((hb02.block ab hal).trans ha)]; rfl
  have hm0 : m0 < w.heap.size := hl.lt
  have ho2 := owns_block ho (hb02.block m0 hm0)
  have hmm := @run_makeMap Tryz.prog
  have hS9 : S.length ≤ L.length + 1 := by
    have h1 := nodup_le hl.keys (m := pathsL L) (fun x hx => by
      obtain ⟨e, he, rfl⟩ := List.mem_map.1 hx
      exact hS e he)
    rw [List.length_map] at h1
    have : (pathsL L).length = L.length + 1 := by unfold pathsL; rw [List.length_cons, List.length_map]
    omega
  have HSz := Lib.hid (And.intro hs1 (And.intro hs2 (And.intro hm0 hal)))
  have HB1 := Lib.hid hb1
  have HL2 := Lib.hid hL2
  have HB2 := Lib.hid hb2
  have HA := Lib.hid ha
  have HG1 := Lib.hid g1
  have HF := Lib.hid hf
  have HFl := Lib.hid hfl
  have HD := Lib.hid (And.intro hh hat0)
  have HP := Lib.hid (And.intro hp (And.intro hx (And.intro ht hS)))
  have HS9 := Lib.hid hS9
  have HPl := Lib.hid hl
  have HFs := Lib.hid (h.below hb1)
  have HI := Lib.hid hi
  have HLL := Lib.hid hL
  clear h hi hL hp hx ht hf hfl ha hl hS hS9 hnle hh hat0 hs1 hs2 hb1 hb2 hb02 g1 hL2 hal hm0 ho
  go_enter Tryz.func61, Tryz.ntmps61
  go_upto_region 1 with fail
  rw [← hw1]
  clear hw1
  go_upto_region 2 with fail
  rw [← hw2]
  clear hw2 hmm
  go_wp2_with (first | (at_range; refine wpList_range_own _ rfl _ 81 rfl 9 83 KS Tryz.underlying81 ptrElem m0 n D rfl ho2 ?_; intro w3 hrg3 hg3 hs3))
  have HR3 : Hid (LevIs w3 (w2.heap.size + 1) w1.heap.size []) := HL2.out.below ((Below.refl _ _).grown hg3 (Nat.le_refl _) (fun k e => by cases e))
  have HB3 : Hid (Below w1.heap.size w1 w3 ∧ w2.heap.size + 1 ≤ w3.heap.size) := ⟨HB2.out.grown hg3 HB2.out.size (fun k e => by cases e), by rw [hs3]; exact Nat.le_refl _⟩
  clear hg3 hs3 a2 ho2
  go_frame
  go_loopw [] (fun wr => ∃ (left : Lit → Bool) (cnt : Nat) (ks S' : List Pl), wr.ranges Tryz.prog 9 ptrElem m0 w2.heap.size n D left cnt ∧ Hid (LevIs wr (w2.heap.size + 1) w1.heap.size S') ∧ Hid (Wwk.Steps L (atts L st ks) S' ∧ ks.Perm (S.filter fun c => !left (.string c.k))) ∧ Hid (Below w1.heap.size w1 wr ∧ w2.heap.size + 1 ≤ wr.heap.size)) (fun wr => wr.rangeLeft m0 w2.heap.size)
  case atStart => exact ⟨_, _, [], [], hrg3, HR3.out, ⟨.nil, by rw [keys_start HD.out.1]⟩, HB3.out⟩
  case round =>
    obtain ⟨left, cnt, ks, S', hrg, HLv, HSt, HB⟩ := hrel
    go_wp2_with (first | (at_next; refine wpList_next_ranges _ rfl _ rfl 9 KS ptrElem Value.string ptr invKS invP m0 w2.heap.size n D left cnt rfl hrg ?_ ?_))
    · intro hc0 hl0
      have hab : ab < w1.heap.size := by have := HSz.out; omega
      have hga : wr.heap[ab]? = some (.cells #[.map (some m0)] 81 (0, 0)) := (HB.out.1.block ab hab).trans ((HB1.out.block ab HSz.out.2.2.2).trans HA.out)
      have ca : wr.cell? ⟨ab, 0, none⟩ = some (.map (some m0)) := by rw [Lib.cell_of_heap hga]; rfl
      have fa0 : wr.frozen? ⟨ab, 0, none⟩ = false := Lib.frozen_of_heap hga 0
      have HGa := Lib.hid hga
      have hpe : ks.Perm S := by
        have := HSt.out.2
        rwa [keys_end hl0] at this
      have HPe := Lib.hid hpe
      clear hga hpe hab
      go_wp2_with fail
      go_ret
      have hne : ∀ k, k ≠ ab → (wr.setCell ⟨ab, 0, none⟩ (.map (some w1.heap.size))).heap[k]? = wr.heap[k]? := fun k hk => setCell_heap _ _ _ _ (fun e1 => hk e1)
      have hz := HSz.out
      refine ⟨w1.heap.size, w2.heap.size + 1, ks, S', rfl, HPe.out, HSt.out.1, ?_, by omega, ?_, fun B h1 h2 => ?_, fun k hk hka => ?_⟩
      · refine HLv.out.of_blocks (hne _ (by omega)) (fun e he => hne _ (fun e1 => ?_)) (fun e he r hr => hne _ (fun e1 => ?_))
        · have := (HLv.out.pl e he).2.2
          omega
        · have := ((HLv.out.pl e he).2.1.lt r hr).1
          omega
      · rw [heap_setCell_same wr ab 0 #[.map (some m0)] _ _ HGa.out]; rfl
      · exact ((HB1.out.mono h2).trans (HB.out.1.mono (by omega))).setCell (p := ⟨ab, 0, none⟩) h1 _
      · exact (hne k hka).trans ((HB.out.1.block k (by omega)).trans (HB1.out.block k hk))
    · intro x c kl ya yb w4 cnt1 hkx hlx hRc hat hrg1 hlt hg1 hs1 hen
      obtain ⟨e, rfl, he, rfl, rfl⟩ := place_entry HD.out.1 HD.out.2 (y := (ya, yb)) hkx hRc hat
      obtain ⟨p1, p2, p3⟩ := HPl.out.pl e he
      have hz := HSz.out
      have hbe : e.b < w.heap.size := (Array.getElem?_eq_some_iff.1 p1).1
      have hB4 : Below w1.heap.size w1 w4 := HB.out.1.grown hg1 HB.out.1.size (fun k e1 => by cases e1; omega)
      have cE : w4.cell? ⟨e.b, 0, none⟩ = some (.bool e.d) := by rw [Lib.cell_of_heap ((hB4.block _ (by omega)).trans ((HB1.out.block _ hbe).trans p1))]; rfl
      have HLv4 : Hid (LevIs w4 (w2.heap.size + 1) w1.heap.size S') := HLv.out.of_blocks (hg1.block _ (by have := HLv.out.lt; omega) (by simp; omega)) (fun c hc => hg1.block _ (Array.getElem?_eq_some_iff.1 (HLv.out.pl c hc).1).1 (by have := (HLv.out.pl c hc).2.2; simp; omega)) (fun c hc q hq => hg1.block _ ((HLv.out.pl c hc).2.1.lt q hq).2 (by have := ((HLv.out.pl c hc).2.1.lt q hq).1; simp; omega))
      have HPn : Hid ((ks ++ [e]).Perm (S.filter fun c => !(left (.string c.k) && !(Lit.string c.k).sameKey (.string e.k)))) := ((List.Perm.append_right [e] HSt.out.2).trans (step_key HPl.out.keys he hlx).symm)
      have HBe := Lib.hid hbe
      have HHe := Lib.hid he
      have HB4 : Hid (Below w1.heap.size w1 w4 ∧ w2.heap.size + 1 ≤ w4.heap.size) := ⟨hB4, by rw [hs1]; exact HB.out.2⟩
      have HSp : Hid (∀ S2, Wwk.Steps L (atts L st ks ++ attsOf L st e) S2 → Wwk.Steps L (atts L st (ks ++ [e])) S2) := fun S2 h2 => by rw [atts_snoc]; exact h2
      have hml := hrg.left_eq
      have HS0 := Lib.hid HSt.out.1
      have HMl := Lib.hid hml
      have HLt := Lib.hid hlt
      clear p1 p2 p3 hz hbe hB4 hg1 hs1 hlx hkx hRc hat he HSt hml hlt
      unfold ptr at hen
      simp only [Option.map_some] at hen
      obtain ⟨d, hd⟩ : ∃ d, d = e.d := ⟨_, rfl⟩
      rw [← hd] at cE
      cases d with
      | false =>
        have HSn : Hid (Wwk.Steps L (atts L st (ks ++ [e])) S') := HSp.out S' (by
          have : attsOf L st e = [] := by unfold attsOf; rw [← hd]; rfl
          rw [this, List.append_nil]; exact HS0.out)
        clear hd
        go_wp2_with fail
        go_roundw
        case rel => exact ⟨_, cnt1, ks ++ [e], S', hrg1, HLv4.out, ⟨HSn.out, HPn.out⟩, HB4.out⟩
        case measure => rw [hrg1.left_eq, HMl.out]; exact HLt.out
      | true =>
        have hae : attsOf L st e = (namesP L st (bs e.k)).map fun x => (e.k, e.b, x) := by unfold attsOf; rw [← hd]; rfl
        have hkl : e.k.length ≤ 400000 := HP.out.1 _ (HP.out.2.2.2 e HHe.out)
        have hN := names_is fa Bm bl L st.text st.magic (bs e.k) w4 (HFs.out.below HB4.out.1) HI.out (by rw [size_bs]; omega) (by have := HLL.out; omega) (by have := HP.out.2.2.1; omega) (fun x hx => by have := HP.out.2.1 _ x hx; omega)
        rw [show (Pt.mk st.text st.magic) = st from rfl] at hN
        have HN := Lib.hid hN
        have HNl := Lib.hid (names_len L st (bs e.k))
        have HNx := Lib.hid (names_small (st := st) (HP.out.2.1 (bs e.k)) HP.out.2.2.1)
        have HSp2 : Hid (∀ S2, Wwk.Steps L (atts L st ks ++ (namesP L st (bs e.k)).map fun x => (e.k, e.b, x)) S2 → Wwk.Steps L (atts L st (ks ++ [e])) S2) := by rw [← hae]; exact HSp.out
        have hz := HSz.out
        have g4 := (HB4.out.1.block w.heap.size (by omega)).trans HG1.out
        have s0 : w4.cell? ⟨w.heap.size, 0, none⟩ = some (.string (bs st.text)) := by rw [Lib.cell_of_heap g4]; rfl
        have s1 : w4.cell? ⟨w.heap.size, 1, none⟩ = some (.bool st.magic) := by rw [Lib.cell_of_heap g4]; rfl
        have hfl := HFl.out
        have HFc : Hid (∀ W, Below w1.heap.size w1 W → W.cell? ⟨fb, 0, none⟩ = some (.pointer (some fa))) := fun W hW => (hW.cell (p := ⟨fb, 0, none⟩) (by show fb < _; omega)).trans ((HB1.out.cell (p := ⟨fb, 0, none⟩) hfl).trans HF.out)
        have f4 := HFc.out w4 HB4.out.1
        have HKl := Lib.hid hkl
        have HMr := Lib.hid hrg1.left_eq
        have HRg := Lib.hid hrg1
        clear hae hN HSp hz g4 hfl hkl hd hrg hrg1
        generalize namesP L st (bs e.k) = nm at *
        go_wp2_with fail
        refine HN.out.mono ?_
        rintro e9 w5 ⟨A, c9, rfl, hsl, hb5, hfr⟩
        have HSl := Lib.hid hsl
        have HB5 := Lib.hid hb5
        have HFr := Lib.hid hfr
        clear hsl hb5 hfr s0 s1 f4 cE HN
        go_wp2_with fail
        go_loopw [28] (fun i wr2 => ∃ (j : Nat) (S2 : List Pl), i = .int .i64 j ∧ j ≤ nm.length ∧ Hid (wr2.ranges Tryz.prog 9 ptrElem m0 w2.heap.size n D (fun z => left z && !z.sameKey (.string e.k)) cnt1) ∧ Hid (LevIs wr2 (w2.heap.size + 1) w1.heap.size S2) ∧ Hid (Wwk.Steps L (atts L st ks ++ (nm.take j).map (fun x => (e.k, e.b, x))) S2) ∧ Hid (Below w1.heap.size w1 wr2 ∧ w5.heap.size ≤ wr2.heap.size) ∧ Hid (∀ q, A = some q → wr2.heap[q.block]? = w5.heap[q.block]? ∧ Apart S2 q.block)) (fun i _ => nm.length - (intOf i).toNat)
        case atStart =>
          have hz := HSz.out
          have h4 := HB4.out.2
          exact ⟨0, S', rfl, Nat.zero_le _, ranges_block HRg.out (HB5.out.block _ (by omega)) (HB5.out.block _ (by omega)), HLv4.out.below HB5.out, by show Wwk.Steps _ _ _; rw [List.take_zero, List.map_nil, List.append_nil]; exact HS0.out, ⟨HB4.out.1.trans (HB5.out.mono (by omega)), Nat.le_refl _⟩, fun q hq => ⟨rfl, lev_apart HLv4.out (HFr.out q hq)⟩⟩
        case round =>
          obtain ⟨j, S2, rfl, hj, HRi, HL, HSs, HBi, HAp⟩ := hrel
          have hnl := HNl.out
          have hll := HLL.out
          by_cases hjl : j < nm.length
          · obtain ⟨x, hxj⟩ : ∃ x, nm[j]? = some x := ⟨_, List.getElem?_eq_getElem hjl⟩
            have hxs := HNx.out _ (List.mem_of_getElem? hxj)
            have hsl2 := sl_kept HSl.out HBi.out.2 (fun q hq => (HAp.out q hq).1)
            rcases hsl2.2 with h0 | ⟨b5, o5, rfl, hb5l, hc5⟩
            · rw [List.map_eq_nil_iff] at h0
              rw [h0] at hjl
              exact absurd hjl (Nat.not_lt_zero _)
            · have c5 := hc5 j (bs x) (by rw [List.getElem?_map, hxj]; rfl)
              have hcap := hsl2.1
              rw [List.length_map] at hcap
              have fR := HFc.out wr HBi.out.1
              have hz := HSz.out
              have h4 := HB4.out.2
              have h45 := HB5.out.size
              have hkl := HKl.out
              have hkn : ks.length ≤ L.length + 1 := by
                have h1 := HPn.out.length_eq
                rw [List.length_append, List.length_singleton] at h1
                have h2 : (S.filter fun c => !(left (.string c.k) && !(Lit.string c.k).sameKey (.string e.k))).length ≤ S.length := List.length_filter_le ..
                have h3 := HS9.out
                omega
              have hws : ∀ y ∈ S2, y.ws.length ≤ 1000000000000 := fun y hy => by
                have h1 := (HSs.out.facts y hy).2
                have h2 := atts_len L st ks
                have h3 : ks.length * (L.length + 1) ≤ 900001 * 900001 := Nat.mul_le_mul (by omega) (by omega)
                rw [List.length_append, List.length_map, List.length_take] at h1
                omega
              have HRe := Lib.hid (reach_is fa Bm bl L w1 wr (w2.heap.size + 1) w1.heap.size e.b S2 e.k x HFs.out HI.out (by omega) HBi.out.1 (by omega) (by have := HBi.out.2; omega) (Nat.le_refl _) HL.out (by have := HSs.out.len HL.out.keys; omega) (by omega) (fun nd hnd => by
                have h1 := HP.out.1 _ (look_path hnd)
                rw [len_data] at h1
                omega) hws)
              have HTk : Hid ((nm.take (j + 1)).map (fun x => (e.k, e.b, x)) = (nm.take j).map (fun x => (e.k, e.b, x)) ++ [(e.k, e.b, x)]) := take_snoc (fun x => (e.k, e.b, x)) hxj
              have HB5l := Lib.hid hb5l
              clear hsl2 hc5 hb5l hxj hws hkn hxs hz h4 h45 hkl
              go_wp2_with fail
              refine HRe.out.mono ?_
              rintro e8 w6 ⟨rfl, S3, hr3, hl3, hb3, hs3, hk3⟩
              have hz := HSz.out
              have h4 := HB4.out.2
              have h45 := HB5.out.size
              have hbi := HBi.out.2
              have k1 := (hk3 m0 (by omega) (by omega) (lev_apart_lo HL.out (by omega))).1
              have k2 := (hk3 w2.heap.size (by omega) (by omega) (lev_apart_lo HL.out (by omega))).1
              have hfr5 := HFr.out _ rfl
              have k3 := hk3 b5 HB5l.out (by have : w4.heap.size ≤ b5 := hfr5; omega) (HAp.out _ rfl).2
              have HRn : Hid (w6.ranges Tryz.prog 9 ptrElem m0 w2.heap.size n D (fun z => left z && !z.sameKey (.string e.k)) cnt1) := ranges_block HRi.out k1 k2
              have HLn := Lib.hid hl3
              have HSn : Hid (Wwk.Steps L (atts L st ks ++ (nm.take (j + 1)).map (fun x => (e.k, e.b, x))) S3) := by
                show Wwk.Steps _ _ _
                rw [HTk.out, ← List.append_assoc]
                exact .snoc HSs.out hr3
              have HBn : Hid (Below w1.heap.size w1 w6 ∧ w5.heap.size ≤ w6.heap.size) := ⟨hb3, by omega⟩
              have HAn : Hid (∀ q, (some ⟨b5, o5, none⟩ : Option Addr) = some q → w6.heap[q.block]? = w5.heap[q.block]? ∧ Apart S3 q.block) := fun q hq => by
                cases hq
                exact ⟨k3.1.trans (HAp.out _ rfl).1, k3.2⟩
              clear hr3 hl3 hb3 hs3 hk3 k1 k2 k3 hfr5 hz h4 h45 hbi c5 fR
              go_wp2_with fail
              go_roundw
              case rel => exact ⟨j + 1, S3, by go_num, by omega, HRn.out, HLn.out, HSn.out, HBn.out, HAn.out⟩
              case measure => simp [intOf]; omega
          · obtain rfl : j = nm.length := by omega
            have HSn : Hid (Wwk.Steps L (atts L st (ks ++ [e])) S2) := HSp2.out S2 (by
              have := HSs.out
              rwa [List.take_length] at this)
            have HBn : Hid (Below w1.heap.size w1 wr ∧ w2.heap.size + 1 ≤ wr.heap.size) := ⟨HBi.out.1, by have h1 := HBi.out.2; have h2 := HB5.out.size; have h3 := HB4.out.2; omega⟩
            go_wp2_with fail
            go_roundw
            case rel => exact ⟨_, cnt1, ks ++ [e], S2, HRi.out, HL.out, ⟨HSn.out, HPn.out⟩, HBn.out⟩
            case measure => rw [HRi.out.left_eq, HMl.out]; exact HLt.out

end Go.Proofs.YtghfmbmdfojapaaGreatDoor.Wwt

/- walker: where a walk begins. -/
namespace Go.Proofs.YtghfmbmdfojapaaGreatDoor.Wwa
open Go.RowKit Go.Maps Go.Proofs.YtghfmbmdfojapaaGreatDoor.Pth Go.Proofs.YtghfmbmdfojapaaGreatDoor.Strs Go.Proofs.YtghfmbmdfojapaaGreatDoor.Vfs Go.Proofs.YtghfmbmdfojapaaGreatDoor.Vmap Go.Proofs.YtghfmbmdfojapaaGreatDoor.Vfind Go.Proofs.YtghfmbmdfojapaaGreatDoor.Vlook Go.Proofs.YtghfmbmdfojapaaGreatDoor.Vperm Go.Proofs.YtghfmbmdfojapaaGreatDoor.Wdp Go.Proofs.YtghfmbmdfojapaaGreatDoor.Wnm Go.Proofs.YtghfmbmdfojapaaGreatDoor.Wno Go.Proofs.YtghfmbmdfojapaaGreatDoor.Wnn Go.Proofs.YtghfmbmdfojapaaGreatDoor.Wlv Go.Proofs.YtghfmbmdfojapaaGreatDoor.Wrc Go.Proofs.YtghfmbmdfojapaaGreatDoor.Wwk Go.Proofs.YtghfmbmdfojapaaGreatDoor.Wwt

def walkF (ab fb : Nat) : Value := .func (.func 61) #[] #[.pointer (some ⟨ab, 0, none⟩), .pointer (some ⟨fb, 0, none⟩)]
/-- the place / -/
def top (b : Nat) : Pl := ⟨[47], b, true, .slice none 0 0, []⟩
theorem run_top (w : World) : ∃ W, (Instr.mapUpdate 81 (.map (some w.heap.size)) (.string ⟨#[47]⟩) (.pointer (some ⟨w.heap.size + 1, 0, none⟩))).run Tryz.prog ((w.alloc (.map #[] 0)).alloc (.cells #[.bool true, .slice none 0 0] 118)) = .ok () W ∧
    LevIs W w.heap.size w.heap.size [top (w.heap.size + 1)] ∧ Below w.heap.size w W ∧ w.heap.size + 2 ≤ W.heap.size := by
  have h1 : LevIs (w.alloc (.map #[] 0)) w.heap.size w.heap.size [] := lev_start w _
  have h2 : LevIs ((w.alloc (.map #[] 0)).alloc (.cells #[.bool true, .slice none 0 0] 118)) w.heap.size w.heap.size [] := h1.below ((Below.refl _ _).alloc (Nat.le_refl _) _)
  have h3 := heap_alloc_new (w.alloc (.map #[] 0)) (.cells #[.bool true, .slice none 0 0] 118)
  rw [World.size_alloc] at h3
  obtain ⟨W, hrun, hL, hg⟩ := h2.add (k := [47]) (by decide) rfl h3 (by omega) (fun e he => absurd he List.not_mem_nil) (by decide)
  refine ⟨W, hrun, hL, ?_, ?_⟩
  · have h4 : Below w.heap.size w ((w.alloc (.map #[] 0)).alloc (.cells #[.bool true, .slice none 0 0] 118)) := ((Below.refl _ _).alloc (Nat.le_refl _) _).alloc (by simp) _
    exact h4.grown hg (by simp; omega) (fun k e => by rw [← Option.some.inj e]; exact Nat.le_refl _)
  · have := hg.size
    simp only [World.size_alloc] at this
    omega

set_option maxRecDepth 100000 in
set_option maxHeartbeats 4000000 in
theorem walker_is (fa : Addr) (w : World) :
    Calls Tryz.prog 45 #[.pointer (some fa)] w fun e W' => ∃ fb ab m0 b0 lo, e = .returned (walkF ab fb) ∧ W'.cell? ⟨fb, 0, none⟩ = some (.pointer (some fa)) ∧ fb < W'.heap.size ∧ W'.heap[ab]? = some (.cells #[.map (some m0)] 81 (0, 0)) ∧ LevIs W' lo m0 [top b0] ∧ w.heap.size ≤ lo ∧ Below w.heap.size w W' ∧ w.heap.size ≤ ab ∧ w.heap.size ≤ fb ∧ fb ≠ ab := by
  obtain ⟨w1, hw1⟩ : ∃ w1, w1 = w.alloc (.cells #[.pointer (some fa)] 25) := ⟨_, rfl⟩
  obtain ⟨W, hrun, hL, hB, hz⟩ := run_top w1
  have hmm := @run_makeMap Tryz.prog
  have HL := Lib.hid hL
  have HB := Lib.hid hB
  have HZ := Lib.hid hz
  have H1 : Hid (w1.heap.size = w.heap.size + 1 ∧ w1.heap[w.heap.size]? = some (.cells #[.pointer (some fa)] 25 (0, 0)) ∧ Below w.heap.size w w1) := by rw [hw1]; exact ⟨World.size_alloc .., heap_alloc_new _ _, (Below.refl _ _).alloc (Nat.le_refl _) _⟩
  clear hL hB hz
  go_enter Tryz.func45, Tryz.ntmps45
  go_upto_region 1 with fail
  rw [← hw1]
  clear hw1
  go_wp2_with fail
  go_ret
  have h1 := H1.out
  have hz := HZ.out
  have hB : Below W.heap.size W (W.alloc (.cells #[.map (some w1.heap.size)] 81)) := (Below.refl _ _).alloc (Nat.le_refl _) _
  have hf : (W.alloc (.cells #[.map (some w1.heap.size)] 81)).heap[w.heap.size]? = some (.cells #[.pointer (some fa)] 25 (0, 0)) := (hB.block _ (by omega)).trans ((HB.out.block _ (by omega)).trans h1.2.1)
  refine ⟨w.heap.size, W.heap.size, w1.heap.size, w1.heap.size + 1, w1.heap.size, rfl, by rw [Lib.cell_of_heap hf]; rfl, by rw [World.size_alloc]; omega, heap_alloc_new _ _, HL.out.below hB, by omega, h1.2.2.trans ((HB.out.trans (hB.mono (by omega))).mono (by omega)), by omega, Nat.le_refl _, by omega⟩

end Go.Proofs.YtghfmbmdfojapaaGreatDoor.Wwa

/- Level by level: the places of a walk as trees in memory, and the walks that they stand for. -/
namespace Go.Proofs.YtghfmbmdfojapaaGreatDoor.Wlx
open Go.RowKit Go.Maps Go.Proofs.YtghfmbmdfojapaaGreatDoor.Pth Go.Proofs.YtghfmbmdfojapaaGreatDoor.Strs Go.Proofs.YtghfmbmdfojapaaGreatDoor.Vfs Go.Proofs.YtghfmbmdfojapaaGreatDoor.Vmap Go.Proofs.YtghfmbmdfojapaaGreatDoor.Vfind Go.Proofs.YtghfmbmdfojapaaGreatDoor.Vlook Go.Proofs.YtghfmbmdfojapaaGreatDoor.Vperm Go.Proofs.YtghfmbmdfojapaaGreatDoor.Wdp Go.Proofs.YtghfmbmdfojapaaGreatDoor.Wnm Go.Proofs.YtghfmbmdfojapaaGreatDoor.Wno Go.Proofs.YtghfmbmdfojapaaGreatDoor.Wnn Go.Proofs.YtghfmbmdfojapaaGreatDoor.Wlv Go.Proofs.YtghfmbmdfojapaaGreatDoor.Wrc Go.Proofs.YtghfmbmdfojapaaGreatDoor.Wwk Go.Proofs.YtghfmbmdfojapaaGreatDoor.Wwt Go.Proofs.YtghfmbmdfojapaaGreatDoor.Wwa

/-! ### trees are kept -/
theorem not_map_cell {w : World} {ab b o : Nat} {u : Option Nat} {ty : TypeId} {v : Value} (ha : w.heap[ab]? = some (.cells #[.map u] ty (0, 0))) (hc : w.cell? ⟨b, o, none⟩ = some v) (hv : v ≠ .map u) : b ≠ ab := fun e => by
  subst e
  rw [Lib.cell_of_heap ha] at hc
  cases o with
  | zero => exact hv (Option.some.inj hc).symm
  | succ o => cases hc
theorem TreeIs.kept {w W : World} {ab : Nat} {u : Option Nat} {ty : TypeId} (ha : w.heap[ab]? = some (.cells #[.map u] ty (0, 0))) (hk : ∀ k, k < w.heap.size → k ≠ ab → W.heap[k]? = w.heap[k]?) (hs : w.heap.size ≤ W.heap.size) :
    ∀ {n b : Nat} {ts : List (List T)}, TreeIs w n b ts → TreeIs W n b ts
  | 0, b, ts, ⟨hb, ⟨A, c, hc⟩, h2⟩ => by
    have h1 := not_map_cell ha hc (by simp)
    exact ⟨Nat.lt_of_lt_of_le hb hs, ⟨A, c, (World.cell?_of_block (w := w) (a := ⟨b, 1, none⟩) (hk b hb h1)).trans hc⟩, h2⟩
  | n + 1, b, ts, ⟨hb, A, c, ws, f, hc, hw, hne, ht, h2⟩ => by
    have h1 := not_map_cell ha hc (by simp)
    refine ⟨Nat.lt_of_lt_of_le hb hs, A, c, ws, f, (World.cell?_of_block (w := w) (a := ⟨b, 1, none⟩) (hk b hb h1)).trans hc, ⟨hw.1, ?_⟩, hne, fun y hy => TreeIs.kept ha hk hs (ht y hy), h2⟩
    refine hw.2.imp id ?_
    rintro ⟨b5, o5, e5, hl5, hc5⟩
    have h3 : b5 ≠ ab := by
      cases ws with
      | nil => exact absurd rfl hne
      | cons y r => exact not_map_cell ha (hc5 0 y rfl).1 (by simp)
    exact ⟨b5, o5, e5, Nat.lt_of_lt_of_le hl5 hs, fun j y hj => ⟨(World.cell?_of_block (w := w) (a := ⟨b5, o5 + j * 2, none⟩) (hk b5 hl5 h3)).trans (hc5 j y hj).1, (World.cell?_of_block (w := w) (a := ⟨b5, o5 + j * 2 + 1, none⟩) (hk b5 hl5 h3)).trans (hc5 j y hj).2⟩⟩

/-! ### the ways of a level -/
theorem ways_of_own {w : World} {base : Nat} {v : Value} {ws : List Wnn.Way} (h : w.ownsRow base 121 2 v ws.length (wcells ws)) (hne : ws ≠ []) : ∃ A c, v = .slice A ws.length c ∧ WaysAt w A c ws := by
  rcases h.2 with ⟨_, hn⟩ | ⟨g, cap, cur, rfl, _, hg, hn, _, _, _⟩
  · exact absurd (List.eq_nil_of_length_eq_zero hn) hne
  · refine ⟨_, cap, rfl, hn, .inr ⟨g, 0, rfl, (Array.getElem?_eq_some_iff.1 hg).1, fun j y hj => ?_⟩⟩
    have hcells : ∀ j u, (wcells ws)[j]? = some u → w.cell? ((⟨g, 0, none⟩ : Addr).add j) = some u := h.cells (g := g) rfl
    have hw : ∀ (ws : List Wnn.Way) (j : Nat) y, ws[j]? = some y → (wcells ws)[j * 2]? = some (.pointer (some ⟨y.1, 0, none⟩)) ∧ (wcells ws)[j * 2 + 1]? = some (.string (bs y.2)) := by
      intro ws
      induction ws with
      | nil => intro j y h; cases h
      | cons z r ih =>
        intro j y h
        cases j with
        | zero => cases h; exact ⟨rfl, rfl⟩
        | succ j =>
          have h2 := ih j y h
          have e1 : (j + 1) * 2 = j * 2 + 2 := by omega
          rw [e1]
          exact h2
    obtain ⟨h1, h2⟩ := hw ws j y hj
    have c1 := hcells _ _ h1
    have c2 := hcells _ _ h2
    rw [addr_add] at c1 c2
    refine ⟨?_, ?_⟩
    · exact c1
    · rw [Nat.add_assoc]; exact c2
/-- each way of each place -/
def ends (S : List Pl) : List (T × Wnn.Way) := S.flatMap fun e => e.ws.map fun y => (e.k, y)
def got (L : List Ent) (ats : List Att) : List (T × Wnn.Way) := ats.flatMap fun a => match lookN L (bs (a.1 ++ 47 :: a.2.2)) with
  | none => []
  | some nd => [(nd.p.data.toList, (a.2.1, a.2.2))]
theorem ends_app (a b : List Pl) : ends (a ++ b) = ends a ++ ends b := List.flatMap_append
theorem Steps.ends {L : List Ent} {ats : List Att} {S : List Pl} (h : Wwk.Steps L ats S) : (ends S).Perm (got L ats) := by
  induction h with
  | nil => exact List.Perm.refl _
  | @snoc ats S S' a hs hr ih =>
    have e1 : got L (ats ++ [a]) = got L ats ++ got L [a] := List.flatMap_append
    rw [e1]
    unfold Reached at hr
    cases hlk : lookN L (bs (a.1 ++ 47 :: a.2.2)) with
    | none =>
      rw [hlk] at hr
      have e2 : got L [a] = [] := by unfold got; rw [List.flatMap_cons, hlk]; rfl
      rw [e2, List.append_nil, show S' = S from hr]
      exact ih
    | some nd =>
      rw [hlk] at hr
      have e2 : got L [a] = [(nd.p.data.toList, (a.2.1, a.2.2))] := by unfold got; rw [List.flatMap_cons, hlk]; rfl
      rw [e2]
      have hr2 : Laid S nd (a.2.1, a.2.2) S' := hr
      rcases hr2 with ⟨S1, e, S2, v', rfl, hk, rfl⟩ | ⟨_, b, v', rfl⟩
      · refine List.Perm.trans ?_ (List.Perm.append_right _ ih)
        have e3 : Wlx.ends (S1 ++ ⟨e.k, e.b, e.d, v', e.ws ++ [(a.2.1, a.2.2)]⟩ :: S2) = Wlx.ends S1 ++ ((e.ws.map fun y => (e.k, y)) ++ ((nd.p.data.toList, (a.2.1, a.2.2)) :: Wlx.ends S2)) := by
          rw [ends_app]
          show _ ++ (((e.ws ++ [(a.2.1, a.2.2)]).map fun y => (e.k, y)) ++ Wlx.ends S2) = _
          rw [List.map_append, List.append_assoc, hk]; rfl
        have e4 : Wlx.ends (S1 ++ e :: S2) = Wlx.ends S1 ++ ((e.ws.map fun y => (e.k, y)) ++ Wlx.ends S2) := by rw [ends_app]; rfl
        rw [e3, e4, ← List.append_assoc, ← List.append_assoc]
        exact List.perm_middle.trans ((List.perm_append_singleton _ _).symm)
      · rw [ends_app]
        exact List.Perm.append_right _ ih
theorem Steps.ways {L : List Ent} {ats : List Att} {S : List Pl} (h : Wwk.Steps L ats S) : ∀ e ∈ S, e.ws ≠ [] := by
  induction h with
  | nil => intro e he; exact absurd he List.not_mem_nil
  | @snoc ats S S' a hs hr ih =>
    intro e he
    unfold Reached at hr
    split at hr
    · rw [hr] at he; exact ih e he
    · rcases hr with ⟨S1, e1, S2, v', rfl, hk, rfl⟩ | ⟨_, b, v', rfl⟩
      · rcases List.mem_append.1 he with h1 | h1
        · exact ih e (List.mem_append_left _ h1)
        · rcases List.mem_cons.1 h1 with rfl | h2
          · simp
          · exact ih e (List.mem_append_right _ (List.mem_cons_of_mem _ h2))
      · rcases List.mem_append.1 he with h1 | h1
        · exact ih e h1
        · rw [List.mem_singleton.1 h1]; simp

/-- whether a path leads to a directory -/
def dirP (L : List Ent) (k : T) : Bool := match L.find? fun e => decide (flatL e.pt = k) with
  | some e => e.dir
  | none => true
theorem find_uniq {α : Type} {p : α → Bool} {a : α} : ∀ {l : List α}, a ∈ l → p a = true → (∀ b ∈ l, p b = true → b = a) → l.find? p = some a
  | x :: l, hm, hp, hu => by
    rw [List.find?_cons]
    cases hx : p x with
    | true => rw [hu x List.mem_cons_self hx]
    | false =>
      rcases List.mem_cons.1 hm with rfl | h1
      · rw [hp] at hx; cases hx
      · exact find_uniq h1 hp fun b hb => hu b (List.mem_cons_of_mem _ hb)
theorem look_dir {L : List Ent} (hroot : ∀ e ∈ L, flatL e.pt ≠ [47]) (hinj : ∀ a ∈ L, ∀ b ∈ L, flatL a.pt = flatL b.pt → a = b) {s : ByteArray} {nd : Nd} (h : lookN L s = some nd) : nd.d = dirP L nd.p.data.toList := by
  unfold lookN at h
  split at h
  · cases h
  · unfold nodeAt at h
    split at h
    · cases h
      unfold dirP
      have : L.find? (fun e => decide (flatL e.pt = ndRoot.p.data.toList)) = none := by
        rw [List.find?_eq_none]
        intro e he h1
        exact hroot e he (of_decide_eq_true h1)
      rw [this]; rfl
    · obtain ⟨e, he, rfl⟩ := Option.map_eq_some_iff.1 h
      have hm := (at_mem he).1
      unfold dirP
      have hf : L.find? (fun c => decide (flatL c.pt = (ndOf L e).p.data.toList)) = some e := find_uniq hm (decide_eq_true rfl) fun b hb h1 => hinj b hb e hm (of_decide_eq_true h1)
      rw [hf]; rfl
theorem Steps.dirs {L : List Ent} (hd : ∀ s nd, lookN L s = some nd → nd.d = dirP L nd.p.data.toList) {ats : List Att} {S : List Pl} (h : Wwk.Steps L ats S) : ∀ e ∈ S, e.d = dirP L e.k := by
  induction h with
  | nil => intro e he; exact absurd he List.not_mem_nil
  | @snoc ats S S' a hs hr ih =>
    intro e he
    unfold Reached at hr
    split at hr
    · rw [hr] at he; exact ih e he
    · rename_i nd hlk
      rcases hr with ⟨S1, e1, S2, v', rfl, hk, rfl⟩ | ⟨_, b, v', rfl⟩
      · rcases List.mem_append.1 he with h1 | h1
        · exact ih e (List.mem_append_left _ h1)
        · rcases List.mem_cons.1 h1 with rfl | h2
          · exact ih e1 (List.mem_append_right _ List.mem_cons_self)
          · exact ih e (List.mem_append_right _ (List.mem_cons_of_mem _ h2))
      · rcases List.mem_append.1 he with h1 | h1
        · exact ih e h1
        · rw [List.mem_singleton.1 h1]; exact hd _ _ hlk

end Go.Proofs.YtghfmbmdfojapaaGreatDoor.Wlx

/- The walks that the levels stand for. -/
namespace Go.Proofs.YtghfmbmdfojapaaGreatDoor.Wly
open Go.RowKit Go.Maps Go.Proofs.YtghfmbmdfojapaaGreatDoor.Pth Go.Proofs.YtghfmbmdfojapaaGreatDoor.Strs Go.Proofs.YtghfmbmdfojapaaGreatDoor.Vfs Go.Proofs.YtghfmbmdfojapaaGreatDoor.Vmap Go.Proofs.YtghfmbmdfojapaaGreatDoor.Vfind Go.Proofs.YtghfmbmdfojapaaGreatDoor.Vlook Go.Proofs.YtghfmbmdfojapaaGreatDoor.Vperm Go.Proofs.YtghfmbmdfojapaaGreatDoor.Wdp Go.Proofs.YtghfmbmdfojapaaGreatDoor.Wnm Go.Proofs.YtghfmbmdfojapaaGreatDoor.Wno Go.Proofs.YtghfmbmdfojapaaGreatDoor.Wnn Go.Proofs.YtghfmbmdfojapaaGreatDoor.Wlv Go.Proofs.YtghfmbmdfojapaaGreatDoor.Wrc Go.Proofs.YtghfmbmdfojapaaGreatDoor.Wwk Go.Proofs.YtghfmbmdfojapaaGreatDoor.Wwt Go.Proofs.YtghfmbmdfojapaaGreatDoor.Wwa Go.Proofs.YtghfmbmdfojapaaGreatDoor.Wlx

/-! ### lists -/
theorem flatMap_same {α β : Type} {f g : α → List β} : ∀ {l : List α}, (∀ e ∈ l, f e = g e) → l.flatMap f = l.flatMap g
  | [], _ => rfl
  | a :: l, h => by rw [List.flatMap_cons, List.flatMap_cons, h a List.mem_cons_self, flatMap_same fun e he => h e (List.mem_cons_of_mem _ he)]
theorem flatMap_perm {α β : Type} {f g : α → List β} : ∀ {l : List α}, (∀ e ∈ l, (f e).Perm (g e)) → (l.flatMap f).Perm (l.flatMap g)
  | [], _ => List.Perm.refl _
  | a :: l, h => by
    rw [List.flatMap_cons, List.flatMap_cons]
    exact (h a List.mem_cons_self).append (flatMap_perm fun e he => h e (List.mem_cons_of_mem _ he))
theorem flatMap_none {α β : Type} (l : List α) : l.flatMap (fun _ => ([] : List β)) = [] := by
  induction l with
  | nil => rfl
  | cons a l ih => rw [List.flatMap_cons, ih]; rfl
theorem flatMap_two {α β : Type} (f g : α → List β) : ∀ l : List α, (l.flatMap fun x => f x ++ g x).Perm (l.flatMap f ++ l.flatMap g)
  | [] => List.Perm.refl _
  | a :: l => by
    rw [List.flatMap_cons, List.flatMap_cons, List.flatMap_cons]
    refine ((flatMap_two f g l).append_left _).trans ?_
    rw [List.append_assoc, List.append_assoc]
    refine List.Perm.append_left _ ?_
    rw [← List.append_assoc, ← List.append_assoc]
    exact List.Perm.append_right _ List.perm_append_comm
theorem flatMap_swap {α β γ : Type} (h : α → β → List γ) : ∀ (l : List α) (m : List β), (l.flatMap fun x => m.flatMap fun y => h x y).Perm (m.flatMap fun y => l.flatMap fun x => h x y)
  | [], m => by rw [List.flatMap_nil]; exact (flatMap_none m) ▸ List.Perm.refl _
  | a :: l, m => by
    rw [List.flatMap_cons]
    refine (List.Perm.append_left _ (flatMap_swap h l m)).trans ?_
    exact (flatMap_two (h a) (fun y => l.flatMap fun x => h x y) m).symm

/-! ### walks -/
def stepX (L : List Ent) (k : T) (t : List T) (x : T) : List (T × List T) := match lookN L (bs (k ++ 47 :: x)) with
  | none => []
  | some nd => [(nd.p.data.toList, t ++ [x])]
def stepW (L : List Ent) (st : Pt) (k : T) (t : List T) : List (T × List T) := if dirP L k then (namesP L st (bs k)).flatMap (stepX L k t) else []
/-- where the steps lead to, each by which names -/
def walksP (L : List Ent) (sts : List Pt) : List (T × List T) := sts.foldl (fun W st => W.flatMap fun y => stepW L st y.1 y.2) [([47], [])]
theorem walksP_snoc (L : List Ent) (sts : List Pt) (st : Pt) : walksP L (sts ++ [st]) = (walksP L sts).flatMap fun y => stepW L st y.1 y.2 := by
  unfold walksP
  rw [List.foldl_append]; rfl
structure Level (L : List Ent) (w : World) (n : Nat) (sts : List Pt) (S : List Pl) (F : Nat → List (List T)) : Prop where
  keys : ∀ e ∈ S, e.k ∈ pathsL L
  dirs : ∀ e ∈ S, e.d = dirP L e.k
  tree : ∀ e ∈ S, TreeIs w n e.b (F e.b)
  all : (S.flatMap fun e => (F e.b).map fun t => (e.k, t)).Perm (walksP L sts)
def nextF (S' : List Pl) (F : Nat → List (List T)) (b : Nat) : List (List T) := match S'.find? fun e => decide (e.b = b) with
  | some e => e.ws.flatMap fun y => (F y.1).map (· ++ [y.2])
  | none => []
theorem apart_uniq {R : Pl → Pl → Prop} (hR : ∀ a b, R a b → a.b ≠ b.b) : ∀ {S : List Pl}, S.Pairwise R → ∀ a ∈ S, ∀ b ∈ S, a.b = b.b → a = b
  | x :: S, h, a, ha, b, hb, e => by
    obtain ⟨h1, h2⟩ := List.pairwise_cons.1 h
    rcases List.mem_cons.1 ha with rfl | h3
    · rcases List.mem_cons.1 hb with rfl | h4
      · rfl
      · exact absurd e (hR _ _ (h1 b h4))
    · rcases List.mem_cons.1 hb with rfl | h4
      · exact absurd e.symm (hR _ _ (h1 a h3))
      · exact apart_uniq hR h2 a h3 b h4 e
theorem nextF_at {w : World} {lo m : Nat} {S' : List Pl} (h : LevIs w lo m S') (F : Nat → List (List T)) {e : Pl} (he : e ∈ S') : nextF S' F e.b = e.ws.flatMap fun y => (F y.1).map (· ++ [y.2]) := by
  unfold nextF
  have hf : S'.find? (fun c => decide (c.b = e.b)) = some e := find_uniq he (decide_eq_true rfl) fun b hb h1 => apart_uniq (fun _ _ h2 => h2.1) h.apart b hb e he (of_decide_eq_true h1)
  rw [hf]
theorem got_mem {L : List Ent} {ats : List Att} {z : T × Wnn.Way} (h : z ∈ got L ats) : ∃ a ∈ ats, z.2 = a.2 := by
  obtain ⟨a, ha, hz⟩ := List.mem_flatMap.1 h
  refine ⟨a, ha, ?_⟩
  cases hl : lookN L (bs (a.1 ++ 47 :: a.2.2)) with
  | none => rw [hl] at hz; exact absurd hz List.not_mem_nil
  | some nd => rw [hl] at hz; rw [List.mem_singleton.1 hz]
theorem atts_mem {L : List Ent} {st : Pt} {ks : List Pl} {a : Att} (h : a ∈ atts L st ks) : ∃ e ∈ ks, a.2.1 = e.b := by
  obtain ⟨e, he, ha⟩ := List.mem_flatMap.1 h
  refine ⟨e, he, ?_⟩
  unfold attsOf at ha
  split at ha
  · obtain ⟨x, _, rfl⟩ := List.mem_map.1 ha; rfl
  · exact absurd ha List.not_mem_nil
theorem step_one (L : List Ent) (st : Pt) (F : Nat → List (List T)) (e : Pl) (hd : e.d = dirP L e.k) :
    ((got L (attsOf L st e)).flatMap fun z => (F z.2.1).map fun t => (z.1, t ++ [z.2.2])).Perm ((F e.b).flatMap fun t => stepW L st e.k t) := by
  unfold attsOf stepW
  rw [hd]
  cases dirP L e.k with
  | false =>
    simp only [Bool.false_eq_true, if_false]
    rw [flatMap_none]; exact List.Perm.refl _
  | true =>
    simp only [if_true]
    have h1 : ((got L ((namesP L st (bs e.k)).map fun x => (e.k, e.b, x))).flatMap fun z => (F z.2.1).map fun t => (z.1, t ++ [z.2.2])) = (namesP L st (bs e.k)).flatMap fun x => (F e.b).flatMap fun t => stepX L e.k t x := by
      unfold got
      rw [List.flatMap_map, List.flatMap_assoc]
      refine flatMap_same fun x _ => ?_
      unfold stepX
      cases lookN L (bs (e.k ++ 47 :: x)) with
      | none =>
        show ([] : List _) = _
        exact (flatMap_none _).symm
      | some nd =>
        show (F e.b).map (fun t => (nd.p.data.toList, t ++ [x])) ++ [] = _
        rw [List.append_nil]
        induction F e.b with
        | nil => rfl
        | cons t r ih => rw [List.map_cons, List.flatMap_cons, ih]; rfl
    rw [h1]
    exact flatMap_swap _ _ _
theorem dir_root {L : List Ent} (hroot : ∀ e ∈ L, flatL e.pt ≠ [47]) : dirP L [47] = true := by
  unfold dirP
  have : L.find? (fun e => decide (flatL e.pt = [47])) = none := by
    rw [List.find?_eq_none]
    intro e he h1
    exact hroot e he (of_decide_eq_true h1)
  rw [this]
theorem level_start {L : List Ent} {w : World} {lo m b : Nat} (hroot : ∀ e ∈ L, flatL e.pt ≠ [47]) (h : LevIs w lo m [top b]) : Level L w 0 [] [top b] (fun _ => [[]]) := by
  have hb : w.heap[b]? = some (.cells #[.bool true, .slice none 0 0] 118 (0, 0)) := (h.pl (top b) List.mem_cons_self).1
  refine ⟨fun e he => ?_, fun e he => ?_, fun e he => ?_, List.Perm.refl _⟩
  · rw [List.mem_singleton.1 he]; exact List.mem_cons_self
  · rw [List.mem_singleton.1 he]; exact (dir_root hroot).symm
  · rw [List.mem_singleton.1 he]
    exact ⟨(Array.getElem?_eq_some_iff.1 hb).1, ⟨none, 0, by show w.cell? ⟨b, 1, none⟩ = _; rw [Lib.cell_of_heap hb]; rfl⟩, rfl⟩
theorem level_step {L : List Ent} (hd : ∀ s nd, lookN L s = some nd → nd.d = dirP L nd.p.data.toList) {w W : World} {n lo m : Nat} {sts : List Pt} {st : Pt} {S S' ks : List Pl} {F : Nat → List (List T)}
    (h : Level L w n sts S F) (hs : Wwk.Steps L (atts L st ks) S') (hk : ks.Perm S) (hl : LevIs W lo m S') (ht : ∀ b ts, TreeIs w n b ts → TreeIs W n b ts) : Level L W (n + 1) (sts ++ [st]) S' (nextF S' F) := by
  refine ⟨fun e he => (hs.facts e he).1, Steps.dirs hd hs, fun e he => ?_, ?_⟩
  · obtain ⟨p1, p2, _⟩ := hl.pl e he
    have hne := Steps.ways hs e he
    obtain ⟨A, c, hv, hw⟩ := ways_of_own p2 hne
    refine ⟨(Array.getElem?_eq_some_iff.1 p1).1, A, c, e.ws, F, ?_, hw, hne, fun y hy => ?_, nextF_at hl F he⟩
    · rw [Lib.cell_of_heap p1, ← hv]; rfl
    · have h1 : (e.k, y) ∈ ends S' := List.mem_flatMap.2 ⟨e, he, List.mem_map.2 ⟨y, hy, rfl⟩⟩
      obtain ⟨a, ha, h2⟩ := got_mem ((Steps.ends hs).mem_iff.1 h1)
      obtain ⟨e0, he0, h3⟩ := atts_mem ha
      have h4 : y.1 = e0.b := by rw [← h3, ← h2]
      rw [h4]
      exact ht _ _ (h.tree e0 (hk.mem_iff.1 he0))
  · rw [walksP_snoc]
    have e1 : (S'.flatMap fun e => (nextF S' F e.b).map fun t => (e.k, t)) = (ends S').flatMap fun z => (F z.2.1).map fun t => (z.1, t ++ [z.2.2]) := by
      unfold ends
      rw [List.flatMap_assoc]
      refine flatMap_same fun e he => ?_
      rw [nextF_at hl F he, List.map_flatMap, List.flatMap_map]
      refine flatMap_same fun y _ => ?_
      rw [List.map_map]; rfl
    rw [e1]
    refine ((Steps.ends hs).flatMap_right _).trans ?_
    have e2 : ((got L (atts L st ks)).flatMap fun z => (F z.2.1).map fun t => (z.1, t ++ [z.2.2])) = ks.flatMap fun e => (got L (attsOf L st e)).flatMap fun z => (F z.2.1).map fun t => (z.1, t ++ [z.2.2]) := by
      unfold got atts
      rw [List.flatMap_assoc, List.flatMap_assoc]
      refine flatMap_same fun e _ => ?_
      rw [List.flatMap_assoc]
    rw [e2]
    refine (hk.flatMap_right _).trans ?_
    refine (flatMap_perm (g := fun e => (F e.b).flatMap fun t => stepW L st e.k t) fun e he => step_one L st F e (h.dirs e he)).trans ?_
    have e3 : (S.flatMap fun e => (F e.b).flatMap fun t => stepW L st e.k t) = (S.flatMap fun e => (F e.b).map fun t => (e.k, t)).flatMap fun y => stepW L st y.1 y.2 := by
      rw [List.flatMap_assoc]
      refine flatMap_same fun e _ => ?_
      rw [List.flatMap_map]
    rw [e3]
    exact h.all.flatMap_right _

end Go.Proofs.YtghfmbmdfojapaaGreatDoor.Wly
