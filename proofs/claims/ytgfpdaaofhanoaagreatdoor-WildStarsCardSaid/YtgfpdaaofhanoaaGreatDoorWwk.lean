/- One step of a walk, from all the places where it stands. -/
import Derived.Maps.RangeWalk
import Derived.Test.YtgfpdaaofhanoaaGreatDoorVperm
import Derived.Test.YtgfpdaaofhanoaaGreatDoorWrc
namespace Go.Proofs.YtgfpdaaofhanoaaGreatDoor.Wwk
open Go.RowKit Go.Maps Go.Proofs.YtgfpdaaofhanoaaGreatDoor.Pth Go.Proofs.YtgfpdaaofhanoaaGreatDoor.Strs Go.Proofs.YtgfpdaaofhanoaaGreatDoor.Vfs Go.Proofs.YtgfpdaaofhanoaaGreatDoor.Vmap Go.Proofs.YtgfpdaaofhanoaaGreatDoor.Vfind Go.Proofs.YtgfpdaaofhanoaaGreatDoor.Vlook Go.Proofs.YtgfpdaaofhanoaaGreatDoor.Vperm Go.Proofs.YtgfpdaaofhanoaaGreatDoor.Wdp Go.Proofs.YtgfpdaaofhanoaaGreatDoor.Wnm Go.Proofs.YtgfpdaaofhanoaaGreatDoor.Wno Go.Proofs.YtgfpdaaofhanoaaGreatDoor.Wnn Go.Proofs.YtgfpdaaofhanoaaGreatDoor.Wlv Go.Proofs.YtgfpdaaofhanoaaGreatDoor.Wrc

/-- what was tried: from which path, which block, by which name -/
abbrev Att := T × Nat × T
inductive Steps (L : List Ent) : List Att → List Pl → Prop
  | nil : Steps L [] []
  | snoc {ats : List Att} {S S' : List Pl} {a : Att} : Steps L ats S → Reached L a.1 a.2.2 S a.2.1 S' → Steps L (ats ++ [a]) S'
def attsOf (L : List Ent) (st : Pt) (e : Pl) : List Att := if e.d then (namesP L st (bs e.k)).map fun x => (e.k, e.b, x) else []
def atts (L : List Ent) (st : Pt) (ks : List Pl) : List Att := ks.flatMap (attsOf L st)
theorem atts_snoc (L : List Ent) (st : Pt) (ks : List Pl) (e : Pl) : atts L st (ks ++ [e]) = atts L st ks ++ attsOf L st e := by
  unfold atts
  rw [List.flatMap_append, List.flatMap_cons, List.flatMap_nil, List.append_nil]

/-! ### how many -/
def pathsL (L : List Ent) : List T := [47] :: L.map fun e => flatL e.pt
theorem look_path {L : List Ent} {s : ByteArray} {nd : Nd} (h : lookN L s = some nd) : nd.p.data.toList ∈ pathsL L := by
  unfold lookN at h
  split at h
  · cases h
  · unfold nodeAt at h
    split at h
    · cases h
      exact List.mem_cons_self
    · obtain ⟨e, he, rfl⟩ := Option.map_eq_some_iff.1 h
      refine List.mem_cons_of_mem _ (List.mem_map.2 ⟨e, (at_mem he).1, ?_⟩)
      exact (data_bs _).symm
theorem Steps.facts {L : List Ent} {ats : List Att} {S : List Pl} (h : Steps L ats S) : ∀ e ∈ S, e.k ∈ pathsL L ∧ e.ws.length ≤ ats.length := by
  induction h with
  | nil => intro e he; exact absurd he List.not_mem_nil
  | @snoc ats S S' a hs hr ih =>
    intro e he
    rw [List.length_append, List.length_singleton]
    unfold Reached at hr
    split at hr
    · rw [hr] at he
      exact ⟨(ih e he).1, Nat.le_succ_of_le (ih e he).2⟩
    · rename_i nd hl
      rcases hr with ⟨S1, e1, S2, v', h1, h2, h3⟩ | ⟨h1, b, v', h2⟩
      · rw [h3] at he
        have hm : e1 ∈ S := by rw [h1]; exact List.mem_append_right _ List.mem_cons_self
        rcases List.mem_append.1 he with h4 | h4
        · have := ih e (by rw [h1]; exact List.mem_append_left _ h4)
          exact ⟨this.1, Nat.le_succ_of_le this.2⟩
        · rcases List.mem_cons.1 h4 with rfl | h5
          · refine ⟨(ih e1 hm).1, ?_⟩
            show (e1.ws ++ [_]).length ≤ _
            rw [List.length_append, List.length_singleton]
            have := (ih e1 hm).2
            omega
          · have := ih e (by rw [h1]; exact List.mem_append_right _ (List.mem_cons_of_mem _ h5))
            exact ⟨this.1, Nat.le_succ_of_le this.2⟩
      · rw [h2] at he
        rcases List.mem_append.1 he with h4 | h4
        · exact ⟨(ih e h4).1, Nat.le_succ_of_le (ih e h4).2⟩
        · rw [List.mem_singleton.1 h4]
          exact ⟨look_path hl, by show 1 ≤ _; omega⟩
theorem nodup_le {α : Type} [DecidableEq α] : ∀ {l m : List α}, l.Nodup → (∀ x ∈ l, x ∈ m) → l.length ≤ m.length
  | [], _, _, _ => Nat.zero_le _
  | a :: l, m, h, hs => by
    obtain ⟨m1, m2, rfl⟩ := List.append_of_mem (hs a List.mem_cons_self)
    rw [List.nodup_cons] at h
    have := nodup_le (m := m1 ++ m2) h.2 (fun x hx => by
      have h1 := hs x (List.mem_cons_of_mem _ hx)
      rcases List.mem_append.1 h1 with h2 | h2
      · exact List.mem_append_left _ h2
      · rcases List.mem_cons.1 h2 with h3 | h3
        · exact absurd (h3 ▸ hx) h.1
        · exact List.mem_append_right _ h3)
    rw [List.length_append] at this ⊢
    rw [List.length_cons, List.length_cons]
    omega
theorem Steps.len {L : List Ent} {ats : List Att} {S : List Pl} (h : Steps L ats S) (hk : (S.map (·.k)).Nodup) : S.length ≤ L.length + 1 := by
  have h1 := nodup_le hk (m := pathsL L) (fun x hx => by
    obtain ⟨e, he, rfl⟩ := List.mem_map.1 hx
    exact (h.facts e he).1)
  rw [List.length_map] at h1
  have : (pathsL L).length = L.length + 1 := by unfold pathsL; rw [List.length_cons, List.length_map]
  omega

/-! ### the range -/
theorem ranges_block {H : Type} {P : Program} {k : TypeId} {R : Value → Option (DataW H × List MemPlace)} {b r n : Nat} {D : DataW H} {left : Lit → Bool} {cnt : Nat} {w W : World} (h : w.ranges P k R b r n D left cnt) (e1 : W.heap[b]? = w.heap[b]?) (e2 : W.heap[r]? = w.heap[r]?) : W.ranges P k R b r n D left cnt := by
  obtain ⟨es, clock, since, seen, c0, hb, F, hs, hD, hr, rest⟩ := h
  exact ⟨es, clock, since, seen, c0, e1.trans hb, F, hs, hD, e2.trans hr, rest⟩
theorem invKS (key : Value) (kl : Lit) (h : keyOf Tryz.prog 9 key = some kl) : ∃ x, key = Value.string x := by
  obtain ⟨x, rfl, _⟩ := Maps.keyOf_str Tryz.underlying9 h
  exact ⟨_, rfl⟩
theorem invP (v : Value) (y : DataW U × List MemPlace) (h : ptrElem v = some y) : ∃ c, v = ptr c := by
  unfold ptrElem at h
  split at h
  · exact ⟨some _, rfl⟩
  · exact ⟨none, rfl⟩
  · cases h
theorem place_entry {S : List Pl} {D : DataW U} (hh : ∀ x : T, Maps.has D (.string x) = (fnd S x).isSome) (hat0 : ∀ x e, fnd S x = some e → D.atKey (.string x) .nil = .lit (.int .i64 (e.b : Int)))
    {x : ByteArray} {c : Option Nat} {kl : Lit} {y : DataW U × List MemPlace} (hk : keyOf Tryz.prog 9 (.string x) = some kl) (hv : ptrElem (ptr c) = some y) (hat : ∀ zd, D.atKey kl zd = y.1) :
    ∃ e, kl = .string e.k ∧ e ∈ S ∧ c = some e.b ∧ x = bs e.k := by
  obtain ⟨x', ex, rfl, _⟩ := Maps.keyOf_str Tryz.underlying9 hk
  have hx : x = bs x' := by simpa [encStr, bs] using ex
  have h1 := has_true_of_atKey hat
  rw [hh] at h1
  obtain ⟨e, he⟩ := Option.isSome_iff_exists.1 h1
  obtain ⟨hm, hke⟩ := fnd_mem he
  have h2 := hat0 _ e he
  rw [hat] at h2
  have h3 : ptrElem (ptr c) = some (.lit (.int .i64 ((e.b : Nat) : Int)), y.2) := by rw [hv, ← h2]
  have h4 := ptrElem_inv h3
  refine ⟨e, by rw [hke], hm, ?_, by rw [hx, hke]⟩
  cases c with
  | none => cases h4
  | some b =>
    unfold ptr at h4
    simp at h4
    rw [h4]
theorem step_key {S : List Pl} (hk : (S.map (·.k)).Nodup) {left : Lit → Bool} {e : Pl} (he : e ∈ S) (hl : left (.string e.k) = true) :
    (S.filter fun c => !(left (.string c.k) && !(Lit.string c.k).sameKey (.string e.k))).Perm (S.filter (fun c => !left (.string c.k)) ++ [e]) := by
  have h1 := filter_split (fun c : Pl => !left (.string c.k)) (fun c => !(left (.string c.k) && !(Lit.string c.k).sameKey (.string e.k))) (fun c => decide (c.k = e.k)) S (fun c _ => by
    rw [sameKey_str]
    cases left (.string c.k) <;> cases decide (c.k = e.k) <;> rfl) (fun c _ h => by
    have h2 := of_decide_eq_true h.2
    have h3 := h.1
    rw [h2, hl] at h3
    cases h3)
  have h2 : S.filter (fun c => decide (c.k = e.k)) = [e] := by
    clear h1 hl
    induction S with
    | nil => exact absurd he List.not_mem_nil
    | cons a S ih =>
      rw [List.map_cons, List.nodup_cons] at hk
      rw [List.filter_cons]
      rcases List.mem_cons.1 he with rfl | h3
      · rw [if_pos (decide_eq_true rfl)]
        have : S.filter (fun c => decide (c.k = e.k)) = [] := by
          rw [List.filter_eq_nil_iff]
          intro c hc h4
          exact hk.1 (List.mem_map.2 ⟨c, hc, of_decide_eq_true h4⟩)
        rw [this]
      · rw [if_neg (fun h4 => hk.1 (List.mem_map.2 ⟨e, h3, (of_decide_eq_true h4).symm⟩)), ih hk.2 h3]
  rw [h2] at h1
  exact h1

end Go.Proofs.YtgfpdaaofhanoaaGreatDoor.Wwk
