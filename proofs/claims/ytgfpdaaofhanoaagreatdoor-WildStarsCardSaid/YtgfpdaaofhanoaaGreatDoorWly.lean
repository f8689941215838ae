/- The walks that the levels stand for. -/
import Derived.Test.YtgfpdaaofhanoaaGreatDoorWlx
namespace Go.Proofs.YtgfpdaaofhanoaaGreatDoor.Wly
open Go.RowKit Go.Maps Go.Proofs.YtgfpdaaofhanoaaGreatDoor.Pth Go.Proofs.YtgfpdaaofhanoaaGreatDoor.Strs Go.Proofs.YtgfpdaaofhanoaaGreatDoor.Vfs Go.Proofs.YtgfpdaaofhanoaaGreatDoor.Vmap Go.Proofs.YtgfpdaaofhanoaaGreatDoor.Vfind Go.Proofs.YtgfpdaaofhanoaaGreatDoor.Vlook Go.Proofs.YtgfpdaaofhanoaaGreatDoor.Vperm Go.Proofs.YtgfpdaaofhanoaaGreatDoor.Wdp Go.Proofs.YtgfpdaaofhanoaaGreatDoor.Wnm Go.Proofs.YtgfpdaaofhanoaaGreatDoor.Wno Go.Proofs.YtgfpdaaofhanoaaGreatDoor.Wnn Go.Proofs.YtgfpdaaofhanoaaGreatDoor.Wlv Go.Proofs.YtgfpdaaofhanoaaGreatDoor.Wrc Go.Proofs.YtgfpdaaofhanoaaGreatDoor.Wwk Go.Proofs.YtgfpdaaofhanoaaGreatDoor.Wwt Go.Proofs.YtgfpdaaofhanoaaGreatDoor.Wwa Go.Proofs.YtgfpdaaofhanoaaGreatDoor.Wlx

/-! ### lists -/
theorem flatMap_same {α β : Type} {f g : α → List β} : ∀ {l : List α}, (∀ e ∈ l, f e = g e) → l.flatMap f = l.flatMap g
  | [], _ => rfl
  | a :: l, h => by rw [List.flatMap_cons, List.flatMap_cons, h a List.mem_cons_self, flatMap_same fun e he => h e (List.mem_cons_of_mem _ he)]
theorem flatMap_perm {α β : Type} {f g : α → List β} : ∀ {l : List α}, (∀ e ∈ l, (f e).Perm (g e)) → (l.flatMap f).Perm (l.flatMap g)
  | [], _ => List.Perm.refl _
  | a :: l, h => by
    rw [List.flatMap_cons, List.flatMap_cons]
    exact (h a List.mem_cons_self).append (flatMap_perm fun e he => h e (List.mem_cons_of_mem _ he))
theorem flatMap_none {α β : Type} (l : List α) : l.flatMap (fun _ => ([] : List β)) = [] := by
  induction l with
  | nil => rfl
  | cons a l ih => rw [List.flatMap_cons, ih]; rfl
theorem flatMap_two {α β : Type} (f g : α → List β) : ∀ l : List α, (l.flatMap fun x => f x ++ g x).Perm (l.flatMap f ++ l.flatMap g)
  | [] => List.Perm.refl _
  | a :: l => by
    rw [List.flatMap_cons, List.flatMap_cons, List.flatMap_cons]
    refine ((flatMap_two f g l).append_left _).trans ?_
    rw [List.append_assoc, List.append_assoc]
    refine List.Perm.append_left _ ?_
    rw [← List.append_assoc, ← List.append_assoc]
    exact List.Perm.append_right _ List.perm_append_comm
theorem flatMap_swap {α β γ : Type} (h : α → β → List γ) : ∀ (l : List α) (m : List β), (l.flatMap fun x => m.flatMap fun y => h x y).Perm (m.flatMap fun y => l.flatMap fun x => h x y)
  | [], m => by rw [List.flatMap_nil]; exact (flatMap_none m) ▸ List.Perm.refl _
  | a :: l, m => by
    rw [List.flatMap_cons]
    refine (List.Perm.append_left _ (flatMap_swap h l m)).trans ?_
    exact (flatMap_two (h a) (fun y => l.flatMap fun x => h x y) m).symm

/-! ### walks -/
def stepX (L : List Ent) (k : T) (t : List T) (x : T) : List (T × List T) := match lookN L (bs (k ++ 47 :: x)) with
  | none => []
  | some nd => [(nd.p.data.toList, t ++ [x])]
def stepW (L : List Ent) (st : Pt) (k : T) (t : List T) : List (T × List T) := if dirP L k then (namesP L st (bs k)).flatMap (stepX L k t) else []
/-- where the steps lead to, each by which names -/
def walksP (L : List Ent) (sts : List Pt) : List (T × List T) := sts.foldl (fun W st => W.flatMap fun y => stepW L st y.1 y.2) [([47], [])]
theorem walksP_snoc (L : List Ent) (sts : List Pt) (st : Pt) : walksP L (sts ++ [st]) = (walksP L sts).flatMap fun y => stepW L st y.1 y.2 := by
  unfold walksP
  rw [List.foldl_append]; rfl
structure Level (L : List Ent) (w : World) (n : Nat) (sts : List Pt) (S : List Pl) (F : Nat → List (List T)) : Prop where
  keys : ∀ e ∈ S, e.k ∈ pathsL L
  dirs : ∀ e ∈ S, e.d = dirP L e.k
  tree : ∀ e ∈ S, TreeIs w n e.b (F e.b)
  all : (S.flatMap fun e => (F e.b).map fun t => (e.k, t)).Perm (walksP L sts)
def nextF (S' : List Pl) (F : Nat → List (List T)) (b : Nat) : List (List T) := match S'.find? fun e => decide (e.b = b) with
  | some e => e.ws.flatMap fun y => (F y.1).map (· ++ [y.2])
  | none => []
theorem apart_uniq {R : Pl → Pl → Prop} (hR : ∀ a b, R a b → a.b ≠ b.b) : ∀ {S : List Pl}, S.Pairwise R → ∀ a ∈ S, ∀ b ∈ S, a.b = b.b → a = b
  | x :: S, h, a, ha, b, hb, e => by
    obtain ⟨h1, h2⟩ := List.pairwise_cons.1 h
    rcases List.mem_cons.1 ha with rfl | h3
    · rcases List.mem_cons.1 hb with rfl | h4
      · rfl
      · exact absurd e (hR _ _ (h1 b h4))
    · rcases List.mem_cons.1 hb with rfl | h4
      · exact absurd e.symm (hR _ _ (h1 a h3))
      · exact apart_uniq hR h2 a h3 b h4 e
theorem nextF_at {w : World} {lo m : Nat} {S' : List Pl} (h : LevIs w lo m S') (F : Nat → List (List T)) {e : Pl} (he : e ∈ S') : nextF S' F e.b = e.ws.flatMap fun y => (F y.1).map (· ++ [y.2]) := by
  unfold nextF
  have hf : S'.find? (fun c => decide (c.b = e.b)) = some e := find_uniq he (decide_eq_true rfl) fun b hb h1 => apart_uniq (fun _ _ h2 => h2.1) h.apart b hb e he (of_decide_eq_true h1)
  rw [hf]
theorem got_mem {L : List Ent} {ats : List Att} {z : T × Wnn.Way} (h : z ∈ got L ats) : ∃ a ∈ ats, z.2 = a.2 := by
  obtain ⟨a, ha, hz⟩ := List.mem_flatMap.1 h
  refine ⟨a, ha, ?_⟩
  cases hl : lookN L (bs (a.1 ++ 47 :: a.2.2)) with
  | none => rw [hl] at hz; exact absurd hz List.not_mem_nil
  | some nd => rw [hl] at hz; rw [List.mem_singleton.1 hz]
theorem atts_mem {L : List Ent} {st : Pt} {ks : List Pl} {a : Att} (h : a ∈ atts L st ks) : ∃ e ∈ ks, a.2.1 = e.b := by
  obtain ⟨e, he, ha⟩ := List.mem_flatMap.1 h
  refine ⟨e, he, ?_⟩
  unfold attsOf at ha
  split at ha
  · obtain ⟨x, _, rfl⟩ := List.mem_map.1 ha; rfl
  · exact absurd ha List.not_mem_nil
theorem step_one (L : List Ent) (st : Pt) (F : Nat → List (List T)) (e : Pl) (hd : e.d = dirP L e.k) :
    ((got L (attsOf L st e)).flatMap fun z => (F z.2.1).map fun t => (z.1, t ++ [z.2.2])).Perm ((F e.b).flatMap fun t => stepW L st e.k t) := by
  unfold attsOf stepW
  rw [hd]
  cases dirP L e.k with
  | false =>
    simp only [Bool.false_eq_true, if_false]
    rw [flatMap_none]; exact List.Perm.refl _
  | true =>
    simp only [if_true]
    have h1 : ((got L ((namesP L st (bs e.k)).map fun x => (e.k, e.b, x))).flatMap fun z => (F z.2.1).map fun t => (z.1, t ++ [z.2.2])) = (namesP L st (bs e.k)).flatMap fun x => (F e.b).flatMap fun t => stepX L e.k t x := by
      unfold got
      rw [List.flatMap_map, List.flatMap_assoc]
      refine flatMap_same fun x _ => ?_
      unfold stepX
      cases lookN L (bs (e.k ++ 47 :: x)) with
      | none =>
        show ([] : List _) = _
        exact (flatMap_none _).symm
      | some nd =>
        show (F e.b).map (fun t => (nd.p.data.toList, t ++ [x])) ++ [] = _
        rw [List.append_nil]
        induction F e.b with
        | nil => rfl
        | cons t r ih => rw [List.map_cons, List.flatMap_cons, ih]; rfl
    rw [h1]
    exact flatMap_swap _ _ _
theorem dir_root {L : List Ent} (hroot : ∀ e ∈ L, flatL e.pt ≠ [47]) : dirP L [47] = true := by
  unfold dirP
  have : L.find? (fun e => decide (flatL e.pt = [47])) = none := by
    rw [List.find?_eq_none]
    intro e he h1
    exact hroot e he (of_decide_eq_true h1)
  rw [this]
theorem level_start {L : List Ent} {w : World} {lo m b : Nat} (hroot : ∀ e ∈ L, flatL e.pt ≠ [47]) (h : LevIs w lo m [top b]) : Level L w 0 [] [top b] (fun _ => [[]]) := by
  have hb : w.heap[b]? = some (.cells #[.bool true, .slice none 0 0] 125 (0, 0)) := (h.pl (top b) List.mem_cons_self).1
  refine ⟨fun e he => ?_, fun e he => ?_, fun e he => ?_, List.Perm.refl _⟩
  · rw [List.mem_singleton.1 he]; exact List.mem_cons_self
  · rw [List.mem_singleton.1 he]; exact (dir_root hroot).symm
  · rw [List.mem_singleton.1 he]
    exact ⟨(Array.getElem?_eq_some_iff.1 hb).1, ⟨none, 0, by show w.cell? ⟨b, 1, none⟩ = _; rw [Lib.cell_of_heap hb]; rfl⟩, rfl⟩
theorem level_step {L : List Ent} (hd : ∀ s nd, lookN L s = some nd → nd.d = dirP L nd.p.data.toList) {w W : World} {n lo m : Nat} {sts : List Pt} {st : Pt} {S S' ks : List Pl} {F : Nat → List (List T)}
    (h : Level L w n sts S F) (hs : Wwk.Steps L (atts L st ks) S') (hk : ks.Perm S) (hl : LevIs W lo m S') (ht : ∀ b ts, TreeIs w n b ts → TreeIs W n b ts) : Level L W (n + 1) (sts ++ [st]) S' (nextF S' F) := by
  refine ⟨fun e he => (hs.facts e he).1, Steps.dirs hd hs, fun e he => ?_, ?_⟩
  · obtain ⟨p1, p2, _⟩ := hl.pl e he
    have hne := Steps.ways hs e he
    obtain ⟨A, c, hv, hw⟩ := ways_of_own p2 hne
    refine ⟨(Array.getElem?_eq_some_iff.1 p1).1, A, c, e.ws, F, ?_, hw, hne, fun y hy => ?_, nextF_at hl F he⟩
    · rw [Lib.cell_of_heap p1, ← hv]; rfl
    · have h1 : (e.k, y) ∈ ends S' := List.mem_flatMap.2 ⟨e, he, List.mem_map.2 ⟨y, hy, rfl⟩⟩
      obtain ⟨a, ha, h2⟩ := got_mem ((Steps.ends hs).mem_iff.1 h1)
      obtain ⟨e0, he0, h3⟩ := atts_mem ha
      have h4 : y.1 = e0.b := by rw [← h3, ← h2]
      rw [h4]
      exact ht _ _ (h.tree e0 (hk.mem_iff.1 he0))
  · rw [walksP_snoc]
    have e1 : (S'.flatMap fun e => (nextF S' F e.b).map fun t => (e.k, t)) = (ends S').flatMap fun z => (F z.2.1).map fun t => (z.1, t ++ [z.2.2]) := by
      unfold ends
      rw [List.flatMap_assoc]
      refine flatMap_same fun e he => ?_
      rw [nextF_at hl F he, List.map_flatMap, List.flatMap_map]
      refine flatMap_same fun y _ => ?_
      rw [List.map_map]; rfl
    rw [e1]
    refine ((Steps.ends hs).flatMap_right _).trans ?_
    have e2 : ((got L (atts L st ks)).flatMap fun z => (F z.2.1).map fun t => (z.1, t ++ [z.2.2])) = ks.flatMap fun e => (got L (attsOf L st e)).flatMap fun z => (F z.2.1).map fun t => (z.1, t ++ [z.2.2]) := by
      unfold got atts
      rw [List.flatMap_assoc, List.flatMap_assoc]
      refine flatMap_same fun e _ => ?_
      rw [List.flatMap_assoc]
    rw [e2]
    refine (hk.flatMap_right _).trans ?_
    refine (flatMap_perm (g := fun e => (F e.b).flatMap fun t => stepW L st e.k t) fun e he => step_one L st F e (h.dirs e he)).trans ?_
    have e3 : (S.flatMap fun e => (F e.b).flatMap fun t => stepW L st e.k t) = (S.flatMap fun e => (F e.b).map fun t => (e.k, t)).flatMap fun y => stepW L st y.1 y.2 := by
      rw [List.flatMap_assoc]
      refine flatMap_same fun e _ => ?_
      rw [List.flatMap_map]
    rw [e3]
    exact h.all.flatMap_right _

end Go.Proofs.YtgfpdaaofhanoaaGreatDoor.Wly
