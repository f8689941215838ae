/- The document's Look and the program's (no program). -/
import Derived.Test.YtghfmbmdfojapaaGreatDoorWputJ
import Derived.Test.YtghfmbmdfojapaaGreatDoorVlookJ
import Derived.Test.YtghfmbmdfojapaaGreatDoorWlistJ
import Derived.Test.YtghfmbmdfojapaaGreatDoorWexJ
import Derived.Test.YtghfmbmdfojapaaGreatDoorPrabsJ
namespace Go.Proofs.YtghfmbmdfojapaaGreatDoor.Wlink
open Go.Proofs.YtghfmbmdfojapaaGreatDoor.Pth Go.Proofs.YtghfmbmdfojapaaGreatDoor.Vfs Go.Proofs.YtghfmbmdfojapaaGreatDoor.Vmap Go.Proofs.YtghfmbmdfojapaaGreatDoor.Vnames Go.Proofs.YtghfmbmdfojapaaGreatDoor.Vnew Go.Proofs.YtghfmbmdfojapaaGreatDoor.Vfind Go.Proofs.YtghfmbmdfojapaaGreatDoor.Vall Go.Proofs.YtghfmbmdfojapaaGreatDoor.Wfind Go.Proofs.YtghfmbmdfojapaaGreatDoor.Wfs Go.Proofs.YtghfmbmdfojapaaGreatDoor.Wlook

def rawN (q : Nd) : Raw := ⟨q.p, q.d, q.t⟩
/-- both look alike -/
theorem look_both {L : List Ent} (hi : Vfs.Inv L) (s : ByteArray) : lk (rows L) s = (lookN L s).map rawN := by
  unfold lk lookN
  by_cases h0 : s.size = 0
  · rw [if_pos h0, if_pos h0]; rfl
  · rw [if_neg h0, if_neg h0]
    have hT : bs (absL s.data.toList) = absT (partsOf s) := by
      rcases abs_text s with h1 | ⟨h1, _⟩
      · exact h1
      · exfalso
        have hd : s.data.toList ≠ [] := fun e => h0 (by rw [← len_data, e]; rfl)
        rw [absL_some _ hd] at h1
        have := congrArg ByteArray.size h1
        rw [size_bs, show (⟨#[]⟩ : ByteArray).size = 0 from rfl] at this
        unfold orSlash at this
        split at this <;> simp at this
    rw [hT]
    have hg := partsOf_good s
    generalize partsOf s = p at *
    unfold nodeAt
    by_cases hp : p = []
    · subst hp
      rw [if_pos rfl]
      rfl
    · rw [if_neg hp, absT_ne hp]
      cases ha : at_ L p with
      | none =>
        have := ix_no hi hg ha
        rcases ix_find (rows L) (pathB p) with ⟨h1, _⟩ | ⟨k, x, _, _, h3⟩
        · rw [h1]; rfl
        · rw [this] at h3; omega
      | some e =>
        obtain ⟨k, hk, hx, hix⟩ := ix_yes hi hg ha
        rcases ix_find (rows L) (pathB p) with ⟨_, h2⟩ | ⟨k', x, h1, h2, h3⟩
        · rw [hix] at h2; omega
        · rw [hix] at h3
          have hkk : k' = k + 1 := by omega
          subst hkk
          rw [h2]
          have hxe : x = rawOf e := Option.some.inj (h1.symm.trans hx)
          rw [hxe]; rfl

end Go.Proofs.YtghfmbmdfojapaaGreatDoor.Wlink

/- The document's List and the program's (no program). -/
namespace Go.Proofs.YtghfmbmdfojapaaGreatDoor.Wlinks
open Go.Proofs.YtghfmbmdfojapaaGreatDoor.Pth Go.Proofs.YtghfmbmdfojapaaGreatDoor.Srt Go.Proofs.YtghfmbmdfojapaaGreatDoor.Vfs Go.Proofs.YtghfmbmdfojapaaGreatDoor.Vmap Go.Proofs.YtghfmbmdfojapaaGreatDoor.Vnames Go.Proofs.YtghfmbmdfojapaaGreatDoor.Vnew Go.Proofs.YtghfmbmdfojapaaGreatDoor.Vfind Go.Proofs.YtghfmbmdfojapaaGreatDoor.Vlook Go.Proofs.YtghfmbmdfojapaaGreatDoor.Vall Go.Proofs.YtghfmbmdfojapaaGreatDoor.Wfind Go.Proofs.YtghfmbmdfojapaaGreatDoor.Wfs Go.Proofs.YtghfmbmdfojapaaGreatDoor.Wlook Go.Proofs.YtghfmbmdfojapaaGreatDoor.Wlist Go.Proofs.YtghfmbmdfojapaaGreatDoor.Wlink Go.Proofs.YtghfmbmdfojapaaGreatDoor.Wsort

theorem lastB_slash (x : List UInt8) (h : 47 ∉ x) : ∀ a : List UInt8, lastB 47 (a ++ 47 :: x) = a.length + 1
  | [] => by
    rw [List.nil_append, lastB_cons, lastB_none 47 x h]; rfl
  | b :: a => by
    rw [List.cons_append, lastB_cons, lastB_slash x h a, if_neg (Nat.succ_ne_zero _)]; rfl
theorem way_path (r : Wy) (x : List UInt8) (h : 47 ∉ x) : wayB (pathB (r ++ [x])) = (flatL r).length + 1 := by
  unfold wayB pathB
  rw [data_bs, flatL_app, flatL_one]
  exact lastB_slash x h _
theorem data_inj {a b : ByteArray} (h : a.data.toList = b.data.toList) : a = b := by
  rw [← Pth.bs_data a, ← Pth.bs_data b]
  show Pth.bs _ = Pth.bs _
  rw [h]
theorem notdir_path (r : Wy) (x : List UInt8) (h : 47 ∉ x) : notdirB (pathB (r ++ [x])) = bs x := by
  apply data_inj
  rw [notdirB, drop_data, way_path r x h, data_bs]
  unfold pathB
  rw [data_bs, flatL_app, flatL_one, List.drop_append, List.drop_eq_nil_of_le (by omega)]
  simp
theorem up_path (r : Wy) (x : List UInt8) (h : 47 ∉ x) : upOf (pathB (r ++ [x])) = absT r := by
  have he : (pathB (r ++ [x])).extract 0 (wayB (pathB (r ++ [x])) - 1) = bs (flatL r) := by
    apply data_inj
    rw [take_data, way_path r x h, data_bs]
    unfold pathB
    rw [data_bs, flatL_app, Nat.add_sub_cancel, List.take_left' rfl]
  unfold upOf
  rw [he, size_bs]
  by_cases h0 : r = []
  · subst h0; rfl
  · have : (flatL r).length ≠ 0 := fun e => h0 (flatL_nil r (List.eq_nil_of_length_eq_zero e))
    rw [if_neg this, absT_ne h0]; rfl
theorem absT_inj {p q : Wy} (hp : ∀ x ∈ p, Pth.Good x) (hq : ∀ x ∈ q, Pth.Good x) (h : absT p = absT q) : p = q := by
  by_cases h0 : p = []
  · by_cases h1 : q = []
    · rw [h0, h1]
    · rw [absT_ne h1, h0] at h
      exact absurd h (root_other hq)
  · by_cases h1 : q = []
    · rw [absT_ne h0, h1] at h
      exact absurd h.symm (root_other hp)
    · rw [absT_ne h0, absT_ne h1] at h
      exact pathB_inj hp hq h
theorem filterMap_same {α β : Type} {f g : α → Option β} : ∀ {l : List α}, (∀ a ∈ l, f a = g a) → l.filterMap f = l.filterMap g
  | [], _ => rfl
  | a :: l, h => by
    rw [List.filterMap_cons, List.filterMap_cons, h a List.mem_cons_self, filterMap_same fun b hb => h b (List.mem_cons_of_mem _ hb)]
theorem kids_both {L : List Ent} (hi : Vfs.Inv L) {p : Wy} (hp : ∀ x ∈ p, Pth.Good x) : kidsR (L.map rawOf) (absT p) = (kids L p).map bs := by
  unfold kidsR kids
  rw [List.filterMap_map, List.map_filterMap]
  refine filterMap_same fun e he => ?_
  have hne := hi.ne e he
  obtain ⟨r, x, hrx⟩ : ∃ r x, e.pt = r ++ [x] := ⟨_, _, (List.dropLast_concat_getLast hne).symm⟩
  have hg := hi.good e he
  have hx : 47 ∉ x := (hg x (by rw [hrx]; simp)).2.2.2
  have hr : ∀ y ∈ r, Pth.Good y := fun y hy => hg y (by rw [hrx]; exact List.mem_append_left _ hy)
  have e1 : (rawOf e).path = pathB (r ++ [x]) := by show pathB e.pt = _; rw [hrx]
  show (if upOf (rawOf e).path = absT p then some (notdirB (rawOf e).path) else none) = _
  rw [e1, up_path r x hx, notdir_path r x hx, hrx]
  by_cases h : r = p
  · subst h
    rw [if_pos rfl, if_pos ⟨by simp, List.dropLast_concat⟩, List.getLast?_concat]; rfl
  · rw [if_neg (fun e2 => h (absT_inj hr hp e2)), if_neg (fun e2 => h (by rw [← e2.2, List.dropLast_concat]))]; rfl
/-- both list alike -/
theorem list_both {L : List Ent} (hi : Vfs.Inv L) (s : ByteArray) : listR (rows L) s = (listN L s).map bs := by
  unfold listR listN
  rw [look_both hi s]
  cases hq : lookN L s with
  | none => rfl
  | some q =>
    show (if q.d = true then sortB (kidsR (L.map rawOf) q.p) else []) = (if q.d = true then sortT (kids L (partsOf s)) else []).map bs
    cases hd : q.d with
    | false => rfl
    | true =>
      have hp : q.p = absT (partsOf s) := by
        unfold lookN at hq
        split at hq
        · cases hq
        · unfold nodeAt at hq
          split at hq
          · rename_i h1
            rw [h1, ← Option.some.inj hq]; rfl
          · rename_i h1
            cases ha : at_ L (partsOf s) with
            | none => rw [ha] at hq; cases hq
            | some e =>
              rw [ha] at hq
              rw [← Option.some.inj hq, absT_ne h1]
              show pathB e.pt = _
              rw [(at_mem ha).2]
      rw [if_pos rfl, if_pos rfl, hp, kids_both hi (partsOf_good s)]
      show (sortT (((kids L (partsOf s)).map bs).map fun x => x.data.toList)).map Pth.bs = _
      rw [List.map_map]
      have : ((fun x : ByteArray => x.data.toList) ∘ bs) = (id : List UInt8 → List UInt8) := rfl
      rw [this, List.map_id]

end Go.Proofs.YtghfmbmdfojapaaGreatDoor.Wlinks

/- Walks by joined names: a step that takes several plain parts is their steps one by one (no program). -/
namespace Go.Proofs.YtghfmbmdfojapaaGreatDoor.Wba
open Go.RowKit Go.Proofs.YtghfmbmdfojapaaGreatDoor.Pth Go.Proofs.YtghfmbmdfojapaaGreatDoor.Strs Go.Proofs.YtghfmbmdfojapaaGreatDoor.Vfs Go.Proofs.YtghfmbmdfojapaaGreatDoor.Vmap Go.Proofs.YtghfmbmdfojapaaGreatDoor.Vnames Go.Proofs.YtghfmbmdfojapaaGreatDoor.Vnew Go.Proofs.YtghfmbmdfojapaaGreatDoor.Vfind Go.Proofs.YtghfmbmdfojapaaGreatDoor.Vlook Go.Proofs.YtghfmbmdfojapaaGreatDoor.Wdp Go.Proofs.YtghfmbmdfojapaaGreatDoor.Wst Go.Proofs.YtghfmbmdfojapaaGreatDoor.Wsp Go.Proofs.YtghfmbmdfojapaaGreatDoor.Wnm Go.Proofs.YtghfmbmdfojapaaGreatDoor.Wlx Go.Proofs.YtghfmbmdfojapaaGreatDoor.Wly Go.Proofs.YtghfmbmdfojapaaGreatDoor.Wex

/-! ### texts cut at slashes -/
theorem split_app : ∀ (a b : List UInt8), splitL (a ++ 47 :: b) = splitL a ++ splitL b
  | [], b => by rw [List.nil_append, splitL_slash]; rfl
  | c :: a, b => by
    by_cases h : c = 47
    · subst h
      rw [List.cons_append, splitL_slash, splitL_slash, split_app a b]; rfl
    · obtain ⟨p, ps, h1, h2⟩ := splitL_cons c a h
      obtain ⟨q, qs, h3, h4⟩ := splitL_cons c (a ++ 47 :: b) h
      rw [split_app a b, h1] at h3
      cases h3
      rw [List.cons_append, h4, h2]; rfl
theorem pile_app (xs ps qs : List (List UInt8)) : pileL xs (ps ++ qs) = pileL (pileL xs ps) qs := List.foldl_append
theorem parts_app (a x : List UInt8) : partsOf (bs (a ++ 47 :: x)) = pileL (partsOf (bs a)) (splitL x) := by
  unfold partsOf
  rw [data_bs, data_bs, split_app, pile_app]
theorem parts_slash (x : List UInt8) : partsOf (bs (47 :: x)) = pileL [] (splitL x) := by
  unfold partsOf
  rw [data_bs, splitL_slash, pile_nil]
theorem parts_path {p : Wy} (h : ∀ x ∈ p, Pth.Good x) : partsOf (pathB p) = p := by
  by_cases h0 : p = []
  · subst h0; rfl
  · unfold partsOf pathB
    rw [data_bs, split_flat0 p (fun x hx => (h x hx).2.2.2) h0, pile_nil, pileL_stays p [] h]; rfl

/-! ### the joined level -/
abbrev J := T × T × Bool
def addJ (W : T) (e : Bool) (x : T) : T := if e then x else W ++ 47 :: x
def stepXJ (L : List Ent) (z : J) (x : T) : List J := match lookN L (bs (z.1 ++ 47 :: x)) with
  | none => []
  | some nd => [(nd.p.data.toList, addJ z.2.1 z.2.2 x, false)]
def stepJ (L : List Ent) (st : Pt) (z : J) : List J := if dirP L z.1 then (namesP L st (bs z.1)).flatMap (stepXJ L z) else []
def walksJ (L : List Ent) (S : List J) (sts : List Pt) : List J := sts.foldl (fun S st => S.flatMap (stepJ L st)) S
theorem walksJ_nil (L : List Ent) (S : List J) : walksJ L S [] = S := rfl
theorem walksJ_cons (L : List Ent) (S : List J) (st : Pt) (r : List Pt) : walksJ L S (st :: r) = walksJ L (S.flatMap (stepJ L st)) r := rfl
theorem walksJ_app (L : List Ent) (S : List J) (a b : List Pt) : walksJ L S (a ++ b) = walksJ L (walksJ L S a) b := List.foldl_append
theorem walksJ_none (L : List Ent) : ∀ r : List Pt, walksJ L [] r = []
  | [] => rfl
  | _ :: r => walksJ_none L r
theorem walksJ_flat (L : List Ent) : ∀ (r : List Pt) (S : List J), walksJ L S r = S.flatMap fun z => walksJ L [z] r
  | [], S => by
    have : (fun z : J => walksJ L [z] []) = fun z => [z] := rfl
    rw [this, List.flatMap_singleton']; rfl
  | st :: r, S => by
    rw [walksJ_cons, walksJ_flat L r, List.flatMap_assoc]
    refine congrArg (fun f => List.flatMap f S) (funext fun z => ?_)
    rw [walksJ_cons, walksJ_flat L r ([z].flatMap _), List.flatMap_singleton]

def phi (y : T × List T) : J := (y.1, Lib.join y.2 [47], y.2.isEmpty)
theorem joinTail_snoc (sep : List UInt8) (r : List T) (x : T) : Lib.joinTail sep (r ++ [x]) = Lib.joinTail sep r ++ (sep ++ x) := by
  simp [Lib.joinTail]
theorem join_snoc (t : List T) (x : T) : Lib.join (t ++ [x]) [47] = addJ (Lib.join t [47]) t.isEmpty x := by
  cases t with
  | nil => exact Lib.join_one x [47]
  | cons y r =>
    rw [List.cons_append, Lib.join_cons, Lib.join_cons, joinTail_snoc]
    show _ = (y ++ Lib.joinTail [47] r) ++ 47 :: x
    rw [List.append_assoc]; rfl
theorem phi_stepX (L : List Ent) (k : T) (t : List T) (x : T) : (stepX L k t x).map phi = stepXJ L (phi (k, t)) x := by
  unfold stepX stepXJ
  show List.map phi (match lookN L (bs (k ++ 47 :: x)) with
  | none => []
  | some nd => [(nd.p.data.toList, t ++ [x])]) = match lookN L (bs (k ++ 47 :: x)) with
  | none => []
  | some nd => [(nd.p.data.toList, addJ (Lib.join t [47]) t.isEmpty x, false)]
  cases lookN L (bs (k ++ 47 :: x)) with
  | none => rfl
  | some nd =>
    show [phi (nd.p.data.toList, t ++ [x])] = _
    unfold phi
    rw [join_snoc]
    simp
theorem phi_stepW (L : List Ent) (st : Pt) (k : T) (t : List T) : (stepW L st k t).map phi = stepJ L st (phi (k, t)) := by
  unfold stepW stepJ
  show List.map phi (if dirP L k then _ else []) = if dirP L k then _ else []
  split
  · rw [List.map_flatMap]
    exact congrArg (fun f => List.flatMap f _) (funext fun x => phi_stepX L k t x)
  · rfl
theorem phi_walks (L : List Ent) (sts : List Pt) : (walksP L sts).map phi = walksJ L [([47], [], true)] sts := by
  have h : ∀ (sts : List Pt) (S : List (T × List T)), (sts.foldl (fun W st => W.flatMap fun y => stepW L st y.1 y.2) S).map phi = walksJ L (S.map phi) sts := by
    intro sts
    induction sts with
    | nil => intro S; rfl
    | cons st r ih =>
      intro S
      show (r.foldl _ (S.flatMap fun y => stepW L st y.1 y.2)).map phi = walksJ L ((S.map phi).flatMap (stepJ L st)) r
      rw [ih, List.map_flatMap, List.flatMap_map]
      exact congrArg (fun f => walksJ L (List.flatMap f S) r) (funext fun y => phi_stepW L st y.1 y.2)
  exact h sts _

/-! ### where one stands -/
structure Ok (L : List Ent) (z : J) : Prop where
  node : ∃ p nd, nodeAt L p = some nd ∧ nd.p.data.toList = z.1 ∧ partsOf (bs z.1) = p ∧ partsOf (bs (47 :: z.2.1)) = p ∧ nd.d = dirP L z.1
  start : z.2.2 = true → z.2.1 = [] ∧ z.1 = [47]
theorem size_ne (x : List UInt8) (h : x ≠ []) : (bs x).size ≠ 0 := by
  rw [size_bs]
  exact fun e => h (List.eq_nil_of_length_eq_zero e)
theorem look_at {L : List Ent} (x : List UInt8) (h : x ≠ []) : lookN L (bs x) = nodeAt L (partsOf (bs x)) := by
  unfold lookN; rw [if_neg (size_ne x h)]
theorem parts_good (x : List UInt8) : ∀ y ∈ partsOf (bs x), Pth.Good y := partsOf_good (bs x)
theorem node_path {L : List Ent} {p : Wy} {nd : Nd} (hp : ∀ x ∈ p, Pth.Good x) (h : nodeAt L p = some nd) : partsOf nd.p = p := by
  unfold nodeAt at h
  split at h
  · rename_i h0
    cases h
    rw [h0]; rfl
  · obtain ⟨e, he, rfl⟩ := Option.map_eq_some_iff.1 h
    show partsOf (pathB e.pt) = p
    rw [(at_mem he).2]
    exact parts_path hp
theorem ok_start {L : List Ent} (hf : FsOk L) (e : Bool) : Ok L ([47], [], e) :=
  ⟨⟨[], ndRoot, rfl, rfl, rfl, rfl, by
    have h := hf.dirs (bs [47]) ndRoot rfl
    exact h⟩, fun _ => ⟨rfl, rfl⟩⟩
/-- Look from a place on -/
theorem look_on {L : List Ent} {z : J} (_ : Ok L z) (x : T) : lookN L (bs (z.1 ++ 47 :: x)) = nodeAt L (pileL (partsOf (bs z.1)) (splitL x)) := by
  rw [look_at _ (by simp), parts_app]
theorem ok_next {L : List Ent} (hf : FsOk L) {z z' : J} (h : Ok L z) {x : T} (hz : z' ∈ stepXJ L z x) : Ok L z' ∧ z'.2.2 = false ∧ partsOf (bs z'.1) = pileL (partsOf (bs z.1)) (splitL x) := by
  unfold stepXJ at hz
  cases hl : lookN L (bs (z.1 ++ 47 :: x)) with
  | none => rw [hl] at hz; cases hz
  | some nd =>
    rw [hl] at hz
    rw [List.mem_singleton.1 hz]
    have hd := hf.dirs _ _ hl
    rw [look_on h x] at hl
    obtain ⟨p, nd0, h1, h2, h3, h4, h5⟩ := h.node
    have hg : ∀ y ∈ pileL (partsOf (bs z.1)) (splitL x), Pth.Good y := by
      rw [← parts_app]; exact parts_good _
    have hpp : partsOf (bs nd.p.data.toList) = pileL (partsOf (bs z.1)) (splitL x) := node_path hg hl
    refine ⟨⟨⟨_, nd, hl, rfl, hpp, ?_, hd⟩, fun e => by cases e⟩, rfl, hpp⟩
    show partsOf (bs (47 :: addJ z.2.1 z.2.2 x)) = _
    unfold addJ
    cases he : z.2.2 with
    | true =>
      obtain ⟨_, h6⟩ := h.start he
      rw [if_pos rfl, parts_slash, h6]; rfl
    | false =>
      rw [if_neg Bool.false_ne_true, ← List.cons_append, parts_app, h4, h3]
theorem ok_step {L : List Ent} (hf : FsOk L) {st : Pt} {z z' : J} (h : Ok L z) (hz : z' ∈ stepJ L st z) : Ok L z' ∧ z'.2.2 = false := by
  unfold stepJ at hz
  split at hz
  · obtain ⟨x, _, hx⟩ := List.mem_flatMap.1 hz
    exact ⟨(ok_next hf h hx).1, (ok_next hf h hx).2.1⟩
  · cases hz
theorem ok_walks {L : List Ent} (hf : FsOk L) : ∀ (r : List Pt) {S : List J}, (∀ z ∈ S, Ok L z) → ∀ z ∈ walksJ L S r, Ok L z
  | [], _, h => h
  | st :: r, S, h => ok_walks hf r (S := S.flatMap (stepJ L st)) fun z hz => by
    obtain ⟨y, hy, hz⟩ := List.mem_flatMap.1 hz
    exact (ok_step hf (h y hy) hz).1
theorem start_walks {L : List Ent} (hf : FsOk L) : ∀ (r : List Pt) {S : List J}, (∀ z ∈ S, Ok L z) → (r ≠ [] ∨ ∀ z ∈ S, z.2.2 = false) → ∀ z ∈ walksJ L S r, z.2.2 = false
  | [], _, _, h => fun z hz => by
    rcases h with h | h
    · exact absurd rfl h
    · exact h z hz
  | st :: r, S, h, _ => start_walks hf r (S := S.flatMap (stepJ L st)) (fun z hz => by
      obtain ⟨y, hy, hz⟩ := List.mem_flatMap.1 hz
      exact (ok_step hf (h y hy) hz).1) (.inr fun z hz => by
      obtain ⟨y, hy, hz⟩ := List.mem_flatMap.1 hz
      exact (ok_step hf (h y hy) hz).2)

/-! ### several plain parts at one go -/
theorem dir_up {L : List Ent} (hi : Vfs.Inv L) {p : Wy} (h : IsDir L p) : IsDir L (p.take (p.length - 1)) := by
  rcases List.eq_nil_or_concat p with rfl | ⟨q, x, rfl⟩
  · exact .inl rfl
  · rw [List.concat_eq_append] at h ⊢
    have e : (q ++ [x]).take ((q ++ [x]).length - 1) = q := by
      rw [List.length_append]; simp
    rw [e]
    by_cases hq : q = []
    · exact .inl hq
    · rcases h with h0 | ⟨d, hd, _⟩
      · exact absurd h0 (by simp)
      · exact .inr (hi.pre hd hq (by simp))
theorem node_dir {L : List Ent} {p : Wy} (h : IsDir L p) : ∃ nd, nodeAt L p = some nd ∧ nd.d = true := by
  rcases h with rfl | ⟨d, hd, h2⟩
  · exact ⟨ndRoot, rfl, rfl⟩
  · by_cases h0 : p = []
    · subst h0; exact ⟨ndRoot, rfl, rfl⟩
    · exact ⟨ndOf L d, by rw [nodeAt, if_neg h0, hd]; rfl, h2⟩
theorem dir_node {L : List Ent} {p : Wy} {nd : Nd} (h : nodeAt L p = some nd) (hd : nd.d = true) : IsDir L p := by
  unfold nodeAt at h
  split at h
  · rename_i h0; exact .inl h0
  · obtain ⟨e, he, rfl⟩ := Option.map_eq_some_iff.1 h
    exact .inr ⟨e, he, hd⟩
/-- a plain part's text -/
def Fine (a : Pt) : Prop := a.text ≠ [] ∧ 47 ∉ a.text
theorem good_of {x : T} (h : x ≠ [] ∧ 47 ∉ x) (hd : dotsT x = false) : Pth.Good x := by
  unfold dotsT at hd
  rw [Bool.or_eq_false_iff, decide_eq_false_iff_not, decide_eq_false_iff_not] at hd
  exact ⟨h.1, hd.1, hd.2, h.2⟩
theorem dots_step {L : List Ent} (hi : Vfs.Inv L) {p : Wy} {x : T} (h : IsDir L p) (hd : dotsT x = true) : IsDir L (stepL p x) := by
  unfold dotsT at hd
  rw [Bool.or_eq_true, decide_eq_true_iff, decide_eq_true_iff] at hd
  rcases hd with rfl | rfl
  · rw [stepL_none _ _ (.inr rfl)]; exact h
  · rw [stepL_up]; exact dir_up hi h
theorem pile_one (p : Wy) {x : T} (h : 47 ∉ x) : pileL p (splitL x) = stepL p x := by rw [splitL_one x h]; rfl
theorem joinT_cons (a b : Pt) (r : List Pt) : joinT (a :: b :: r) = a.text ++ 47 :: joinT (b :: r) := by
  unfold joinT
  rw [List.map_cons, Lib.join_cons, List.map_cons, Lib.join_cons]
  simp [Lib.joinTail]
theorem joinT_one (a : Pt) : joinT [a] = a.text := Lib.join_one _ _
theorem split_join : ∀ (r : List Pt) (a : Pt), (∀ x ∈ a :: r, 47 ∉ x.text) → splitL (joinT (a :: r)) = (a :: r).map Pt.text
  | [], a, h => by rw [joinT_one, splitL_one _ (h a List.mem_cons_self)]; rfl
  | b :: r, a, h => by
    rw [joinT_cons, split_app, splitL_one _ (h a List.mem_cons_self), split_join r b (fun x hx => h x (List.mem_cons_of_mem _ hx))]; rfl
theorem addJ_add (W : T) (e : Bool) (a x : T) : addJ (addJ W e a) false x = addJ W e (a ++ 47 :: x) := by
  unfold addJ
  cases e with
  | true => rfl
  | false =>
    show (W ++ 47 :: a) ++ 47 :: x = W ++ 47 :: (a ++ 47 :: x)
    rw [List.append_assoc]; rfl
theorem stepJ_plain (L : List Ent) (x : T) (z : J) : stepJ L ⟨x, false⟩ z = if dirP L z.1 then stepXJ L z x else [] := by
  unfold stepJ
  split
  · show [x].flatMap (stepXJ L z) = _
    rw [List.flatMap_singleton]
  · rfl

theorem group {L : List Ent} (hf : FsOk L) (d : Bool) : ∀ (r : List Pt) (a : Pt) (z : J), (∀ x ∈ a :: r, x.magic = false ∧ Fine x ∧ dotsP x = d) → Ok L z → stepJ L ⟨joinT (a :: r), false⟩ z = walksJ L [z] (a :: r)
  | [], a, z, h, _ => by
    obtain ⟨hm, _, _⟩ := h a List.mem_cons_self
    obtain ⟨t, m⟩ := a
    cases hm
    rw [joinT_one, walksJ_cons, List.flatMap_singleton]; rfl
  | b :: r, a, z, h, hz => by
    obtain ⟨hm, hfa, hda⟩ := h a List.mem_cons_self
    have hr : ∀ x ∈ b :: r, x.magic = false ∧ Fine x ∧ dotsP x = d := fun x hx => h x (List.mem_cons_of_mem _ hx)
    obtain ⟨t, m⟩ := a
    cases hm
    rw [walksJ_cons, List.flatMap_singleton, stepJ_plain, stepJ_plain]
    by_cases hdir : dirP L z.1 = true
    · rw [if_pos hdir, if_pos hdir]
      obtain ⟨p, nd, h1, h2, h3, h4, h5⟩ := hz.node
      have hD : IsDir L p := dir_node h1 (h5.trans hdir)
      have hj : pileL (partsOf (bs z.1)) (splitL (joinT (⟨t, false⟩ :: b :: r))) = pileL (stepL p t) (splitL (joinT (b :: r))) := by
        rw [joinT_cons, split_app, pile_app, h3, pile_one p hfa.2]
      have hl := look_on hz (joinT (⟨t, false⟩ :: b :: r))
      rw [hj] at hl
      have hl1 := look_on hz t
      rw [h3, pile_one p hfa.2] at hl1
      have hsp : splitL (joinT (b :: r)) = (b :: r).map Pt.text := split_join r b fun x hx => (hr x hx).2.1.2
      cases hn : nodeAt L (stepL p t) with
      | none =>
        have hX : stepXJ L z t = [] := by unfold stepXJ; rw [hl1, hn]
        rw [hX, walksJ_none]
        cases d with
        | true =>
          obtain ⟨nd1, h6, _⟩ := node_dir (dots_step hf.inv hD hda)
          rw [hn] at h6; cases h6
        | false =>
          have hg : Pth.Good t := good_of hfa hda
          rw [stepL_put _ _ hg.1 hg.2.1 hg.2.2.1] at hn hl
          have h6 : nodeAt L (pileL (p ++ [t]) (splitL (joinT (b :: r)))) = none := by
            rw [hsp, pileL_stays _ _ (fun x hx => by
              obtain ⟨y, hy, rfl⟩ := List.mem_map.1 hx
              exact good_of (hr y hy).2.1 (hr y hy).2.2)]
            rw [nodeAt, if_neg (by simp), Option.map_eq_none_iff] at hn
            rw [nodeAt, if_neg (by simp), nodeAt_up hf.inv (by simp) hn]; rfl
          rw [h6] at hl
          unfold stepXJ
          rw [hl]
      | some nd1 =>
        have hX : stepXJ L z t = [(nd1.p.data.toList, addJ z.2.1 z.2.2 t, false)] := by unfold stepXJ; rw [hl1, hn]
        have hz1 := ok_next hf hz (x := t) (z' := (nd1.p.data.toList, addJ z.2.1 z.2.2 t, false)) (by rw [hX]; exact List.mem_singleton_self _)
        rw [hX, ← group hf d r b _ hr hz1.1, stepJ_plain]
        obtain ⟨hok1, _, hp1⟩ := hz1
        rw [h3, pile_one p hfa.2] at hp1
        have hl2 := look_on hok1 (joinT (b :: r))
        rw [hp1] at hl2
        by_cases hd1 : dirP L nd1.p.data.toList = true
        · rw [if_pos hd1]
          unfold stepXJ
          rw [hl, hl2]
          cases nodeAt L (pileL (stepL p t) (splitL (joinT (b :: r)))) with
          | none => rfl
          | some nd2 =>
            show [_] = [_]
            rw [joinT_cons, ← addJ_add]
        · rw [if_neg hd1]
          have hnd1 : nd1.d = dirP L nd1.p.data.toList := hf.dirs (bs (z.1 ++ 47 :: t)) nd1 (hl1.trans hn)
          cases d with
          | true =>
            obtain ⟨nd2, h6, h7⟩ := node_dir (dots_step hf.inv hD hda)
            rw [hn] at h6
            cases h6
            rw [hnd1] at h7
            exact absurd h7 hd1
          | false =>
            have hg : Pth.Good t := good_of hfa hda
            rw [stepL_put _ _ hg.1 hg.2.1 hg.2.2.1] at hn hl
            have h6 : nodeAt L (pileL (p ++ [t]) (splitL (joinT (b :: r)))) = none := by
              rw [hsp, pileL_stays _ _ (fun x hx => by
                obtain ⟨y, hy, rfl⟩ := List.mem_map.1 hx
                exact good_of (hr y hy).2.1 (hr y hy).2.2)]
              rw [nodeAt, if_neg (by simp), Option.map_eq_none_iff]
              cases hc : at_ L (p ++ [t] ++ (b :: r).map Pt.text) with
              | none => rfl
              | some e =>
                obtain ⟨d2, h8, h9⟩ := hf.inv.pre hc (by simp) (by simp)
                rw [nodeAt, if_neg (by simp), h8] at hn
                cases hn
                rw [show (ndOf L d2).d = d2.dir from rfl, h9] at hnd1
                exact absurd hnd1.symm hd1
            rw [h6] at hl
            unfold stepXJ
            rw [hl]
    · rw [if_neg hdir, if_neg hdir, walksJ_none]

theorem run_alike : ∀ (r : List Pt) (a : Pt), a.magic = false ∨ runP a r = 0 → ∀ x ∈ r.take (runP a r), x.magic = false ∧ dotsP x = dotsP a ∧ a.magic = false
  | [], a, _ => fun x hx => by rw [List.take_nil] at hx; cases hx
  | b :: r, a, _ => fun x hx => by
    rw [runP] at hx
    split at hx
    · rename_i hab
      unfold alikeP at hab
      rw [Bool.and_eq_true, Bool.and_eq_true, Bool.not_eq_true', Bool.not_eq_true', beq_iff_eq] at hab
      rw [List.take_succ_cons] at hx
      rcases List.mem_cons.1 hx with rfl | hx
      · exact ⟨hab.1.2, hab.2.symm, hab.1.1⟩
      · obtain ⟨h1, h2, _⟩ := run_alike r b (.inl hab.1.2) x hx
        exact ⟨h1, h2.trans hab.2.symm, hab.1.1⟩
    · rw [List.take_zero] at hx; cases hx

/-- the steps that a walk takes are the parts one by one -/
theorem go_single {L : List Ent} (hf : FsOk L) : ∀ (n : Nat) (l : List Pt) (S : List J), l.length ≤ n → (∀ x ∈ l, x.magic = false → Fine x) → (∀ z ∈ S, Ok L z) → walksJ L S (goSteps n l) = walksJ L S l
  | n, [], S, _, _, _ => by rw [goSteps_nil]
  | 0, a :: r, S, hn, _, _ => absurd hn (by simp)
  | n + 1, a :: r, S, hn, hfi, hS => by
    rw [goSteps_cons, walksJ_cons]
    have hpos : 1 ≤ endP (a :: r) := endP_pos _
    have hg : S.flatMap (stepJ L ⟨joinT ((a :: r).take (endP (a :: r))), a.magic⟩) = walksJ L S ((a :: r).take (endP (a :: r))) := by
      rw [walksJ_flat L _ S]
      refine flatMap_same fun z hz => ?_
      show stepJ L ⟨joinT ((a :: r).take (runP a r + 1)), a.magic⟩ z = walksJ L [z] ((a :: r).take (runP a r + 1))
      rw [List.take_succ_cons]
      cases hrun : r.take (runP a r) with
      | nil =>
        obtain ⟨t, m⟩ := a
        rw [joinT_one, walksJ_cons, List.flatMap_singleton]; rfl
      | cons b q =>
        have hr0 : runP a r ≠ 0 := fun e => by rw [e, List.take_zero] at hrun; cases hrun
        have hall : ∀ x ∈ b :: q, x.magic = false ∧ dotsP x = dotsP a ∧ a.magic = false := by
          cases ham : a.magic with
          | false =>
            intro x hx
            have := run_alike r a (.inl ham) x (by rw [hrun]; exact hx)
            exact ⟨this.1, this.2.1, rfl⟩
          | true =>
            exfalso
            cases r with
            | nil => exact hr0 rfl
            | cons c r =>
              apply hr0
              rw [runP, if_neg]
              unfold alikeP
              rw [ham]; simp
        have ham := (hall b List.mem_cons_self).2.2
        rw [ham]
        refine group hf (dotsP a) (b :: q) a z (fun x hx => ?_) (hS z hz)
        rcases List.mem_cons.1 hx with rfl | hx
        · exact ⟨ham, hfi x List.mem_cons_self ham, rfl⟩
        · obtain ⟨h1, h2, _⟩ := hall x hx
          refine ⟨h1, hfi x (List.mem_cons_of_mem _ ?_) h1, h2⟩
          rw [← hrun] at hx
          exact List.mem_of_mem_take hx
    rw [hg, go_single hf n _ _ (by
        rw [List.length_drop]; rw [List.length_cons] at hn ⊢; omega) (fun x hx => hfi x (List.mem_of_mem_drop hx)) (ok_walks hf _ hS), ← walksJ_app, List.take_append_drop]

end Go.Proofs.YtghfmbmdfojapaaGreatDoor.Wba

/- What the document's Expand finds, on lists, and that the program finds the same (no program). -/
namespace Go.Proofs.YtghfmbmdfojapaaGreatDoor.Wbb
open Go.RowKit Go.Proofs.YtghfmbmdfojapaaGreatDoor.Pth Go.Proofs.YtghfmbmdfojapaaGreatDoor.Strs Go.Proofs.YtghfmbmdfojapaaGreatDoor.Vfs Go.Proofs.YtghfmbmdfojapaaGreatDoor.Vmap Go.Proofs.YtghfmbmdfojapaaGreatDoor.Vnames Go.Proofs.YtghfmbmdfojapaaGreatDoor.Vnew Go.Proofs.YtghfmbmdfojapaaGreatDoor.Vfind Go.Proofs.YtghfmbmdfojapaaGreatDoor.Vlook Go.Proofs.YtghfmbmdfojapaaGreatDoor.Wdp Go.Proofs.YtghfmbmdfojapaaGreatDoor.Wst Go.Proofs.YtghfmbmdfojapaaGreatDoor.Wsp Go.Proofs.YtghfmbmdfojapaaGreatDoor.Wnm Go.Proofs.YtghfmbmdfojapaaGreatDoor.Wlx Go.Proofs.YtghfmbmdfojapaaGreatDoor.Wly Go.Proofs.YtghfmbmdfojapaaGreatDoor.Wex Go.Proofs.YtghfmbmdfojapaaGreatDoor.Wba
open Go.Proofs.YtghfmbmdfojapaaGreatDoor.Srt (Up sortT sortT_up sortT_mem sortT_len)
open Go.Proofs.YtghfmbmdfojapaaGreatDoor.Prabs (ne ne_nil ne_cons pile_ne)

/-! ### what stands in a directory -/
theorem list_mem {L : List Ent} {s : ByteArray} {x : T} (h : x ∈ listN L s) : (at_ L (partsOf s ++ [x])).isSome = true := by
  rw [listN_eq] at h
  split at h
  · unfold dirK at h
    split at h
    · rw [sortT_mem, kids_has] at h; exact h
    · cases h
  · cases h
theorem list_good {L : List Ent} (hi : Vfs.Inv L) {s : ByteArray} {x : T} (h : x ∈ listN L s) : Pth.Good x := by
  obtain ⟨e, he⟩ := Option.isSome_iff_exists.1 (list_mem h)
  have hm := at_mem he
  exact hi.good e hm.1 x (by rw [hm.2]; simp)
theorem list_up (L : List Ent) (s : ByteArray) : (listN L s).Nodup := by
  rw [listN_eq]
  split
  · unfold dirK
    split
    · exact (sortT_up _).imp fun h e => by rw [e] at h; exact List.lt_irrefl _ h
    · exact List.nodup_nil
  · exact List.nodup_nil
theorem kids_len (L : List Ent) (q : Wy) : (kids L q).length ≤ L.length := List.length_filterMap_le ..
theorem list_len (L : List Ent) (s : ByteArray) : (listN L s).length ≤ L.length := by
  rw [listN_eq]
  split
  · unfold dirK
    split
    · exact Nat.le_trans (sortT_len _) (kids_len L _)
    · exact Nat.zero_le _
  · exact Nat.zero_le _
theorem list_same {L : List Ent} {a b : List UInt8} (ha : a ≠ []) (hb : b ≠ []) (h : partsOf (bs a) = partsOf (bs b)) : listN L (bs a) = listN L (bs b) := by
  rw [listN_eq, listN_eq, look_at a ha, look_at b hb, h]
theorem names_good {L : List Ent} (hi : Vfs.Inv L) {st : Pt} (h : st.magic = true ∨ 47 ∉ st.text) {s : ByteArray} {x : T} (hx : x ∈ namesP L st s) : 47 ∉ x := by
  unfold namesP at hx
  split at hx
  · exact (list_good hi (List.mem_filter.1 hx).1).2.2.2
  · rename_i hm
    rw [List.mem_singleton.1 hx]
    rcases h with h | h
    · exact absurd h hm
    · exact h
theorem names_nodup (L : List Ent) (st : Pt) (s : ByteArray) : (namesP L st s).Nodup := by
  unfold namesP
  split
  · exact (list_up L s).filter _
  · exact List.nodup_cons.2 ⟨List.not_mem_nil, List.nodup_nil⟩

/-! ### no name comes twice -/
abbrev nm (z : J) : T := z.2.1
theorem add_inj {W W' x x' : T} (hx : 47 ∉ x) (hx' : 47 ∉ x') (h : W ++ 47 :: x = W' ++ 47 :: x') : W = W' ∧ x = x' := by
  have h1 := Wlinks.lastB_slash x hx W
  have h2 := Wlinks.lastB_slash x' hx' W'
  rw [h, h2] at h1
  have hl : W.length = W'.length := by omega
  obtain ⟨e1, e2⟩ := List.append_inj h hl
  exact ⟨e1, (List.cons.inj e2).2⟩
theorem stepX_nm {L : List Ent} {z : J} {x w : T} (h : w ∈ (stepXJ L z x).map nm) : w = addJ z.2.1 z.2.2 x := by
  obtain ⟨y, hy, rfl⟩ := List.mem_map.1 h
  unfold stepXJ at hy
  split at hy
  · cases hy
  · rw [List.mem_singleton.1 hy]
theorem stepX_one (L : List Ent) (z : J) (x : T) : ((stepXJ L z x).map nm).Nodup := by
  unfold stepXJ
  split
  · exact List.nodup_nil
  · exact List.nodup_cons.2 ⟨List.not_mem_nil, List.nodup_nil⟩
theorem step_nm (L : List Ent) (st : Pt) (z : J) : (stepJ L st z).map nm = if dirP L z.1 then (namesP L st (bs z.1)).flatMap fun x => (stepXJ L z x).map nm else [] := by
  unfold stepJ
  split
  · rw [List.map_flatMap]
  · rfl
theorem step_mem {L : List Ent} {st : Pt} {z : J} {w : T} (h : w ∈ (stepJ L st z).map nm) : ∃ x ∈ namesP L st (bs z.1), w = addJ z.2.1 z.2.2 x := by
  rw [step_nm] at h
  split at h
  · obtain ⟨x, hx, hw⟩ := List.mem_flatMap.1 h
    exact ⟨x, hx, stepX_nm hw⟩
  · cases h
theorem step_nodup {L : List Ent} (hi : Vfs.Inv L) {st : Pt} (hst : st.magic = true ∨ 47 ∉ st.text) (z : J) : ((stepJ L st z).map nm).Nodup := by
  rw [step_nm]
  split
  · refine List.pairwise_flatMap.2 ⟨fun x _ => stepX_one L z x, ?_⟩
    refine (names_nodup L st (bs z.1)).imp_of_mem fun {x y} hx hy hne a ha b hb e => hne ?_
    rw [stepX_nm ha, stepX_nm hb] at e
    unfold addJ at e
    split at e
    · exact e
    · exact (add_inj (names_good hi hst hx) (names_good hi hst hy) e).2
  · exact List.nodup_nil
theorem walks_nodup {L : List Ent} (hf : FsOk L) : ∀ (r : List Pt) {S : List J}, (∀ z ∈ S, Ok L z) → (S.map nm).Nodup → ((∀ z ∈ S, z.2.2 = false) ∨ ∃ z, S = [z]) → (∀ st ∈ r, st.magic = true ∨ 47 ∉ st.text) → ((walksJ L S r).map nm).Nodup
  | [], _, _, h, _, _ => h
  | st :: r, S, hok, hn, he, hr => by
    have hst := hr st List.mem_cons_self
    have hnext : ∀ z' ∈ S.flatMap (stepJ L st), Ok L z' ∧ z'.2.2 = false := fun z' hz => by
      obtain ⟨y, hy, hz⟩ := List.mem_flatMap.1 hz
      exact ok_step hf (hok y hy) hz
    rw [walksJ_cons]
    refine walks_nodup hf r (fun z hz => (hnext z hz).1) ?_ (.inl fun z hz => (hnext z hz).2) (fun s hs => hr s (List.mem_cons_of_mem _ hs))
    rw [List.map_flatMap]
    refine List.pairwise_flatMap.2 ⟨fun z _ => step_nodup hf.inv hst z, ?_⟩
    rcases he with he | ⟨z, rfl⟩
    · have hn' : S.Pairwise fun a b => nm a ≠ nm b := List.pairwise_map.1 hn
      refine hn'.imp_of_mem fun {a b} ha hb hne x hx y hy e => hne ?_
      obtain ⟨u, hu, rfl⟩ := step_mem hx
      obtain ⟨v, hv, rfl⟩ := step_mem hy
      rw [he a ha, he b hb] at e
      exact (add_inj (names_good hf.inv hst hu) (names_good hf.inv hst hv) e).1
    · exact List.pairwise_singleton _ _

/-! ### the document's way -/
def headT (W : T) (h : Bool) : T := if h then [] else W ++ [47]
theorem head_add (W : T) (h : Bool) (x : T) : headT W h ++ x = addJ W h x := by
  unfold headT addJ
  cases h with
  | true => rfl
  | false =>
    show (W ++ [47]) ++ x = W ++ 47 :: x
    rw [List.append_assoc]; rfl
def docX (L : List Ent) (h : Bool) (x : T) (W : T) : List T := match lookN L (bs (47 :: W)) with
  | none => []
  | some nd => if nd.d then (if Gmagic.magicL x then ((listN L (bs (47 :: W))).filter (Gmatch.matchL x)).map (headT W h ++ ·) else if (lookN L (bs (47 :: (headT W h ++ Glb.plainL x)))).isSome then [headT W h ++ Glb.plainL x] else []) else []
def docStep (L : List Ent) (h : Bool) (x : T) (ways : List T) : List T := ways.flatMap (docX L h x)
def docGo (L : List Ent) : Bool → List T → List T → List T
  | _, ways, [] => ways
  | h, ways, x :: r => docGo L false (docStep L h x ways) r
def endX (L : List Ent) (dirs : Bool) (W : T) : List T := if dirs then (match lookN L (bs (47 :: W)) with
  | none => []
  | some nd => if nd.d then [W ++ [47]] else []) else [W]
def docEnd (L : List Ent) (dirs : Bool) (ways : List T) : List T := ways.flatMap (endX L dirs)
/-- what the document's Expand finds -/
def expandR (L : List Ent) (s : T) : List T :=
  if ne (splitL s) = [] then oneL (Lib.hasPrefix s [47]) [47]
  else if (ne (splitL s)).any Gmagic.magicL then sortT (docEnd L (Lib.hasSuffix s [47]) (docGo L (!Lib.hasPrefix s [47]) [[]] (ne (splitL s))))
  else oneL (lookN L (bs (flatL ((ne (splitL s)).map Glb.plainL)))).isSome s

def pt1 (x : T) : Pt := if Gmagic.magicL x then ⟨x, true⟩ else ⟨Glb.plainL x, false⟩
theorem pt1_magic (x : T) : (pt1 x).magic = Gmagic.magicL x := by
  unfold pt1
  cases Gmagic.magicL x <;> rfl
theorem parts_map (s : T) : partsP s = (ne (splitL s)).map pt1 := by
  unfold partsP
  induction splitL s with
  | nil => rfl
  | cons x r ih =>
    by_cases h : x = []
    · subst h
      rw [ne_nil, ← ih]; rfl
    · have e : ptOf x = some (pt1 x) := by
        unfold ptOf pt1
        rw [if_neg h]
        split <;> rfl
      rw [ne_cons h, List.map_cons, ← ih, List.filterMap_cons, e]
theorem any_map (s : T) : anyM (partsP s) = (ne (splitL s)).any Gmagic.magicL := by
  unfold anyM
  rw [parts_map, List.any_map]
  exact congrArg (fun f => List.any (ne (splitL s)) f) (funext fun x => pt1_magic x)

theorem ok_look {L : List Ent} {z : J} (h : Ok L z) : ∃ nd, lookN L (bs (47 :: z.2.1)) = some nd ∧ nd.d = dirP L z.1 ∧ partsOf (bs (47 :: z.2.1)) = partsOf (bs z.1) ∧ z.1 ≠ [] := by
  obtain ⟨p, nd, h1, h2, h3, h4, h5⟩ := h.node
  refine ⟨nd, by rw [look_at _ (by simp), h4, h1], h5, h4.trans h3.symm, fun e => ?_⟩
  have hne : nd.p.data.toList ≠ [] := by
    unfold nodeAt at h1
    split at h1
    · cases h1; exact List.cons_ne_nil _ _
    · rename_i h0
      obtain ⟨d, hd, rfl⟩ := Option.map_eq_some_iff.1 h1
      show flatL d.pt ≠ []
      intro e2
      exact h0 (by rw [← (at_mem hd).2]; exact flatL_nil _ e2)
  exact hne (h2.trans e)
theorem look_head {L : List Ent} {z : J} (h : Ok L z) (x : T) : lookN L (bs (47 :: addJ z.2.1 z.2.2 x)) = lookN L (bs (z.1 ++ 47 :: x)) := by
  obtain ⟨p, nd, h1, h2, h3, h4, h5⟩ := h.node
  rw [look_on h x, look_at _ (by simp)]
  unfold addJ
  cases he : z.2.2 with
  | true =>
    obtain ⟨_, h6⟩ := h.start he
    rw [if_pos rfl, parts_slash, h6]; rfl
  | false => rw [if_neg Bool.false_ne_true, ← List.cons_append, parts_app, h4, h3]
theorem listed {L : List Ent} (hi : Vfs.Inv L) {z : J} (h : Ok L z) {x : T} (hx : x ∈ listN L (bs z.1)) : ∃ nd, lookN L (bs (z.1 ++ 47 :: x)) = some nd := by
  rw [look_on h x]
  have hg := list_good hi hx
  rw [pile_one _ hg.2.2.2, stepL_put _ _ hg.1 hg.2.1 hg.2.2.1]
  obtain ⟨e, he⟩ := Option.isSome_iff_exists.1 (list_mem hx)
  exact ⟨ndOf L e, by rw [nodeAt, if_neg (by simp), he]; rfl⟩
theorem flatMap_one {α β : Type} (f : α → β) : ∀ l : List α, (l.flatMap fun x => [f x]) = l.map f
  | [] => rfl
  | a :: l => by rw [List.flatMap_cons, flatMap_one f l]; rfl
theorem docX_is {L : List Ent} (hi : Vfs.Inv L) {z : J} (h : Ok L z) (x : T) : docX L z.2.2 x z.2.1 = (stepJ L (pt1 x) z).map nm := by
  obtain ⟨nd, hl, hd, hp, hne⟩ := ok_look h
  unfold docX
  rw [hl, step_nm]
  show (if nd.d then _ else _) = _
  rw [hd]
  cases hdir : dirP L z.1 with
  | false => rfl
  | true =>
    rw [if_pos rfl, if_pos rfl]
    unfold pt1
    cases hm : Gmagic.magicL x with
    | true =>
      rw [if_pos rfl, if_pos rfl]
      unfold namesP
      rw [if_pos rfl, list_same (by simp) hne hp, ← flatMap_one]
      refine flatMap_same fun y hy => ?_
      obtain ⟨nd2, h2⟩ := listed hi h (List.mem_filter.1 hy).1
      unfold stepXJ
      rw [h2, head_add]; rfl
    | false =>
      rw [if_neg Bool.false_ne_true, if_neg Bool.false_ne_true]
      unfold namesP
      rw [if_neg Bool.false_ne_true, List.flatMap_singleton, head_add, look_head h]
      unfold stepXJ
      cases lookN L (bs (z.1 ++ 47 :: Glb.plainL x)) with
      | none => rfl
      | some nd2 => rfl
theorem docStep_is {L : List Ent} (hi : Vfs.Inv L) {S : List J} {h : Bool} (hS : ∀ z ∈ S, Ok L z ∧ z.2.2 = h) (x : T) : docStep L h x (S.map nm) = (S.flatMap (stepJ L (pt1 x))).map nm := by
  unfold docStep
  rw [List.flatMap_map, List.map_flatMap]
  refine flatMap_same fun z hz => ?_
  obtain ⟨h1, h2⟩ := hS z hz
  rw [← h2]
  exact docX_is hi h1 x
theorem docGo_is {L : List Ent} (hf : FsOk L) : ∀ (r : List T) {S : List J} {h : Bool}, (∀ z ∈ S, Ok L z ∧ z.2.2 = h) → docGo L h (S.map nm) r = (walksJ L S (r.map pt1)).map nm
  | [], _, _, _ => rfl
  | x :: r, S, h, hS => by
    rw [docGo, docStep_is hf.inv hS, List.map_cons, walksJ_cons]
    exact docGo_is hf r fun z hz => by
      obtain ⟨y, hy, hz⟩ := List.mem_flatMap.1 hz
      exact ok_step hf (hS y hy).1 hz
def sufJ (dirs : Bool) : List Pt := if dirs then [emptyP] else []
theorem docEnd_is {L : List Ent} (_ : FsOk L) (dirs : Bool) {S : List J} (hS : ∀ z ∈ S, Ok L z ∧ z.2.2 = false) : docEnd L dirs (S.map nm) = (walksJ L S (sufJ dirs)).map nm := by
  unfold docEnd sufJ
  rw [List.flatMap_map]
  cases dirs with
  | false =>
    rw [if_neg Bool.false_ne_true, walksJ_nil, ← flatMap_one]
    exact flatMap_same fun z _ => rfl
  | true =>
    rw [if_pos rfl, walksJ_cons, walksJ_nil, List.map_flatMap]
    refine flatMap_same fun z hz => ?_
    obtain ⟨h1, h2⟩ := hS z hz
    obtain ⟨nd, hl, hd, hp, hne⟩ := ok_look h1
    unfold endX
    rw [if_pos rfl, hl]
    show (if nd.d then [z.2.1 ++ [47]] else []) = (stepJ L ⟨[], false⟩ z).map nm
    rw [hd, stepJ_plain]
    cases hdir : dirP L z.1 with
    | false => rfl
    | true =>
      rw [if_pos rfl, if_pos rfl]
      unfold stepXJ
      have h3 : lookN L (bs (z.1 ++ 47 :: [])) = some nd := by
        rw [look_on h1, ← hl, look_at _ (by simp), hp]; rfl
      rw [h3]
      show _ = [addJ z.2.1 z.2.2 []]
      rw [h2]; rfl

theorem nm_join (L : List Ent) (sts : List Pt) : ((walksP L sts).map fun y => Lib.join y.2 [47]) = (walksJ L [([47], [], true)] sts).map nm := by
  rw [← phi_walks, List.map_map]; rfl
theorem pre_is {L : List Ent} (hf : FsOk L) (s : T) : walksJ L [([47], [], true)] (preP s) = [([47], [], !Lib.hasPrefix s [47])] := by
  unfold preP
  cases Lib.hasPrefix s [47] with
  | false => rfl
  | true =>
    rw [if_pos rfl, walksJ_cons, walksJ_nil, List.flatMap_singleton]
    show stepJ L ⟨[], false⟩ _ = _
    have hd : dirP L [47] = true := (hf.dirs (bs [47]) ndRoot rfl).symm
    rw [stepJ_plain, if_pos hd]
    unfold stepXJ
    have h3 : lookN L (bs (([47] : T) ++ 47 :: [])) = some ndRoot := by
      rw [look_at _ (by simp)]; rfl
    rw [h3]; rfl
/-- all the ways that a word leads, by their names -/
def allJ (L : List Ent) (s : T) : List J := walksJ L (walksJ L [([47], [], !Lib.hasPrefix s [47])] (partsP s)) (sufJ (Lib.hasSuffix s [47]))
theorem walks_all {L : List Ent} (hf : FsOk L) {s : T} (hfi : ∀ x ∈ partsP s, x.magic = false → Fine x) : ((walksP L (stepsP s (partsP s))).map fun y => Lib.join y.2 [47]) = (allJ L s).map nm := by
  rw [nm_join]
  unfold stepsP allJ
  rw [walksJ_app, walksJ_app, pre_is hf, go_single hf _ _ _ (Nat.le_refl _) hfi (fun z hz => by rw [List.mem_singleton.1 hz]; exact ok_start hf _)]
  rfl
theorem all_doc {L : List Ent} (hf : FsOk L) {s : T} (hne : partsP s ≠ []) : docEnd L (Lib.hasSuffix s [47]) (docGo L (!Lib.hasPrefix s [47]) [[]] (ne (splitL s))) = (allJ L s).map nm := by
  have hS : ∀ z ∈ [(([47], [], !Lib.hasPrefix s [47]) : J)], Ok L z ∧ z.2.2 = !Lib.hasPrefix s [47] := fun z hz => by
    rw [List.mem_singleton.1 hz]; exact ⟨ok_start hf _, rfl⟩
  have h1 := docGo_is hf (ne (splitL s)) hS
  rw [show [(([47], [], !Lib.hasPrefix s [47]) : J)].map nm = [[]] from rfl, ← parts_map] at h1
  rw [h1]
  exact docEnd_is hf _ fun z hz => ⟨ok_walks hf _ (fun z hz => (hS z hz).1) z hz, start_walks hf _ (fun z hz => (hS z hz).1) (.inl hne) z hz⟩
theorem all_ok {L : List Ent} (hf : FsOk L) (s : T) : ∀ z ∈ allJ L s, Ok L z := ok_walks hf _ (ok_walks hf _ fun z hz => by rw [List.mem_singleton.1 hz]; exact ok_start hf _)
theorem all_nodup {L : List Ent} (hf : FsOk L) {s : T} (hfi : ∀ x ∈ partsP s, x.magic = false → Fine x) : ((allJ L s).map nm).Nodup := by
  unfold allJ
  rw [← walksJ_app]
  refine walks_nodup hf _ (fun z hz => by rw [List.mem_singleton.1 hz]; exact ok_start hf _) (List.nodup_cons.2 ⟨List.not_mem_nil, List.nodup_nil⟩) (.inr ⟨_, rfl⟩) fun st hst => ?_
  rcases List.mem_append.1 hst with h1 | h1
  · cases hm : st.magic with
    | true => exact .inl rfl
    | false => exact .inr (hfi st h1 hm).2
  · unfold sufJ at h1
    split at h1
    · rw [List.mem_singleton.1 h1]; exact .inr List.not_mem_nil
    · cases h1
/-- both find the same -/
theorem expand_eq {L : List Ent} (hf : FsOk L) {s : T} (hfi : ∀ x ∈ partsP s, x.magic = false → Fine x) : expandP L s = expandR L s := by
  unfold expandP expandR
  have h0 : partsP s = [] ↔ ne (splitL s) = [] := by rw [parts_map]; exact List.map_eq_nil_iff
  by_cases hp : partsP s = []
  · rw [if_pos hp, if_pos (h0.1 hp)]
  · rw [if_neg hp, if_neg (fun e => hp (h0.2 e)), any_map]
    cases hm : (ne (splitL s)).any Gmagic.magicL with
    | true =>
      rw [if_pos rfl, if_pos rfl, all_doc hf hp, walks_all hf hfi]
      exact Vlook.sorted_eq (List.Perm.refl _) (all_nodup hf hfi)
    | false =>
      rw [if_neg Bool.false_ne_true, if_neg Bool.false_ne_true]
      have e : (47 :: joinT (partsP s)) = flatL ((ne (splitL s)).map Glb.plainL) := by
        unfold joinT
        rw [join_flat, parts_map, List.map_map]
        have e1 : (ne (splitL s)).map (Pt.text ∘ pt1) = (ne (splitL s)).map Glb.plainL := by
          refine List.map_congr_left fun x hx => ?_
          have hx2 : Gmagic.magicL x = false := by
            cases h3 : Gmagic.magicL x with
            | false => rfl
            | true =>
              rw [List.any_eq_false] at hm
              exact absurd h3 (hm x hx)
          show (pt1 x).text = _
          unfold pt1
          rw [hx2, if_neg Bool.false_ne_true]
        rw [e1]
        cases hl : (ne (splitL s)).map Glb.plainL with
        | nil => exact absurd (h0.2 (List.map_eq_nil_iff.1 hl)) hp
        | cons x r => rfl
      rw [e]
/-- what is found rises -/
theorem expand_up {L : List Ent} (hf : FsOk L) {s : T} (hfi : ∀ x ∈ partsP s, x.magic = false → Fine x) : Up (expandP L s) := by
  rw [expand_eq hf hfi]
  unfold expandR
  have ho : ∀ b x, Up (oneL b x) := fun b x => by
    cases b with
    | true => exact List.pairwise_singleton _ _
    | false => exact List.Pairwise.nil
  split
  · exact ho _ _
  · split
    · exact sortT_up _
    · exact ho _ _
/-- what is found is there -/
theorem expand_there {L : List Ent} (hf : FsOk L) {s : T} (hfi : ∀ x ∈ partsP s, x.magic = false → Fine x) (hpl : ∀ x ∈ ne (splitL s), Gmagic.magicL x = false → Glb.plainL x = x) : ∀ y ∈ expandP L s, ∃ nd, lookN L (bs (47 :: y)) = some nd := by
  intro y hy
  rw [expand_eq hf hfi] at hy
  unfold expandR at hy
  split at hy
  · unfold oneL at hy
    split at hy
    · rw [List.mem_singleton.1 hy]
      exact ⟨ndRoot, by rw [look_at _ (by simp)]; rfl⟩
    · cases hy
  · rename_i h0
    split at hy
    · rw [all_doc hf (fun e => h0 (by rw [parts_map] at e; exact List.map_eq_nil_iff.1 e)), sortT_mem] at hy
      obtain ⟨z, hz, rfl⟩ := List.mem_map.1 hy
      obtain ⟨nd, h1, _⟩ := ok_look (all_ok hf s z hz)
      exact ⟨nd, h1⟩
    · rename_i hm
      unfold oneL at hy
      split at hy
      · rename_i hs
        rw [List.mem_singleton.1 hy]
        obtain ⟨nd, hnd⟩ := Option.isSome_iff_exists.1 hs
        refine ⟨nd, ?_⟩
        rw [← hnd]
        have e1 : (ne (splitL s)).map Glb.plainL = ne (splitL s) := by
          have : (ne (splitL s)).map Glb.plainL = (ne (splitL s)).map id := List.map_congr_left fun x hx => hpl x hx (by
            cases h3 : Gmagic.magicL x with
            | false => rfl
            | true => exact absurd (List.any_eq_true.2 ⟨x, hx, h3⟩) hm)
          rw [this, List.map_id]
        have hne : flatL (ne (splitL s)) ≠ [] := fun e => h0 (flatL_nil _ e)
        have hno : ∀ p ∈ ne (splitL s), 47 ∉ p := fun p hp => splitL_mem s p (List.mem_filter.1 hp).1
        rw [e1, look_at _ (by simp), look_at _ hne, parts_slash]
        unfold partsOf
        rw [data_bs, split_flat0 _ hno h0, pile_nil, pile_ne]
      · cases hy

end Go.Proofs.YtghfmbmdfojapaaGreatDoor.Wbb
