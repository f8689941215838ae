/- The document's List and the program's (no program). -/
import Derived.Test.YtgfpdaaofhanoaaDoorVlook
import Derived.Test.YtgfpdaaofhanoaaDoorWlist
import Derived.Test.YtgfpdaaofhanoaaDoorWlink
namespace Go.Proofs.YtgfpdaaofhanoaaDoor.Wlinks
open Go.Proofs.YtgfpdaaofhanoaaDoor.Pth Go.Proofs.YtgfpdaaofhanoaaDoor.Srt Go.Proofs.YtgfpdaaofhanoaaDoor.Vfs Go.Proofs.YtgfpdaaofhanoaaDoor.Vmap Go.Proofs.YtgfpdaaofhanoaaDoor.Vnames Go.Proofs.YtgfpdaaofhanoaaDoor.Vnew Go.Proofs.YtgfpdaaofhanoaaDoor.Vfind Go.Proofs.YtgfpdaaofhanoaaDoor.Vlook Go.Proofs.YtgfpdaaofhanoaaDoor.Vall Go.Proofs.YtgfpdaaofhanoaaDoor.Wfind Go.Proofs.YtgfpdaaofhanoaaDoor.Wfs Go.Proofs.YtgfpdaaofhanoaaDoor.Wlook Go.Proofs.YtgfpdaaofhanoaaDoor.Wlist Go.Proofs.YtgfpdaaofhanoaaDoor.Wlink Go.Proofs.YtgfpdaaofhanoaaDoor.Wsort

theorem lastB_slash (x : List UInt8) (h : 47 ∉ x) : ∀ a : List UInt8, lastB 47 (a ++ 47 :: x) = a.length + 1
  | [] => by
    rw [List.nil_append, lastB_cons, lastB_none 47 x h]; rfl
  | b :: a => by
    rw [List.cons_append, lastB_cons, lastB_slash x h a, if_neg (Nat.succ_ne_zero _)]; rfl
theorem way_path (r : Wy) (x : List UInt8) (h : 47 ∉ x) : wayB (pathB (r ++ [x])) = (flatL r).length + 1 := by
  unfold wayB pathB
  rw [data_bs, flatL_app, flatL_one]
  exact lastB_slash x h _
theorem data_inj {a b : ByteArray} (h : a.data.toList = b.data.toList) : a = b := by
  rw [← Pth.bs_data a, ← Pth.bs_data b]
  show Pth.bs _ = Pth.bs _
  rw [h]
theorem notdir_path (r : Wy) (x : List UInt8) (h : 47 ∉ x) : notdirB (pathB (r ++ [x])) = bs x := by
  apply data_inj
  rw [notdirB, drop_data, way_path r x h, data_bs]
  unfold pathB
  rw [data_bs, flatL_app, flatL_one, List.drop_append, List.drop_eq_nil_of_le (by omega)]
  simp
theorem up_path (r : Wy) (x : List UInt8) (h : 47 ∉ x) : upOf (pathB (r ++ [x])) = absT r := by
  have he : (pathB (r ++ [x])).extract 0 (wayB (pathB (r ++ [x])) - 1) = bs (flatL r) := by
    apply data_inj
    rw [take_data, way_path r x h, data_bs]
    unfold pathB
    rw [data_bs, flatL_app, Nat.add_sub_cancel, List.take_left' rfl]
  unfold upOf
  rw [he, size_bs]
  by_cases h0 : r = []
  · subst h0; rfl
  · have : (flatL r).length ≠ 0 := fun e => h0 (flatL_nil r (List.eq_nil_of_length_eq_zero e))
    rw [if_neg this, absT_ne h0]; rfl
theorem absT_inj {p q : Wy} (hp : ∀ x ∈ p, Pth.Good x) (hq : ∀ x ∈ q, Pth.Good x) (h : absT p = absT q) : p = q := by
  by_cases h0 : p = []
  · by_cases h1 : q = []
    · rw [h0, h1]
    · rw [absT_ne h1, h0] at h
      exact absurd h (root_other hq)
  · by_cases h1 : q = []
    · rw [absT_ne h0, h1] at h
      exact absurd h.symm (root_other hp)
    · rw [absT_ne h0, absT_ne h1] at h
      exact pathB_inj hp hq h
theorem filterMap_same {α β : Type} {f g : α → Option β} : ∀ {l : List α}, (∀ a ∈ l, f a = g a) → l.filterMap f = l.filterMap g
  | [], _ => rfl
  | a :: l, h => by
    rw [List.filterMap_cons, List.filterMap_cons, h a List.mem_cons_self, filterMap_same fun b hb => h b (List.mem_cons_of_mem _ hb)]
theorem kids_both {L : List Ent} (hi : Vfs.Inv L) {p : Wy} (hp : ∀ x ∈ p, Pth.Good x) : kidsR (L.map rawOf) (absT p) = (kids L p).map bs := by
  unfold kidsR kids
  rw [List.filterMap_map, List.map_filterMap]
  refine filterMap_same fun e he => ?_
  have hne := hi.ne e he
  obtain ⟨r, x, hrx⟩ : ∃ r x, e.pt = r ++ [x] := ⟨_, _, (List.dropLast_concat_getLast hne).symm⟩
  have hg := hi.good e he
  have hx : 47 ∉ x := (hg x (by rw [hrx]; simp)).2.2.2
  have hr : ∀ y ∈ r, Pth.Good y := fun y hy => hg y (by rw [hrx]; exact List.mem_append_left _ hy)
  have e1 : (rawOf e).path = pathB (r ++ [x]) := by show pathB e.pt = _; rw [hrx]
  show (if upOf (rawOf e).path = absT p then some (notdirB (rawOf e).path) else none) = _
  rw [e1, up_path r x hx, notdir_path r x hx, hrx]
  by_cases h : r = p
  · subst h
    rw [if_pos rfl, if_pos ⟨by simp, List.dropLast_concat⟩, List.getLast?_concat]; rfl
  · rw [if_neg (fun e2 => h (absT_inj hr hp e2)), if_neg (fun e2 => h (by rw [← e2.2, List.dropLast_concat]))]; rfl
/-- both list alike -/
theorem list_both {L : List Ent} (hi : Vfs.Inv L) (s : ByteArray) : listR (rows L) s = (listN L s).map bs := by
  unfold listR listN
  rw [look_both hi s]
  cases hq : lookN L s with
  | none => rfl
  | some q =>
    show (if q.d = true then sortB (kidsR (L.map rawOf) q.p) else []) = (if q.d = true then sortT (kids L (partsOf s)) else []).map bs
    cases hd : q.d with
    | false => rfl
    | true =>
      have hp : q.p = absT (partsOf s) := by
        unfold lookN at hq
        split at hq
        · cases hq
        · unfold nodeAt at hq
          split at hq
          · rename_i h1
            rw [h1, ← Option.some.inj hq]; rfl
          · rename_i h1
            cases ha : at_ L (partsOf s) with
            | none => rw [ha] at hq; cases hq
            | some e =>
              rw [ha] at hq
              rw [← Option.some.inj hq, absT_ne h1]
              show pathB e.pt = _
              rw [(at_mem ha).2]
      rw [if_pos rfl, if_pos rfl, hp, kids_both hi (partsOf_good s)]
      show (sortT (((kids L (partsOf s)).map bs).map fun x => x.data.toList)).map Pth.bs = _
      rw [List.map_map]
      have : ((fun x : ByteArray => x.data.toList) ∘ bs) = (id : List UInt8 → List UInt8) := rfl
      rw [this, List.map_id]

end Go.Proofs.YtgfpdaaofhanoaaDoor.Wlinks
