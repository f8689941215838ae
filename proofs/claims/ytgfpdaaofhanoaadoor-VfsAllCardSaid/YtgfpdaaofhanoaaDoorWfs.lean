/- The document's file system on lists (no program). -/
import Derived.Test.YtgfpdaaofhanoaaDoorVflat
import Derived.Test.YtgfpdaaofhanoaaDoorWfind
namespace Go.Proofs.YtgfpdaaofhanoaaDoor.Wfs
open Go.Proofs.YtgfpdaaofhanoaaDoor.Pth Go.Proofs.YtgfpdaaofhanoaaDoor.Vfs Go.Proofs.YtgfpdaaofhanoaaDoor.Vmap Go.Proofs.YtgfpdaaofhanoaaDoor.Vfind Go.Proofs.YtgfpdaaofhanoaaDoor.Vall Go.Proofs.YtgfpdaaofhanoaaDoor.Vflat Go.Proofs.YtgfpdaaofhanoaaDoor.Wfind

def rawRoot : Raw := ⟨⟨#[47]⟩, true, ⟨#[]⟩⟩
def rows (L : List Ent) : List Raw := rawRoot :: L.map rawOf
theorem rows_snoc (L : List Ent) (e : Ent) : rows (L ++ [e]) = rows L ++ [rawOf e] := by unfold rows; rw [List.map_append]; rfl
theorem rows_len (L : List Ent) : (rows L).length = L.length + 1 := by rw [rows, List.length_cons, List.length_map]

theorem flat_inj {p q : Wy} (hp : ∀ x ∈ p, Pth.Good x) (hq : ∀ x ∈ q, Pth.Good x) (h : flatL p = flatL q) : p = q := by
  by_cases h0 : p = []
  · subst h0
    exact (flatL_nil q h.symm).symm
  · by_cases h1 : q = []
    · subst h1
      exact flatL_nil p h
    · rw [← parts_flat p hp h0, ← parts_flat q hq h1, h]
theorem pathB_inj {p q : Wy} (hp : ∀ x ∈ p, Pth.Good x) (hq : ∀ x ∈ q, Pth.Good x) (h : pathB p = pathB q) : p = q := by
  refine flat_inj hp hq ?_
  have := congrArg (fun s : ByteArray => s.data.toList) h
  simp only [pathB, data_bs] at this
  exact this
theorem root_other {p : Wy} (hp : ∀ x ∈ p, Pth.Good x) : rawRoot.path ≠ pathB p := by
  intro h
  have := congrArg (fun s : ByteArray => s.data.toList) h
  simp only [pathB, data_bs] at this
  have h1 : [47] = flatL p := this
  cases p with
  | nil => cases h1
  | cons x r =>
    rw [flatL_cons] at h1
    have h2 : x ++ flatL r = [] := (List.cons.inj h1).2.symm
    exact (hp x List.mem_cons_self).1 (List.append_eq_nil_iff.1 h2).1
theorem ix_no {L : List Ent} (hi : Vfs.Inv L) {p : Wy} (hp : ∀ x ∈ p, Pth.Good x) (h : at_ L p = none) : ix (rows L) (pathB p) = -1 := by
  refine ix_none fun x hx => ?_
  rcases List.mem_cons.1 hx with rfl | hx
  · exact root_other hp
  · obtain ⟨e, he, rfl⟩ := List.mem_map.1 hx
    intro h1
    exact at_none.1 h e he (pathB_inj (hi.good e he) hp h1)
theorem ix_yes {L : List Ent} (hi : Vfs.Inv L) {p : Wy} {e : Ent} (hp : ∀ x ∈ p, Pth.Good x) (h : at_ L p = some e) : ∃ k : Nat, k < L.length ∧ (rows L)[k + 1]? = some (rawOf e) ∧ ix (rows L) (pathB p) = ((k + 1 : Nat) : Int) := by
  obtain ⟨he, rfl⟩ := at_mem h
  obtain ⟨k, hk⟩ := List.mem_iff_getElem?.1 he
  have hx : (rows L)[k + 1]? = some (rawOf e) := by unfold rows; rw [List.getElem?_cons_succ, List.getElem?_map, hk]; rfl
  refine ⟨k, (List.getElem?_eq_some_iff.1 hk).1, hx, ix_at hx rfl fun j hj y hy => ?_⟩
  cases j with
  | zero =>
    have h0 : some rawRoot = some y := hy
    rw [← Option.some.inj h0]
    exact root_other hp
  | succ j =>
    unfold rows at hy
    rw [List.getElem?_cons_succ, List.getElem?_map] at hy
    cases hd : L[j]? with
    | none => rw [hd] at hy; cases hy
    | some d =>
      rw [hd] at hy
      have h0 : some (rawOf d) = some y := hy
      rw [← Option.some.inj h0]
      intro h1
      have hdm := List.mem_of_getElem? hd
      have h2 : d.pt = e.pt := pathB_inj (hi.good d hdm) hp h1
      have hj1 := (List.getElem?_eq_some_iff.1 hd).1
      have hk1 := (List.getElem?_eq_some_iff.1 hk).1
      have h3 : (L.map Ent.pt)[j]? = (L.map Ent.pt)[k]? := by rw [List.getElem?_map, List.getElem?_map, hd, hk]; show some d.pt = some e.pt; rw [h2]
      have h4 := (List.getElem?_inj (by rw [List.length_map]; exact hj1) hi.nodup).1 h3
      omega

theorem take_step (p : Wy) (j : Nat) (h : j < p.length) : p.take (j + 1) = p.take j ++ [p[j]] := List.take_succ_eq_append_getElem h
theorem take_good {p : Wy} (hp : ∀ x ∈ p, Pth.Good x) (j : Nat) : ∀ x ∈ p.take j, Pth.Good x := fun x hx => hp x (List.mem_of_mem_take hx)
theorem take_other {p : Wy} {i j : Nat} (hi : i ≤ p.length) (hj : j ≤ p.length) (h : i ≠ j) : p.take i ≠ p.take j := fun e => by
  have := congrArg List.length e
  rw [List.length_take, List.length_take] at this
  omega

/-- stopped at a thing that is there -/
theorem put_stop {L : List Ent} (hi : Vfs.Inv L) (x : Raw) {j : Nat} {e : Ent} (h : at_ L ((partsOf x.path).take j) = some e) (h1 : (partsOf x.path).length ≤ j ∨ e.dir = false) : putE L x = L := by
  unfold putE
  have hne : (partsOf x.path).take j ≠ [] := fun e0 => by
    rw [e0] at h
    obtain ⟨hm, hp⟩ := at_mem h
    exact hi.ne _ hm hp
  have := putR_stop (dir := x.dir) (text := textOf x) hi ((partsOf x.path).take j) (pre := []) (s := (partsOf x.path).drop j) (n := e) hne h (h1.imp (fun h2 => List.drop_eq_nil_of_le h2) id)
  rwa [List.take_append_drop] at this
theorem put_root (L : List Ent) (x : Raw) (h : partsOf x.path = []) : putE L x = L := by unfold putE; rw [h]; rfl

/-- on the way: j parts are laid down -/
structure On (L : List Ent) (x : Raw) (p : Wy) (m : Nat) (L' : List Ent) (j : Nat) : Prop where
  inv : Vfs.Inv L'
  put : putR x.dir (textOf x) L' (p.take j) (p.drop j) = putE L x
  small : Small (m + j) L'
  dir : ∀ i, 0 < i → i < p.length → ∀ e, at_ L' (p.take i) = some e → e.dir = true
  isd : IsDir L' (p.take j)
  none : at_ L' p = Option.none
theorem on_start {L : List Ent} (hi : Vfs.Inv L) (x : Raw) {m : Nat} (hs : Small m L) (hd : ∀ i, 0 < i → i < (partsOf x.path).length → ∀ e, at_ L ((partsOf x.path).take i) = some e → e.dir = true) (hn : at_ L (partsOf x.path) = none) : On L x (partsOf x.path) m L 0 :=
  ⟨hi, rfl, hs, hd, .inl rfl, hn⟩
theorem On.there {L L' : List Ent} {x : Raw} {p : Wy} {m j : Nat} (h : On L x p m L' j) (hj : j + 1 < p.length) {e : Ent} (he : at_ L' (p.take (j + 1)) = some e) : On L x p m L' (j + 1) := by
  have hd := h.dir (j + 1) (by omega) hj e he
  refine ⟨h.inv, ?_, h.small.mono (by omega), h.dir, .inr ⟨e, he, hd⟩, h.none⟩
  have hp := h.put
  rw [List.drop_eq_getElem_cons (by omega)] at hp
  have he2 := he
  rw [take_step p j (by omega)] at he2
  rw [putR_there he2 hd] at hp
  rw [take_step p j (by omega)]
  exact hp
theorem On.made {L L' : List Ent} {x : Raw} {p : Wy} {m j : Nat} (h : On L x p m L' j) (hg : ∀ x ∈ p, Pth.Good x) (hz : (flatL p).length ≤ 3000000) (hj : j + 1 < p.length) (he : at_ L' (p.take (j + 1)) = Option.none) : On L x p m (L' ++ [⟨p.take (j + 1), true, ⟨#[]⟩⟩]) (j + 1) := by
  have hp := h.put
  rw [List.drop_eq_getElem_cons (by omega)] at hp
  have he2 := he
  rw [take_step p j (by omega)] at he2
  rw [putR_new he2] at hp
  have hne : nextE x.dir (textOf x) (p.take j) p[j] (p.drop (j + 1)) = ⟨p.take (j + 1), true, ⟨#[]⟩⟩ := by
    unfold nextE
    rw [if_neg (fun e0 => by have := List.drop_eq_nil_iff.1 e0; omega), take_step p j (by omega)]
  rw [hne] at hp
  have hfl : (flatL (p.take (j + 1))).length ≤ (flatL p).length := by
    have := flat_pre_le (p.take (j + 1)) (p.drop (j + 1))
    rwa [List.take_append_drop] at this
  refine ⟨h.inv.snoc (e := ⟨p.take (j + 1), true, ⟨#[]⟩⟩) (take_step p j (by omega)) he h.isd (take_good hg _) (fun _ => rfl), by rw [take_step p j (by omega)] at hp ⊢; exact hp, h.small.snoc (by show (flatL (p.take (j + 1))).length ≤ _; omega) (Nat.zero_le _), fun i h0 h1 e h2 => ?_, .inr ⟨_, at_snoc_same he rfl, rfl⟩, ?_⟩
  · by_cases h3 : i = j + 1
    · subst h3
      rw [at_snoc_same he rfl] at h2
      rw [← Option.some.inj h2]
    · rw [at_snoc_other (take_other (by omega) (by omega) (fun e0 => h3 e0.symm))] at h2
      exact h.dir i h0 h1 e h2
  · rw [at_snoc_other (fun e0 => by
      have e1 : p.take (j + 1) = p := e0
      have := congrArg List.length e1
      rw [List.length_take] at this
      omega)]
    exact h.none
theorem On.last {L L' : List Ent} {x : Raw} {p : Wy} {m j : Nat} (h : On L x p m L' j) (hj : j + 1 = p.length) : putE L x = L' ++ [⟨p, x.dir, textOf x⟩] := by
  have hp := h.put
  rw [List.drop_eq_getElem_cons (by omega), List.drop_eq_nil_of_le (by omega)] at hp
  have hall : p.take j ++ [p[j]] = p := by rw [← take_step p j (by omega), List.take_of_length_le (by omega)]
  have he2 := h.none
  rw [← hall] at he2
  have hne : nextE x.dir (textOf x) (p.take j) p[j] [] = ⟨p, x.dir, textOf x⟩ := by
    unfold nextE
    rw [if_pos rfl, hall]
  rw [putR_new he2, hne, putR_nil] at hp
  exact hp.symm

end Go.Proofs.YtgfpdaaofhanoaaDoor.Wfs
