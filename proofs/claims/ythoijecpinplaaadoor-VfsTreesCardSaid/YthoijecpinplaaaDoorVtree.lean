/- A file so deep (no program). -/
import Derived.Test.YthoijecpinplaaaDoorVlook
import Derived.Test.YthoijecpinplaaaDoorVdig
namespace Go.Proofs.YthoijecpinplaaaDoor.Vtree
open Go.Proofs.YthoijecpinplaaaDoor.Pth Go.Proofs.YthoijecpinplaaaDoor.Srt Go.Proofs.YthoijecpinplaaaDoor.Vfs Go.Proofs.YthoijecpinplaaaDoor.Vmap Go.Proofs.YthoijecpinplaaaDoor.Vfind Go.Proofs.YthoijecpinplaaaDoor.Vlook Go.Proofs.YthoijecpinplaaaDoor.Vdig

def cmp (i : Nat) : List UInt8 := 100 :: digN i
def way (k : Nat) : Wy := (List.range k).map cmp
theorem way_succ (k : Nat) : way (k + 1) = way k ++ [cmp k] := by rw [way, List.range_succ, List.map_append]; rfl
theorem way_len (k : Nat) : (way k).length = k := by rw [way, List.length_map, List.length_range]
theorem cmp_good (i : Nat) : Pth.Good (cmp i) := by
  refine ⟨by simp [cmp], by simp [cmp], by simp [cmp], fun h => ?_⟩
  rcases List.mem_cons.1 h with h1 | h1
  · cases h1
  · have := digN_bytes i 47 h1
    have h2 : (47 : UInt8).toNat = 47 := rfl
    omega
theorem way_good (k : Nat) : ∀ x ∈ way k, Pth.Good x := fun x hx => by
  obtain ⟨i, _, rfl⟩ := List.mem_map.1 hx
  exact cmp_good i
theorem flat_way_succ (k : Nat) : flatL (way (k + 1)) = flatL (way k) ++ 47 :: cmp k := by rw [way_succ, flatL_app, flatL_one]
theorem flat_way_len : ∀ k, k ≤ 21 → (flatL (way k)).length ≤ 25 * k
  | 0, _ => Nat.le_refl _
  | k + 1, h => by
    have ih := flat_way_len k (by omega)
    have := digN_len k
    rw [flat_way_succ, List.length_append, List.length_cons]
    show _ + (((digN k).length + 1) + 1) ≤ _
    omega

theorem split_end : ∀ (r : Wy) (x t : List UInt8), 47 ∉ x → (∀ p ∈ r, 47 ∉ p) → splitL (x ++ (flatL r ++ 47 :: t)) = (x :: r) ++ splitL t
  | [], x, t, hx, _ => splitL_app x t hx
  | y :: r, x, t, hx, h => by
    rw [flatL_cons]
    show splitL (x ++ 47 :: (y ++ flatL r ++ 47 :: t)) = _
    rw [splitL_app _ _ hx, List.append_assoc, split_end r y t (h y List.mem_cons_self) (fun p hp => h p (List.mem_cons_of_mem _ hp))]
    rfl
theorem parts_flat (p : Wy) (h : ∀ x ∈ p, Pth.Good x) (h0 : p ≠ []) : partsOf (bs (flatL p)) = p := by
  unfold partsOf
  rw [data_bs, split_flat0 p (fun x hx => (h x hx).2.2.2) h0, pile_nil, pileL_stays _ _ h, List.nil_append]
theorem parts_slash (p : Wy) (h : ∀ x ∈ p, Pth.Good x) : partsOf (bs (flatL p ++ [47])) = p := by
  unfold partsOf
  rw [data_bs]
  have e : splitL (flatL p ++ [47]) = [] :: (p ++ [[]]) := by
    cases p with
    | nil => rfl
    | cons x r =>
      rw [flatL_cons]
      show splitL (47 :: (x ++ flatL r ++ [47])) = _
      rw [splitL_slash, List.append_assoc, split_end r x [] (h x List.mem_cons_self).2.2.2 (fun q hq => (h q (List.mem_cons_of_mem _ hq)).2.2.2)]
      rfl
  rw [e, pile_nil, pileL_snoc, pileL_stays _ _ h, List.nil_append, stepL_none _ _ (.inl rfl)]

def entT (k i : Nat) (X : ByteArray) : Ent := if i + 1 = k then ⟨way (i + 1), false, X⟩ else ⟨way (i + 1), true, ⟨#[]⟩⟩
theorem entT_pt (k i : Nat) (X : ByteArray) : (entT k i X).pt = way (i + 1) := by unfold entT; split <;> rfl
def pref (k i : Nat) (X : ByteArray) : List Ent := (List.range i).map fun j => entT k j X
theorem pref_succ (k i : Nat) (X : ByteArray) : pref k (i + 1) X = pref k i X ++ [entT k i X] := by rw [pref, List.range_succ, List.map_append]; rfl
theorem pref_mem {k i : Nat} {X : ByteArray} {e : Ent} (h : e ∈ pref k i X) : ∃ j, j < i ∧ e = entT k j X := by
  obtain ⟨j, hj, rfl⟩ := List.mem_map.1 h
  exact ⟨j, List.mem_range.1 hj, rfl⟩
theorem grow (k : Nat) (X : ByteArray) : ∀ (d i : Nat), i + d = k → putR false X (pref k i X) (way i) ((way k).drop i) = pref k k X
  | 0, i, h => by
    obtain rfl : i = k := by omega
    rw [List.drop_eq_nil_of_le (by rw [way_len]; exact Nat.le_refl _)]; rfl
  | d + 1, i, h => by
    have hi : i < (way k).length := by rw [way_len]; omega
    have hget : (way k)[i] = cmp i := by simp [way]
    have hd : (way k).drop i = cmp i :: (way k).drop (i + 1) := by rw [List.drop_eq_getElem_cons hi, hget]
    have hn : at_ (pref k i X) (way i ++ [cmp i]) = none := by
      rw [at_none]
      intro e he hp
      obtain ⟨j, hj, rfl⟩ := pref_mem he
      rw [entT_pt, ← way_succ] at hp
      have := congrArg List.length hp
      rw [way_len, way_len] at this
      omega
    rw [hd, putR_new hn]
    have hne : nextE false X (way i) (cmp i) ((way k).drop (i + 1)) = entT k i X := by
      unfold nextE entT
      rw [← way_succ]
      by_cases h1 : i + 1 = k
      · rw [if_pos h1, if_pos (List.drop_eq_nil_of_le (by rw [way_len]; omega))]
      · rw [if_neg h1, if_neg (fun h2 => by have := List.drop_eq_nil_iff.1 h2; rw [way_len] at this; omega)]
    rw [hne, ← pref_succ, ← way_succ]
    exact grow k X d (i + 1) (by omega)
def tree (k : Nat) (X : ByteArray) : List Ent := pref k k X
theorem put_tree (k : Nat) (X : ByteArray) : putR false X [] [] (way k) = tree k X := grow k X k 0 (by omega)
theorem tree_len (k : Nat) (X : ByteArray) : (tree k X).length = k := by unfold tree pref; rw [List.length_map, List.length_range]
theorem tree_inv (k : Nat) (X : ByteArray) : Vfs.Inv (tree k X) := by
  rw [← put_tree]
  exact putR_inv (fun h => by cases h) _ inv_nil (.inl rfl) (by simpa using way_good k)
theorem tree_at (k i : Nat) (X : ByteArray) (h : i < k) : at_ (tree k X) (way (i + 1)) = some (entT k i X) := by
  rw [← entT_pt k i X]
  exact (tree_inv k X).at_of (List.mem_map_of_mem (List.mem_range.2 h))
theorem tree_kids (k i : Nat) (X : ByteArray) (h : i < k) (x : List UInt8) : x ∈ [cmp i] ↔ x ∈ kids (tree k X) (way i) := by
  rw [kids_mem, List.mem_singleton]
  constructor
  · rintro rfl
    exact ⟨entT k i X, List.mem_map_of_mem (List.mem_range.2 h), by rw [entT_pt, way_succ]⟩
  · rintro ⟨e, he, hp⟩
    obtain ⟨j, hj, rfl⟩ := pref_mem he
    rw [entT_pt] at hp
    have hl := congrArg List.length hp
    rw [way_len, List.length_append, way_len] at hl
    simp at hl
    subst hl
    rw [way_succ] at hp
    exact (List.cons.inj (List.append_cancel_left hp)).1.symm
theorem node_tree (k i : Nat) (X : ByteArray) (h : i < k) : ∃ q, nodeAt (tree k X) (way i) = some q ∧ q.d = true := by
  cases i with
  | zero => exact ⟨ndRoot, rfl, rfl⟩
  | succ i =>
    refine ⟨ndOf (tree k X) (entT k i X), ?_, ?_⟩
    · rw [nodeAt, if_neg (fun e => by have := congrArg List.length e; rw [way_len] at this; cases this), tree_at k i X (by omega)]; rfl
    · show (entT k i X).dir = true
      unfold entT
      rw [if_neg (by omega)]
/-- the names at each step down -/
theorem list_tree (k i : Nat) (X : ByteArray) (h : i < k) : listN (tree k X) (bs (flatL (way i) ++ [47])) = [cmp i] := by
  obtain ⟨q, hq, hd⟩ := node_tree k i X h
  rw [listN_eq, lookN, if_neg (by rw [size_bs]; simp), parts_slash _ (way_good i), hq]
  show dirK (tree k X) (way i) q = _
  rw [dirK, hd, if_pos rfl]
  exact sortT_eq (by unfold Up; simp) (tree_kids k i X h)
theorem way_ne (k : Nat) (h : 0 < k) : way k ≠ [] := fun e => by have := congrArg List.length e; rw [way_len] at this; simp at this; omega
theorem file_tree (k : Nat) (X : ByteArray) (h : 0 < k) : at_ (tree k X) (way k) = some ⟨way k, false, X⟩ := by
  obtain ⟨i, rfl⟩ : ∃ i, k = i + 1 := ⟨k - 1, by omega⟩
  rw [tree_at (i + 1) i X (by omega), entT, if_pos rfl]
theorem flat_ne (k : Nat) (h : 0 < k) : (bs (flatL (way k))).size ≠ 0 := by
  rw [size_bs]
  obtain ⟨i, rfl⟩ : ∃ i, k = i + 1 := ⟨k - 1, by omega⟩
  rw [flat_way_succ]; simp
theorem look_tree (k : Nat) (X : ByteArray) (h : 0 < k) : lookN (tree k X) (bs (flatL (way k))) = some ⟨pathB (way k), false, X, 0⟩ := by
  rw [lookN, if_neg (flat_ne k h), parts_flat _ (way_good k) (way_ne k h), nodeAt, if_neg (way_ne k h), file_tree k X h]
  rfl
theorem list_file (k : Nat) (X : ByteArray) (h : 0 < k) : listN (tree k X) (bs (flatL (way k))) = [] := by
  rw [listN_eq, look_tree k X h]
  rfl
theorem parts_y (k : Nat) : partsOf (bs (flatL (way k) ++ [47, 121])) = way k ++ [[121]] := by
  have e : flatL (way k) ++ [47, 121] = flatL (way k ++ [[121]]) := by rw [flatL_app, flatL_one]
  rw [e]
  refine parts_flat _ (fun x hx => ?_) (by simp)
  rcases List.mem_append.1 hx with h1 | h1
  · exact way_good k x h1
  · rw [List.mem_singleton.1 h1]
    exact ⟨by simp, by simp, by simp, by decide⟩
theorem look_y (k : Nat) (X : ByteArray) : lookN (tree k X) (bs (flatL (way k) ++ [47, 121])) = none := by
  have hn : at_ (tree k X) (way k ++ [[121]]) = none := by
    rw [at_none]
    intro e he hp
    obtain ⟨j, hj, rfl⟩ := pref_mem he
    rw [entT_pt] at hp
    have := congrArg List.length hp
    rw [way_len, List.length_append, way_len] at this
    simp at this
    omega
  rw [lookN, if_neg (by rw [size_bs]; simp), parts_y, nodeAt, if_neg (by simp), hn]
  rfl

def raw1 (k : Nat) : List Raw := [⟨bs (flatL (way k)), false, ⟨#[120]⟩⟩]
def raw3 (k : Nat) : List Raw := [⟨bs (flatL (way k) ++ [47, 121]), false, ⟨#[122]⟩⟩, ⟨bs (flatL (way k)), false, ⟨#[111, 116, 104, 101, 114]⟩⟩, ⟨bs (flatL (way k)), true, ⟨#[]⟩⟩]
theorem new1 (k : Nat) (h : 0 < k) : newL (raw1 k) = tree k ⟨#[120]⟩ := by
  show putE [] _ = _
  unfold putE
  rw [show partsOf (bs (flatL (way k))) = way k from parts_flat _ (way_good k) (way_ne k h)]
  exact put_tree k _
theorem new4 (k : Nat) (h : 0 < k) : newL (raw1 k ++ raw3 k) = tree k ⟨#[120]⟩ := by
  have h1 := new1 k h
  have hf : at_ (tree k ⟨#[120]⟩) ([] ++ way k) = some ⟨way k, false, ⟨#[120]⟩⟩ := file_tree k _ h
  have hi := tree_inv k ⟨#[120]⟩
  have e1 : putE (tree k ⟨#[120]⟩) ⟨bs (flatL (way k) ++ [47, 121]), false, ⟨#[122]⟩⟩ = tree k ⟨#[120]⟩ := by
    unfold putE
    rw [show partsOf (bs (flatL (way k) ++ [47, 121])) = way k ++ [[121]] from parts_y k]
    exact putR_stop hi (way k) (way_ne k h) hf (.inr rfl)
  have e2 : ∀ d t, putE (tree k ⟨#[120]⟩) ⟨bs (flatL (way k)), d, t⟩ = tree k ⟨#[120]⟩ := fun d t => by
    unfold putE
    rw [show partsOf (bs (flatL (way k))) = way k ++ [] from (parts_flat _ (way_good k) (way_ne k h)).trans (List.append_nil _).symm]
    exact putR_stop hi (way k) (way_ne k h) hf (.inl rfl)
  show putE (putE (putE (newL (raw1 k)) _) _) _ = _
  rw [h1, e1, e2, e2]

end Go.Proofs.YthoijecpinplaaaDoor.Vtree
