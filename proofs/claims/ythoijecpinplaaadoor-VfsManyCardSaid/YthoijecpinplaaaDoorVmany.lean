/- As many files as may be (no program). -/
import Derived.Test.YthoijecpinplaaaDoorVlook
import Derived.Test.YthoijecpinplaaaDoorVdig
namespace Go.Proofs.YthoijecpinplaaaDoor.Vmany
open Go.Proofs.YthoijecpinplaaaDoor.Pth Go.Proofs.YthoijecpinplaaaDoor.Srt Go.Proofs.YthoijecpinplaaaDoor.Vfs Go.Proofs.YthoijecpinplaaaDoor.Vmap Go.Proofs.YthoijecpinplaaaDoor.Vfind Go.Proofs.YthoijecpinplaaaDoor.Vlook Go.Proofs.YthoijecpinplaaaDoor.Vdig

/-- the i-th name -/
def nm (i : Nat) : List UInt8 := [102, 49, (48 + i / 100).toUInt8, (48 + i / 10 % 10).toUInt8, (48 + i % 10).toUInt8]
theorem nm_dig (i : Nat) (h : i < 300) : 102 :: digN (1000 + i) = nm i := by
  rw [digN_more (by omega), digN_more (by omega), digN_more (by omega), digN_one (by omega)]
  unfold nm
  have e1 : (1000 + i) / 10 / 10 / 10 = 1 := by omega
  have e2 : (1000 + i) / 10 / 10 % 10 = i / 100 := by omega
  have e3 : (1000 + i) / 10 % 10 = i / 10 % 10 := by omega
  have e4 : (1000 + i) % 10 = i % 10 := by omega
  rw [e1, e2, e3, e4]
  rfl
theorem nm_next : ∀ i, i < 300 → nm i < nm (i + 1) := by decide +kernel
theorem nm_lt {i j : Nat} (h : i < j) (hj : j ≤ 300) : nm i < nm j := by
  induction j with
  | zero => omega
  | succ j ih =>
    rcases Nat.lt_or_ge i j with h1 | h1
    · exact lt_trans' (ih h1 (by omega)) (nm_next j (by omega))
    · obtain rfl : i = j := by omega
      exact nm_next i (by omega)
theorem nm_ne {i j : Nat} (h : i < j) (hj : j ≤ 300) : nm i ≠ nm j := fun e => lt_irrefl' (nm j) (by have := nm_lt h hj; rwa [e] at this)
theorem nm_slash : ∀ i, i < 300 → 47 ∉ nm i := by decide +kernel
theorem nm_parts (i : Nat) (h : i < 300) : partsOf (bs (nm i)) = [nm i] := by
  unfold partsOf
  rw [data_bs, splitL_one _ (nm_slash i h), pileL_cons, stepL_put _ _ (by simp [nm]) (by simp [nm]) (by simp [nm])]
  rfl

def rawI (i : Nat) : Raw := ⟨bs (nm i), false, bs (digN i)⟩
def entI (i : Nat) : Ent := ⟨[nm i], false, bs (digN i)⟩
def raws (k : Nat) : List Raw := (List.range k).map rawI
def ents (m : Nat) : List Ent := (List.range m).map entI
theorem raws_succ (k : Nat) : raws (k + 1) = raws k ++ [rawI k] := by rw [raws, List.range_succ, List.map_append]; rfl
theorem ents_succ (k : Nat) : ents (k + 1) = ents k ++ [entI k] := by rw [ents, List.range_succ, List.map_append]; rfl
theorem raws_len (k : Nat) : (raws k).length = k := by rw [raws, List.length_map, List.length_range]
theorem raws_take (k m : Nat) (h : m ≤ k) : (raws k).take m = raws m := by
  unfold raws
  rw [← List.map_take]
  congr 1
  rw [List.take_range, Nat.min_eq_left h]
theorem at_ents (m i : Nat) (hm : m ≤ 300) (hi : i < 300) : at_ (ents m) [nm i] = if i < m then some (entI i) else none := by
  induction m with
  | zero => rfl
  | succ m ih =>
    rw [ents_succ, at_app, ih (by omega), at_one]
    by_cases h1 : i < m
    · rw [if_pos h1, if_pos (show i < m + 1 by omega)]; cases (if (entI m).pt = [nm i] then some (entI m) else none) <;> rfl
    · rw [if_neg h1]
      by_cases h2 : m = i
      · subst h2
        rw [if_pos (show (entI m).pt = [nm m] from rfl), if_pos (Nat.lt_succ_self m)]; rfl
      · rw [if_neg (fun e : (entI m).pt = [nm i] => ?_), if_neg (show ¬ i < m + 1 by omega)]
        · rfl
        · exact nm_ne (show m < i by omega) (by omega) (List.cons.inj e).1
theorem fold_many (k : Nat) (hk : k ≤ 300) : (raws k).foldl putE [] = ents k := by
  induction k with
  | zero => rfl
  | succ k ih =>
    rw [raws_succ, List.foldl_append, ih (by omega), ents_succ]
    show putE (ents k) (rawI k) = _
    unfold putE
    have hp : partsOf (rawI k).path = [nm k] := nm_parts k (by omega)
    have hn : at_ (ents k) ([] ++ [nm k]) = none := by
      show at_ (ents k) [nm k] = none
      rw [at_ents k k (by omega) (by omega), if_neg (Nat.lt_irrefl _)]
    rw [hp, putR_new hn]
    rfl
theorem new_many (k : Nat) (hk : k ≤ 300) : newL (raws k) = ents (min k 200) := by
  unfold newL
  rcases Nat.le_total k 200 with h | h
  · rw [List.take_of_length_le (by rw [raws_len]; exact h), fold_many k hk, Nat.min_eq_left h]
  · rw [raws_take k 200 h, fold_many 200 (by omega), Nat.min_eq_right h]
theorem up_names (m : Nat) (hm : m ≤ 300) : Up ((List.range m).map nm) := by
  unfold Up
  rw [List.pairwise_map]
  refine List.pairwise_lt_range.imp_of_mem fun {a b} _ hb hab => nm_lt hab ?_
  have := List.mem_range.1 hb
  omega
theorem kids_many (m : Nat) (x : List UInt8) : x ∈ (List.range m).map nm ↔ x ∈ kids (ents m) [] := by
  rw [kids_mem, List.mem_map]
  constructor
  · rintro ⟨i, hi, rfl⟩
    exact ⟨entI i, List.mem_map_of_mem hi, rfl⟩
  · rintro ⟨e, he, hp⟩
    obtain ⟨i, hi, rfl⟩ := List.mem_map.1 he
    exact ⟨i, hi, (List.cons.inj hp).1⟩
theorem list_many (m : Nat) (hm : m ≤ 300) : listN (ents m) ⟨#[47]⟩ = (List.range m).map nm := by
  have h1 : lookN (ents m) ⟨#[47]⟩ = some ndRoot := rfl
  have h2 : partsOf ⟨#[47]⟩ = [] := by kernel_rfl
  rw [listN_eq, h1, h2]
  show sortT (kids (ents m) []) = _
  exact sortT_eq (up_names m hm) (kids_many m)
theorem look_many (m i : Nat) (hm : m ≤ 300) (hi : i < m) : lookN (ents m) (bs (nm i)) = some ⟨pathB [nm i], false, bs (digN i), 0⟩ := by
  unfold lookN
  rw [if_neg (by rw [size_bs]; simp [nm]), nm_parts i (by omega), nodeAt, if_neg (by simp), at_ents m i hm (by omega), if_pos hi]
  rfl
theorem ents_len (m : Nat) : (ents m).length = m := by rw [ents, List.length_map, List.length_range]

end Go.Proofs.YthoijecpinplaaaDoor.Vmany
