/- WildStars: the grid's facts (no program). -/
import Derived.Test.YtgfpdaaofhanoaaGreatDoorWawk
namespace Go.Proofs.YtgfpdaaofhanoaaGreatDoor.Wgrid
open Go.RowKit Go.Proofs.YtgfpdaaofhanoaaGreatDoor.Pth Go.Proofs.YtgfpdaaofhanoaaGreatDoor.Strs Go.Proofs.YtgfpdaaofhanoaaGreatDoor.Vfs Go.Proofs.YtgfpdaaofhanoaaGreatDoor.Vmap Go.Proofs.YtgfpdaaofhanoaaGreatDoor.Vnames Go.Proofs.YtgfpdaaofhanoaaGreatDoor.Vnew Go.Proofs.YtgfpdaaofhanoaaGreatDoor.Vfind Go.Proofs.YtgfpdaaofhanoaaGreatDoor.Wdp Go.Proofs.YtgfpdaaofhanoaaGreatDoor.Wst Go.Proofs.YtgfpdaaofhanoaaGreatDoor.Wsp Go.Proofs.YtgfpdaaofhanoaaGreatDoor.Wex Go.Proofs.YtgfpdaaofhanoaaGreatDoor.Wok Go.Proofs.YtgfpdaaofhanoaaGreatDoor.Wq Go.Proofs.YtgfpdaaofhanoaaGreatDoor.Wawk

def dg (a : Nat) : UInt8 := UInt8.ofNat (48 + a)
def cellP (a b : Nat) : T := [100, dg a, 47, 102, dg b, 46, 99]
def cellR (a b : Nat) : Raw := ⟨bs (cellP a b), false, ⟨#[]⟩⟩
def lastR : Raw := ⟨⟨#[100, 46, 116, 120, 116]⟩, false, ⟨#[]⟩⟩
/-- the rows ahead of (a, b) -/
def gridR (j a b : Nat) : List Raw := ((List.range a).flatMap fun x => (List.range j).map (cellR x)) ++ (List.range b).map (cellR a)
def gridL (k j : Nat) : List Ent := newL (gridR j k 0 ++ [lastR])
def wOne : T := [100, 48, 47, 42]
def wds : List T := [wOne, [42, 47, 42, 46, 99], [47, 100, 63, 47, 102, 42], [100, 42], [100, 42, 47], [42, 47, 102, 48, 46, 99], [100, 46, 116, 120, 116, 47, 42], [100, 48, 47, 102, 48, 46, 99], [100, 48, 47, 110, 111, 110, 101]]
def cnt (L : List Ent) (s : T) (n : Nat) : Bool := anyM (partsP s) && decide ((foundQ L s).length = n)
def chk (k j : Nat) (L : List Ent) : Bool :=
  decide (L.length ≤ 900000) && L.all (fun e => decide ((flatL e.pt).length ≤ 400000)) && wds.all (okQ L) &&
  anyM (partsP wOne) && decide (foundQ L wOne = (List.range j).map fun b => cellP 0 b) && decide (List.Pairwise (fun x y : T => x ≤ y) (foundQ L wOne)) &&
  cnt L [42, 47, 42, 46, 99] (k * j) && cnt L [47, 100, 63, 47, 102, 42] (k * j) && cnt L [100, 42] (k + 1) && cnt L [100, 42, 47] k && cnt L [42, 47, 102, 48, 46, 99] k && cnt L [100, 46, 116, 120, 116, 47, 42] 0 &&
  (lookN L (bs (47 :: joinT (partsP [100, 48, 47, 102, 48, 46, 99])))).isSome && !(lookN L (bs (47 :: joinT (partsP [100, 48, 47, 110, 111, 110, 101])))).isSome
set_option maxRecDepth 100000 in
theorem chk_all : ((List.range 6).all fun k => (List.range 6).all fun j => chk (k + 1) (j + 1) (gridL (k + 1) (j + 1))) = true := by kernel_rfl

theorem cells_len : ∀ l : List Raw, (cells l).length = l.length * 3
  | [] => rfl
  | x :: l => by
    have := cells_len l
    unfold cells at *
    rw [List.flatMap_cons, List.length_append, this, List.length_cons]
    show 3 + _ = _
    omega
theorem cells_app (a b : List Raw) : cells (a ++ b) = cells a ++ cells b := List.flatMap_append
theorem infoEnt : (Tryz.prog.info? 40).map (fun i => (i.zero, i.size, i.bytes)) = some (some (.agg #[.string .empty, .bool false, .string .empty]), 3, 40) := by kernel_rfl
theorem enIs_of_own {w : World} {base : Nat} {v : Value} {n : Nat} {l : List Raw} (hn : l.length = n) (h : w.ownsRow base 40 3 v n (cells l)) :
    ∃ A c, v = .slice A n c ∧ EnIs w A c l ∧ ∀ x ∈ l, A ≠ none := by
  subst hn
  have hcells : ∀ g, v.ownBlock = some g → ∀ j u, (cells l)[j]? = some u → w.cell? ((⟨g, 0, none⟩ : Addr).add j) = some u := fun g hg => h.cells (g := g) hg
  rcases h.2 with ⟨rfl, hn⟩ | ⟨g, cap, cur, rfl, _, hg, hn, _, _, _⟩
  · have h0 := List.eq_nil_of_length_eq_zero hn
    subst h0
    exact ⟨none, 0, rfl, ⟨Nat.le_refl _, .inl rfl⟩, fun x hx => by cases hx⟩
  · refine ⟨_, cap, rfl, ⟨hn, .inr ⟨g, 0, rfl, (Array.getElem?_eq_some_iff.1 hg).1, fun j x hx => ?_⟩⟩, fun _ _ h0 => by cases h0⟩
    obtain ⟨h1, h2, h3⟩ := cells_at l j x hx
    rw [Nat.zero_add]
    have e : ∀ k, (⟨g, 0, none⟩ : Addr).add k = ⟨g, k, none⟩ := fun k => by rw [addr_add, Nat.zero_add]
    exact ⟨by rw [← e]; exact hcells g rfl _ _ h1, by rw [← e]; exact hcells g rfl _ _ h2, by rw [← e]; exact hcells g rfl _ _ h3⟩

theorem news3 (w : World) (x : Raw) (t : TypeId) : ∀ (j : Nat) u, (encR x)[j]? = some u → (w.alloc (.cells #[.string x.path, .bool x.dir, .string x.text] t)).cell? ((⟨w.heap.size, 0, none⟩ : Addr).add j) = some u := fun j u hu => by
  rw [addr_add, Nat.zero_add, Lib.cell_of_heap (heap_alloc_new w _)]
  rw [← List.getElem?_toArray] at hu
  exact hu

theorem encR_one (x : Raw) : ∀ u ∈ encR x, u.oneCell' = true := fun u hu => by
  simp [encR] at hu
  rcases hu with rfl | rfl | rfl <;> rfl

structure Grid (k j : Nat) (L : List Ent) : Prop where
  fs : FsOk L
  ok : ∀ s ∈ wds, WordOk L s
  one : expandP L wOne = (List.range j).map fun b => cellP 0 b
  n1 : (expandP L [42, 47, 42, 46, 99]).length = k * j
  n2 : (expandP L [47, 100, 63, 47, 102, 42]).length = k * j
  n3 : (expandP L [100, 42]).length = k + 1
  n4 : (expandP L [100, 42, 47]).length = k
  n5 : (expandP L [42, 47, 102, 48, 46, 99]).length = k
  n6 : (expandP L [100, 46, 116, 120, 116, 47, 42]).length = 0
  e7 : expandP L [100, 48, 47, 102, 48, 46, 99] = [[100, 48, 47, 102, 48, 46, 99]]
  e8 : expandP L [100, 48, 47, 110, 111, 110, 101] = []
theorem cnt_len {L : List Ent} (hi : Vfs.Inv L) {s : T} {n : Nat} (h : cnt L s n = true) : (expandP L s).length = n := by
  unfold cnt at h
  rw [Bool.and_eq_true, decide_eq_true_eq] at h
  rw [expand_len hi h.1, h.2]
theorem grid_of {k j : Nat} {L : List Ent} (hi : Vfs.Inv L) (h : chk k j L = true) : Grid k j L := by
  unfold chk at h
  simp only [Bool.and_eq_true] at h
  obtain ⟨⟨⟨⟨⟨⟨⟨⟨⟨⟨⟨⟨⟨h1, h2⟩, h3⟩, h4⟩, h5⟩, h6⟩, h7⟩, h8⟩, h9⟩, h10⟩, h11⟩, h12⟩, h13⟩, h14⟩ := h
  refine ⟨FsOk.of hi (of_decide_eq_true h1) (fun e he => of_decide_eq_true (List.all_eq_true.1 h2 e he)), fun s hs => WordOk.of hi (List.all_eq_true.1 h3 s hs), ?_, cnt_len hi h7, cnt_len hi h8, cnt_len hi h9, cnt_len hi h10, cnt_len hi h11, cnt_len hi h12, ?_, ?_⟩
  · rw [expand_magic hi h4, ← of_decide_eq_true h5]
    exact List.Perm.eq_of_pairwise (le := fun x y : T => x ≤ y) (fun _ _ _ _ a b => List.le_antisymm a b) (Srt.sorted_le _) (of_decide_eq_true h6) (List.mergeSort_perm _ _)
  · unfold expandP
    rw [if_neg (show partsP [100, 48, 47, 102, 48, 46, 99] ≠ [] by decide), if_neg (show ¬ anyM (partsP [100, 48, 47, 102, 48, 46, 99]) = true by decide), h13]
    rfl
  · unfold expandP
    rw [if_neg (show partsP [100, 48, 47, 110, 111, 110, 101] ≠ [] by decide), if_neg (show ¬ anyM (partsP [100, 48, 47, 110, 111, 110, 101]) = true by decide), (show (lookN L (bs (47 :: joinT (partsP [100, 48, 47, 110, 111, 110, 101])))).isSome = false by simpa using h14)]
    rfl
theorem grid_all (k j : Nat) (hk0 : 0 < k) (hk : k ≤ 6) (hj0 : 0 < j) (hj : j ≤ 6) : Grid k j (gridL k j) := by
  have h1 := List.all_eq_true.1 chk_all (k - 1) (List.mem_range.2 (by omega))
  have h2 := List.all_eq_true.1 h1 (j - 1) (List.mem_range.2 (by omega))
  rw [show k - 1 + 1 = k by omega, show j - 1 + 1 = j by omega] at h2
  exact grid_of (newL_inv _) h2
theorem gridR_succ (j a b : Nat) : gridR j a (b + 1) = gridR j a b ++ [cellR a b] := by
  unfold gridR
  rw [List.range_succ, List.map_append, List.append_assoc]; rfl
theorem gridR_row (j a : Nat) : gridR j a j = gridR j (a + 1) 0 := by
  unfold gridR
  rw [List.range_succ, List.flatMap_append, List.flatMap_cons, List.flatMap_nil, List.append_nil, List.range_zero, List.map_nil, List.append_nil]
theorem gridR_len (j a b : Nat) : (gridR j a b).length = a * j + b := by
  unfold gridR
  rw [List.length_append, List.length_map, List.length_range]
  congr 1
  induction a with
  | zero => simp
  | succ a ih => rw [List.range_succ, List.flatMap_append, List.length_append, ih, List.flatMap_cons, List.flatMap_nil, List.append_nil, List.length_map, List.length_range, Nat.succ_mul]
theorem gridR_le (j a b : Nat) (h1 : a ≤ 6) (h2 : j ≤ 6) (h3 : b ≤ 6) : (gridR j a b).length ≤ 42 := by
  rw [gridR_len]
  have : a * j ≤ 6 * 6 := Nat.mul_le_mul h1 h2
  omega
theorem grid_small (k j : Nat) : ∀ x ∈ gridR j k 0 ++ [lastR], RawSmall x := fun x hx => by
  have hc : ∀ a b, RawSmall (cellR a b) := fun a b => ⟨by show 7 ≤ _; omega, by show 0 ≤ _; omega⟩
  rcases List.mem_append.1 hx with h1 | h1
  · unfold gridR at h1
    rw [List.range_zero, List.map_nil, List.append_nil] at h1
    obtain ⟨a, _, h2⟩ := List.mem_flatMap.1 h1
    obtain ⟨b, _, rfl⟩ := List.mem_map.1 h2
    exact hc a b
  · rw [List.mem_singleton.1 h1]
    exact ⟨by show 5 ≤ _; omega, by show 0 ≤ _; omega⟩

end Go.Proofs.YtgfpdaaofhanoaaGreatDoor.Wgrid
