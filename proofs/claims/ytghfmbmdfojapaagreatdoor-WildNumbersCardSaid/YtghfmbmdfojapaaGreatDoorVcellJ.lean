/- Entries as cells of a row (parted from Vsort, Vall, Vawake: they stand where the library's SortFunc is not called). -/
import Derived.Sort.OwnSorted
import Derived.Lib.OwnBridge
import Derived.Test.YtghfmbmdfojapaaGreatDoorVlookJ
import Derived.Deep.DeepCutAuto
import Derived.Laws.OwnMore
namespace Go.Proofs.YtghfmbmdfojapaaGreatDoor.Vsort
open Go.RowKit Go.Maps Go.Sort Go.Shelf Go.Proofs.YtghfmbmdfojapaaGreatDoor.Pth Go.Proofs.YtghfmbmdfojapaaGreatDoor.Strs Go.Proofs.YtghfmbmdfojapaaGreatDoor.Srt Go.Proofs.YtghfmbmdfojapaaGreatDoor.Vfs Go.Proofs.YtghfmbmdfojapaaGreatDoor.Vmap Go.Proofs.YtghfmbmdfojapaaGreatDoor.Vnames Go.Proofs.YtghfmbmdfojapaaGreatDoor.Vnew

instance : Inhabited Raw := ⟨⟨⟨#[]⟩, false, ⟨#[]⟩⟩⟩
/-- an entry's cells -/
def encR (x : Raw) : List Value := [.string x.path, .bool x.dir, .string x.text]
def cells (l : List Raw) : List Value := l.flatMap encR
theorem cells_len : ∀ l : List Raw, (cells l).length = l.length * 3
  | [] => rfl
  | x :: l => by
    have := cells_len l
    unfold cells at *
    rw [List.flatMap_cons, List.length_append, this, List.length_cons]
    show 3 + _ = _
    omega
theorem cells_app (a b : List Raw) : cells (a ++ b) = cells a ++ cells b := List.flatMap_append
theorem cells_at : ∀ (l : List Raw) (j : Nat) (x : Raw), l[j]? = some x → (cells l)[j * 3]? = some (.string x.path) ∧ (cells l)[j * 3 + 1]? = some (.bool x.dir) ∧ (cells l)[j * 3 + 2]? = some (.string x.text)
  | [], _, _, h => by cases h
  | y :: l, 0, x, h => by
    cases h
    exact ⟨rfl, rfl, rfl⟩
  | y :: l, j + 1, x, h => by
    obtain ⟨h1, h2, h3⟩ := cells_at l j x (by simpa using h)
    have e : ∀ k, (cells (y :: l))[(j + 1) * 3 + k]? = (cells l)[j * 3 + k]? := fun k => by
      show (encR y ++ cells l)[(j + 1) * 3 + k]? = _
      rw [List.getElem?_append_right (by show 3 ≤ _; omega)]
      congr 1
      show (j + 1) * 3 + k - 3 = _
      omega
    exact ⟨(e 0).trans h1, (e 1).trans h2, (e 2).trans h3⟩
theorem cells_one (l : List Raw) : ∀ u ∈ cells l, u.oneCell' = true := fun u hu => by
  obtain ⟨x, _, hx⟩ := List.mem_flatMap.1 hu
  simp [encR] at hx
  rcases hx with rfl | rfl | rfl <;> rfl
theorem infoEnt : (Tryz.prog.info? 33).map (fun i => (i.zero, i.size, i.bytes)) = some (some (.agg #[.string .empty, .bool false, .string .empty]), 3, 40) := by kernel_rfl

theorem enIs_of_own {w : World} {base : Nat} {v : Value} {n : Nat} {l : List Raw} (hn : l.length = n) (h : w.ownsRow base 33 3 v n (cells l)) :
    ∃ A c, v = .slice A n c ∧ EnIs w A c l ∧ ∀ x ∈ l, A ≠ none := by
  subst hn
  have hcells : ∀ g, v.ownBlock = some g → ∀ j u, (cells l)[j]? = some u → w.cell? ((⟨g, 0, none⟩ : Addr).add j) = some u := fun g hg => h.cells (g := g) hg
  rcases h.2 with ⟨rfl, hn⟩ | ⟨g, cap, cur, rfl, _, hg, hn, _, _, _⟩
  · have h0 := List.eq_nil_of_length_eq_zero hn
    subst h0
    exact ⟨none, 0, rfl, ⟨Nat.le_refl _, .inl rfl⟩, fun x hx => by cases hx⟩
  · refine ⟨_, cap, rfl, ⟨hn, .inr ⟨g, 0, rfl, (Array.getElem?_eq_some_iff.1 hg).1, fun j x hx => ?_⟩⟩, fun _ _ h0 => by cases h0⟩
    obtain ⟨h1, h2, h3⟩ := cells_at l j x hx
    rw [Nat.zero_add]
    have e : ∀ k, (⟨g, 0, none⟩ : Addr).add k = ⟨g, k, none⟩ := fun k => by rw [addr_add, Nat.zero_add]
    exact ⟨by rw [← e]; exact hcells g rfl _ _ h1, by rw [← e]; exact hcells g rfl _ _ h2, by rw [← e]; exact hcells g rfl _ _ h3⟩

end Go.Proofs.YtghfmbmdfojapaaGreatDoor.Vsort
namespace Go.Proofs.YtghfmbmdfojapaaGreatDoor.Vall
open Go.RowKit Go.Maps Go.Proofs.YtghfmbmdfojapaaGreatDoor.Pth Go.Proofs.YtghfmbmdfojapaaGreatDoor.Strs Go.Proofs.YtghfmbmdfojapaaGreatDoor.Srt Go.Proofs.YtghfmbmdfojapaaGreatDoor.Vfs Go.Proofs.YtghfmbmdfojapaaGreatDoor.Vmap Go.Proofs.YtghfmbmdfojapaaGreatDoor.Vnames Go.Proofs.YtghfmbmdfojapaaGreatDoor.Vnew Go.Proofs.YtghfmbmdfojapaaGreatDoor.Vlook Go.Proofs.YtghfmbmdfojapaaGreatDoor.Vsort

def rawOf (e : Ent) : Raw := ⟨pathB e.pt, e.dir, e.text⟩

theorem perm_map_inv {α β : Type} (f : α → β) {m n : List β} (h : m.Perm n) : ∀ l : List α, n = l.map f → ∃ k : List α, k.Perm l ∧ m = k.map f := by
  induction h with
  | nil =>
    intro l hl
    exact ⟨l, List.Perm.refl _, hl⟩
  | cons x h ih =>
    intro l hl
    cases l with
    | nil => cases hl
    | cons a l =>
      rw [List.map_cons, List.cons.injEq] at hl
      obtain ⟨k, hk, e⟩ := ih l hl.2
      exact ⟨a :: k, hk.cons a, by rw [List.map_cons, e, hl.1]⟩
  | swap x y t =>
    intro l hl
    cases l with
    | nil => cases hl
    | cons a l =>
      cases l with
      | nil => cases hl
      | cons b l =>
        rw [List.map_cons, List.map_cons, List.cons.injEq, List.cons.injEq] at hl
        exact ⟨b :: a :: l, List.Perm.swap a b l, by rw [List.map_cons, List.map_cons, hl.1, hl.2.1, hl.2.2]⟩
  | trans h1 h2 ih1 ih2 =>
    intro l hl
    obtain ⟨k2, hk2, e2⟩ := ih2 l hl
    obtain ⟨k1, hk1, e1⟩ := ih1 k2 e2
    exact ⟨k1, hk1.trans hk2, e1⟩

theorem flat_inj {a b : Wy} (ha : ∀ p ∈ a, 47 ∉ p) (hb : ∀ p ∈ b, 47 ∉ p) (h : flatL a = flatL b) : a = b := by
  by_cases h0 : a = []
  · subst h0
    exact (flatL_nil b h.symm).symm
  · have h1 : b ≠ [] := fun e => by
      rw [e] at h
      exact h0 (flatL_nil a h)
    have := split_flat0 a ha h0
    rw [h, split_flat0 b hb h1] at this
    exact (List.cons.inj this).2.symm
/-- the paths of what is there, each once -/
theorem paths_nodup {L : List Ent} (hi : Inv L) : (L.map fun e => flatL e.pt).Nodup := by
  have h1 : (L.map fun e => flatL e.pt) = (L.map Ent.pt).map flatL := by rw [List.map_map]; rfl
  rw [h1]
  refine List.pairwise_map.2 (hi.nodup.imp_of_mem fun {a b} ha hb hne e => hne ?_)
  obtain ⟨x, hx, rfl⟩ := List.mem_map.1 ha
  obtain ⟨y, hy, rfl⟩ := List.mem_map.1 hb
  exact flat_inj (fun p hp => (hi.good x hx p hp).2.2.2) (fun p hp => (hi.good y hy p hp).2.2.2) e
theorem up_of_raws {L M : List Ent} (hi : Inv L) (hp : M.Perm L) (h : (M.map rawOf).Pairwise (fun x y => ¬ y.path.data.toList < x.path.data.toList)) : Up (M.map fun e => flatL e.pt) := by
  refine up_of_sorted ?_ (((hp.map _).nodup_iff).2 (paths_nodup hi))
  rw [List.pairwise_map] at h ⊢
  exact h.imp fun {a b} hab => List.not_lt.1 hab

theorem news3 (w : World) (x : Raw) (t : TypeId) : ∀ (j : Nat) u, (encR x)[j]? = some u → (w.alloc (.cells #[.string x.path, .bool x.dir, .string x.text] t)).cell? ((⟨w.heap.size, 0, none⟩ : Addr).add j) = some u := fun j u hu => by
  rw [addr_add, Nat.zero_add, Lib.cell_of_heap (heap_alloc_new w _)]
  rw [← List.getElem?_toArray] at hu
  exact hu

theorem rows_below {w W : World} {B e k : Nat} {v : Value} {n : Nat} {xs : List Value} (h : w.ownsRow B e k v n xs) (hg : ∀ g, v.ownBlock = some g → W.heap[g]? = w.heap[g]?) : W.ownsRow B e k v n xs := by
  refine ⟨h.1, ?_⟩
  rcases h.2 with h0 | ⟨g, cap, cur, hv, hB, hb, hr⟩
  · exact .inl h0
  · exact .inr ⟨g, cap, cur, hv, hB, (hg g (by rw [hv]; rfl)).trans hb, hr⟩

theorem news3' (w : World) (o : Obj) (x : Raw) (t : TypeId) : ∀ (j : Nat) u, (encR x)[j]? = some u → ((w.alloc o).alloc (.cells #[.string x.path, .bool x.dir, .string x.text] t)).cell? ((⟨w.heap.size + 1, 0, none⟩ : Addr).add j) = some u := by
  have := news3 (w.alloc o) x t
  rw [World.size_alloc] at this
  exact this
theorem encR_one (x : Raw) : ∀ u ∈ encR x, u.oneCell' = true := fun u hu => by
  simp [encR] at hu
  rcases hu with rfl | rfl | rfl <;> rfl
theorem own_ne {w : World} {B e k r : Nat} {v : Value} {n : Nat} {xs : List Value} (h : w.ownsRow B e k v n xs) (hr : w.heap.size ≤ r) : some r ≠ v.ownBlock := fun e1 => by have h5 := (h.lt r e1.symm).2; omega

end Go.Proofs.YtghfmbmdfojapaaGreatDoor.Vall
namespace Go.Proofs.YtghfmbmdfojapaaGreatDoor.Vawake
open Go.RowKit Go.Maps Go.Proofs.YtghfmbmdfojapaaGreatDoor.Pth Go.Proofs.YtghfmbmdfojapaaGreatDoor.Strs Go.Proofs.YtghfmbmdfojapaaGreatDoor.Vfs Go.Proofs.YtghfmbmdfojapaaGreatDoor.Vmap Go.Proofs.YtghfmbmdfojapaaGreatDoor.Vnames Go.Proofs.YtghfmbmdfojapaaGreatDoor.Vnew Go.Proofs.YtghfmbmdfojapaaGreatDoor.Vsort

/-- entries laid anew -/
theorem ents_is (w : World) (l : List Raw) : EnIs (w.alloc (.cells (cells l).toArray 33)) (some ⟨w.heap.size, 0, none⟩) l.length l := by
  refine ⟨Nat.le_refl _, .inr ⟨w.heap.size, 0, rfl, by simp, fun j x hx => ?_⟩⟩
  obtain ⟨h1, h2, h3⟩ := cells_at l j x hx
  rw [Nat.zero_add, Lib.cell_of_heap (heap_alloc_new w _), Lib.cell_of_heap (heap_alloc_new w _), Lib.cell_of_heap (heap_alloc_new w _), List.getElem?_toArray, List.getElem?_toArray, List.getElem?_toArray]
  exact ⟨h1, h2, h3⟩

end Go.Proofs.YtghfmbmdfojapaaGreatDoor.Vawake

/- The document's file system in memory, and its find. -/
namespace Go.Proofs.YtghfmbmdfojapaaGreatDoor.Wfind
open Go.RowKit Go.Proofs.YtghfmbmdfojapaaGreatDoor.Pth Go.Proofs.YtghfmbmdfojapaaGreatDoor.Strs Go.Proofs.YtghfmbmdfojapaaGreatDoor.Vfs Go.Proofs.YtghfmbmdfojapaaGreatDoor.Vmap Go.Proofs.YtghfmbmdfojapaaGreatDoor.Vnew Go.Proofs.YtghfmbmdfojapaaGreatDoor.Vsort Go.Proofs.YtghfmbmdfojapaaGreatDoor.Vall

def FAt (w : World) (f : Nat) (R : List Raw) : Prop := f < w.heap.size ∧ ∃ A c, w.cell? ⟨f, 0, none⟩ = some (.slice A R.length c) ∧ EnIs w A c R
theorem FAt.below {w w' : World} {f : Nat} {R : List Raw} (h : FAt w f R) (hb : Below w.heap.size w w') : FAt w' f R := by
  obtain ⟨h1, A, c, h2, h3⟩ := h
  exact ⟨Nat.lt_of_lt_of_le h1 hb.size, A, c, (hb.cell (p := ⟨f, 0, none⟩) h1).trans h2, h3.below hb⟩

def ix (R : List Raw) (t : ByteArray) : Int := match R.findIdx? (fun x => decide (x.path = t)) with
  | some i => (i : Int)
  | none => -1
theorem ix_at {R : List Raw} {t : ByteArray} {k : Nat} {x : Raw} (hx : R[k]? = some x) (hp : x.path = t) (hn : ∀ j, j < k → ∀ y, R[j]? = some y → y.path ≠ t) : ix R t = k := by
  obtain ⟨hk, rfl⟩ := List.getElem?_eq_some_iff.1 hx
  have e : R.findIdx? (fun x => decide (x.path = t)) = some k := by
    rw [List.findIdx?_eq_some_iff_getElem]
    refine ⟨hk, by simpa using hp, fun j hj => ?_⟩
    have := hn j hj _ (List.getElem?_eq_getElem (by omega))
    simpa using this
  unfold ix
  rw [e]
theorem ix_none {R : List Raw} {t : ByteArray} (hn : ∀ x ∈ R, x.path ≠ t) : ix R t = -1 := by
  have e : R.findIdx? (fun x => decide (x.path = t)) = none := by
    rw [List.findIdx?_eq_none_iff]
    intro x hx
    simpa using hn x hx
  unfold ix
  rw [e]
theorem bool_arr (a b : ByteArray) : (a.toList == b.toList) = decide (a = b) := by
  rw [Lib.toList_data, Lib.toList_data]
  by_cases h : a = b
  · subst h; simp
  · rw [decide_eq_false h, beq_eq_false_iff_ne]
    intro e
    exact h (by cases a; cases b; simp at e; rw [e])

theorem ret_i {a b : Int} (h : a = b) : Ending.returned (.int .i64 a) = .returned (.int .i64 b) := by rw [h]

set_option maxRecDepth 100000 in
set_option maxHeartbeats 2000000 in
/-- the document's find -/
theorem find_is (f : Nat) (R : List Raw) (t : ByteArray) (w : World) (h : FAt w f R) (hm : R.length ≤ 1000000000) :
    Calls Tryz.prog 40 #[.pointer (some ⟨f, 0, none⟩), .string t] w fun e W' => e = .returned (.int .i64 (ix R t)) ∧ w = W' := by
  obtain ⟨hf, A, c, hc, hE⟩ := h
  obtain ⟨n, hn⟩ : ∃ n, n = R.length := ⟨_, rfl⟩
  have HN := Lib.hid hn
  have HE := Lib.hid hE
  rw [← hn] at hc hm
  clear hn hE
  go_enter Tryz.func40, Tryz.ntmps40
  go_wp2
  go_loopw [5] (fun i wr => ∃ k : Nat, k ≤ n ∧ i = .int .i64 k ∧ Hid (∀ j, j < k → ∀ y, R[j]? = some y → y.path ≠ t) ∧ w = wr) (fun i _ => n - (intOf i).toNat)
  case atStart => exact ⟨0, Nat.zero_le _, rfl, fun j hj => absurd hj (Nat.not_lt_zero _), rfl⟩
  case round =>
    obtain ⟨k, hk, rfl, HJ, rfl⟩ := hrel
    by_cases hlt : k < n
    · have hl : k < R.length := by have := HN.out; omega
      have hx : R[k]? = some R[k] := List.getElem?_eq_getElem hl
      obtain ⟨b, o, rfl, hb, hcc⟩ := HE.out.at_ hx
      obtain ⟨c1, _, _⟩ := hcc w (Below.refl _ _)
      have hbe := bool_arr R[k].path t
      by_cases ht : R[k].path = t
      · have HX := Lib.hid (ix_at hx ht HJ.out)
        rw [decide_eq_true ht] at hbe
        clear hx hcc ht
        generalize R[k].path = p at *
        go_wp2
        go_ret
        exact ⟨ret_i HX.out.symm, rfl⟩
      · have HX : Hid (∀ j, j < k + 1 → ∀ y, R[j]? = some y → y.path ≠ t) := fun j hj y hy => by
          by_cases h1 : j < k
          · exact HJ.out j h1 y hy
          · obtain rfl : j = k := by omega
            rw [hx] at hy
            rw [← Option.some.inj hy]
            exact ht
        rw [decide_eq_false ht] at hbe
        clear hx hcc ht HJ
        generalize R[k].path = p at *
        go_wp2
        go_roundw
        case rel => exact ⟨k + 1, by omega, by go_num, HX, trivial⟩
        case measure => simp [intOf]; omega
    · have HX : Hid (ix R t = -1) := ix_none (fun x hx => by
        obtain ⟨j, hj⟩ := List.mem_iff_getElem?.1 hx
        have := (List.getElem?_eq_some_iff.1 hj).1
        exact HJ.out j (by have := HN.out; omega) x hj)
      clear HJ
      go_wp2
      go_ret
      exact ⟨ret_i HX.out.symm, rfl⟩

end Go.Proofs.YtghfmbmdfojapaaGreatDoor.Wfind

/- The document's file system on lists (no program). -/
namespace Go.Proofs.YtghfmbmdfojapaaGreatDoor.Wfs
open Go.Proofs.YtghfmbmdfojapaaGreatDoor.Pth Go.Proofs.YtghfmbmdfojapaaGreatDoor.Vfs Go.Proofs.YtghfmbmdfojapaaGreatDoor.Vmap Go.Proofs.YtghfmbmdfojapaaGreatDoor.Vfind Go.Proofs.YtghfmbmdfojapaaGreatDoor.Vall Go.Proofs.YtghfmbmdfojapaaGreatDoor.Vflat Go.Proofs.YtghfmbmdfojapaaGreatDoor.Wfind

def rawRoot : Raw := ⟨⟨#[47]⟩, true, ⟨#[]⟩⟩
def rows (L : List Ent) : List Raw := rawRoot :: L.map rawOf
theorem rows_snoc (L : List Ent) (e : Ent) : rows (L ++ [e]) = rows L ++ [rawOf e] := by unfold rows; rw [List.map_append]; rfl
theorem rows_len (L : List Ent) : (rows L).length = L.length + 1 := by rw [rows, List.length_cons, List.length_map]

theorem flat_inj {p q : Wy} (hp : ∀ x ∈ p, Pth.Good x) (hq : ∀ x ∈ q, Pth.Good x) (h : flatL p = flatL q) : p = q := by
  by_cases h0 : p = []
  · subst h0
    exact (flatL_nil q h.symm).symm
  · by_cases h1 : q = []
    · subst h1
      exact flatL_nil p h
    · rw [← parts_flat p hp h0, ← parts_flat q hq h1, h]
theorem pathB_inj {p q : Wy} (hp : ∀ x ∈ p, Pth.Good x) (hq : ∀ x ∈ q, Pth.Good x) (h : pathB p = pathB q) : p = q := by
  refine flat_inj hp hq ?_
  have := congrArg (fun s : ByteArray => s.data.toList) h
  simp only [pathB, data_bs] at this
  exact this
theorem root_other {p : Wy} (hp : ∀ x ∈ p, Pth.Good x) : rawRoot.path ≠ pathB p := by
  intro h
  have := congrArg (fun s : ByteArray => s.data.toList) h
  simp only [pathB, data_bs] at this
  have h1 : [47] = flatL p := this
  cases p with
  | nil => cases h1
  | cons x r =>
    rw [flatL_cons] at h1
    have h2 : x ++ flatL r = [] := (List.cons.inj h1).2.symm
    exact (hp x List.mem_cons_self).1 (List.append_eq_nil_iff.1 h2).1
theorem ix_no {L : List Ent} (hi : Vfs.Inv L) {p : Wy} (hp : ∀ x ∈ p, Pth.Good x) (h : at_ L p = none) : ix (rows L) (pathB p) = -1 := by
  refine ix_none fun x hx => ?_
  rcases List.mem_cons.1 hx with rfl | hx
  · exact root_other hp
  · obtain ⟨e, he, rfl⟩ := List.mem_map.1 hx
    intro h1
    exact at_none.1 h e he (pathB_inj (hi.good e he) hp h1)
theorem ix_yes {L : List Ent} (hi : Vfs.Inv L) {p : Wy} {e : Ent} (hp : ∀ x ∈ p, Pth.Good x) (h : at_ L p = some e) : ∃ k : Nat, k < L.length ∧ (rows L)[k + 1]? = some (rawOf e) ∧ ix (rows L) (pathB p) = ((k + 1 : Nat) : Int) := by
  obtain ⟨he, rfl⟩ := at_mem h
  obtain ⟨k, hk⟩ := List.mem_iff_getElem?.1 he
  have hx : (rows L)[k + 1]? = some (rawOf e) := by unfold rows; rw [List.getElem?_cons_succ, List.getElem?_map, hk]; rfl
  refine ⟨k, (List.getElem?_eq_some_iff.1 hk).1, hx, ix_at hx rfl fun j hj y hy => ?_⟩
  cases j with
  | zero =>
    have h0 : some rawRoot = some y := hy
    rw [← Option.some.inj h0]
    exact root_other hp
  | succ j =>
    unfold rows at hy
    rw [List.getElem?_cons_succ, List.getElem?_map] at hy
    cases hd : L[j]? with
    | none => rw [hd] at hy; cases hy
    | some d =>
      rw [hd] at hy
      have h0 : some (rawOf d) = some y := hy
      rw [← Option.some.inj h0]
      intro h1
      have hdm := List.mem_of_getElem? hd
      have h2 : d.pt = e.pt := pathB_inj (hi.good d hdm) hp h1
      have hj1 := (List.getElem?_eq_some_iff.1 hd).1
      have hk1 := (List.getElem?_eq_some_iff.1 hk).1
      have h3 : (L.map Ent.pt)[j]? = (L.map Ent.pt)[k]? := by rw [List.getElem?_map, List.getElem?_map, hd, hk]; show some d.pt = some e.pt; rw [h2]
      have h4 := (List.getElem?_inj (by rw [List.length_map]; exact hj1) hi.nodup).1 h3
      omega

theorem take_step (p : Wy) (j : Nat) (h : j < p.length) : p.take (j + 1) = p.take j ++ [p[j]] := List.take_succ_eq_append_getElem h
theorem take_good {p : Wy} (hp : ∀ x ∈ p, Pth.Good x) (j : Nat) : ∀ x ∈ p.take j, Pth.Good x := fun x hx => hp x (List.mem_of_mem_take hx)
theorem take_other {p : Wy} {i j : Nat} (hi : i ≤ p.length) (hj : j ≤ p.length) (h : i ≠ j) : p.take i ≠ p.take j := fun e => by
  have := congrArg List.length e
  rw [List.length_take, List.length_take] at this
  omega

/-- stopped at a thing that is there -/
theorem put_stop {L : List Ent} (hi : Vfs.Inv L) (x : Raw) {j : Nat} {e : Ent} (h : at_ L ((partsOf x.path).take j) = some e) (h1 : (partsOf x.path).length ≤ j ∨ e.dir = false) : putE L x = L := by
  unfold putE
  have hne : (partsOf x.path).take j ≠ [] := fun e0 => by
    rw [e0] at h
    obtain ⟨hm, hp⟩ := at_mem h
    exact hi.ne _ hm hp
  have := putR_stop (dir := x.dir) (text := textOf x) hi ((partsOf x.path).take j) (pre := []) (s := (partsOf x.path).drop j) (n := e) hne h (h1.imp (fun h2 => List.drop_eq_nil_of_le h2) id)
  rwa [List.take_append_drop] at this
theorem put_root (L : List Ent) (x : Raw) (h : partsOf x.path = []) : putE L x = L := by unfold putE; rw [h]; rfl

/-- on the way: j parts are laid down -/
structure On (L : List Ent) (x : Raw) (p : Wy) (m : Nat) (L' : List Ent) (j : Nat) : Prop where
  inv : Vfs.Inv L'
  put : putR x.dir (textOf x) L' (p.take j) (p.drop j) = putE L x
  small : Small (m + j) L'
  dir : ∀ i, 0 < i → i < p.length → ∀ e, at_ L' (p.take i) = some e → e.dir = true
  isd : IsDir L' (p.take j)
  none : at_ L' p = Option.none
theorem on_start {L : List Ent} (hi : Vfs.Inv L) (x : Raw) {m : Nat} (hs : Small m L) (hd : ∀ i, 0 < i → i < (partsOf x.path).length → ∀ e, at_ L ((partsOf x.path).take i) = some e → e.dir = true) (hn : at_ L (partsOf x.path) = none) : On L x (partsOf x.path) m L 0 :=
  ⟨hi, rfl, hs, hd, .inl rfl, hn⟩
theorem On.there {L L' : List Ent} {x : Raw} {p : Wy} {m j : Nat} (h : On L x p m L' j) (hj : j + 1 < p.length) {e : Ent} (he : at_ L' (p.take (j + 1)) = some e) : On L x p m L' (j + 1) := by
  have hd := h.dir (j + 1) (by omega) hj e he
  refine ⟨h.inv, ?_, h.small.mono (by omega), h.dir, .inr ⟨e, he, hd⟩, h.none⟩
  have hp := h.put
  rw [List.drop_eq_getElem_cons (by omega)] at hp
  have he2 := he
  rw [take_step p j (by omega)] at he2
  rw [putR_there he2 hd] at hp
  rw [take_step p j (by omega)]
  exact hp
theorem On.made {L L' : List Ent} {x : Raw} {p : Wy} {m j : Nat} (h : On L x p m L' j) (hg : ∀ x ∈ p, Pth.Good x) (hz : (flatL p).length ≤ 3000000) (hj : j + 1 < p.length) (he : at_ L' (p.take (j + 1)) = Option.none) : On L x p m (L' ++ [⟨p.take (j + 1), true, ⟨#[]⟩⟩]) (j + 1) := by
  have hp := h.put
  rw [List.drop_eq_getElem_cons (by omega)] at hp
  have he2 := he
  rw [take_step p j (by omega)] at he2
  rw [putR_new he2] at hp
  have hne : nextE x.dir (textOf x) (p.take j) p[j] (p.drop (j + 1)) = ⟨p.take (j + 1), true, ⟨#[]⟩⟩ := by
    unfold nextE
    rw [if_neg (fun e0 => by have := List.drop_eq_nil_iff.1 e0; omega), take_step p j (by omega)]
  rw [hne] at hp
  have hfl : (flatL (p.take (j + 1))).length ≤ (flatL p).length := by
    have := flat_pre_le (p.take (j + 1)) (p.drop (j + 1))
    rwa [List.take_append_drop] at this
  refine ⟨h.inv.snoc (e := ⟨p.take (j + 1), true, ⟨#[]⟩⟩) (take_step p j (by omega)) he h.isd (take_good hg _) (fun _ => rfl), by rw [take_step p j (by omega)] at hp ⊢; exact hp, h.small.snoc (by show (flatL (p.take (j + 1))).length ≤ _; omega) (Nat.zero_le _), fun i h0 h1 e h2 => ?_, .inr ⟨_, at_snoc_same he rfl, rfl⟩, ?_⟩
  · by_cases h3 : i = j + 1
    · subst h3
      rw [at_snoc_same he rfl] at h2
      rw [← Option.some.inj h2]
    · rw [at_snoc_other (take_other (by omega) (by omega) (fun e0 => h3 e0.symm))] at h2
      exact h.dir i h0 h1 e h2
  · rw [at_snoc_other (fun e0 => by
      have e1 : p.take (j + 1) = p := e0
      have := congrArg List.length e1
      rw [List.length_take] at this
      omega)]
    exact h.none
theorem On.last {L L' : List Ent} {x : Raw} {p : Wy} {m j : Nat} (h : On L x p m L' j) (hj : j + 1 = p.length) : putE L x = L' ++ [⟨p, x.dir, textOf x⟩] := by
  have hp := h.put
  rw [List.drop_eq_getElem_cons (by omega), List.drop_eq_nil_of_le (by omega)] at hp
  have hall : p.take j ++ [p[j]] = p := by rw [← take_step p j (by omega), List.take_of_length_le (by omega)]
  have he2 := h.none
  rw [← hall] at he2
  have hne : nextE x.dir (textOf x) (p.take j) p[j] [] = ⟨p, x.dir, textOf x⟩ := by
    unfold nextE
    rw [if_pos rfl, hall]
  rw [putR_new he2, hne, putR_nil] at hp
  exact hp.symm

end Go.Proofs.YtghfmbmdfojapaaGreatDoor.Wfs
