/- Entries sorted by their paths: the library's SortFunc with the program's comparison. -/
import Derived.Sort.OwnSorted
import Derived.Lib.OwnBridge
import Derived.Test.YtgfpdaaofhanoaaDoorVlook
namespace Go.Proofs.YtgfpdaaofhanoaaDoor.Vsort
open Go.RowKit Go.Maps Go.Sort Go.Shelf Go.Proofs.YtgfpdaaofhanoaaDoor.Pth Go.Proofs.YtgfpdaaofhanoaaDoor.Strs Go.Proofs.YtgfpdaaofhanoaaDoor.Srt Go.Proofs.YtgfpdaaofhanoaaDoor.Vfs Go.Proofs.YtgfpdaaofhanoaaDoor.Vmap Go.Proofs.YtgfpdaaofhanoaaDoor.Vnames Go.Proofs.YtgfpdaaofhanoaaDoor.Vnew

instance : Inhabited Raw := ⟨⟨⟨#[]⟩, false, ⟨#[]⟩⟩⟩
/-- an entry's cells -/
def encR (x : Raw) : List Value := [.string x.path, .bool x.dir, .string x.text]
def cells (l : List Raw) : List Value := l.flatMap encR
theorem cells_len : ∀ l : List Raw, (cells l).length = l.length * 3
  | [] => rfl
  | x :: l => by
    have := cells_len l
    unfold cells at *
    rw [List.flatMap_cons, List.length_append, this, List.length_cons]
    show 3 + _ = _
    omega
theorem cells_app (a b : List Raw) : cells (a ++ b) = cells a ++ cells b := List.flatMap_append
theorem cells_at : ∀ (l : List Raw) (j : Nat) (x : Raw), l[j]? = some x → (cells l)[j * 3]? = some (.string x.path) ∧ (cells l)[j * 3 + 1]? = some (.bool x.dir) ∧ (cells l)[j * 3 + 2]? = some (.string x.text)
  | [], _, _, h => by cases h
  | y :: l, 0, x, h => by
    cases h
    exact ⟨rfl, rfl, rfl⟩
  | y :: l, j + 1, x, h => by
    obtain ⟨h1, h2, h3⟩ := cells_at l j x (by simpa using h)
    have e : ∀ k, (cells (y :: l))[(j + 1) * 3 + k]? = (cells l)[j * 3 + k]? := fun k => by
      show (encR y ++ cells l)[(j + 1) * 3 + k]? = _
      rw [List.getElem?_append_right (by show 3 ≤ _; omega)]
      congr 1
      show (j + 1) * 3 + k - 3 = _
      omega
    exact ⟨(e 0).trans h1, (e 1).trans h2, (e 2).trans h3⟩
theorem cells_one (l : List Raw) : ∀ u ∈ cells l, u.oneCell' = true := fun u hu => by
  obtain ⟨x, _, hx⟩ := List.mem_flatMap.1 hu
  simp [encR] at hx
  rcases hx with rfl | rfl | rfl <;> rfl
theorem infoEnt : (Tryd.prog.info? 30).map (fun i => (i.zero, i.size, i.bytes)) = some (some (.agg #[.string .empty, .bool false, .string .empty]), 3, 40) := by kernel_rfl

theorem enIs_of_own {w : World} {base : Nat} {v : Value} {n : Nat} {l : List Raw} (hn : l.length = n) (h : w.ownsRow base 30 3 v n (cells l)) :
    ∃ A c, v = .slice A n c ∧ EnIs w A c l ∧ ∀ x ∈ l, A ≠ none := by
  subst hn
  have hcells : ∀ g, v.ownBlock = some g → ∀ j u, (cells l)[j]? = some u → w.cell? ((⟨g, 0, none⟩ : Addr).add j) = some u := fun g hg => h.cells (g := g) hg
  rcases h.2 with ⟨rfl, hn⟩ | ⟨g, cap, cur, rfl, _, hg, hn, _, _, _⟩
  · have h0 := List.eq_nil_of_length_eq_zero hn
    subst h0
    exact ⟨none, 0, rfl, ⟨Nat.le_refl _, .inl rfl⟩, fun x hx => by cases hx⟩
  · refine ⟨_, cap, rfl, ⟨hn, .inr ⟨g, 0, rfl, (Array.getElem?_eq_some_iff.1 hg).1, fun j x hx => ?_⟩⟩, fun _ _ h0 => by cases h0⟩
    obtain ⟨h1, h2, h3⟩ := cells_at l j x hx
    rw [Nat.zero_add]
    have e : ∀ k, (⟨g, 0, none⟩ : Addr).add k = ⟨g, k, none⟩ := fun k => by rw [addr_add, Nat.zero_add]
    exact ⟨by rw [← e]; exact hcells g rfl _ _ h1, by rw [← e]; exact hcells g rfl _ _ h2, by rw [← e]; exact hcells g rfl _ _ h3⟩

/-! ### the comparison -/
theorem compare_neg : ∀ a b : List UInt8, decide (Lib.compareBytes a b < 0) = decide (a < b)
  | [], [] => by simp [Lib.compareBytes]
  | [], y :: b => by simp [Lib.compareBytes]
  | x :: a, [] => by simp [Lib.compareBytes]
  | x :: a, y :: b => by
    have ih := compare_neg a b
    rw [decide_eq_decide] at ih ⊢
    rw [Lib.compareBytes, List.cons_lt_cons_iff]
    by_cases h1 : x < y
    · simp [h1]
    · rw [if_neg h1]
      by_cases h2 : y < x
      · rw [if_pos h2]
        constructor
        · intro h; omega
        · rintro (h | ⟨h, _⟩)
          · exact absurd h h1
          · rw [h] at h2; exact absurd h2 (UInt8.lt_irrefl _)
      · rw [if_neg h2, ih]
        have e : x = y := UInt8.le_antisymm (UInt8.not_lt.1 h2) (UInt8.not_lt.1 h1)
        constructor
        · intro h; exact .inr ⟨e, h⟩
        · rintro (h | ⟨_, h⟩)
          · exact absurd h h1
          · exact h
def cmpR (x y : Raw) : Int := Lib.compareBytes x.path.data.toList y.path.data.toList
theorem lt_cmp (x y : Raw) : ltOf cmpR x y = decide (x.path.data.toList < y.path.data.toList) := compare_neg _ _
theorem swo : SWO (ltOf cmpR) where
  irrefl x := by rw [lt_cmp, decide_eq_false_iff_not]; exact lt_irrefl' _
  trans x y z h1 h2 := by rw [lt_cmp, decide_eq_true_iff] at *; exact lt_trans' h1 h2
  ntrans x y z h1 h2 := by
    rw [lt_cmp, decide_eq_false_iff_not] at *
    intro h3
    rcases lt_or h1 with e | h4
    · rw [e] at h3; exact h2 h3
    · exact h2 (lt_trans' h4 h3)

set_option maxHeartbeats 1000000 in
theorem closure_is (x y : Raw) (W : World) : Calls Tryd.prog 30 #[.agg #[.string x.path, .bool x.dir, .string x.text], .agg #[.string y.path, .bool y.dir, .string y.text]] W fun e w' => e = .returned (.int .i64 (cmpR x y)) ∧ ∃ q os', w' = grow (W.drewN q) os' := by
  have hcon := fun W' => Tryd.strings_Compare x.path y.path W'
  unfold cmpR
  generalize Lib.compareBytes x.path.data.toList y.path.data.toList = r at hcon ⊢
  go_enter Tryd.func30, Tryd.ntmps30
  go_wp2_with (go_at_call 31; refine (hcon _).mono ?_; rintro e w' ⟨rfl, rfl⟩)
  go_ret
  exact ⟨rfl, 0, _, by rw [alloc_eq_grow, alloc_eq_grow, grow_grow]; rfl⟩

theorem grownBy_sortK {w : World} {g n : Nat} {os : Array Obj} (d : Array Raw) : w.grownBy (sortWorldK encR 3 w g 0 n d os) (some g) := by
  refine ⟨rfl, rfl, rfl, by simp [sortWorldK, putRowK], fun k hk hne => ?_⟩
  unfold sortWorldK putRowK
  rw [heap_grow_old _ _ (by simpa using hk)]
  have : g ≠ k := fun e => hne (by rw [e])
  simp [putRow, mapBlock, Sort.ahead, Array.getElem?_modify, this]

theorem flat_get (l : List Raw) (t : Nat) (h : t < l.length * 3) : (flatK encR 3 l.toArray)[t]! = (cells l)[t]! := by
  rw [get_flatK encR 3 _ _ (by simpa using h)]
  have hj : t / 3 < l.length := by omega
  have hx : l[t / 3]? = some l[t / 3] := List.getElem?_eq_getElem hj
  obtain ⟨h1, h2, h3⟩ := cells_at l (t / 3) _ hx
  have e : l.toArray[t / 3]! = l[t / 3] := by rw [getElem!_pos l.toArray (t / 3) (by simpa using hj)]; simp
  rw [e]
  have ht : t % 3 = 0 ∨ t % 3 = 1 ∨ t % 3 = 2 := by omega
  have hd := Nat.div_add_mod t 3
  rcases ht with h0 | h0 | h0 <;> rw [h0]
  · rw [show t / 3 * 3 = t by omega] at h1
    rw [List.getElem!_eq_getElem?_getD (l := cells l), h1]; rfl
  · rw [show t / 3 * 3 + 1 = t by omega] at h2
    rw [List.getElem!_eq_getElem?_getD (l := cells l), h2]; rfl
  · rw [show t / 3 * 3 + 2 = t by omega] at h3
    rw [List.getElem!_eq_getElem?_getD (l := cells l), h3]; rfl

/-- sorting nothing does nothing -/
def SortsNone : Prop := ∀ w : World, Calls Tryd.prog 29 #[.slice none 0 0, .func (.func 30) #[] #[]] w fun e w' => e = .returned (.tuple #[]) ∧ w' = w

/-- entries of the call's own, sorted: the same ones, rising by their paths -/
theorem sort_is (l : List Raw) (v : Value) (w : World) (base : Nat) (h : w.ownsRow base 30 3 v l.length (cells l)) (hl : l.length < 4611686018427387904) (hnone : SortsNone) :
    Calls Tryd.prog 29 #[v, .func (.func 30) #[] #[]] w fun e w' => e = .returned (.tuple #[]) ∧ ∃ m : List Raw, m.Perm l ∧ m.Pairwise (fun x y => ¬ y.path.data.toList < x.path.data.toList) ∧ w'.ownsRow base 30 3 v m.length (cells m) ∧ w.grownBy w' v.ownBlock := by
  rcases h.2 with ⟨rfl, hn⟩ | ⟨g, cap, cur, rfl, hg, hgb, hc1, hc2, hc3, hc4⟩
  · have h0 := List.eq_nil_of_length_eq_zero hn
    subst h0
    refine (hnone w).mono ?_
    rintro e w' ⟨rfl, rfl⟩
    exact ⟨rfl, [], List.Perm.refl _, List.Pairwise.nil, World.ownsRow_nil _ _ _ _, rfl, rfl, rfl, Nat.le_refl _, fun _ _ _ => rfl⟩
  · have hgl := (Array.getElem?_eq_some_iff.1 hgb).1
    have hH : HoldsK encR 3 w g 0 l.toArray := fun t ht => by
      have ht3 : t < l.length * 3 := by simpa using ht
      rw [flat_get l t ht3]
      have hcl : t < (cells l).length := by rw [cells_len]; exact ht3
      have hcell := h.cells (g := g) rfl t _ (List.getElem?_eq_getElem hcl)
      rw [addr_add, Nat.zero_add] at hcell
      refine ⟨?_, Lib.frozen_of_heap hgb _⟩
      rw [Nat.zero_add, List.getElem!_eq_getElem?_getD, List.getElem?_eq_getElem hcl]
      exact hcell
    have hcon := AnyQ.slices_SortFunc Tryd.sortEnt 3 Tryd.isAgg30 Tryd.sizeOf30 encR (fun _ => rfl) (fun x v hv => by simp [encR] at hv; rcases hv with rfl | rfl | rfl <;> rfl) cmpR swo 30 #[] g 0 cap l.toArray w
      (enters_of Tryd.func30 (by kernel_rfl) rfl) (fun _ _ _ _ x y => closure_is x y _) hH hgl (by simpa using hl)
    have hcon2 : Calls Tryd.prog 29 #[.slice (some ⟨g, 0, none⟩) l.length cap, .func (.func 30) #[] #[]] w _ := hcon
    refine hcon2.mono ?_
    rintro e w' ⟨rfl, d', n, os, ⟨hs, _, hp⟩, hsd, rfl⟩
    have hs' : d'.size = l.length := by rw [hs]; simp
    have hp2 : d'.toList.Perm l := by
      rw [show l.toArray.size = d'.size from hs.symm] at hp
      have e1 : (d'.extract 0 d'.size).toList = d'.toList := by simp
      have e2 : (l.toArray.extract 0 d'.size).toList = l := by rw [hs']; simp
      rw [e1, e2] at hp
      exact hp
    have hlen : d'.toList.length = l.length := by simpa using hs'
    have hH2 := holdsK_sortWorldK encR 3 w g 0 n l.toArray d' os hgl hH hs
    have hgr : w.grownBy (sortWorldK encR 3 w g 0 n d' os) (some g) := grownBy_sortK d'
    refine ⟨rfl, d'.toList, hp2, ?_, ?_, hgr⟩
    · rw [List.pairwise_iff_getElem]
      intro i j hi hj hij
      have := hsd i j (Nat.zero_le _) hij (by rw [List.size_toArray, ← hlen]; exact hj)
      rw [lt_cmp, decide_eq_false_iff_not] at this
      have ei : d'[i]! = d'.toList[i] := by rw [getElem!_pos d' i (by simpa using hi)]; simp
      have ej : d'[j]! = d'.toList[j] := by rw [getElem!_pos d' j (by simpa using hj)]; simp
      rw [ei, ej] at this
      exact this
    · rw [hlen]
      have hblk : ∃ cur', (sortWorldK encR 3 w g 0 n d' os).heap[g]? = some (.cells cur' 30 (0, 0)) ∧ cur'.size = cur.size := by
        unfold sortWorldK putRowK
        rw [heap_grow_old _ _ (by simpa using hgl)]
        refine ⟨putCells id 0 (flatK encR 3 d') cur, by simp [putRow, mapBlock, Sort.ahead, Array.getElem?_modify, hgb, onCells], by unfold putCells; rw [Array.size_mapIdx]⟩
      obtain ⟨cur', hcur, hcs⟩ := hblk
      refine ⟨by rw [cells_len, hlen], .inr ⟨g, cap, cur', rfl, hg, hcur, hc1, hc2, by rw [hcs]; exact hc3, ?_⟩⟩
      refine List.ext_getElem? fun t => ?_
      by_cases ht : t < l.length * 3
      · have h5 := hH2 t (by rw [size_flatK, hs']; exact ht)
        have h6 : (flatK encR 3 d')[t]! = (cells d'.toList)[t]! := by
          have := flat_get d'.toList t (by rw [hlen]; exact ht)
          simpa using this
        have hcl : t < (cells d'.toList).length := by rw [cells_len, hlen]; exact ht
        rw [h6, Nat.zero_add, Lib.cell_of_heap hcur, List.getElem!_eq_getElem?_getD, List.getElem?_eq_getElem hcl] at h5
        rw [List.getElem?_take_of_lt ht, List.getElem?_eq_getElem hcl]
        have := h5.1
        simpa using this
      · rw [List.getElem?_eq_none (by rw [List.length_take]; omega), List.getElem?_eq_none (by rw [cells_len, hlen]; omega)]

end Go.Proofs.YtgfpdaaofhanoaaDoor.Vsort
