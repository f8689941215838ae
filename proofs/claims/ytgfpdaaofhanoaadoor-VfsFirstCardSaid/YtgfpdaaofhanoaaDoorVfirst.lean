/- Plain facts for VfsFirst: what files of small paths make is small; rotated; in order. -/
import Derived.Test.YtgfpdaaofhanoaaDoorVawake
import Derived.Test.YtgfpdaaofhanoaaDoorWfiles
import Derived.Test.YtgfpdaaofhanoaaDoorWfirst
import Derived.Test.YtgfpdaaofhanoaaDoorWrot
import Derived.Test.YtgfpdaaofhanoaaDoorWsort
namespace Go.Proofs.YtgfpdaaofhanoaaDoor.Vfirst
open Go.RowKit Go.Proofs.YtgfpdaaofhanoaaDoor.Pth Go.Proofs.YtgfpdaaofhanoaaDoor.Strs Go.Proofs.YtgfpdaaofhanoaaDoor.Vfs Go.Proofs.YtgfpdaaofhanoaaDoor.Vmap Go.Proofs.YtgfpdaaofhanoaaDoor.Vnames Go.Proofs.YtgfpdaaofhanoaaDoor.Vnew Go.Proofs.YtgfpdaaofhanoaaDoor.Vfind Go.Proofs.YtgfpdaaofhanoaaDoor.Vlook Go.Proofs.YtgfpdaaofhanoaaDoor.Vsort Go.Proofs.YtgfpdaaofhanoaaDoor.Vall Go.Proofs.YtgfpdaaofhanoaaDoor.Wfiles Go.Proofs.YtgfpdaaofhanoaaDoor.Wall Go.Proofs.YtgfpdaaofhanoaaDoor.Wrot Go.Proofs.YtgfpdaaofhanoaaDoor.Wfirst
open Go.Proofs.YtgfpdaaofhanoaaDoor.Srt (up_get Up)

/-! ### what is made of few small ones -/
def Low (e : Ent) : Prop := (flatL e.pt).length ≤ 60 ∧ e.text.size ≤ 30
theorem next_low {d : Bool} {t : ByteArray} {p q r : Wy} {x : List UInt8} (ht : t.size ≤ 30) (hp : (flatL p).length ≤ 60) (h : p = q ++ x :: r) : Low (nextE d t q x r) := by
  constructor
  · rw [nextE_pt]
    have := flat_pre_le (q ++ [x]) r
    rw [List.append_assoc] at this
    have e : q ++ ([x] ++ r) = p := by rw [h]; rfl
    rw [e] at this
    omega
  · unfold nextE
    split
    · exact ht
    · exact Nat.zero_le _
theorem putR_low {d : Bool} {t : ByteArray} (ht : t.size ≤ 30) : ∀ (rest : Wy) {K : List Ent} {pre : Wy}, (∀ e ∈ K, Low e) → (flatL (pre ++ rest)).length ≤ 60 → ∀ e ∈ putR d t K pre rest, Low e
  | [], _, _, h, _ => h
  | x :: r, K, pre, h, hp => by
    have e1 : pre ++ x :: r = (pre ++ [x]) ++ r := by rw [List.append_assoc]; rfl
    have hp2 : (flatL ((pre ++ [x]) ++ r)).length ≤ 60 := by rw [← e1]; exact hp
    cases hc : at_ K (pre ++ [x]) with
    | some n =>
      cases hn : n.dir with
      | true => rw [putR_there hc hn]; exact putR_low ht r h hp2
      | false => rw [putR_file hc hn]; exact h
    | none =>
      rw [putR_new hc]
      refine putR_low ht r (fun e he => ?_) hp2
      rcases List.mem_append.1 he with h1 | h1
      · exact h e h1
      · rw [List.mem_singleton.1 h1]; exact next_low ht hp rfl
theorem parts_tiny {x : Raw} (h : x.path.size ≤ 20) : (flatL (partsOf x.path)).length ≤ 60 := by
  have := parts_bounds x.path.data.toList
  rw [len_data] at this
  rw [flatL_length]
  unfold partsOf
  omega
theorem textOf_tiny {x : Raw} (h : x.text.size ≤ 30) : (textOf x).size ≤ 30 := by
  unfold textOf
  split
  · exact Nat.zero_le _
  · exact h
theorem fold_low : ∀ (l : List Raw) {K : List Ent}, (∀ e ∈ K, Low e) → (∀ x ∈ l, Tiny x) → ∀ e ∈ l.foldl putE K, Low e
  | [], _, h, _ => h
  | x :: l, K, h, hl => fold_low l (K := putE K x) (putR_low (textOf_tiny (hl x List.mem_cons_self).2.1) _ h (by rw [List.nil_append]; exact parts_tiny (hl x List.mem_cons_self).1)) (fun y hy => hl y (List.mem_cons_of_mem _ hy))
theorem newL_low {l : List Raw} (h : ∀ x ∈ l, Tiny x) : ∀ e ∈ newL l, Low e := fold_low _ (fun _ h => absurd h List.not_mem_nil) (fun x hx => h x (List.mem_of_mem_take hx))
theorem low_raw {e : Ent} (h : Low e) : RawSmall (rawOf e) := ⟨by show (pathB e.pt).size ≤ _; unfold pathB; rw [size_bs]; exact Nat.le_trans h.1 (by decide), Nat.le_trans h.2 (by decide)⟩
theorem tiny_raw {x : Raw} (h : Tiny x) : RawSmall x := ⟨Nat.le_trans h.1 (by decide), Nat.le_trans h.2.1 (by decide)⟩

/-! ### turned round -/
def rot (M : List Ent) (k : Nat) : List Ent := M.drop k ++ M.take k
theorem rot_perm (M : List Ent) (k : Nat) : (rot M k).Perm M := by
  unfold rot
  have h := List.perm_append_comm (l₁ := M.drop k) (l₂ := M.take k)
  rw [List.take_append_drop] at h
  exact h
theorem rot_cells (M : List Ent) (k : Nat) : cells ((M.drop k).map rawOf) ++ cells ((M.take k).map rawOf) = cells ((rot M k).map rawOf) := by
  rw [← cells_app, ← List.map_append]; rfl
theorem rot_low {L M : List Ent} (hp : M.Perm L) (h : ∀ e ∈ L, Low e) (k : Nat) : ∀ x ∈ (rot M k).map rawOf, RawSmall x := fun x hx => by
  obtain ⟨e, he, rfl⟩ := List.mem_map.1 hx
  exact low_raw (h e (hp.mem_iff.1 ((rot_perm M k).mem_iff.1 he)))

/-! ### cut -/
/-- the cells of a piece of a slice of entries -/
theorem en_cells {w : World} {b o c : Nat} {l : List Raw} (h : EnIs w (some ⟨b, o, none⟩) c l) : ∀ j u, (cells l)[j]? = some u → w.cell? ⟨b, o + j, none⟩ = some u := by
  rcases h.2 with rfl | ⟨b1, o1, e1, _, hc⟩
  · intro j u hj; cases hj
  · obtain ⟨rfl, rfl⟩ : b = b1 ∧ o = o1 := by simpa using e1
    intro j u hj
    have hlt := (List.getElem?_eq_some_iff.1 hj).1
    rw [cells_len] at hlt
    have hq : j / 3 < l.length := by omega
    obtain ⟨x1, x2, x3⟩ := cells_at l (j / 3) _ (List.getElem?_eq_getElem hq)
    obtain ⟨d1, d2, d3⟩ := hc (j / 3) _ (List.getElem?_eq_getElem hq)
    have hm : j % 3 = 0 ∨ j % 3 = 1 ∨ j % 3 = 2 := by omega
    rcases hm with hm | hm | hm
    · have e : j = j / 3 * 3 := by omega
      rw [e] at hj ⊢
      rw [x1] at hj
      rw [d1]; exact hj
    · have e : j = j / 3 * 3 + 1 := by omega
      rw [e] at hj ⊢
      rw [x2] at hj
      rw [← Nat.add_assoc, d2]; exact hj
    · have e : j = j / 3 * 3 + 2 := by omega
      rw [e] at hj ⊢
      rw [x3] at hj
      rw [← Nat.add_assoc, d3]; exact hj
theorem cells_drop : ∀ (l : List Raw) (k : Nat), cells (l.drop k) = (cells l).drop (k * 3)
  | _, 0 => rfl
  | [], _ + 1 => by simp [cells]
  | x :: l, k + 1 => by
    have ih := cells_drop l k
    have e : (k + 1) * 3 = k * 3 + 3 := by omega
    rw [e, List.drop_succ_cons, ih]
    show (cells l).drop (k * 3) = (encR x ++ cells l).drop (k * 3 + 3)
    rw [Nat.add_comm, ← List.drop_drop]
    rfl
theorem cells_take : ∀ (l : List Raw) (k : Nat), cells (l.take k) = (cells l).take (k * 3)
  | _, 0 => rfl
  | [], _ + 1 => by simp [cells]
  | x :: l, k + 1 => by
    have ih := cells_take l k
    have e : (k + 1) * 3 = k * 3 + 3 := by omega
    rw [e, List.take_succ_cons]
    show encR x ++ cells (l.take k) = (encR x ++ cells l).take (k * 3 + 3)
    rw [ih]
    rfl

/-- where a piece begins -/
def fromA (A : Option Addr) (c k : Nat) : Option Addr := if c = k then A else A.map (·.add (k * 3))
theorem from_form {A : Option Addr} {c k : Nat} {w : World} (h : A = none ∧ c = 0 ∨ ∃ g, A = some ⟨g, 0, none⟩ ∧ g < w.heap.size) {n m : Nat} (hn : n ≤ c) : fromA A c k = none → n - m = 0 ∧ c - k = 0 := by
  rcases h with ⟨rfl, rfl⟩ | ⟨g, rfl, _⟩
  · intro _; omega
  · unfold fromA
    split <;> intro h <;> cases h
theorem lo_cells {A : Option Addr} {c k : Nat} {w W : World} {l : List Raw} (h : A = none ∧ c = 0 ∨ ∃ g, A = some ⟨g, 0, none⟩ ∧ g < w.heap.size) (he : EnIs W A c l) (hk : k ≤ l.length) : ∀ ad, fromA A c k = some ad → ∀ j u, (cells (l.drop k))[j]? = some u → W.cell? (ad.add j) = some u := by
  rcases h with ⟨rfl, rfl⟩ | ⟨g, rfl, _⟩
  · intro ad h
    unfold fromA at h
    split at h <;> cases h
  · intro ad h j u hj
    rw [cells_drop, List.getElem?_drop] at hj
    have hc := he.1
    have hcell := en_cells he _ _ hj
    unfold fromA at h
    split at h
    · rename_i e
      have := (List.getElem?_eq_some_iff.1 hj).1
      rw [cells_len] at this
      omega
    · cases h
      show W.cell? (Addr.add (Addr.add ⟨g, 0, none⟩ (k * 3)) j) = _
      rw [addr_add, addr_add, ← hcell]
      congr 2
      omega
theorem hi_cells {A : Option Addr} {c k : Nat} {w W : World} {l : List Raw} (h : A = none ∧ c = 0 ∨ ∃ g, A = some ⟨g, 0, none⟩ ∧ g < w.heap.size) (he : EnIs W A c l) : ∀ ad, fromA A c 0 = some ad → ∀ j u, (cells (l.take k))[j]? = some u → W.cell? (ad.add j) = some u := by
  rcases h with ⟨rfl, rfl⟩ | ⟨g, rfl, _⟩
  · intro ad h
    unfold fromA at h
    split at h <;> cases h
  · intro ad h j u hj
    rw [cells_take, List.getElem?_take] at hj
    split at hj
    · have hcell := en_cells he _ _ hj
      have e : fromA (some ⟨g, 0, none⟩) c 0 = some ⟨g, 0, none⟩ := by
        unfold fromA
        split
        · rfl
        · rfl
      rw [e] at h
      cases h
      rw [addr_add, ← hcell]
    · cases hj

/-! ### in order -/
theorem binOp_geq (t : TypeId) (a b : ByteArray) (h : Op.bytesLess a.toList b.toList = true) (W : World) : (binOp .geq t (.string a) (.string b)).run Tryd.prog W = .ok (.bool false) W := by
  simp [binOp, Op.stringOp, h]
theorem less_path {M : List Ent} (hu : Up (M.map fun e => flatL e.pt)) {p : Nat} {x y : Raw} (hx : (M.map rawOf)[p]? = some x) (hy : (M.map rawOf)[p + 1]? = some y) : Op.bytesLess x.path.toList y.path.toList = true := by
  rw [List.getElem?_map] at hx hy
  obtain ⟨a, ha, rfl⟩ := Option.map_eq_some_iff.1 hx
  obtain ⟨b, hb, rfl⟩ := Option.map_eq_some_iff.1 hy
  have h1 : (M.map fun e => flatL e.pt)[p]? = some (flatL a.pt) := by rw [List.getElem?_map, ha]; rfl
  have h2 : (M.map fun e => flatL e.pt)[p + 1]? = some (flatL b.pt) := by rw [List.getElem?_map, hb]; rfl
  have := up_get hu (Nat.lt_succ_self p) h1 h2
  show Op.bytesLess (bs (flatL a.pt)).toList (pathB b.pt).toList = true
  rw [Wsort.less_is]
  exact decide_eq_true this

/-! ### the first one wins -/
def absB (s : ByteArray) : ByteArray := bs (absL s.data.toList)
theorem abs_of {s : ByteArray} (h : partsOf s ≠ []) : absB s = pathB (partsOf s) := by
  rcases abs_text s with h1 | ⟨_, h1⟩
  · show bs _ = _
    rw [h1, absT_ne h]
  · exact absurd h1 h
theorem beq_of (x y : ByteArray) : (x.toList == y.toList) = decide (x = y) := by
  rw [Lib.toList_data, Lib.toList_data]
  by_cases h : x = y
  · rw [h, decide_eq_true rfl]; simp
  · rw [decide_eq_false h, beq_eq_false_iff_ne]
    exact fun e => h (by have h1 := Array.toList_inj.1 e; cases x; cases y; simp_all)
/-- what Look finds of the first one is its text -/
theorem win {l : List Raw} {i : Nat} {x : Raw} (hl : l.length ≤ 200) (hx : l[i]? = some x) {q : Nd} (hq : lookN (newL l) x.path = some q) (hd : q.d = false)
    (hn : ∀ j y, j < i → l[j]? = some y → absB y.path ≠ q.p) : q.t = x.text := by
  unfold lookN at hq
  split at hq
  · cases hq
  · unfold nodeAt at hq
    split at hq
    · cases hq
      cases hd
    · rename_i h0
      obtain ⟨e, he, rfl⟩ := Option.map_eq_some_iff.1 hq
      have hp := (at_mem he).2
      refine first_wins hl hx h0 he hd fun j y hj hy hpe => hn j y hj hy ?_
      rw [abs_of (by rw [hpe]; exact h0), hpe]
      show _ = pathB e.pt
      rw [hp]

end Go.Proofs.YtgfpdaaofhanoaaDoor.Vfirst
