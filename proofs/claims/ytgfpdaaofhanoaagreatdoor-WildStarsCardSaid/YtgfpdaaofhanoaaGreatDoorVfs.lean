/- The stand-in file system on lists (no program). -/
import Derived.Test.YtgfpdaaofhanoaaGreatDoorPth
namespace Go.Proofs.YtgfpdaaofhanoaaGreatDoor.Vfs
open Go.Proofs.YtgfpdaaofhanoaaGreatDoor.Pth

abbrev Wy := List (List UInt8)
/-- a thing that is there: its parts, whether it is a directory, its text -/
structure Ent where
  pt : Wy
  dir : Bool
  text : ByteArray

def at_ (L : List Ent) (p : Wy) : Option Ent := L.find? fun e => decide (e.pt = p)

theorem at_mem {L : List Ent} {p : Wy} {e : Ent} (h : at_ L p = some e) : e ∈ L ∧ e.pt = p :=
  ⟨List.mem_of_find?_eq_some h, by have := List.find?_some h; simpa using this⟩
theorem at_none {L : List Ent} {p : Wy} : at_ L p = none ↔ ∀ e ∈ L, e.pt ≠ p := by
  unfold at_
  rw [List.find?_eq_none]
  simp
theorem at_app (L M : List Ent) (p : Wy) : at_ (L ++ M) p = (at_ L p).or (at_ M p) := List.find?_append
theorem at_one (e : Ent) (p : Wy) : at_ [e] p = if e.pt = p then some e else none := by
  unfold at_
  by_cases h : e.pt = p <;> simp [h]
theorem at_snoc_other {L : List Ent} {e : Ent} {p : Wy} (h : e.pt ≠ p) : at_ (L ++ [e]) p = at_ L p := by
  rw [at_app, at_one, if_neg h]; cases at_ L p <;> rfl
theorem at_snoc_same {L : List Ent} {e : Ent} {p : Wy} (h0 : at_ L p = none) (h : e.pt = p) : at_ (L ++ [e]) p = some e := by
  rw [at_app, at_one, if_pos h, h0]; rfl
theorem at_snoc_some {L : List Ent} {e d : Ent} {p : Wy} (h0 : at_ L p = some d) : at_ (L ++ [e]) p = some d := by
  rw [at_app, h0]; rfl

structure Inv (L : List Ent) : Prop where
  nodup : (L.map Ent.pt).Nodup
  ne : ∀ e ∈ L, e.pt ≠ []
  good : ∀ e ∈ L, ∀ x ∈ e.pt, Good x
  up : ∀ e ∈ L, ∀ q x, e.pt = q ++ [x] → q = [] ∨ ∃ d ∈ L, d.pt = q ∧ d.dir = true
  bare : ∀ e ∈ L, e.dir = true → e.text = ⟨#[]⟩

theorem inv_nil : Inv [] := ⟨List.nodup_nil, fun _ h => absurd h List.not_mem_nil, fun _ h => absurd h List.not_mem_nil, fun _ h => absurd h List.not_mem_nil, fun _ h => absurd h List.not_mem_nil⟩

theorem eq_of_pt : ∀ {L : List Ent}, (L.map Ent.pt).Nodup → ∀ {a b : Ent}, a ∈ L → b ∈ L → a.pt = b.pt → a = b
  | [], _, _, _, h, _, _ => absurd h List.not_mem_nil
  | c :: L, hn, a, b, ha, hb, e => by
    rw [List.map_cons, List.nodup_cons] at hn
    rcases List.mem_cons.1 ha with rfl | ha' <;> rcases List.mem_cons.1 hb with rfl | hb'
    · rfl
    · exact absurd (by rw [e]; exact List.mem_map_of_mem hb') hn.1
    · exact absurd (by rw [← e]; exact List.mem_map_of_mem ha') hn.1
    · exact eq_of_pt hn.2 ha' hb' e
theorem Inv.at_of {L : List Ent} (h : Inv L) {e : Ent} (he : e ∈ L) : at_ L e.pt = some e := by
  cases hc : at_ L e.pt with
  | none => exact absurd rfl (at_none.1 hc e he)
  | some d =>
    obtain ⟨hd, hp⟩ := at_mem hc
    rw [eq_of_pt h.nodup hd he hp]
/-- each part of a way that is there is a directory -/
theorem Inv.way {L : List Ent} (h : Inv L) : ∀ (n : Nat) {e : Ent} {p s : Wy}, s.length = n → e ∈ L → e.pt = p ++ s → p ≠ [] → s ≠ [] → ∃ d, at_ L p = some d ∧ d.dir = true
  | 0, _, _, s, hn, _, _, _, hs => absurd (List.eq_nil_of_length_eq_zero hn) hs
  | n + 1, e, p, s, hn, he, hp, hp0, hs => by
    have hd := List.dropLast_concat_getLast hs
    have hl : s.dropLast.length = n := by rw [List.length_dropLast]; omega
    have e1 : e.pt = (p ++ s.dropLast) ++ [s.getLast hs] := by rw [List.append_assoc, hd, hp]
    rcases h.up e he _ _ e1 with h0 | ⟨d, hdm, hdp, hdd⟩
    · exact absurd (List.append_eq_nil_iff.1 h0).1 hp0
    · by_cases h0 : s.dropLast = []
      · rw [h0, List.append_nil] at hdp
        exact ⟨d, by rw [← hdp]; exact h.at_of hdm, hdd⟩
      · exact Inv.way h n hl hdm hdp hp0 h0
theorem Inv.pre {L : List Ent} (h : Inv L) {e : Ent} {p s : Wy} (he : at_ L (p ++ s) = some e) (hp0 : p ≠ []) (hs : s ≠ []) : ∃ d, at_ L p = some d ∧ d.dir = true := by
  obtain ⟨hm, hp⟩ := at_mem he
  exact h.way s.length rfl hm hp hp0 hs

/-- laid down part by part, from pre on -/
def putR (dir : Bool) (text : ByteArray) : List Ent → Wy → Wy → List Ent
  | L, _, [] => L
  | L, pre, x :: r => match at_ L (pre ++ [x]) with
    | some n => if n.dir then putR dir text L (pre ++ [x]) r else L
    | none => putR dir text (L ++ [if r = [] then ⟨pre ++ [x], dir, text⟩ else ⟨pre ++ [x], true, ⟨#[]⟩⟩]) (pre ++ [x]) r

/-- what the next step lays -/
def nextE (dir : Bool) (text : ByteArray) (pre : Wy) (x : List UInt8) (r : Wy) : Ent := if r = [] then ⟨pre ++ [x], dir, text⟩ else ⟨pre ++ [x], true, ⟨#[]⟩⟩
theorem nextE_pt (dir : Bool) (text : ByteArray) (pre : Wy) (x : List UInt8) (r : Wy) : (nextE dir text pre x r).pt = pre ++ [x] := by unfold nextE; split <;> rfl
theorem nextE_dir (dir : Bool) (text : ByteArray) (pre : Wy) (x : List UInt8) (r : Wy) (h : r ≠ []) : (nextE dir text pre x r).dir = true := by rw [nextE, if_neg h]
theorem nextE_bare {dir : Bool} {text : ByteArray} (hb : dir = true → text = ⟨#[]⟩) (pre : Wy) (x : List UInt8) (r : Wy) (h : (nextE dir text pre x r).dir = true) : (nextE dir text pre x r).text = ⟨#[]⟩ := by
  unfold nextE at *
  split
  · rename_i h0
    rw [if_pos h0] at h
    exact hb h
  · rfl

theorem putR_nil (dir : Bool) (text : ByteArray) (L : List Ent) (pre : Wy) : putR dir text L pre [] = L := rfl
theorem putR_there {dir : Bool} {text : ByteArray} {L : List Ent} {pre r : Wy} {x : List UInt8} {n : Ent} (h : at_ L (pre ++ [x]) = some n) (hd : n.dir = true) : putR dir text L pre (x :: r) = putR dir text L (pre ++ [x]) r := by
  rw [putR, h]; simp [hd]
theorem putR_file {dir : Bool} {text : ByteArray} {L : List Ent} {pre r : Wy} {x : List UInt8} {n : Ent} (h : at_ L (pre ++ [x]) = some n) (hd : n.dir = false) : putR dir text L pre (x :: r) = L := by
  rw [putR, h]; simp [hd]
theorem putR_new {dir : Bool} {text : ByteArray} {L : List Ent} {pre r : Wy} {x : List UInt8} (h : at_ L (pre ++ [x]) = none) : putR dir text L pre (x :: r) = putR dir text (L ++ [nextE dir text pre x r]) (pre ++ [x]) r := by
  rw [putR, h]; rfl

/-- a directory, or the root -/
def IsDir (L : List Ent) (p : Wy) : Prop := p = [] ∨ ∃ d, at_ L p = some d ∧ d.dir = true
theorem IsDir.snoc {L : List Ent} {p : Wy} (h : IsDir L p) (e : Ent) : IsDir (L ++ [e]) p := h.imp id fun ⟨d, h1, h2⟩ => ⟨d, at_snoc_some h1, h2⟩

theorem Inv.snoc {L : List Ent} (h : Inv L) {e : Ent} {pre : Wy} {x : List UInt8} (he : e.pt = pre ++ [x]) (hn : at_ L e.pt = none) (hd : IsDir L pre) (hg : ∀ y ∈ e.pt, Good y) (hb : e.dir = true → e.text = ⟨#[]⟩) : Inv (L ++ [e]) := by
  refine ⟨?_, fun a ha => ?_, fun a ha => ?_, fun a ha q y hq => ?_, fun a ha => ?_⟩
  · rw [List.map_append, List.nodup_append]
    refine ⟨h.nodup, by simp, fun a ha b hb2 => ?_⟩
    obtain ⟨c, hc, rfl⟩ := List.mem_map.1 ha
    rw [List.mem_singleton.1 hb2]
    exact at_none.1 hn c hc
  · rcases List.mem_append.1 ha with h1 | h1
    · exact h.ne a h1
    · rw [List.mem_singleton.1 h1, he]; simp
  · rcases List.mem_append.1 ha with h1 | h1
    · exact h.good a h1
    · rw [List.mem_singleton.1 h1]; exact hg
  · rcases List.mem_append.1 ha with h1 | h1
    · rcases h.up a h1 q y hq with h2 | ⟨d, hd1, hd2⟩
      · exact .inl h2
      · exact .inr ⟨d, List.mem_append_left _ hd1, hd2⟩
    · rw [List.mem_singleton.1 h1, he] at hq
      have e1 : pre = q := (List.append_inj' hq rfl).1
      rw [← e1]
      rcases hd with h2 | ⟨d, hd1, hd2⟩
      · exact .inl h2
      · exact .inr ⟨d, List.mem_append_left _ (at_mem hd1).1, (at_mem hd1).2, hd2⟩
  · rcases List.mem_append.1 ha with h1 | h1
    · exact h.bare a h1
    · rw [List.mem_singleton.1 h1]; exact hb

theorem putR_inv {dir : Bool} {text : ByteArray} (hb : dir = true → text = ⟨#[]⟩) : ∀ (rest : Wy) {L : List Ent} {pre : Wy}, Inv L → IsDir L pre → (∀ y ∈ pre ++ rest, Good y) → Inv (putR dir text L pre rest)
  | [], L, pre, h, _, _ => h
  | x :: r, L, pre, h, hd, hg => by
    cases hc : at_ L (pre ++ [x]) with
    | some n =>
      cases hn : n.dir with
      | true =>
        rw [putR_there hc hn]
        exact putR_inv hb r h (.inr ⟨n, hc, hn⟩) (by rw [List.append_assoc]; exact hg)
      | false => rw [putR_file hc hn]; exact h
    | none =>
      rw [putR_new hc]
      have hs : Inv (L ++ [nextE dir text pre x r]) := h.snoc (nextE_pt ..) (by rw [nextE_pt]; exact hc) hd (fun y hy => hg y (by rw [nextE_pt] at hy; rcases List.mem_append.1 hy with h1 | h1; exact List.mem_append_left _ h1; exact List.mem_append_right _ (by rw [List.mem_singleton.1 h1]; exact List.mem_cons_self))) (nextE_bare hb _ _ _)
      by_cases hr : r = []
      · subst hr
        exact hs
      · exact putR_inv hb r hs (.inr ⟨_, at_snoc_same hc (nextE_pt ..), nextE_dir _ _ _ _ _ hr⟩) (by rw [List.append_assoc]; exact hg)

/-- something on the way refuses it, or it is there -/
theorem putR_stop {dir : Bool} {text : ByteArray} {L : List Ent} (h : Inv L) : ∀ (q : Wy) {pre s : Wy} {n : Ent}, q ≠ [] → at_ L (pre ++ q) = some n → (s = [] ∨ n.dir = false) → putR dir text L pre (q ++ s) = L
  | [], _, _, _, h0, _, _ => absurd rfl h0
  | [x], pre, s, n, _, hn, hs => by
    cases hd : n.dir with
    | false => exact putR_file hn hd
    | true =>
      rcases hs with rfl | h1
      · exact putR_there hn hd
      · rw [hd] at h1; cases h1
  | x :: y :: q, pre, s, n, _, hn, hs => by
    have e : pre ++ x :: y :: q = (pre ++ [x]) ++ (y :: q) := by simp
    rw [e] at hn
    obtain ⟨d, hd1, hd2⟩ := h.pre hn (by simp) (by simp)
    show putR dir text L pre (x :: ((y :: q) ++ s)) = L
    rw [putR_there hd1 hd2]
    exact putR_stop h (y :: q) (by simp) hn hs

/-! ### how much there is -/
structure Small (m : Nat) (L : List Ent) : Prop where
  len : L.length ≤ m
  way : ∀ e ∈ L, (flatL e.pt).length ≤ 3000000
  text : ∀ e ∈ L, e.text.size ≤ 1000000
theorem small_nil : Small 0 [] := ⟨Nat.le_refl _, fun _ h => absurd h List.not_mem_nil, fun _ h => absurd h List.not_mem_nil⟩
theorem Small.mono {m n : Nat} {L : List Ent} (h : Small m L) (hn : m ≤ n) : Small n L := ⟨Nat.le_trans h.len hn, h.way, h.text⟩
theorem Small.snoc {m : Nat} {L : List Ent} (h : Small m L) {e : Ent} (h1 : (flatL e.pt).length ≤ 3000000) (h2 : e.text.size ≤ 1000000) : Small (m + 1) (L ++ [e]) :=
  ⟨by rw [List.length_append]; have := h.len; simp; exact this,
   fun a ha => by rcases List.mem_append.1 ha with k | k; exact h.way a k; rw [List.mem_singleton.1 k]; exact h1,
   fun a ha => by rcases List.mem_append.1 ha with k | k; exact h.text a k; rw [List.mem_singleton.1 k]; exact h2⟩
theorem flat_pre_le (a b : Wy) : (flatL a).length ≤ (flatL (a ++ b)).length := by rw [flatL_app, List.length_append]; omega
theorem putR_small {dir : Bool} {text : ByteArray} (ht : text.size ≤ 1000000) : ∀ (rest : Wy) {L : List Ent} {pre : Wy} {m : Nat}, Small m L → (flatL (pre ++ rest)).length ≤ 3000000 → Small (m + rest.length) (putR dir text L pre rest)
  | [], _, _, _, h, _ => h
  | x :: r, L, pre, m, h, hf => by
    have hf2 : (flatL ((pre ++ [x]) ++ r)).length ≤ 3000000 := by rw [List.append_assoc]; exact hf
    cases hc : at_ L (pre ++ [x]) with
    | some n =>
      cases hn : n.dir with
      | true =>
        rw [putR_there hc hn]
        exact (putR_small ht r h hf2).mono (by rw [List.length_cons]; omega)
      | false => rw [putR_file hc hn]; exact h.mono (by omega)
    | none =>
      rw [putR_new hc]
      have hs : Small (m + 1) (L ++ [nextE dir text pre x r]) := h.snoc (by rw [nextE_pt]; exact Nat.le_trans (flat_pre_le _ r) hf2) (by unfold nextE; split; exact ht; exact Nat.zero_le _)
      exact (putR_small ht r hs hf2).mono (by rw [List.length_cons]; omega)

/-! ### entries as they come in -/
structure Raw where
  path : ByteArray
  dir : Bool
  text : ByteArray
def partsOf (s : ByteArray) : Wy := pileL [] (splitL s.data.toList)
theorem partsOf_good (s : ByteArray) : ∀ x ∈ partsOf s, Good x := pileL_good _ _ (fun _ h => absurd h List.not_mem_nil) (splitL_mem _)
theorem partsOf_empty : partsOf ⟨#[]⟩ = [] := rfl
def textOf (x : Raw) : ByteArray := if x.dir then ⟨#[]⟩ else x.text
theorem textOf_bare (x : Raw) : x.dir = true → textOf x = ⟨#[]⟩ := fun h => by rw [textOf, if_pos h]
theorem textOf_size (x : Raw) (h : x.text.size ≤ 1000000) : (textOf x).size ≤ 1000000 := by
  unfold textOf; split
  · exact Nat.zero_le _
  · exact h
def putE (L : List Ent) (x : Raw) : List Ent := putR x.dir (textOf x) L [] (partsOf x.path)
def newL (l : List Raw) : List Ent := (l.take 200).foldl putE []

structure RawSmall (x : Raw) : Prop where
  path : x.path.size ≤ 1000000
  text : x.text.size ≤ 1000000
theorem parts_small (s : ByteArray) (h : s.size ≤ 1000000) : (flatL (partsOf s)).length ≤ 2000003 ∧ (partsOf s).length ≤ 2000002 := by
  have := parts_bounds s.data.toList
  rw [len_data] at this
  rw [flatL_length]
  unfold partsOf
  omega
theorem putE_inv {L : List Ent} (h : Inv L) (x : Raw) : Inv (putE L x) := putR_inv (textOf_bare x) _ h (.inl rfl) (by simpa using partsOf_good x.path)
theorem putE_small {m : Nat} {L : List Ent} (h : Small m L) (x : Raw) (hx : RawSmall x) : Small (m + 2000002) (putE L x) := by
  have hp := parts_small x.path hx.path
  exact (putR_small (textOf_size x hx.text) _ h (by rw [List.nil_append]; omega)).mono (by omega)
theorem foldl_inv : ∀ (l : List Raw) {L : List Ent}, Inv L → Inv (l.foldl putE L)
  | [], _, h => h
  | x :: l, _, h => foldl_inv l (putE_inv h x)
theorem foldl_small : ∀ (l : List Raw) {L : List Ent} {m : Nat}, Small m L → (∀ x ∈ l, RawSmall x) → Small (m + l.length * 2000002) (l.foldl putE L)
  | [], _, _, h, _ => by simpa using h
  | x :: l, _, m, h, hl => (foldl_small l (putE_small h x (hl x List.mem_cons_self)) (fun y hy => hl y (List.mem_cons_of_mem _ hy))).mono (by rw [List.length_cons, Nat.succ_mul]; omega)
theorem newL_inv (l : List Raw) : Inv (newL l) := foldl_inv _ inv_nil
theorem newL_small (l : List Raw) (h : ∀ x ∈ l, RawSmall x) : Small 400000400 (newL l) :=
  (foldl_small (l.take 200) small_nil (fun x hx => h x (List.mem_of_mem_take hx))).mono (by rw [List.length_take]; have : min 200 l.length ≤ 200 := Nat.min_le_left _ _; omega)

/-! ### directories by numbers -/
def dirs (L : List Ent) : List Wy := (L.filter (·.dir)).map Ent.pt
def dl (L : List Ent) : List Wy := [] :: dirs L
theorem dl_file {L : List Ent} {e : Ent} (h : e.dir = false) : dl (L ++ [e]) = dl L := by simp [dl, dirs, h]
theorem dl_dir {L : List Ent} {e : Ent} (h : e.dir = true) : dl (L ++ [e]) = dl L ++ [e.pt] := by simp [dl, dirs, h]
theorem dl_nil : dl [] = [[]] := rfl
theorem dl_len (L : List Ent) : (dl L).length ≤ L.length + 1 := by
  unfold dl dirs
  rw [List.length_cons, List.length_map]
  have := List.length_filter_le (·.dir) L
  omega
theorem mem_dl {L : List Ent} {p : Wy} : p ∈ dl L ↔ p = [] ∨ ∃ e ∈ L, e.dir = true ∧ e.pt = p := by
  unfold dl dirs
  rw [List.mem_cons, List.mem_map]
  simp [List.mem_filter, and_assoc]
theorem Inv.dl_nodup {L : List Ent} (h : Inv L) : (dl L).Nodup := by
  unfold dl
  rw [List.nodup_cons]
  refine ⟨fun hm => ?_, ?_⟩
  · obtain ⟨e, he, h0⟩ := List.mem_map.1 hm
    exact h.ne e (List.mem_filter.1 he).1 h0
  · exact List.Sublist.nodup (List.Sublist.map _ List.filter_sublist) h.nodup
theorem Inv.isDir {L : List Ent} (h : Inv L) {p : Wy} : p ∈ dl L ↔ IsDir L p := by
  rw [mem_dl]
  constructor
  · rintro (h0 | ⟨e, he, hd, rfl⟩)
    · exact .inl h0
    · exact .inr ⟨e, h.at_of he, hd⟩
  · rintro (h0 | ⟨e, he, hd⟩)
    · exact .inl h0
    · exact .inr ⟨e, (at_mem he).1, hd, (at_mem he).2⟩
/-- the number of a directory among ds -/
def num (ds : List Wy) (p : Wy) : Nat := ds.idxOf p + 1
theorem num_app {ds : List Wy} {p q : Wy} (h : p ∈ ds) : num (ds ++ [q]) p = num ds p := by rw [num, num, List.idxOf_append, if_pos h]
theorem num_last {ds : List Wy} {q : Wy} (h : q ∉ ds) : num (ds ++ [q]) q = ds.length + 1 := by rw [num, List.idxOf_append, if_neg h, List.idxOf_cons_self, Nat.zero_add]
theorem num_root (L : List Ent) : num (dl L) [] = 1 := rfl
theorem num_at {ds : List Wy} {p : Wy} (h : p ∈ ds) : ∃ i, num ds p = i + 1 ∧ i < ds.length ∧ ds[i]? = some p := by
  have hlt := List.idxOf_lt_length_of_mem h
  exact ⟨ds.idxOf p, rfl, hlt, by rw [List.getElem?_eq_getElem hlt, List.getElem_idxOf]⟩
theorem num_of {ds : List Wy} (hn : ds.Nodup) {p : Wy} {i : Nat} (h : ds[i]? = some p) : num ds p = i + 1 := by
  obtain ⟨hi, rfl⟩ := List.getElem?_eq_some_iff.1 h
  rw [num, List.Nodup.idxOf_getElem hn i hi]

end Go.Proofs.YtgfpdaaofhanoaaGreatDoor.Vfs
