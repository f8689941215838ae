/- Plain facts: a [ that no ] ends is not looked at again; pieces from the back; no program is named here. -/
import Derived.Test.YtghfmbmdfojapaaGreatDoorGsetJ
import Derived.Test.YtghfmbmdfojapaaGreatDoorRsetJ
namespace Go.Proofs.YtghfmbmdfojapaaGreatDoor.Rpure
open Go Go.Proofs.YtghfmbmdfojapaaGreatDoor.Glb

/-! ### a ] that ends something -/
def cl : Nat → List UInt8 → Bool
  | 0, _ => false
  | _, [] => false
  | n + 1, c :: r => c == 93 || cl n (unqR (c :: r))
theorem cl_fuel : ∀ (n m : Nat) (l : List UInt8), l.length ≤ n → l.length ≤ m → cl n l = cl m l := by
  intro n
  induction n with
  | zero =>
    intro m l hn _
    have : l = [] := List.eq_nil_of_length_eq_zero (by omega)
    subst this
    cases m <;> rfl
  | succ n ih =>
    intro m l hn hm
    cases l with
    | nil => cases m <;> rfl
    | cons c r =>
      obtain ⟨k, rfl⟩ : ∃ k, m = k + 1 := ⟨m - 1, by simp at hm; omega⟩
      have := unqR_lt (l := c :: r) (by simp)
      simp only [cl]
      rw [ih k _ (by simp at hn this ⊢; omega) (by simp at hm this ⊢; omega)]
def clL (l : List UInt8) : Bool := cl l.length l
theorem clL_cons (c : UInt8) (r : List UInt8) : clL (c :: r) = (c == 93 || clL (unqR (c :: r))) := by
  have h := unqR_lt (l := c :: r) (by simp)
  unfold clL
  rw [List.length_cons]
  simp only [cl]
  rw [cl_fuel r.length (unqR (c :: r)).length _ (by simp at h; omega) (Nat.le_refl _)]
theorem clL_next {l : List UInt8} (h : clL l = false) : clL (unqR l) = false := by
  cases l with
  | nil => rfl
  | cons c r =>
    rw [clL_cons] at h
    simp at h
    exact h.2
theorem unqR_plain {c : UInt8} {r : List UInt8} (h : c ≠ 92) : unqR (c :: r) = r := by
  cases r with
  | nil => rfl
  | cons d t => rw [unqR, if_neg h]
theorem clL_elR (r : List UInt8) : clL (elR r) = clL r := by
  unfold elR
  cases hr : rng r with
  | false => rfl
  | true =>
    match r, hr with
    | a :: b :: t, hr =>
      have hab : a = 45 ∧ b ≠ 93 := by
        simp [rng] at hr
        exact hr
      obtain ⟨rfl, hb⟩ := hab
      have e1 : clL (45 :: b :: t) = clL (b :: t) := by
        rw [clL_cons, unqR_plain (by decide)]
        rfl
      have e2 : clL (b :: t) = clL (unqR (b :: t)) := by
        rw [clL_cons]
        have : (b == 93) = false := by simpa using hb
        rw [this]; rfl
      rw [e1, e2]
      rfl
/-- a set is found just if a ] ends it -/
theorem inset_false : ∀ (n : Nat) (p : Nat → Bool) (l : List UInt8), l.length ≤ n → clL l = false → inset n false p l = none := by
  intro n
  induction n with
  | zero => intro p l _ _; rfl
  | succ n ih =>
    intro p l hn h
    cases l with
    | nil => rfl
    | cons c r =>
      have hc : ¬ c = 93 := by
        rw [clL_cons] at h
        simp at h
        exact h.1
      rw [inset, if_neg (by intro e; exact hc e.1)]
      have h1 := unqR_lt (l := c :: r) (by simp)
      have h2 := elR_le (unqR (c :: r))
      exact ih _ _ (by simp at hn h1 ⊢; omega) (by rw [clL_elR]; exact clL_next h)
theorem inset_first (n : Nat) (p : Nat → Bool) (l : List UInt8) (hn : l.length ≤ n) (h : clL (unqR l) = false) : inset n true p l = none := by
  cases l with
  | nil => cases n <;> rfl
  | cons c r =>
    obtain ⟨m, rfl⟩ : ∃ m, n = m + 1 := ⟨n - 1, by simp at hn; omega⟩
    rw [inset, if_neg (by intro e; cases e.2)]
    have h1 := unqR_lt (l := c :: r) (by simp)
    have h2 := elR_le (unqR (c :: r))
    exact inset_false _ _ _ (by simp at hn h1 ⊢; omega) (by rw [clL_elR]; exact h)
theorem inset_true : ∀ (n : Nat) (p : Nat → Bool) (l : List UInt8), l.length ≤ n → inset n false p l = none → clL l = false := by
  intro n
  induction n with
  | zero =>
    intro p l hn _
    rw [List.eq_nil_of_length_eq_zero (Nat.le_zero.1 hn)]; rfl
  | succ n ih =>
    intro p l hn h
    cases l with
    | nil => rfl
    | cons c r =>
      rw [inset] at h
      by_cases hc : c = 93
      · rw [if_pos ⟨hc, rfl⟩] at h; cases h
      · rw [if_neg (by intro e; exact hc e.1)] at h
        have h1 := unqR_lt (l := c :: r) (by simp)
        have h2 := elR_le (unqR (c :: r))
        have h3 := ih _ _ (by simp at hn h1 ⊢; omega) h
        rw [clL_elR] at h3
        rw [clL_cons, h3]
        simpa using hc
theorem inset_first_true (n : Nat) (p : Nat → Bool) (l : List UInt8) (hn : l.length ≤ n) (h : inset n true p l = none) : clL (unqR l) = false := by
  cases l with
  | nil => rfl
  | cons c r =>
    obtain ⟨m, rfl⟩ : ∃ m, n = m + 1 := ⟨n - 1, by simp at hn; omega⟩
    rw [inset, if_neg (by intro e; cases e.2)] at h
    have h1 := unqR_lt (l := c :: r) (by simp)
    have h2 := elR_le (unqR (c :: r))
    have h3 := inset_true _ _ _ (by simp at hn h1 ⊢; omega) h
    rw [clL_elR] at h3
    exact h3
theorem but_unq {r : List UInt8} (h : isBut r = true) : r.drop 1 = unqR r := by
  cases r with
  | nil => rfl
  | cons c t =>
    simp [isBut] at h
    rw [unqR_plain (by rcases h with rfl | rfl <;> decide)]
    rfl
/-- no set behind a [: then no ] but at the next two places -/
theorem none_dead {r : List UInt8} (h : readSet r = none) : clL (unqR (unqR r)) = false := by
  unfold readSet at h
  cases hb : isBut r with
  | false =>
    rw [hb] at h
    exact clL_next (inset_first_true _ _ _ (Nat.le_refl _) h)
  | true =>
    rw [hb] at h
    simp only [if_true, Option.map_eq_none_iff] at h
    have := inset_first_true _ _ _ (by rw [List.length_drop]; omega) h
    rw [but_unq hb] at this
    exact this
theorem dead_none {r : List UInt8} (h : clL (unqR r) = false) : readSet r = none := by
  unfold readSet
  cases hb : isBut r with
  | false => exact inset_first _ _ _ (Nat.le_refl _) h
  | true =>
    simp only [if_true, Option.map_eq_none_iff]
    apply inset_first _ _ _ (by rw [List.length_drop]; omega)
    rw [but_unq hb]
    exact clL_next h
/-- pieces, each [ looked at anew -/
def pcsF : Nat → List UInt8 → List Pc
  | 0, _ => []
  | _, [] => []
  | n + 1, c :: r => nextP (c :: r) false :: pcsF n (nextR (c :: r) false)
theorem next_dead (c : UInt8) (r : List UInt8) (h : clL (unqR (unqR (c :: r))) = false) : nextP (c :: r) true = nextP (c :: r) false ∧ nextR (c :: r) true = nextR (c :: r) false ∧ nextO (c :: r) true = true ∧ nextR (c :: r) true = unqR (c :: r) := by
  have e42 : c = 42 → unqR (c :: r) = r := by rintro rfl; exact unqR_plain (by decide)
  have e63 : c = 63 → unqR (c :: r) = r := by rintro rfl; exact unqR_plain (by decide)
  by_cases h91 : c = 91
  · subst h91
    have hn : readSet r = none := dead_none (by rw [unqR_plain (by decide)] at h; exact h)
    refine ⟨?_, ?_, ?_, ?_⟩
    · simp [nextP, hn]
    · simp [nextR, hn]
    · simp [nextO]
    · simp [nextR]
  · refine ⟨?_, ?_, ?_, ?_⟩
    · simp [nextP, h91]
    · simp [nextR, h91]
    · simp [nextO, h91]
    · by_cases h1 : c = 42
      · rw [e42 h1]; simp [nextR, h1]
      · by_cases h2 : c = 63
        · rw [e63 h2]; simp [nextR, h2]
        · simp [nextR, h1, h2, h91]
theorem pcs_same : ∀ (n : Nat) (l : List UInt8) (o : Bool), (o = true → clL (unqR (unqR l)) = false) → pcs n l o = pcsF n l := by
  intro n
  induction n with
  | zero => intro l o _; rfl
  | succ n ih =>
    intro l o h
    cases l with
    | nil => rfl
    | cons c r =>
      simp only [pcs, pcsF]
      cases o with
      | true =>
        obtain ⟨h1, h2, h3, h4⟩ := next_dead c r (h rfl)
        rw [h1, h3, ← h2, ih _ true (fun _ => by rw [h4]; exact clL_next (h rfl))]
      | false =>
        rw [ih]
        intro ho
        have h91 : c = 91 := by
          by_cases h91 : c = 91
          · exact h91
          · simp [nextO, h91] at ho
        subst h91
        cases hs : readSet r with
        | some x => simp [nextO, hs] at ho
        | none =>
          have : nextR (91 :: r) false = r := by simp [nextR, hs, unqR_plain]
          rw [this]
          exact none_dead hs
theorem pieces_same (l : List UInt8) : pieces l = pcsF l.length l := pcs_same _ _ _ (fun h => by cases h)

/-! ### one piece more at the back -/
theorem fit_snoc_star : ∀ (qs : List Pc) (x : Pc) (t : List UInt8), x.star = true → (fitL (qs ++ [x]) t = true ↔ ∃ j, j ≤ t.length ∧ fitL qs (t.take j) = true) := by
  intro qs
  induction qs with
  | nil =>
    intro x t hx
    rw [List.nil_append, fit_star_iff _ _ _ hx]
    constructor
    · intro _; exact ⟨0, Nat.zero_le _, by simp [fitL]⟩
    · intro _; exact ⟨t.length, Nat.le_refl _, by simp [fitL]⟩
  | cons y qs ih =>
    intro x t hx
    rw [List.cons_append]
    cases hy : y.star with
    | true =>
      rw [fit_star_iff _ _ _ hy]
      constructor
      · rintro ⟨k, hk, hf⟩
        rw [ih x _ hx] at hf
        obtain ⟨j, hj, hf⟩ := hf
        rw [List.length_drop] at hj
        refine ⟨k + j, by omega, ?_⟩
        rw [fit_star_iff _ _ _ hy]
        refine ⟨k, by rw [List.length_take]; omega, ?_⟩
        rw [List.drop_take, show k + j - k = j by omega]
        exact hf
      · rintro ⟨j, hj, hf⟩
        rw [fit_star_iff _ _ _ hy] at hf
        obtain ⟨k, hk, hf⟩ := hf
        rw [List.length_take] at hk
        rw [List.drop_take] at hf
        refine ⟨k, by omega, ?_⟩
        rw [ih x _ hx]
        exact ⟨j - k, by rw [List.length_drop]; omega, hf⟩
    | false =>
      cases t with
      | nil =>
        simp only [fitL, hy]
        constructor
        · intro h; cases h
        · rintro ⟨j, _, hf⟩; simp at hf
      | cons c t =>
        simp only [fitL, hy, Bool.false_eq_true, if_false]
        rw [Bool.and_eq_true, ih x t hx]
        constructor
        · rintro ⟨h1, j, hj, hf⟩
          exact ⟨j + 1, by simp; omega, by simp [h1, hf]⟩
        · rintro ⟨j, hj, hf⟩
          cases j with
          | zero => simp at hf
          | succ j =>
            simp at hf hj
            exact ⟨hf.1, j, hj, hf.2⟩
theorem fit_snoc_nil : ∀ (qs : List Pc) (x : Pc), x.star = false → fitL (qs ++ [x]) [] = false := by
  intro qs
  induction qs with
  | nil => intro x hx; simp [fitL, hx]
  | cons y qs ih =>
    intro x hx
    rw [List.cons_append]
    simp only [fitL, anyTail, ih x hx]
    split <;> rfl
theorem fit_snoc_one : ∀ (qs : List Pc) (x : Pc) (t : List UInt8) (c : UInt8), x.star = false → fitL (qs ++ [x]) (t ++ [c]) = (fitL qs t && x.has c.toNat) := by
  intro qs
  induction qs with
  | nil =>
    intro x t c hx
    cases t with
    | nil => simp [fitL, hx]
    | cons d t =>
      rw [List.nil_append, List.cons_append]
      simp only [fitL, hx]
      cases t <;> simp
  | cons y qs ih =>
    intro x t c hx
    rw [List.cons_append]
    cases hy : y.star with
    | true =>
      rw [Bool.eq_iff_iff, fit_star_iff _ _ _ hy, Bool.and_eq_true, fit_star_iff _ _ _ hy]
      constructor
      · rintro ⟨k, hk, hf⟩
        by_cases hkl : k ≤ t.length
        · rw [List.drop_append_of_le_length hkl, ih x _ c hx, Bool.and_eq_true] at hf
          exact ⟨⟨k, hkl, hf.1⟩, hf.2⟩
        · rw [List.drop_eq_nil_of_le (by simp at hk ⊢; omega), fit_snoc_nil qs x hx] at hf
          cases hf
      · rintro ⟨⟨k, hk, hf⟩, hc⟩
        refine ⟨k, by simp; omega, ?_⟩
        rw [List.drop_append_of_le_length hk, ih x _ c hx, hf, hc]; rfl
    | false =>
      cases t with
      | nil =>
        rw [List.nil_append]
        simp only [fitL, hy]
        rw [fit_snoc_nil qs x hx]
        simp
      | cons d t =>
        rw [List.cons_append]
        simp only [fitL, hy, Bool.false_eq_true, if_false]
        rw [ih x t c hx, Bool.and_assoc]
end Go.Proofs.YtghfmbmdfojapaaGreatDoor.Rpure

/- What the document's Pieces answers. -/
namespace Go.Proofs.YtghfmbmdfojapaaGreatDoor.Rpieces
open Go.RowKit Go.Proofs.YtghfmbmdfojapaaGreatDoor.Glb Go.Proofs.YtghfmbmdfojapaaGreatDoor.Gops Go.Proofs.YtghfmbmdfojapaaGreatDoor.Gread Go.Proofs.YtghfmbmdfojapaaGreatDoor.Gfit Go.Proofs.YtghfmbmdfojapaaGreatDoor.Rlaws Go.Proofs.YtghfmbmdfojapaaGreatDoor.Rfits Go.Proofs.YtghfmbmdfojapaaGreatDoor.Rset Go.Proofs.YtghfmbmdfojapaaGreatDoor.Rpure

/-! ### the document's set -/
theorem unqR_suf (l : List UInt8) : unqR l <:+ l := by
  match l with
  | [] => exact List.suffix_refl _
  | [c] => exact List.nil_suffix
  | c :: d :: r =>
    simp only [unqR]
    split
    · exact ⟨[c, d], rfl⟩
    · exact ⟨[c], rfl⟩
theorem elR_suf (r : List UInt8) : elR r <:+ r := by
  unfold elR
  split
  · exact (unqR_suf _).trans (List.drop_suffix _ _)
  · exact List.suffix_refl _
theorem inset_suf : ∀ (n : Nat) (f : Bool) (p : Nat → Bool) (l : List UInt8) (q : Nat → Bool) (r : List UInt8), inset n f p l = some (q, r) → r <:+ l := by
  intro n
  induction n with
  | zero => intro f p l q r h; simp [inset] at h
  | succ n ih =>
    intro f p l q r h
    cases l with
    | nil => simp [inset] at h
    | cons c t =>
      rw [inset] at h
      split at h
      · simp only [Option.some.injEq, Prod.mk.injEq] at h
        rw [← h.2]; exact List.suffix_cons _ _
      · exact ((ih _ _ _ _ _ h).trans (elR_suf _)).trans (unqR_suf _)
theorem readSet_suf {l r : List UInt8} {q : Nat → Bool} (h : readSet l = some (q, r)) : r <:+ l := by
  unfold readSet at h
  split at h
  · rw [Option.map_eq_some_iff] at h
    obtain ⟨⟨p, t⟩, h1, h2⟩ := h
    simp only [Prod.mk.injEq] at h2
    rw [← h2.2]
    exact (inset_suf _ _ _ _ _ _ h1).trans (List.drop_suffix _ _)
  · exact inset_suf _ _ _ _ _ _ h
theorem out_same (l : List UInt8) (i0 : Nat) : butR (isBut (l.drop i0)) l (inset (l.drop i0).length true none_ (l.drop (Rset.start (isBut (l.drop i0)) i0))) = setOutR l (readSet (l.drop i0)) := by
  unfold readSet Rset.start
  cases isBut (l.drop i0) with
  | false =>
    simp only [Bool.false_eq_true, if_false]
    cases inset (l.drop i0).length true none_ (l.drop i0) with
    | none => rfl
    | some x => rfl
  | true =>
    simp only [if_true]
    rw [← List.drop_drop]
    cases inset (l.drop i0).length true none_ ((l.drop i0).drop 1) with
    | none => rfl
    | some x => rfl
theorem setR_none (v : ByteArray) (i0 : Nat) (w : World) (hi0 : i0 ≤ v.size) (hs : v.size ≤ 1000000) (h : readSet (v.data.toList.drop i0) = none) :
    Calls Tryz.prog 69 #[.string v, .int .i64 i0] w fun e W' => e = .returned (.tuple #[.agg (tC 0 0 none_), .int .i64 (-1)]) ∧ Below w.heap.size w W' :=
  (set_walk v i0 w hi0 hs).mono fun _ _ ⟨he, hb⟩ => ⟨he.trans (by rw [out_same, h]; rfl), hb⟩
theorem setR_some (v : ByteArray) (i0 j : Nat) (q : Nat → Bool) (w : World) (hi0 : i0 ≤ v.size) (hs : v.size ≤ 1000000) (hj : j ≤ v.size) (h : readSet (v.data.toList.drop i0) = some (q, v.data.toList.drop j)) :
    Calls Tryz.prog 69 #[.string v, .int .i64 i0] w fun e W' => e = .returned (.tuple #[.agg (tC 2 0 q), .int .i64 (j : Int)]) ∧ Below w.heap.size w W' :=
  (set_walk v i0 w hi0 hs).mono fun _ _ ⟨he, hb⟩ => ⟨he.trans (by rw [out_same, h, setOutR, List.length_drop, len_data, show v.size - (v.size - j) = j by omega]), hb⟩

/-! ### pieces in memory -/
/-- such cells are this piece -/
def RT (cs : Array Value) (x : Pc) : Prop :=
  (∃ b p, cs = tC 3 b p ∧ x.star = true ∧ x.wild = true) ∨ (∃ b p, cs = tC 1 b p ∧ x = ⟨true, false, neg none_⟩) ∨ (∃ b, cs = tC 2 b x.has ∧ x.star = false ∧ x.wild = true) ∨ (∃ c : UInt8, ∃ p, cs = tC 0 (c.toNat : Nat) p ∧ x = ⟨false, false, plus none_ c.toNat c.toNat⟩)
theorem RT.size {cs : Array Value} {x : Pc} (h : RT cs x) : cs.size = 258 := by
  rcases h with ⟨b, p, rfl, _⟩ | ⟨b, p, rfl, _⟩ | ⟨b, rfl, _⟩ | ⟨c, p, rfl, _⟩ <;> exact tC_size _ _ _
def flatT (css : List (Array Value)) : List Value := css.flatMap (·.toList)
theorem flatT_snoc (css : List (Array Value)) (cs : Array Value) : flatT (css ++ [cs]) = flatT css ++ cs.toList := by simp [flatT]
/-- a list of cells for a list of pieces -/
structure Rows2 (css : List (Array Value)) (qs : List Pc) : Prop where
  len : css.length = qs.length
  each : ∀ (j : Nat) cs x, css[j]? = some cs → qs[j]? = some x → RT cs x
theorem Rows2.nil : Rows2 [] [] := ⟨rfl, fun j cs x h => by simp at h⟩
theorem Rows2.snoc {css : List (Array Value)} {qs : List Pc} {cs : Array Value} {x : Pc} (h : Rows2 css qs) (hx : RT cs x) : Rows2 (css ++ [cs]) (qs ++ [x]) := by
  refine ⟨by simp [h.len], fun j c y hc hy => ?_⟩
  by_cases hj : j < qs.length
  · rw [List.getElem?_append_left (by rw [h.len]; exact hj)] at hc
    rw [List.getElem?_append_left hj] at hy
    exact h.each j c y hc hy
  · rw [List.getElem?_append_right (by rw [h.len]; omega), h.len] at hc
    rw [List.getElem?_append_right (by omega)] at hy
    cases hk : j - qs.length with
    | zero =>
      rw [hk] at hc hy
      simp at hc hy
      subst hc hy
      exact hx
    | succ k => rw [hk] at hc; simp at hc
theorem own_below {w w1 : World} {B : Nat} {e : TypeId} {size : Nat} {v : Value} {n : Nat} {xs : List Value} (h : w.ownsRow B e size v n xs) (hb : Below w.heap.size w w1) : w1.ownsRow B e size v n xs :=
  h.kept (row := none) ⟨hb.os, hb.tape, hb.output, hb.size, fun k hk _ => hb.block k hk⟩ (Classical.em _)
theorem cells_newT (w : World) (cs : Array Value) (t : TypeId) (j : Nat) (u : Value) (h : cs.toList[j]? = some u) : (w.alloc (.cells cs t)).cell? ((⟨w.heap.size, 0, none⟩ : Addr).add j) = some u := by
  have hadd : (⟨w.heap.size, 0, none⟩ : Addr).add j = ⟨w.heap.size, j, none⟩ := by unfold Addr.add; split <;> simp_all
  rw [hadd, cell_of_row _ _ _ _ _ _ (heap_alloc_new _ _)]
  simpa using h
theorem one_tC (k b : Int) (p : Nat → Bool) : ∀ u ∈ (tC k b p).toList, u.oneCell' = true := fun u hu => (Array.all_eq_true_iff_forall_mem.1 (tC_one k b p)) u (by simpa using hu)
theorem len_tC (k b : Int) (p : Nat → Bool) : (tC k b p).toList.length = 1 * 258 := by rw [Array.length_toList, tC_size]
theorem pcsF_step {v : ByteArray} {i n : Nat} (hi : i < v.size) (hn : v.size - i ≤ n) : pcsF n (v.data.toList.drop i) = nextP (v.data.toList.drop i) false :: pcsF (n - 1) (nextR (v.data.toList.drop i) false) := by
  obtain ⟨m, rfl⟩ : ∃ m, n = m + 1 := ⟨n - 1, by omega⟩
  rw [drop_at v i hi, pcsF]
  rfl
/-- what holds of the list under way -/
def Way (w : World) (L : List Pc) (v : ByteArray) (i n : Nat) (s3 : Value) (wx : World) : Prop :=
  ∃ css qs, wx.ownsRow w.heap.size 91 258 s3 css.length (flatT css) ∧ css.length ≤ i ∧ Rows2 css qs ∧ Below w.heap.size w wx ∧ qs ++ pcsF n (v.data.toList.drop i) = L

set_option maxRecDepth 100000 in
set_option maxHeartbeats 4000000 in
/-- the document's Pieces -/
theorem pieces_is (v : ByteArray) (w : World) (hs : v.size ≤ 1000000) :
    Calls Tryz.prog 50 #[.string v] w fun e W' => ∃ s3, e = .returned s3 ∧ Way w (pcsF v.data.toList.length v.data.toList) v v.size 0 s3 W' := by
  obtain ⟨it, ti, tz0, tz1, tz2⟩ := info_parts infoT
  go_enter Tryz.func50, Tryz.ntmps50
  go_wp2_with fail
  go_loopg [3, 4] (v.size + 1) (fun g s3 s4 wx => ∃ i n : Nat, s4 = .int .i64 i ∧ i ≤ v.size ∧ v.size - i < g ∧ v.size - i ≤ n ∧ Hid (Way w (pcsF v.data.toList.length v.data.toList) v i n s3 wx))
  case atStart => exact ⟨0, v.size, rfl, Nat.zero_le _, by omega, by omega, ⟨[], [], World.ownsRow_nil _ _ _ _, Nat.le_refl _, Rows2.nil, Below.refl _ _, by rw [len_data]; rfl⟩⟩
  case round =>
    obtain ⟨i, n, rfl, hi, hg, hn, H⟩ := hrel
    obtain ⟨g, rfl⟩ : ∃ g, gk = g + 1 := ⟨gk - 1, by omega⟩
    by_cases hz : i < v.size
    · obtain ⟨css, qs, hown, hcl, hrows, hbel, heq⟩ := H.out
      have HOW := Lib.hid hown
      have HBE := Lib.hid hbel
      have HEQ := Lib.hid (show qs ++ nextP (v.data.toList.drop i) false :: pcsF (n - 1) (nextR (v.data.toList.drop i) false) = pcsF v.data.toList.length v.data.toList by rw [← pcsF_step hz hn]; exact heq)
      clear hown hbel heq H
      have hbw := HBE.out.size
      have HD := Lib.hid (drop_at v i hz)
      by_cases c1 : ((v[i].toNat : Nat) : Int) = 42
      · have HX : Hid (v[i] = 42) := by have := lit42 v[i]; rw [c1] at this; exact (beq_iff_eq.1 this.symm)
        have HQ : Hid (qs ++ (⟨true, true, none_⟩ : Pc) :: pcsF (n - 1) (v.data.toList.drop (i + 1)) = pcsF v.data.toList.length v.data.toList) := by
          have := HEQ.out
          rw [HD.out] at this
          simp only [nextP, nextR, if_pos HX.out] at this
          exact this
        go_wp2_with (first | (refine wpList_built rfl 0 _ rfl (.int .i64 3) rfl (tC 3 0 none_) (built_kind 3) ?_) | (refine wpList_single rfl _ rfl (tC 3 0 none_) rfl (tC_size _ _ _) ?_) | (at_builtin; refine wpList_append_own _ rfl _ _ 87 rfl w.heap.size 91 it (.agg (tC 0 0 none_)) 258 272 Tryz.underlying87 ti tz0 tz1 tz2 (tC_size 0 0 none_) (by decide) _ css.length (flatT css) rfl ?own ⟨wr.heap.size, 0, none⟩ 1 1 (tC 3 0 none_).toList rfl (len_tC _ _ _) ?c1 (one_tC _ _ _) ?c3 ?c4 ?c5 ?_))
        case own => exact HOW.out.alloc _
        case c1 => exact fun j u h => cells_newT wr _ _ j u h
        case c3 => unfold maxLen; omega
        case c4 => omega
        case c5 => have := HBE.out.size; simp; omega
        intro v' w2 hown' hgrow _
        have B2 : Hid (Below w.heap.size w w2) := (HBE.out.alloc HBE.out.size _).grown hgrow (by have := HBE.out.size; simp; omega) (fun k hk => (HOW.out.lt k hk).1)
        have HO : Hid (w2.ownsRow w.heap.size 91 258 v' (css ++ [tC 3 0 none_]).length (flatT (css ++ [tC 3 0 none_]))) := by
          show World.ownsRow _ _ _ _ _ _ _
          rw [flatT_snoc, List.length_append]
          exact hown'
        clear hown' hgrow
        go_wp2_with fail
        go_roundg g
        case measure => omega
        case rel => exact ⟨i + 1, n - 1, rfl, by omega, by omega, by omega, ⟨css ++ [tC 3 0 none_], qs ++ [_], HO.out, by simp; omega, hrows.snoc (.inl ⟨_, _, rfl, rfl, rfl⟩), B2.out, by rw [List.append_assoc]; exact HQ.out⟩⟩
      · have c1' : (((v[i].toNat : Nat) : Int) == 42) = false := by simpa using c1
        have hx1 : ¬ v[i] = 42 := fun e => c1 (by rw [e]; rfl)
        clear c1
        by_cases c2 : ((v[i].toNat : Nat) : Int) = 63
        · have HX : Hid (v[i] = 63) := by have := lit63 v[i]; rw [c2] at this; exact (beq_iff_eq.1 this.symm)
          have HQ : Hid (qs ++ (⟨true, false, neg none_⟩ : Pc) :: pcsF (n - 1) (v.data.toList.drop (i + 1)) = pcsF v.data.toList.length v.data.toList) := by
            have := HEQ.out
            rw [HD.out] at this
            simp only [nextP, nextR, if_neg hx1, if_pos HX.out] at this
            exact this
          clear hx1
          go_wp2_with (first | (refine wpList_built rfl 0 _ rfl (.int .i64 1) rfl (tC 1 0 none_) (built_kind 1) ?_) | (refine wpList_single rfl _ rfl (tC 1 0 none_) rfl (tC_size _ _ _) ?_) | (at_builtin; refine wpList_append_own _ rfl _ _ 87 rfl w.heap.size 91 it (.agg (tC 0 0 none_)) 258 272 Tryz.underlying87 ti tz0 tz1 tz2 (tC_size 0 0 none_) (by decide) _ css.length (flatT css) rfl ?own ⟨wr.heap.size, 0, none⟩ 1 1 (tC 1 0 none_).toList rfl (len_tC _ _ _) ?c1 (one_tC _ _ _) ?c3 ?c4 ?c5 ?_))
          case own => exact HOW.out.alloc _
          case c1 => exact fun j u h => cells_newT wr _ _ j u h
          case c3 => unfold maxLen; omega
          case c4 => omega
          case c5 => have := HBE.out.size; simp; omega
          intro v' w2 hown' hgrow _
          have B2 : Hid (Below w.heap.size w w2) := (HBE.out.alloc HBE.out.size _).grown hgrow (by have := HBE.out.size; simp; omega) (fun k hk => (HOW.out.lt k hk).1)
          have HO : Hid (w2.ownsRow w.heap.size 91 258 v' (css ++ [tC 1 0 none_]).length (flatT (css ++ [tC 1 0 none_]))) := by
            show World.ownsRow _ _ _ _ _ _ _
            rw [flatT_snoc, List.length_append]
            exact hown'
          clear hown' hgrow
          go_wp2_with fail
          go_roundg g
          case measure => omega
          case rel => exact ⟨i + 1, n - 1, rfl, by omega, by omega, by omega, ⟨css ++ [tC 1 0 none_], qs ++ [_], HO.out, by simp; omega, hrows.snoc (.inr (.inl ⟨_, _, rfl, rfl⟩)), B2.out, by rw [List.append_assoc]; exact HQ.out⟩⟩
        · have c2' : (((v[i].toNat : Nat) : Int) == 63) = false := by simpa using c2
          have hx2 : ¬ v[i] = 63 := fun e => c2 (by rw [e]; rfl)
          clear c2
          by_cases c3 : ((v[i].toNat : Nat) : Int) = 91
          · have HX : Hid (v[i] = 91) := by have := lit91 v[i]; rw [c3] at this; exact (beq_iff_eq.1 this.symm)
            cases hr : readSet (v.data.toList.drop (i + 1)) with
            | some x =>
              obtain ⟨q, r⟩ := x
              have hlt := readSet_lt hr
              have hsuf := readSet_suf hr
              have HJ : Hid (v.data.toList.drop (v.size - r.length) = r) := by
                have := List.suffix_iff_eq_drop.1 (hsuf.trans (List.drop_suffix _ _))
                rw [len_data] at this
                exact this.symm
              rw [List.length_drop, len_data] at hlt
              have HQ : Hid (qs ++ (⟨true, false, q⟩ : Pc) :: pcsF (n - 1) r = pcsF v.data.toList.length v.data.toList) := by
                have := HEQ.out
                rw [HD.out] at this
                simp only [nextP, nextR, if_neg hx1, if_neg hx2, if_pos HX.out, hr] at this
                exact this
              obtain ⟨j, hj⟩ : ∃ j, j = v.size - r.length := ⟨_, rfl⟩
              rw [← hj] at HJ
              have hj1 : j ≤ v.size := by omega
              have hj2 : i < j := by omega
              rw [← HJ.out] at HQ hr
              clear HJ hj hsuf hlt hx1 hx2
              have HC := Lib.hid (fun W => setR_some v (i + 1) j q W hz hs hj1 hr)
              clear hr
              go_wp2_with fail
              refine (HC.out _).mono ?_
              rintro e w1 ⟨rfl, hb1⟩
              clear HC
              go_upto_region 13 with (first | (refine wpList_alloc rfl rfl ?_) | (refine wpList_storeT rfl _ _ rfl _ 2 0 q rfl rfl 0 0 none_ ?hg ?_))
              case hg => exact heap_alloc_new _ _
              obtain ⟨wb, hwb⟩ : ∃ x, x = (w1.alloc (.cells (tC 0 0 none_) 91)).setRow w1.heap.size (tC 2 0 q) := ⟨_, rfl⟩
              rw [← hwb]
              have T1 : Hid (TAt w1.heap.size 2 0 q wb) := by rw [hwb]; exact TAt.row (k := 0) (b := 0) (p := none_) (heap_alloc_new _ _)
              have hb2 : Below wr.heap.size wr wb := by rw [hwb]; exact below_row (hb1.alloc hb1.size _) hb1.size _
              have HOW2 := Lib.hid (own_below HOW.out hb2)
              have HBE2 := Lib.hid (HBE.out.trans (hb2.mono hbw))
              clear hwb hb1 hb2
              go_wp2_with (first | (refine wpList_loadT rfl _ rfl _ 2 0 q rfl ?hg1 ?_) | (refine wpList_single rfl _ rfl (tC 2 0 q) rfl (tC_size _ _ _) ?_) | (at_builtin; refine wpList_append_own _ rfl _ _ 87 rfl w.heap.size 91 it (.agg (tC 0 0 none_)) 258 272 Tryz.underlying87 ti tz0 tz1 tz2 (tC_size 0 0 none_) (by decide) _ css.length (flatT css) rfl ?own ⟨wb.heap.size, 0, none⟩ 1 1 (tC 2 0 q).toList rfl (len_tC _ _ _) ?c1 (one_tC _ _ _) ?c3 ?c4 ?c5 ?_))
              case hg1 => exact T1.out
              case own => exact HOW2.out.alloc _
              case c1 => exact fun j u h => cells_newT wb _ _ j u h
              case c3 => unfold maxLen; omega
              case c4 => omega
              case c5 => have := HBE2.out.size; simp; omega
              intro v' w2 hown' hgrow _
              have B2 : Hid (Below w.heap.size w w2) := (HBE2.out.alloc HBE2.out.size _).grown hgrow (by have := HBE2.out.size; simp; omega) (fun k hk => (HOW2.out.lt k hk).1)
              have HO : Hid (w2.ownsRow w.heap.size 91 258 v' (css ++ [tC 2 0 q]).length (flatT (css ++ [tC 2 0 q]))) := by
                show World.ownsRow _ _ _ _ _ _ _
                rw [flatT_snoc, List.length_append]
                exact hown'
              clear hown' hgrow
              go_wp2_with fail
              go_roundg g
              case measure => omega
              case rel => exact ⟨j, n - 1, rfl, by omega, by omega, by omega, ⟨css ++ [tC 2 0 q], qs ++ [_], HO.out, by simp; omega, hrows.snoc (.inr (.inr (.inl ⟨_, rfl, rfl, rfl⟩))), B2.out, by rw [List.append_assoc]; exact HQ.out⟩⟩
            | none =>
              have HQ : Hid (qs ++ byteP (v.data.toList.drop i) :: pcsF (n - 1) (unqR (v.data.toList.drop i)) = pcsF v.data.toList.length v.data.toList) := by
                have := HEQ.out
                rw [HD.out] at this ⊢
                simp only [nextP, nextR, if_neg hx1, if_neg hx2, if_pos HX.out, hr] at this
                exact this
              clear hx1 hx2
              have HC := Lib.hid (fun W => setR_none v (i + 1) W hz hs hr)
              clear hr
              go_wp2_with fail
              refine (HC.out _).mono ?_
              rintro e w1 ⟨rfl, hb1⟩
              clear HC
              go_upto_region 13 with (first | (refine wpList_alloc rfl rfl ?_) | (refine wpList_storeT rfl _ _ rfl _ 0 0 none_ rfl rfl 0 0 none_ ?hg ?_))
              case hg => exact heap_alloc_new _ _
              obtain ⟨wb, hwb⟩ : ∃ x, x = (w1.alloc (.cells (tC 0 0 none_) 91)).setRow w1.heap.size (tC 0 0 none_) := ⟨_, rfl⟩
              rw [← hwb]
              have hb2 : Below wr.heap.size wr wb := by rw [hwb]; exact below_row (hb1.alloc hb1.size _) hb1.size _
              have HOW2 := Lib.hid (own_below HOW.out hb2)
              have HBE2 := Lib.hid (HBE.out.trans (hb2.mono hbw))
              clear hwb hb1 hb2
              have HO1 := Lib.hid (fun W => one_is v i W hz hs)
              have hn1 := oneN_gt v.data.toList i
              have hn2 := oneN_le v.data.toList i (by rw [len_data]; exact hz)
              rw [len_data] at hn2
              have HD1 := Lib.hid (oneN_drop v.data.toList i (by rw [len_data]; exact hz))
              rw [← HD1.out] at HQ
              obtain ⟨lo, HL⟩ : ∃ l : UInt8, Hid (unqC (v.data.toList.drop i) = l) := ⟨_, rfl⟩
              generalize oneN v.data.toList i = nx at hn1 hn2 HO1 HQ
              rw [byteP, HL.out] at HQ
              go_wp2_with fail
              refine (HO1.out _).mono ?_
              rintro e w' ⟨rfl, rfl⟩
              clear HO1 HD1
              rw [HL.out]
              go_wp2_with (first | (refine wpList_built rfl 1 _ rfl (.int .u8 (lo.toNat : Nat)) rfl (tC 0 (lo.toNat : Nat) none_) (built_byte _) ?_) | (refine wpList_single rfl _ rfl (tC 0 (lo.toNat : Nat) none_) rfl (tC_size _ _ _) ?_) | (at_builtin; refine wpList_append_own _ rfl _ _ 87 rfl w.heap.size 91 it (.agg (tC 0 0 none_)) 258 272 Tryz.underlying87 ti tz0 tz1 tz2 (tC_size 0 0 none_) (by decide) _ css.length (flatT css) rfl ?own ⟨wb.heap.size, 0, none⟩ 1 1 (tC 0 (lo.toNat : Nat) none_).toList rfl (len_tC _ _ _) ?c1 (one_tC _ _ _) ?c3 ?c4 ?c5 ?_))
              case own => exact HOW2.out.alloc _
              case c1 => exact fun j u h => cells_newT wb _ _ j u h
              case c3 => unfold maxLen; omega
              case c4 => omega
              case c5 => have := HBE2.out.size; simp; omega
              intro v' w2 hown' hgrow _
              have B2 : Hid (Below w.heap.size w w2) := (HBE2.out.alloc HBE2.out.size _).grown hgrow (by have := HBE2.out.size; simp; omega) (fun k hk => (HOW2.out.lt k hk).1)
              have HO : Hid (w2.ownsRow w.heap.size 91 258 v' (css ++ [tC 0 (lo.toNat : Nat) none_]).length (flatT (css ++ [tC 0 (lo.toNat : Nat) none_]))) := by
                show World.ownsRow _ _ _ _ _ _ _
                rw [flatT_snoc, List.length_append]
                exact hown'
              clear hown' hgrow
              go_wp2_with fail
              go_roundg g
              case measure => omega
              case rel => exact ⟨nx, n - 1, rfl, by omega, by omega, by omega, ⟨css ++ [tC 0 (lo.toNat : Nat) none_], qs ++ [_], HO.out, by simp; omega, hrows.snoc (.inr (.inr (.inr ⟨lo, _, rfl, rfl⟩))), B2.out, by rw [List.append_assoc]; exact HQ.out⟩⟩
          · have c3' : (((v[i].toNat : Nat) : Int) == 91) = false := by simpa using c3
            have hx3 : ¬ v[i] = 91 := fun e => c3 (by rw [e]; rfl)
            have HQ : Hid (qs ++ byteP (v.data.toList.drop i) :: pcsF (n - 1) (unqR (v.data.toList.drop i)) = pcsF v.data.toList.length v.data.toList) := by
              have := HEQ.out
              rw [HD.out] at this ⊢
              simp only [nextP, nextR, if_neg hx1, if_neg hx2, if_neg hx3] at this
              exact this
            clear c3 hx1 hx2 hx3
            have HO1 := Lib.hid (fun W => one_is v i W hz hs)
            have hn1 := oneN_gt v.data.toList i
            have hn2 := oneN_le v.data.toList i (by rw [len_data]; exact hz)
            rw [len_data] at hn2
            have HD1 := Lib.hid (oneN_drop v.data.toList i (by rw [len_data]; exact hz))
            rw [← HD1.out] at HQ
            obtain ⟨lo, HL⟩ : ∃ l : UInt8, Hid (unqC (v.data.toList.drop i) = l) := ⟨_, rfl⟩
            generalize oneN v.data.toList i = nx at hn1 hn2 HO1 HQ
            rw [byteP, HL.out] at HQ
            go_wp2_with fail
            refine (HO1.out _).mono ?_
            rintro e w' ⟨rfl, rfl⟩
            clear HO1 HD1
            rw [HL.out]
            go_wp2_with (first | (refine wpList_built rfl 1 _ rfl (.int .u8 (lo.toNat : Nat)) rfl (tC 0 (lo.toNat : Nat) none_) (built_byte _) ?_) | (refine wpList_single rfl _ rfl (tC 0 (lo.toNat : Nat) none_) rfl (tC_size _ _ _) ?_) | (at_builtin; refine wpList_append_own _ rfl _ _ 87 rfl w.heap.size 91 it (.agg (tC 0 0 none_)) 258 272 Tryz.underlying87 ti tz0 tz1 tz2 (tC_size 0 0 none_) (by decide) _ css.length (flatT css) rfl ?own ⟨wr.heap.size, 0, none⟩ 1 1 (tC 0 (lo.toNat : Nat) none_).toList rfl (len_tC _ _ _) ?c1 (one_tC _ _ _) ?c3 ?c4 ?c5 ?_))
            case own => exact HOW.out.alloc _
            case c1 => exact fun j u h => cells_newT wr _ _ j u h
            case c3 => unfold maxLen; omega
            case c4 => omega
            case c5 => have := HBE.out.size; simp; omega
            intro v' w2 hown' hgrow _
            have B2 : Hid (Below w.heap.size w w2) := (HBE.out.alloc HBE.out.size _).grown hgrow (by have := HBE.out.size; simp; omega) (fun k hk => (HOW.out.lt k hk).1)
            have HO : Hid (w2.ownsRow w.heap.size 91 258 v' (css ++ [tC 0 (lo.toNat : Nat) none_]).length (flatT (css ++ [tC 0 (lo.toNat : Nat) none_]))) := by
              show World.ownsRow _ _ _ _ _ _ _
              rw [flatT_snoc, List.length_append]
              exact hown'
            clear hown' hgrow
            go_wp2_with fail
            go_roundg g
            case measure => omega
            case rel => exact ⟨nx, n - 1, rfl, by omega, by omega, by omega, ⟨css ++ [tC 0 (lo.toNat : Nat) none_], qs ++ [_], HO.out, by simp; omega, hrows.snoc (.inr (.inr (.inr ⟨lo, _, rfl, rfl⟩))), B2.out, by rw [List.append_assoc]; exact HQ.out⟩⟩
    · have HE : Hid (Way w (pcsF v.data.toList.length v.data.toList) v v.size 0 u3 wr) := by
        obtain ⟨css, qs, h1, h2, h3, h4, h5⟩ := H.out
        obtain rfl : i = v.size := by omega
        refine ⟨css, qs, h1, h2, h3, h4, ?_⟩
        rw [drop_nil (by rw [len_data]; exact Nat.lt_irrefl _)] at h5 ⊢
        rw [← h5]
        cases n <;> rfl
      go_wp2_with fail
      go_ret
      exact ⟨_, rfl, HE.out⟩
end Go.Proofs.YtghfmbmdfojapaaGreatDoor.Rpieces
