/- Plain facts on wildcards: how a text is read into pieces, what pieces fit; no program is named here. -/
import Derived.Lib.Strings
import Derived.Lib.IndexBytes
namespace Go.Proofs.YtgfpdaaofhanoaaGreatDoor.Glb
open Go

def bs (l : List UInt8) : ByteArray := ⟨l.toArray⟩
theorem bs_data (l : List UInt8) : (bs l).data.toList = l := rfl
theorem bs_self (s : ByteArray) : bs s.data.toList = s := Lib.mk_data s
theorem bs_inj {a b : List UInt8} (h : bs a = bs b) : a = b := by rw [← bs_data a, ← bs_data b, h]
theorem size_bs (l : List UInt8) : (bs l).size = l.length := by rw [Lib.size_eq, bs_data]
theorem ext_data {a b : ByteArray} (h : a.data.toList = b.data.toList) : a = b := by rw [← bs_self a, ← bs_self b, h]
theorem bs_app (a b : List UInt8) : bs a ++ bs b = bs (a ++ b) := ext_data (by simp [bs])
theorem app_data (a b : ByteArray) : (a ++ b).data.toList = a.data.toList ++ b.data.toList := by simp

/-! ### one byte, quoted or not -/
def unqC : List UInt8 → UInt8
  | [] => 0
  | [c] => c
  | c :: d :: _ => if c = 92 then d else c
def unqR : List UInt8 → List UInt8
  | [] => []
  | [_] => []
  | c :: d :: r => if c = 92 then r else d :: r
theorem unqR_lt {l : List UInt8} (h : l ≠ []) : (unqR l).length < l.length := by
  match l, h with
  | [_], _ => simp [unqR]
  | c :: d :: r, _ =>
    simp only [unqR]
    split
    · simp; omega
    · simp
theorem unqR_le (l : List UInt8) : (unqR l).length ≤ l.length := by
  by_cases h : l = []
  · subst h; simp [unqR]
  · exact Nat.le_of_lt (unqR_lt h)
def plain : Nat → List UInt8 → List UInt8
  | 0, _ => []
  | _, [] => []
  | n + 1, c :: r => unqC (c :: r) :: plain n (unqR (c :: r))
def plainL (l : List UInt8) : List UInt8 := plain l.length l

/-! ### sets -/
def plus (p : Nat → Bool) (lo hi : Nat) : Nat → Bool := fun b => p b || (decide (lo ≤ b) && decide (b ≤ hi))
def rng : List UInt8 → Bool
  | a :: b :: _ => a == 45 && b != 93
  | _ => false
def elHi (lo : UInt8) (r : List UInt8) : UInt8 := if rng r then unqC (r.drop 1) else lo
def elR (r : List UInt8) : List UInt8 := if rng r then unqR (r.drop 1) else r
theorem elR_le (r : List UInt8) : (elR r).length ≤ r.length := by
  unfold elR
  split
  · have := unqR_le (r.drop 1)
    rw [List.length_drop] at this
    omega
  · exact Nat.le_refl _
/-- behind a [ (and its ! or ^): the set, what is behind its ] -/
def inset : Nat → Bool → (Nat → Bool) → List UInt8 → Option ((Nat → Bool) × List UInt8)
  | 0, _, _, _ => none
  | _, _, _, [] => none
  | n + 1, first, p, c :: r =>
    if c = 93 ∧ first = false then some (p, r)
    else inset n false (plus p (unqC (c :: r)).toNat (elHi (unqC (c :: r)) (unqR (c :: r))).toNat) (elR (unqR (c :: r)))
def neg (p : Nat → Bool) : Nat → Bool := fun b => !p b
def none_ : Nat → Bool := fun _ => false
def isBut : List UInt8 → Bool
  | c :: _ => c == 33 || c == 94
  | _ => false
/-- a set is read: behind its [ -/
def readSet (l : List UInt8) : Option ((Nat → Bool) × List UInt8) :=
  if isBut l then (inset l.length true none_ (l.drop 1)).map fun x => (neg x.1, x.2)
  else inset l.length true none_ l
theorem inset_lt : ∀ (n : Nat) (f : Bool) (p : Nat → Bool) (l : List UInt8) (q : Nat → Bool) (r : List UInt8), inset n f p l = some (q, r) → r.length < l.length := by
  intro n
  induction n with
  | zero => intro f p l q r h; simp [inset] at h
  | succ n ih =>
    intro f p l q r h
    cases l with
    | nil => simp [inset] at h
    | cons c t =>
      rw [inset] at h
      split at h
      · simp only [Option.some.injEq, Prod.mk.injEq] at h
        rw [← h.2]; simp
      · have h1 := ih _ _ _ _ _ h
        have h2 := elR_le (unqR (c :: t))
        have h3 := unqR_lt (l := c :: t) (by simp)
        omega
theorem readSet_lt {l r : List UInt8} {q : Nat → Bool} (h : readSet l = some (q, r)) : r.length < l.length := by
  unfold readSet at h
  split at h
  · rw [Option.map_eq_some_iff] at h
    obtain ⟨⟨p, t⟩, h1, h2⟩ := h
    have := inset_lt _ _ _ _ _ _ h1
    simp only [Prod.mk.injEq] at h2
    rw [← h2.2]
    rw [List.length_drop] at this
    omega
  · exact inset_lt _ _ _ _ _ _ h

/-! ### pieces -/
structure Pc where
  wild : Bool
  star : Bool
  has : Nat → Bool
def byteP (l : List UInt8) : Pc := ⟨false, false, plus none_ (unqC l).toNat (unqC l).toNat⟩
/-- the first piece of l, if a [ may still be a set's (o is false) -/
def nextP (l : List UInt8) (o : Bool) : Pc :=
  match l with
  | [] => ⟨false, false, none_⟩
  | c :: r =>
    if c = 42 then ⟨true, true, none_⟩
    else if c = 63 then ⟨true, false, neg none_⟩
    else if c = 91 then
      if o then byteP (c :: r)
      else match readSet r with
        | some (p, _) => ⟨true, false, p⟩
        | none => byteP (c :: r)
    else byteP (c :: r)
def nextR (l : List UInt8) (o : Bool) : List UInt8 :=
  match l with
  | [] => []
  | c :: r =>
    if c = 42 then r
    else if c = 63 then r
    else if c = 91 then
      if o then unqR (c :: r)
      else match readSet r with
        | some (_, t) => t
        | none => unqR (c :: r)
    else unqR (c :: r)
def nextO (l : List UInt8) (o : Bool) : Bool :=
  match l with
  | [] => o
  | c :: r => if c = 91 then (if o then true else match readSet r with | some _ => false | none => true) else o
theorem nextR_lt {l : List UInt8} (h : l ≠ []) (o : Bool) : (nextR l o).length < l.length := by
  match l, h with
  | c :: r, _ =>
    have h1 := unqR_lt (l := c :: r) (by simp)
    unfold nextR
    simp only
    split
    · simp
    · split
      · simp
      · split
        · split
          · exact h1
          · split
            · rename_i hs
              have := readSet_lt hs
              simp; omega
            · exact h1
        · exact h1
def pcs : Nat → List UInt8 → Bool → List Pc
  | 0, _, _ => []
  | _, [], _ => []
  | n + 1, c :: r, o => nextP (c :: r) o :: pcs n (nextR (c :: r) o) (nextO (c :: r) o)
def pieces (l : List UInt8) : List Pc := pcs l.length l false
theorem pcs_len : ∀ (n : Nat) (l : List UInt8) (o : Bool), (pcs n l o).length ≤ l.length := by
  intro n
  induction n with
  | zero => intro l o; simp [pcs]
  | succ n ih =>
    intro l o
    cases l with
    | nil => simp [pcs]
    | cons c r =>
      have h1 := ih (nextR (c :: r) o) (nextO (c :: r) o)
      have h2 := nextR_lt (l := c :: r) (by simp) o
      simp only [pcs, List.length_cons] at h2 ⊢
      omega

/-! ### what fits -/
def anyTail (f : List UInt8 → Bool) : List UInt8 → Bool
  | [] => f []
  | c :: s => f (c :: s) || anyTail f s
def fitL : List Pc → List UInt8 → Bool
  | [], s => s.isEmpty
  | x :: ps, s => if x.star then anyTail (fitL ps) s else match s with
    | [] => false
    | c :: t => x.has c.toNat && fitL ps t
theorem anyTail_iff (f : List UInt8 → Bool) (s : List UInt8) : anyTail f s = true ↔ ∃ k, k ≤ s.length ∧ f (s.drop k) = true := by
  induction s with
  | nil => simp [anyTail]
  | cons c s ih =>
    rw [anyTail, Bool.or_eq_true, ih]
    constructor
    · rintro (h | ⟨k, hk, h⟩)
      · exact ⟨0, Nat.zero_le _, h⟩
      · exact ⟨k + 1, by simp; omega, h⟩
    · rintro ⟨k, hk, h⟩
      cases k with
      | zero => exact .inl h
      | succ k => exact .inr ⟨k, by simp at hk; omega, h⟩
/-- single pieces that take the bytes at the front -/
def takes : List Pc → List UInt8 → Prop
  | [], _ => True
  | _ :: _, [] => False
  | x :: ps, c :: s => x.star = false ∧ x.has c.toNat = true ∧ takes ps s
theorem fitL_takes : ∀ (ps qs : List Pc) (s : List UInt8), takes ps s → fitL (ps ++ qs) s = fitL qs (s.drop ps.length) := by
  intro ps
  induction ps with
  | nil => intro qs s _; simp
  | cons x ps ih =>
    intro qs s h
    cases s with
    | nil => exact h.elim
    | cons c s =>
      obtain ⟨h1, h2, h3⟩ := h
      simp only [List.cons_append, fitL, h1, h2, Bool.true_and, List.length_cons, List.drop_succ_cons]
      exact ih qs s h3
theorem takes_len : ∀ (ps : List Pc) (s : List UInt8), takes ps s → ps.length ≤ s.length := by
  intro ps
  induction ps with
  | nil => intro s _; simp
  | cons x ps ih =>
    intro s h
    cases s with
    | nil => exact h.elim
    | cons c s => have := ih s h.2.2; simp; omega
theorem takes_plain : ∀ (ps : List Pc) (s : List UInt8), takes ps s → ∀ x ∈ ps, x.star = false := by
  intro ps
  induction ps with
  | nil => intro s _ x hx; cases hx
  | cons y ps ih =>
    intro s h x hx
    cases s with
    | nil => exact h.elim
    | cons c s =>
      cases hx with
      | head => exact h.1
      | tail _ hx => exact ih s h.2.2 x hx
theorem takes_snoc : ∀ (ps : List Pc) (x : Pc) (s : List UInt8) (c : UInt8), takes ps s → s[ps.length]? = some c → x.star = false → x.has c.toNat = true → takes (ps ++ [x]) s := by
  intro ps
  induction ps with
  | nil =>
    intro x s c _ hc h1 h2
    cases s with
    | nil => cases hc
    | cons d s =>
      simp at hc
      subst hc
      exact ⟨h1, h2, trivial⟩
  | cons y ps ih =>
    intro x s c h hc h1 h2
    cases s with
    | nil => exact h.elim
    | cons d s => exact ⟨h.1, h.2.1, ih x s c h.2.2 (by simpa using hc) h1 h2⟩
/-- what single pieces fit is as long as they are many -/
theorem fit_single : ∀ (ps : List Pc) (s : List UInt8), (∀ x ∈ ps, x.star = false) → fitL ps s = true → s.length = ps.length := by
  intro ps
  induction ps with
  | nil => intro s _ h; simp [fitL] at h; simp [h]
  | cons x ps ih =>
    intro s hx h
    have h1 := hx x (by simp)
    cases s with
    | nil => simp [fitL, h1] at h
    | cons c s =>
      simp only [fitL, h1] at h
      simp at h
      have := ih s (fun y hy => hx y (by simp [hy])) h.2
      simp; omega
/-- pieces of which the first ones are single: what they fit is no shorter -/
theorem fit_long : ∀ (ps qs : List Pc) (s : List UInt8), (∀ x ∈ ps, x.star = false) → fitL (ps ++ qs) s = true → ps.length ≤ s.length ∧ fitL qs (s.drop ps.length) = true := by
  intro ps
  induction ps with
  | nil => intro qs s _ h; exact ⟨Nat.zero_le _, by simpa using h⟩
  | cons x ps ih =>
    intro qs s hx h
    have h1 := hx x (by simp)
    cases s with
    | nil => simp [fitL, h1] at h
    | cons c s =>
      simp only [List.cons_append, fitL, h1] at h
      simp at h
      obtain ⟨h2, h3⟩ := ih qs s (fun y hy => hx y (by simp [hy])) h.2
      exact ⟨by simp; omega, by simpa using h3⟩
def starP : Pc := ⟨true, true, none_⟩
theorem fit_star (x : Pc) (ps : List Pc) (s : List UInt8) (h : x.star = true) : fitL (x :: ps) s = anyTail (fitL ps) s := by simp only [fitL, h, if_true]
theorem fit_star_iff (x : Pc) (ps : List Pc) (s : List UInt8) (h : x.star = true) : fitL (x :: ps) s = true ↔ ∃ k, k ≤ s.length ∧ fitL ps (s.drop k) = true := by
  rw [fit_star x ps s h, anyTail_iff]

/-- what is asked of the pieces that are left: behind a star at any place from here on, else just here -/
def ask (starred : Bool) (ps : List Pc) (s : List UInt8) : Bool := if starred then anyTail (fitL ps) s else fitL ps s
/-- a star is met -/
theorem ask_star (st : Bool) (ps qs : List Pc) (x : Pc) (s : List UInt8) (h : takes ps s) (hx : x.star = true) : ask st (ps ++ x :: qs) s = ask true qs (s.drop ps.length) := by
  have h0 := fitL_takes ps (x :: qs) s h
  rw [fit_star x qs _ hx] at h0
  cases st with
  | false => exact h0
  | true =>
    show anyTail _ _ = anyTail _ _
    rw [← h0, Bool.eq_iff_iff, anyTail_iff]
    constructor
    · rintro ⟨k, hk, hf⟩
      obtain ⟨h1, h2⟩ := fit_long ps (x :: qs) _ (takes_plain ps s h) hf
      rw [fit_star_iff x qs _ hx] at h2
      obtain ⟨j, hj, h2⟩ := h2
      rw [h0, anyTail_iff]
      rw [List.length_drop] at h1
      rw [List.drop_drop, List.length_drop] at hj
      refine ⟨k + j, by rw [List.length_drop]; omega, ?_⟩
      rw [List.drop_drop, List.drop_drop] at h2
      rw [List.drop_drop, show ps.length + (k + j) = k + (ps.length + j) by omega]
      exact h2
    · intro hf
      exact ⟨0, Nat.zero_le _, by simpa using hf⟩
/-- the text is over, a single piece is left -/
theorem ask_over (st : Bool) (ps qs : List Pc) (x : Pc) (s : List UInt8) (h : takes ps s) (hx : x.star = false) (hl : ps.length = s.length) : ask st (ps ++ x :: qs) s = false := by
  have key : ∀ k, fitL (ps ++ x :: qs) (s.drop k) = false := by
    intro k
    rw [← Bool.not_eq_true]
    intro hf
    rw [show ps ++ x :: qs = (ps ++ [x]) ++ qs by simp] at hf
    have := (fit_long (ps ++ [x]) qs _ (by
      intro y hy
      rcases List.mem_append.1 hy with hy | hy
      · exact takes_plain ps s h y hy
      · rw [List.mem_singleton.1 hy]; exact hx) hf).1
    simp at this
    omega
  cases st with
  | false => exact key 0
  | true =>
    show anyTail _ _ = _
    rw [← Bool.not_eq_true, anyTail_iff]
    rintro ⟨k, _, hf⟩
    rw [key k] at hf; cases hf
/-- a byte does not fit -/
theorem fit_miss (ps qs : List Pc) (x : Pc) (s : List UInt8) (c : UInt8) (h : takes ps s) (hx : x.star = false) (hc : s[ps.length]? = some c) (hm : x.has c.toNat = false) : fitL (ps ++ x :: qs) s = false := by
  rw [fitL_takes ps _ s h]
  obtain ⟨hk, e⟩ := List.getElem?_eq_some_iff.1 hc
  rw [List.drop_eq_getElem_cons hk, e]
  simp [fitL, hx, hm]
theorem ask_miss (ps qs : List Pc) (x : Pc) (s : List UInt8) (c : UInt8) (h : takes ps s) (hx : x.star = false) (hc : s[ps.length]? = some c) (hm : x.has c.toNat = false) : ask true (ps ++ x :: qs) s = ask true (ps ++ x :: qs) (s.drop 1) := by
  have h0 := fit_miss ps qs x s c h hx hc hm
  cases s with
  | nil => simp at hc
  | cons d s =>
    show anyTail _ _ = anyTail _ _
    rw [anyTail, h0]; rfl
/-- all pieces are single and took what they ask for -/
theorem ask_all (st : Bool) (ps : List Pc) (s : List UInt8) (h : takes ps s) (hl : ps.length = s.length) : ask st ps s = true := by
  have h0 := fitL_takes ps [] s h
  rw [List.append_nil] at h0
  have h1 : fitL ps s = true := by rw [h0, hl, List.drop_length]; rfl
  cases st with
  | false => exact h1
  | true => exact (anyTail_iff _ _).2 ⟨0, Nat.zero_le _, h1⟩
theorem ask_more (ps : List Pc) (s : List UInt8) (h : takes ps s) (hl : ps.length ≠ s.length) : ask false ps s = false := by
  show fitL ps s = false
  rw [← Bool.not_eq_true]
  intro hf
  exact hl (fit_single ps s (takes_plain ps s h) hf).symm
theorem ask_end (ps : List Pc) (s : List UInt8) (h : takes ps s) : ask true ps s = ask true ps (s.drop (s.length - ps.length)) := by
  have hp := takes_plain ps s h
  have hl := takes_len ps s h
  show anyTail _ _ = anyTail _ _
  rw [Bool.eq_iff_iff, anyTail_iff, anyTail_iff]
  constructor
  · rintro ⟨k, hk, hf⟩
    have := fit_single ps _ hp hf
    rw [List.length_drop] at this
    refine ⟨0, Nat.zero_le _, ?_⟩
    rw [List.drop_zero, show s.length - ps.length = k by omega]
    exact hf
  · rintro ⟨k, hk, hf⟩
    have := fit_single ps _ hp hf
    rw [List.length_drop, List.length_drop] at this
    rw [List.length_drop] at hk
    rw [List.drop_drop] at hf
    exact ⟨s.length - ps.length + k, by omega, hf⟩

end Go.Proofs.YtgfpdaaofhanoaaGreatDoor.Glb
