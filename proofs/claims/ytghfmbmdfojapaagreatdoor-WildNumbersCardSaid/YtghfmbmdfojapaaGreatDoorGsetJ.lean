/- Sets of bytes as four words of bits: plain facts. -/
import Derived.Laws.Bits64
import Derived.Laws.BitsAllLaws
import Derived.Laws.ShiftsVarLaws
import Derived.Test.YtghfmbmdfojapaaGreatDoorProg
import Derived.Lib.Strings
import Derived.Lib.IndexBytes
import Derived.WalkKit
import Derived.WalkSpells
import Derived.OwnWalk
import Derived.IntWalk
import Derived.Below
import Derived.WalkSmall
import Derived.Handy
import Derived.Lib.Hide
namespace Go.Proofs.YtghfmbmdfojapaaGreatDoor.Gset
open Go

/-- the first n truths of p as a number's bits -/
def bitsN (p : Nat → Bool) : Nat → Nat
  | 0 => 0
  | n + 1 => bitsN p n ||| ((p n).toNat <<< n)
theorem bitsN_bit (p : Nat → Bool) (n i : Nat) : (bitsN p n).testBit i = (decide (i < n) && p i) := by
  induction n with
  | zero => simp [bitsN]
  | succ n ih =>
    rw [bitsN, Nat.testBit_or, ih, Nat.testBit_shiftLeft]
    rcases Nat.lt_trichotomy i n with h | h | h
    · have h1 : ¬ n ≤ i := by omega
      simp [h, h1, show i < n + 1 by omega]
    · subst h
      cases p i <;> simp
    · have h1 : ¬ i < n := by omega
      have h2 : ¬ i < n + 1 := by omega
      have h3 : ¬ i - n = 0 := by omega
      have h4 : n ≤ i := by omega
      have h5 : Nat.testBit 1 (i - n) = false := Nat.testBit_lt_two_pow (Nat.one_lt_two_pow h3)
      cases p n <;> simp [h1, h2, h4, h5]
theorem bitsN_lt (p : Nat → Bool) (n : Nat) : bitsN p n < 2 ^ n := by
  apply Nat.lt_pow_two_of_testBit
  intro i hi
  rw [bitsN_bit]
  simp; omega
def word (p : Nat → Bool) (k : Nat) : Nat := bitsN (fun i => p (64 * k + i)) 64
theorem word_bit (p : Nat → Bool) (k i : Nat) : (word p k).testBit i = (decide (i < 64) && p (64 * k + i)) := bitsN_bit _ _ _
theorem word_lt (p : Nat → Bool) (k : Nat) : word p k < 18446744073709551616 := bitsN_lt _ _
theorem word_ext {p q : Nat → Bool} {k : Nat} (h : ∀ i, i < 64 → p (64 * k + i) = q (64 * k + i)) : word p k = word q k := by
  apply Nat.eq_of_testBit_eq
  intro i
  rw [word_bit, word_bit]
  by_cases hi : i < 64
  · simp [hi, h i hi]
  · simp [hi]
theorem word_eq {p : Nat → Bool} {k n : Nat} (hn : n < 2 ^ 64) (h : ∀ i, i < 64 → n.testBit i = p (64 * k + i)) : word p k = n := by
  apply Nat.eq_of_testBit_eq
  intro i
  rw [word_bit]
  by_cases hi : i < 64
  · simp [hi, h i hi]
  · simp [hi]
    exact Nat.testBit_lt_two_pow (Nat.lt_of_lt_of_le hn (Nat.pow_le_pow_right (n := 2) (by decide) (show 64 ≤ i by omega)))

/-- a set's value -/
def setV (p : Nat → Bool) : Value := .agg #[.int .u64 (word p 0 : Nat), .int .u64 (word p 1 : Nat), .int .u64 (word p 2 : Nat), .int .u64 (word p 3 : Nat)]
def setCells (p : Nat → Bool) : List Value := [.int .u64 (word p 0 : Nat), .int .u64 (word p 1 : Nat), .int .u64 (word p 2 : Nat), .int .u64 (word p 3 : Nat)]
theorem setV_ext {p q : Nat → Bool} (h : ∀ b, b < 256 → p b = q b) : setV p = setV q := by
  unfold setV
  rw [word_ext (q := q) (k := 0) (fun i hi => h _ (by omega)), word_ext (q := q) (k := 1) (fun i hi => h _ (by omega)), word_ext (q := q) (k := 2) (fun i hi => h _ (by omega)), word_ext (q := q) (k := 3) (fun i hi => h _ (by omega))]

/-- one bit of a word -/
theorem bit_eq (p : Nat → Bool) (k r : Nat) (hr : r < 64) : (word p k / 2 ^ r) % 2 = (p (64 * k + r)).toNat := by
  have := word_bit p k r
  rw [Nat.testBit_eq_decide_div_mod_eq] at this
  simp only [hr, decide_true, Bool.true_and] at this
  have h2 : word p k / 2 ^ r % 2 = 0 ∨ word p k / 2 ^ r % 2 = 1 := by omega
  rcases h2 with h2 | h2
  · rw [h2] at this ⊢; rw [← this]; rfl
  · rw [h2] at this ⊢; rw [← this]; rfl
/-- a bit is put -/
theorem put_bit (p : Nat → Bool) (k r : Nat) (hr : r < 64) : word p k ||| 2 ^ r = word (fun b => p b || b == 64 * k + r) k := by
  symm
  apply word_eq
  · exact Nat.or_lt_two_pow (word_lt p k) (Nat.pow_lt_pow_of_lt (by decide) hr)
  · intro i hi
    rw [Nat.testBit_or, word_bit, Nat.testBit_two_pow]
    simp [hi]
    by_cases e : r = i
    · simp [e]
    · have : ¬ i = r := fun x => e x.symm
      simp [e, this]
theorem put_other (p : Nat → Bool) (k j r : Nat) (hr : r < 64) (h : j ≠ k) : word (fun b => p b || b == 64 * k + r) j = word p j := by
  apply word_ext
  intro i hi
  have : ¬ 64 * j + i = 64 * k + r := by omega
  simp [this]
/-- all bits are turned -/
theorem turn_bits (p : Nat → Bool) (k : Nat) : 18446744073709551615 ^^^ word p k = word (fun b => !p b) k := by
  symm
  apply word_eq
  · exact Nat.xor_lt_two_pow (by decide) (word_lt p k)
  · intro i hi
    rw [Nat.testBit_xor, word_bit, show (18446744073709551615 : Nat) = 2 ^ 64 - 1 by decide, Nat.testBit_two_pow_sub_one]
    simp [hi]
end Go.Proofs.YtghfmbmdfojapaaGreatDoor.Gset

/- Plain facts on wildcards: how a text is read into pieces, what pieces fit; no program is named here. -/
namespace Go.Proofs.YtghfmbmdfojapaaGreatDoor.Glb
open Go

def bs (l : List UInt8) : ByteArray := ⟨l.toArray⟩
theorem bs_data (l : List UInt8) : (bs l).data.toList = l := rfl
theorem bs_self (s : ByteArray) : bs s.data.toList = s := Lib.mk_data s
theorem bs_inj {a b : List UInt8} (h : bs a = bs b) : a = b := by rw [← bs_data a, ← bs_data b, h]
theorem size_bs (l : List UInt8) : (bs l).size = l.length := by rw [Lib.size_eq, bs_data]
theorem ext_data {a b : ByteArray} (h : a.data.toList = b.data.toList) : a = b := by rw [← bs_self a, ← bs_self b, h]
theorem bs_app (a b : List UInt8) : bs a ++ bs b = bs (a ++ b) := ext_data (by simp [bs])
theorem app_data (a b : ByteArray) : (a ++ b).data.toList = a.data.toList ++ b.data.toList := by simp

/-! ### one byte, quoted or not -/
def unqC : List UInt8 → UInt8
  | [] => 0
  | [c] => c
  | c :: d :: _ => if c = 92 then d else c
def unqR : List UInt8 → List UInt8
  | [] => []
  | [_] => []
  | c :: d :: r => if c = 92 then r else d :: r
theorem unqR_lt {l : List UInt8} (h : l ≠ []) : (unqR l).length < l.length := by
  match l, h with
  | [_], _ => simp [unqR]
  | c :: d :: r, _ =>
    simp only [unqR]
    split
    · simp; omega
    · simp
theorem unqR_le (l : List UInt8) : (unqR l).length ≤ l.length := by
  by_cases h : l = []
  · subst h; simp [unqR]
  · exact Nat.le_of_lt (unqR_lt h)
def plain : Nat → List UInt8 → List UInt8
  | 0, _ => []
  | _, [] => []
  | n + 1, c :: r => unqC (c :: r) :: plain n (unqR (c :: r))
def plainL (l : List UInt8) : List UInt8 := plain l.length l

/-! ### sets -/
def plus (p : Nat → Bool) (lo hi : Nat) : Nat → Bool := fun b => p b || (decide (lo ≤ b) && decide (b ≤ hi))
def rng : List UInt8 → Bool
  | a :: b :: _ => a == 45 && b != 93
  | _ => false
def elHi (lo : UInt8) (r : List UInt8) : UInt8 := if rng r then unqC (r.drop 1) else lo
def elR (r : List UInt8) : List UInt8 := if rng r then unqR (r.drop 1) else r
theorem elR_le (r : List UInt8) : (elR r).length ≤ r.length := by
  unfold elR
  split
  · have := unqR_le (r.drop 1)
    rw [List.length_drop] at this
    omega
  · exact Nat.le_refl _
/-- behind a [ (and its ! or ^): the set, what is behind its ] -/
def inset : Nat → Bool → (Nat → Bool) → List UInt8 → Option ((Nat → Bool) × List UInt8)
  | 0, _, _, _ => none
  | _, _, _, [] => none
  | n + 1, first, p, c :: r =>
    if c = 93 ∧ first = false then some (p, r)
    else inset n false (plus p (unqC (c :: r)).toNat (elHi (unqC (c :: r)) (unqR (c :: r))).toNat) (elR (unqR (c :: r)))
def neg (p : Nat → Bool) : Nat → Bool := fun b => !p b
def none_ : Nat → Bool := fun _ => false
def isBut : List UInt8 → Bool
  | c :: _ => c == 33 || c == 94
  | _ => false
/-- a set is read: behind its [ -/
def readSet (l : List UInt8) : Option ((Nat → Bool) × List UInt8) :=
  if isBut l then (inset l.length true none_ (l.drop 1)).map fun x => (neg x.1, x.2)
  else inset l.length true none_ l
theorem inset_lt : ∀ (n : Nat) (f : Bool) (p : Nat → Bool) (l : List UInt8) (q : Nat → Bool) (r : List UInt8), inset n f p l = some (q, r) → r.length < l.length := by
  intro n
  induction n with
  | zero => intro f p l q r h; simp [inset] at h
  | succ n ih =>
    intro f p l q r h
    cases l with
    | nil => simp [inset] at h
    | cons c t =>
      rw [inset] at h
      split at h
      · simp only [Option.some.injEq, Prod.mk.injEq] at h
        rw [← h.2]; simp
      · have h1 := ih _ _ _ _ _ h
        have h2 := elR_le (unqR (c :: t))
        have h3 := unqR_lt (l := c :: t) (by simp)
        omega
theorem readSet_lt {l r : List UInt8} {q : Nat → Bool} (h : readSet l = some (q, r)) : r.length < l.length := by
  unfold readSet at h
  split at h
  · rw [Option.map_eq_some_iff] at h
    obtain ⟨⟨p, t⟩, h1, h2⟩ := h
    have := inset_lt _ _ _ _ _ _ h1
    simp only [Prod.mk.injEq] at h2
    rw [← h2.2]
    rw [List.length_drop] at this
    omega
  · exact inset_lt _ _ _ _ _ _ h

/-! ### pieces -/
structure Pc where
  wild : Bool
  star : Bool
  has : Nat → Bool
def byteP (l : List UInt8) : Pc := ⟨false, false, plus none_ (unqC l).toNat (unqC l).toNat⟩
/-- the first piece of l, if a [ may still be a set's (o is false) -/
def nextP (l : List UInt8) (o : Bool) : Pc :=
  match l with
  | [] => ⟨false, false, none_⟩
  | c :: r =>
    if c = 42 then ⟨true, true, none_⟩
    else if c = 63 then ⟨true, false, neg none_⟩
    else if c = 91 then
      if o then byteP (c :: r)
      else match readSet r with
        | some (p, _) => ⟨true, false, p⟩
        | none => byteP (c :: r)
    else byteP (c :: r)
def nextR (l : List UInt8) (o : Bool) : List UInt8 :=
  match l with
  | [] => []
  | c :: r =>
    if c = 42 then r
    else if c = 63 then r
    else if c = 91 then
      if o then unqR (c :: r)
      else match readSet r with
        | some (_, t) => t
        | none => unqR (c :: r)
    else unqR (c :: r)
def nextO (l : List UInt8) (o : Bool) : Bool :=
  match l with
  | [] => o
  | c :: r => if c = 91 then (if o then true else match readSet r with | some _ => false | none => true) else o
theorem nextR_lt {l : List UInt8} (h : l ≠ []) (o : Bool) : (nextR l o).length < l.length := by
  match l, h with
  | c :: r, _ =>
    have h1 := unqR_lt (l := c :: r) (by simp)
    unfold nextR
    simp only
    split
    · simp
    · split
      · simp
      · split
        · split
          · exact h1
          · split
            · rename_i hs
              have := readSet_lt hs
              simp; omega
            · exact h1
        · exact h1
def pcs : Nat → List UInt8 → Bool → List Pc
  | 0, _, _ => []
  | _, [], _ => []
  | n + 1, c :: r, o => nextP (c :: r) o :: pcs n (nextR (c :: r) o) (nextO (c :: r) o)
def pieces (l : List UInt8) : List Pc := pcs l.length l false
theorem pcs_len : ∀ (n : Nat) (l : List UInt8) (o : Bool), (pcs n l o).length ≤ l.length := by
  intro n
  induction n with
  | zero => intro l o; simp [pcs]
  | succ n ih =>
    intro l o
    cases l with
    | nil => simp [pcs]
    | cons c r =>
      have h1 := ih (nextR (c :: r) o) (nextO (c :: r) o)
      have h2 := nextR_lt (l := c :: r) (by simp) o
      simp only [pcs, List.length_cons] at h2 ⊢
      omega

/-! ### what fits -/
def anyTail (f : List UInt8 → Bool) : List UInt8 → Bool
  | [] => f []
  | c :: s => f (c :: s) || anyTail f s
def fitL : List Pc → List UInt8 → Bool
  | [], s => s.isEmpty
  | x :: ps, s => if x.star then anyTail (fitL ps) s else match s with
    | [] => false
    | c :: t => x.has c.toNat && fitL ps t
theorem anyTail_iff (f : List UInt8 → Bool) (s : List UInt8) : anyTail f s = true ↔ ∃ k, k ≤ s.length ∧ f (s.drop k) = true := by
  induction s with
  | nil => simp [anyTail]
  | cons c s ih =>
    rw [anyTail, Bool.or_eq_true, ih]
    constructor
    · rintro (h | ⟨k, hk, h⟩)
      · exact ⟨0, Nat.zero_le _, h⟩
      · exact ⟨k + 1, by simp; omega, h⟩
    · rintro ⟨k, hk, h⟩
      cases k with
      | zero => exact .inl h
      | succ k => exact .inr ⟨k, by simp at hk; omega, h⟩
/-- single pieces that take the bytes at the front -/
def takes : List Pc → List UInt8 → Prop
  | [], _ => True
  | _ :: _, [] => False
  | x :: ps, c :: s => x.star = false ∧ x.has c.toNat = true ∧ takes ps s
theorem fitL_takes : ∀ (ps qs : List Pc) (s : List UInt8), takes ps s → fitL (ps ++ qs) s = fitL qs (s.drop ps.length) := by
  intro ps
  induction ps with
  | nil => intro qs s _; simp
  | cons x ps ih =>
    intro qs s h
    cases s with
    | nil => exact h.elim
    | cons c s =>
      obtain ⟨h1, h2, h3⟩ := h
      simp only [List.cons_append, fitL, h1, h2, Bool.true_and, List.length_cons, List.drop_succ_cons]
      exact ih qs s h3
theorem takes_len : ∀ (ps : List Pc) (s : List UInt8), takes ps s → ps.length ≤ s.length := by
  intro ps
  induction ps with
  | nil => intro s _; simp
  | cons x ps ih =>
    intro s h
    cases s with
    | nil => exact h.elim
    | cons c s => have := ih s h.2.2; simp; omega
theorem takes_plain : ∀ (ps : List Pc) (s : List UInt8), takes ps s → ∀ x ∈ ps, x.star = false := by
  intro ps
  induction ps with
  | nil => intro s _ x hx; cases hx
  | cons y ps ih =>
    intro s h x hx
    cases s with
    | nil => exact h.elim
    | cons c s =>
      cases hx with
      | head => exact h.1
      | tail _ hx => exact ih s h.2.2 x hx
theorem takes_snoc : ∀ (ps : List Pc) (x : Pc) (s : List UInt8) (c : UInt8), takes ps s → s[ps.length]? = some c → x.star = false → x.has c.toNat = true → takes (ps ++ [x]) s := by
  intro ps
  induction ps with
  | nil =>
    intro x s c _ hc h1 h2
    cases s with
    | nil => cases hc
    | cons d s =>
      simp at hc
      subst hc
      exact ⟨h1, h2, trivial⟩
  | cons y ps ih =>
    intro x s c h hc h1 h2
    cases s with
    | nil => exact h.elim
    | cons d s => exact ⟨h.1, h.2.1, ih x s c h.2.2 (by simpa using hc) h1 h2⟩
/-- what single pieces fit is as long as they are many -/
theorem fit_single : ∀ (ps : List Pc) (s : List UInt8), (∀ x ∈ ps, x.star = false) → fitL ps s = true → s.length = ps.length := by
  intro ps
  induction ps with
  | nil => intro s _ h; simp [fitL] at h; simp [h]
  | cons x ps ih =>
    intro s hx h
    have h1 := hx x (by simp)
    cases s with
    | nil => simp [fitL, h1] at h
    | cons c s =>
      simp only [fitL, h1] at h
      simp at h
      have := ih s (fun y hy => hx y (by simp [hy])) h.2
      simp; omega
/-- pieces of which the first ones are single: what they fit is no shorter -/
theorem fit_long : ∀ (ps qs : List Pc) (s : List UInt8), (∀ x ∈ ps, x.star = false) → fitL (ps ++ qs) s = true → ps.length ≤ s.length ∧ fitL qs (s.drop ps.length) = true := by
  intro ps
  induction ps with
  | nil => intro qs s _ h; exact ⟨Nat.zero_le _, by simpa using h⟩
  | cons x ps ih =>
    intro qs s hx h
    have h1 := hx x (by simp)
    cases s with
    | nil => simp [fitL, h1] at h
    | cons c s =>
      simp only [List.cons_append, fitL, h1] at h
      simp at h
      obtain ⟨h2, h3⟩ := ih qs s (fun y hy => hx y (by simp [hy])) h.2
      exact ⟨by simp; omega, by simpa using h3⟩
def starP : Pc := ⟨true, true, none_⟩
theorem fit_star (x : Pc) (ps : List Pc) (s : List UInt8) (h : x.star = true) : fitL (x :: ps) s = anyTail (fitL ps) s := by simp only [fitL, h, if_true]
theorem fit_star_iff (x : Pc) (ps : List Pc) (s : List UInt8) (h : x.star = true) : fitL (x :: ps) s = true ↔ ∃ k, k ≤ s.length ∧ fitL ps (s.drop k) = true := by
  rw [fit_star x ps s h, anyTail_iff]

/-- what is asked of the pieces that are left: behind a star at any place from here on, else just here -/
def ask (starred : Bool) (ps : List Pc) (s : List UInt8) : Bool := if starred then anyTail (fitL ps) s else fitL ps s
/-- a star is met -/
theorem ask_star (st : Bool) (ps qs : List Pc) (x : Pc) (s : List UInt8) (h : takes ps s) (hx : x.star = true) : ask st (ps ++ x :: qs) s = ask true qs (s.drop ps.length) := by
  have h0 := fitL_takes ps (x :: qs) s h
  rw [fit_star x qs _ hx] at h0
  cases st with
  | false => exact h0
  | true =>
    show anyTail _ _ = anyTail _ _
    rw [← h0, Bool.eq_iff_iff, anyTail_iff]
    constructor
    · rintro ⟨k, hk, hf⟩
      obtain ⟨h1, h2⟩ := fit_long ps (x :: qs) _ (takes_plain ps s h) hf
      rw [fit_star_iff x qs _ hx] at h2
      obtain ⟨j, hj, h2⟩ := h2
      rw [h0, anyTail_iff]
      rw [List.length_drop] at h1
      rw [List.drop_drop, List.length_drop] at hj
      refine ⟨k + j, by rw [List.length_drop]; omega, ?_⟩
      rw [List.drop_drop, List.drop_drop] at h2
      rw [List.drop_drop, show ps.length + (k + j) = k + (ps.length + j) by omega]
      exact h2
    · intro hf
      exact ⟨0, Nat.zero_le _, by simpa using hf⟩
/-- the text is over, a single piece is left -/
theorem ask_over (st : Bool) (ps qs : List Pc) (x : Pc) (s : List UInt8) (h : takes ps s) (hx : x.star = false) (hl : ps.length = s.length) : ask st (ps ++ x :: qs) s = false := by
  have key : ∀ k, fitL (ps ++ x :: qs) (s.drop k) = false := by
    intro k
    rw [← Bool.not_eq_true]
    intro hf
    rw [show ps ++ x :: qs = (ps ++ [x]) ++ qs by simp] at hf
    have := (fit_long (ps ++ [x]) qs _ (by
      intro y hy
      rcases List.mem_append.1 hy with hy | hy
      · exact takes_plain ps s h y hy
      · rw [List.mem_singleton.1 hy]; exact hx) hf).1
    simp at this
    omega
  cases st with
  | false => exact key 0
  | true =>
    show anyTail _ _ = _
    rw [← Bool.not_eq_true, anyTail_iff]
    rintro ⟨k, _, hf⟩
    rw [key k] at hf; cases hf
/-- a byte does not fit -/
theorem fit_miss (ps qs : List Pc) (x : Pc) (s : List UInt8) (c : UInt8) (h : takes ps s) (hx : x.star = false) (hc : s[ps.length]? = some c) (hm : x.has c.toNat = false) : fitL (ps ++ x :: qs) s = false := by
  rw [fitL_takes ps _ s h]
  obtain ⟨hk, e⟩ := List.getElem?_eq_some_iff.1 hc
  rw [List.drop_eq_getElem_cons hk, e]
  simp [fitL, hx, hm]
theorem ask_miss (ps qs : List Pc) (x : Pc) (s : List UInt8) (c : UInt8) (h : takes ps s) (hx : x.star = false) (hc : s[ps.length]? = some c) (hm : x.has c.toNat = false) : ask true (ps ++ x :: qs) s = ask true (ps ++ x :: qs) (s.drop 1) := by
  have h0 := fit_miss ps qs x s c h hx hc hm
  cases s with
  | nil => simp at hc
  | cons d s =>
    show anyTail _ _ = anyTail _ _
    rw [anyTail, h0]; rfl
/-- all pieces are single and took what they ask for -/
theorem ask_all (st : Bool) (ps : List Pc) (s : List UInt8) (h : takes ps s) (hl : ps.length = s.length) : ask st ps s = true := by
  have h0 := fitL_takes ps [] s h
  rw [List.append_nil] at h0
  have h1 : fitL ps s = true := by rw [h0, hl, List.drop_length]; rfl
  cases st with
  | false => exact h1
  | true => exact (anyTail_iff _ _).2 ⟨0, Nat.zero_le _, h1⟩
theorem ask_more (ps : List Pc) (s : List UInt8) (h : takes ps s) (hl : ps.length ≠ s.length) : ask false ps s = false := by
  show fitL ps s = false
  rw [← Bool.not_eq_true]
  intro hf
  exact hl (fit_single ps s (takes_plain ps s h) hf).symm
theorem ask_end (ps : List Pc) (s : List UInt8) (h : takes ps s) : ask true ps s = ask true ps (s.drop (s.length - ps.length)) := by
  have hp := takes_plain ps s h
  have hl := takes_len ps s h
  show anyTail _ _ = anyTail _ _
  rw [Bool.eq_iff_iff, anyTail_iff, anyTail_iff]
  constructor
  · rintro ⟨k, hk, hf⟩
    have := fit_single ps _ hp hf
    rw [List.length_drop] at this
    refine ⟨0, Nat.zero_le _, ?_⟩
    rw [List.drop_zero, show s.length - ps.length = k by omega]
    exact hf
  · rintro ⟨k, hk, hf⟩
    have := fit_single ps _ hp hf
    rw [List.length_drop, List.length_drop] at this
    rw [List.length_drop] at hk
    rw [List.drop_drop] at hf
    exact ⟨s.length - ps.length + k, by omega, hf⟩

end Go.Proofs.YtghfmbmdfojapaaGreatDoor.Glb

/- What the functions on one byte and on sets answer: unquote, has, with, others. -/
namespace Go.Proofs.YtghfmbmdfojapaaGreatDoor.Gops
open Go.RowKit Go.Proofs.YtghfmbmdfojapaaGreatDoor.Gset
open Go.Proofs.YtghfmbmdfojapaaGreatDoor.Glb (plus)

theorem at_word (p : Nat → Bool) (q : Nat) (h : q < 4) : [Value.int .u64 (word p 0 : Nat), .int .u64 (word p 1 : Nat), .int .u64 (word p 2 : Nat), .int .u64 (word p 3 : Nat)][q]? = some (.int .u64 (word p q : Nat)) := by
  obtain rfl | rfl | rfl | rfl : q = 0 ∨ q = 1 ∨ q = 2 ∨ q = 3 := by omega
  all_goals rfl

theorem has_bit (p : Nat → Bool) (b : Nat) (_hb : b < 256) : (bits .and .u64 ((word p (b / 64) : Nat) / 2 ^ (b % 64)) 1 == 1) = p b := by
  have h1 := word_lt p (b / 64)
  have h2 : word p (b / 64) / 2 ^ (b % 64) < 18446744073709551616 := Nat.lt_of_le_of_lt (Nat.div_le_self _ _) h1
  have h3 := bit_eq p (b / 64) (b % 64) (Nat.mod_lt _ (by decide))
  rw [show 64 * (b / 64) + b % 64 = b by omega] at h3
  have h4 : (((word p (b / 64) : Nat) : Int) / 2 ^ (b % 64)) = ((word p (b / 64) / 2 ^ (b % 64) : Nat) : Int) := by simp
  rw [h4, show (1 : Int) = ((1 : Nat) : Int) from rfl, u64_and_nat _ _ h2 (by decide), Nat.and_one_is_mod, h3]
  cases p b <;> rfl

theorem ret_bool {a b : Bool} (h : a = b) : Ending.returned (.bool a) = .returned (.bool b) := by rw [h]
set_option maxHeartbeats 400000 in
/-- is a byte one of the set? -/
theorem has_is (p : Nat → Bool) (b : Nat) (hb : b < 256) (w : World) : Calls Tryz.prog 122 #[setV p, .int .u8 (b : Int)] w fun e W' => e = .returned (.bool (p b)) ∧ Below w.heap.size w W' := by
  have hc := at_word p (b / 64) (by omega)
  unfold setV
  go_enter Tryz.func122, Tryz.ntmps122
  go_wp2
  go_ret
  exact ⟨ret_bool (has_bit p b hb), (Below.refl _ _).alloc (Nat.le_refl _) _⟩

def turned (p : Nat → Bool) (k : Nat) : Int := bits .xor .u64 IntKind.u64.max (word p k : Nat)
theorem turned_eq (p : Nat → Bool) (k : Nat) : bits .xor .u64 IntKind.u64.max ((word p k : Nat) : Int) = ((word (fun b => !p b) k : Nat) : Int) := by
  have e : IntKind.u64.max = ((18446744073709551615 : Nat) : Int) := rfl
  rw [e, u64_xor_nat _ _ (by decide) (word_lt p k), turn_bits]

set_option maxHeartbeats 1000000 in
/-- all bytes but the set's -/
theorem others_is (p : Nat → Bool) (w : World) : Calls Tryz.prog 77 #[setV p] w fun e W' => e = .returned (setV (fun b => !p b)) ∧ Below w.heap.size w W' := by
  have t0 := turned_eq p 0
  have t1 := turned_eq p 1
  have t2 := turned_eq p 2
  have t3 := turned_eq p 3
  unfold setV
  go_enter Tryz.func77, Tryz.ntmps77
  go_wp2
  go_rounds 5
  exact bodyPost_ret (v := setV (fun b => !p b)) (by simp [results, Tryz.results77, go_sem, setV]) rfl ⟨rfl, ((Below.refl _ _).alloc (Nat.le_refl _) _).alloc (by simp) _⟩

/-! ### bytes from one to another -/
/-- up to here -/
def some_ (p : Nat → Bool) (lo k : Nat) : Nat → Bool := fun b => p b || (decide (lo ≤ b) && decide (b < k))

/-- a set lies in block g -/
def SetAt (g : Nat) (p : Nat → Bool) (w : World) : Prop := w.heap[g]? = some (.cells #[.int .u64 (word p 0 : Nat), .int .u64 (word p 1 : Nat), .int .u64 (word p 2 : Nat), .int .u64 (word p 3 : Nat)] 109 (0, 0))
theorem SetAt.at_ {g : Nat} {p : Nat → Bool} {w : World} (h : SetAt g p w) (q : Nat) (hq : q < 4) : w.cell? ⟨g, q, none⟩ = some (.int .u64 (word p q : Nat)) := by
  rw [cell_of_row _ _ _ _ _ _ h]
  obtain rfl | rfl | rfl | rfl : q = 0 ∨ q = 1 ∨ q = 2 ∨ q = 3 := by omega
  all_goals rfl
theorem SetAt.open_ {g : Nat} {p : Nat → Bool} {w : World} (h : SetAt g p w) (q : Nat) : w.frozen? ⟨g, q, none⟩ = false := frozen_of_row _ _ _ _ _ h
theorem SetAt.put {g : Nat} {p : Nat → Bool} {w : World} (h : SetAt g p w) (k : Nat) (hk : k < 256) : SetAt g (fun b => p b || b == k) (w.setCell ⟨g, k / 64, none⟩ (.int .u64 ((word p (k / 64) ||| 2 ^ (k % 64) : Nat) : Int))) := by
  unfold SetAt at h ⊢
  rw [heap_setCell_same _ _ _ _ _ _ h]
  have hr : k % 64 < 64 := Nat.mod_lt _ (by decide)
  have hk2 : 64 * (k / 64) + k % 64 = k := by omega
  have hput := put_bit p (k / 64) (k % 64) hr
  rw [hk2] at hput
  rw [hput]
  have o := fun j (hj : j ≠ k / 64) => put_other p (k / 64) j (k % 64) hr hj
  rw [hk2] at o
  obtain e | e | e | e : k / 64 = 0 ∨ k / 64 = 1 ∨ k / 64 = 2 ∨ k / 64 = 3 := by omega
  · rw [e] at o ⊢; rw [← o 1 (by decide), ← o 2 (by decide), ← o 3 (by decide)]; rfl
  · rw [e] at o ⊢; rw [← o 0 (by decide), ← o 2 (by decide), ← o 3 (by decide)]; rfl
  · rw [e] at o ⊢; rw [← o 0 (by decide), ← o 1 (by decide), ← o 3 (by decide)]; rfl
  · rw [e] at o ⊢; rw [← o 0 (by decide), ← o 1 (by decide), ← o 2 (by decide)]; rfl
theorem SetAt.ext {g : Nat} {p q : Nat → Bool} {w : World} (h : SetAt g p w) (e : ∀ b, b < 256 → p b = q b) : SetAt g q w := by
  unfold SetAt at h ⊢
  rw [h, word_ext (q := q) (k := 0) (fun i hi => e _ (by omega)), word_ext (q := q) (k := 1) (fun i hi => e _ (by omega)), word_ext (q := q) (k := 2) (fun i hi => e _ (by omega)), word_ext (q := q) (k := 3) (fun i hi => e _ (by omega))]

theorem SetAt.lt {g : Nat} {p : Nat → Bool} {w : World} (h : SetAt g p w) : g < w.heap.size := (Array.getElem?_eq_some_iff.1 h).1
theorem SetAt.on {g : Nat} {p : Nat → Bool} {w w1 : World} (h : SetAt g p w) (hb : Below w.heap.size w w1) : SetAt g p w1 := (hb.block g h.lt).trans h
/-- four words are laid -/
def put4 (w : World) (g : Nat) (p : Nat → Bool) : World := (((w.setCell ⟨g, 0, none⟩ (.int .u64 (word p 0 : Nat))).setCell ⟨g, 1, none⟩ (.int .u64 (word p 1 : Nat))).setCell ⟨g, 2, none⟩ (.int .u64 (word p 2 : Nat))).setCell ⟨g, 3, none⟩ (.int .u64 (word p 3 : Nat))
theorem SetAt.put4 {g : Nat} {q : Nat → Bool} {w : World} (h : SetAt g q w) (p : Nat → Bool) : SetAt g p (put4 w g p) := by
  unfold SetAt Gops.put4
  rw [heap_setCell_same _ _ _ _ _ _ (heap_setCell_same _ _ _ _ _ _ (heap_setCell_same _ _ _ _ _ _ (heap_setCell_same _ _ _ _ _ _ h)))]
  rfl
theorem SetAt.put4_other {g k : Nat} {q : Nat → Bool} {w : World} (h : SetAt k q w) (p : Nat → Bool) (hk : k ≠ g) : SetAt k q (Gops.put4 w g p) := by
  unfold SetAt Gops.put4
  rw [heap_setCell_other _ _ _ _ hk, heap_setCell_other _ _ _ _ hk, heap_setCell_other _ _ _ _ hk, heap_setCell_other _ _ _ _ hk]
  exact h
theorem below_put4 {B g : Nat} {a w : World} (h : Below B a w) (hg : B ≤ g) (p : Nat → Bool) : Below B a (put4 w g p) :=
  (((h.setCell (p := ⟨g, 0, none⟩) hg _).setCell (p := ⟨g, 1, none⟩) hg _).setCell (p := ⟨g, 2, none⟩) hg _).setCell (p := ⟨g, 3, none⟩) hg _
theorem or_bit (p : Nat → Bool) (q r : Nat) (hr : r < 64) : bits .or .u64 ((word p q : Nat) : Int) (IntKind.u64.wrap (2 ^ r)) = ((word p q ||| 2 ^ r : Nat) : Int) := by
  have h1 := word_lt p q
  have h2 : 2 ^ r < 18446744073709551616 := Nat.pow_lt_pow_of_lt (a := 2) (by decide) hr
  have e1 : IntKind.u64.wrap (2 ^ r) = ((2 ^ r : Nat) : Int) := by
    rw [IntKind.wrap_u64, show ((2 : Int) ^ r) = ((2 ^ r : Nat) : Int) by simp]
    generalize 2 ^ r = m at h2
    omega
  rw [e1, u64_or_nat _ _ h1 h2]
theorem some_start (p : Nat → Bool) (lo : Nat) (b : Nat) : p b = some_ p lo lo b := by
  unfold some_
  have : ¬ (lo ≤ b ∧ b < lo) := by omega
  simp; omega
theorem some_step (p : Nat → Bool) (lo k : Nat) (h : lo ≤ k) (b : Nat) : (some_ p lo k b || b == k) = some_ p lo (k + 1) b := by
  unfold some_
  rw [Bool.or_assoc]
  congr 1
  rw [Bool.eq_iff_iff]
  simp
  omega
theorem some_end (p : Nat → Bool) (lo hi k : Nat) (_h1 : lo ≤ k) (h2 : k ≤ hi + 1 ∨ k = lo) (h3 : ¬ k ≤ hi) (b : Nat) : some_ p lo k b = plus p lo hi b := by
  unfold some_ plus
  congr 1
  rw [Bool.eq_iff_iff]
  simp
  omega

set_option maxRecDepth 100000 in
set_option maxHeartbeats 1000000 in
/-- a set and all bytes from one to another -/
theorem with_is (p : Nat → Bool) (lo hi : Nat) (hlo : lo < 256) (hhi : hi < 256) (w : World) :
    Calls Tryz.prog 79 #[setV p, .int .u8 (lo : Int), .int .u8 (hi : Int)] w fun e W' => e = .returned (setV (plus p lo hi)) ∧ Below w.heap.size w W' := by
  unfold setV
  go_enter Tryz.func79, Tryz.ntmps79
  go_wp2
  go_loopw [7] (fun v wr => ∃ k : Nat, v = .int .i64 k ∧ k ≤ 256 ∧ Hid (lo ≤ k ∧ (k ≤ hi + 1 ∨ k = lo) ∧ SetAt w.heap.size (some_ p lo k) wr ∧ SetAt (w.heap.size + 1) (fun _ => false) wr ∧ Below w.heap.size w wr)) (fun v _ => 256 - (intOf v).toNat)
  case atStart =>
    refine ⟨lo, rfl, by omega, ⟨Nat.le_refl _, .inr rfl, ?_, ?_, ?_⟩⟩
    · exact SetAt.ext (p := p) (heap_alloc2_old _ _ _) (fun b _ => some_start p lo b)
    · exact heap_alloc2_new _ _ _
    · exact ((Below.refl _ _).alloc (Nat.le_refl _) _).alloc (by simp) _
  case round =>
    obtain ⟨k, rfl, hk, H⟩ := hrel
    by_cases hlt : k ≤ hi
    · have c := H.out.2.2.1.at_ (k / 64) (by omega)
      have f := H.out.2.2.1.open_ (k / 64)
      have eo := or_bit (some_ p lo k) (k / 64) (k % 64) (Nat.mod_lt _ (by decide))
      go_wp2
      go_region
      go_wp2
      go_roundw
      case rel =>
        obtain ⟨a1, a2, a3, a4, a5⟩ := H.out
        refine ⟨k + 1, by go_num, by omega, ⟨by omega, .inl (by omega), ?_, ?_, ?_⟩⟩
        · exact (SetAt.put a3 k (by omega)).ext (fun b _ => some_step p lo k a1 b)
        · exact (heap_setCell_other _ _ _ _ (by simp)).trans a4
        · exact below_drewN (a5.setCell (p := ⟨w.heap.size, k / 64, none⟩) (Nat.le_refl _) _) 1
      case measure => simp [intOf]; omega
    · obtain ⟨a1, a2, a3, a4, a5⟩ := H.out
      have s3 := SetAt.ext a3 (fun b _ => some_end p lo hi k a1 a2 hlt b)
      have c0 := SetAt.at_ s3 0 (by decide)
      have c1 := SetAt.at_ s3 1 (by decide)
      have c2 := SetAt.at_ s3 2 (by decide)
      have c3 := SetAt.at_ s3 3 (by decide)
      have d0 := SetAt.at_ a4 0 (by decide)
      have d1 := SetAt.at_ a4 1 (by decide)
      have d2 := SetAt.at_ a4 2 (by decide)
      have d3 := SetAt.at_ a4 3 (by decide)
      have f0 := SetAt.open_ a4 0
      have f1 := SetAt.open_ a4 1
      have f2 := SetAt.open_ a4 2
      have f3 := SetAt.open_ a4 3
      clear a1 a2 a3 a4 s3
      have B := Lib.hid a5
      clear a5 H
      go_wp2
      exact bodyPost_ret (v := setV (plus p lo hi)) (by simp [results, Tryz.results79, go_sem, setV, *]) rfl ⟨rfl, (((B.out.setCell (p := ⟨w.heap.size + 1, 0, none⟩) (by simp) _).setCell (p := ⟨w.heap.size + 1, 1, none⟩) (by simp) _).setCell (p := ⟨w.heap.size + 1, 2, none⟩) (by simp) _).setCell (p := ⟨w.heap.size + 1, 3, none⟩) (by simp) _⟩
end Go.Proofs.YtghfmbmdfojapaaGreatDoor.Gops
