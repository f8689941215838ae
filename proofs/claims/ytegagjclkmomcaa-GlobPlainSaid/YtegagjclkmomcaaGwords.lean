/- Plain facts on patterns that are made of words, their stars quoted; no program is named here. -/
import Derived.Test.YtegagjclkmomcaaGstars
namespace Go.Proofs.Ytegagjclkmomcaa.Gwords
open Go Go.Proofs.Ytegagjclkmomcaa.Glb Go.Proofs.Ytegagjclkmomcaa.Gstars

def pick (star : List UInt8) : Nat → List UInt8
  | 0 => [97]
  | 1 => [98]
  | 2 => [97, 98]
  | 3 => star
  | 4 => [99]
  | _ => [98]
def make (star : List UInt8) (ks : List Nat) : List UInt8 := ks.flatMap (pick star)
theorem make_cons (star : List UInt8) (k : Nat) (ks : List Nat) : make star (k :: ks) = pick star k ++ make star ks := by simp [make]
theorem make_snoc (star : List UInt8) (k : Nat) (ks : List Nat) : make star (ks ++ [k]) = make star ks ++ pick star k := by simp [make]
theorem pick_len (star : List UInt8) (h : star.length ≤ 2) (k : Nat) : (pick star k).length ≤ 2 := by
  unfold pick
  split <;> simp [h]
theorem make_len (star : List UInt8) (h : star.length ≤ 2) (ks : List Nat) : (make star ks).length ≤ 2 * ks.length := by
  induction ks with
  | nil => simp [make]
  | cons k ks ih =>
    rw [make_cons, List.length_append, List.length_cons]
    have := pick_len star h k
    omega
/-- the bytes that the words are made of -/
def inWords (c : UInt8) : Prop := c = 97 ∨ c = 98 ∨ c = 99 ∨ c = 42
theorem make_bytes (ks : List Nat) : ∀ c ∈ make [42] ks, inWords c := by
  intro c hc
  rw [make, List.mem_flatMap] at hc
  obtain ⟨k, _, hk⟩ := hc
  unfold pick at hk
  unfold inWords
  split at hk
  · simp at hk; exact .inl hk
  · simp at hk; exact .inr (.inl hk)
  · simp at hk
    rcases hk with hk | hk
    · exact .inl hk
    · exact .inr (.inl hk)
  · simp at hk; exact .inr (.inr (.inr hk))
  · simp at hk; exact .inr (.inr (.inl hk))
  · simp at hk; exact .inr (.inl hk)
theorem no_dot (ks : List Nat) (t : List UInt8) : (make [42] ks).head? ≠ some 46 ∧ ((make [42] ks ++ t).head? = some 46 → (make [42] ks) = [] ∧ t.head? = some 46) := by
  constructor
  · intro h
    have := make_bytes ks 46 (List.mem_of_mem_head? (by rw [h]; rfl))
    revert this; unfold inWords; decide
  · intro h
    cases e : make [42] ks with
    | nil => rw [e] at h; exact ⟨rfl, h⟩
    | cons c r =>
      rw [e] at h
      have hb := make_bytes ks c (by rw [e]; simp)
      simp at h
      subst h
      exact absurd hb (by unfold inWords; decide)

/-! ### a byte that is itself, a byte that is quoted -/
theorem step_plain (c : UInt8) (h1 : c ≠ 42) (h2 : c ≠ 63) (h3 : c ≠ 91) (h4 : c ≠ 92) (r : List UInt8) (n : Nat) : pcs (n + 1) (c :: r) false = exactly c :: pcs n r false := by
  have hu1 : unqC (c :: r) = c := by
    cases r with
    | nil => rfl
    | cons d t => rw [unqC, if_neg h4]
  have hu2 : unqR (c :: r) = r := by
    cases r with
    | nil => rfl
    | cons d t => rw [unqR, if_neg h4]
  rw [pcs]
  simp only [nextP, nextR, nextO, if_neg h1, if_neg h2, if_neg h3, byteP, hu1, hu2, exactly]
theorem step_quote (c : UInt8) (r : List UInt8) (n : Nat) : pcs (n + 1) (92 :: c :: r) false = exactly c :: pcs n r false := by
  have a1 : ¬ (92 : UInt8) = 42 := by decide
  have a2 : ¬ (92 : UInt8) = 63 := by decide
  have a3 : ¬ (92 : UInt8) = 91 := by decide
  rw [pcs]
  simp only [nextP, nextR, nextO, if_neg a1, if_neg a2, if_neg a3, byteP, unqC, unqR, if_true, exactly]
theorem pl_plain (c : UInt8) (h4 : c ≠ 92) (r : List UInt8) (n : Nat) : plain (n + 1) (c :: r) = c :: plain n r := by
  have hu1 : unqC (c :: r) = c := by
    cases r with
    | nil => rfl
    | cons d t => rw [unqC, if_neg h4]
  have hu2 : unqR (c :: r) = r := by
    cases r with
    | nil => rfl
    | cons d t => rw [unqR, if_neg h4]
  rw [plain, hu1, hu2]
theorem pl_quote (c : UInt8) (r : List UInt8) (n : Nat) : plain (n + 1) (92 :: c :: r) = c :: plain n r := by
  rw [plain]
  simp only [unqC, unqR, if_true]

theorem both_make : ∀ (ks : List Nat) (n : Nat), (make [92, 42] ks).length ≤ n → pcs n (make [92, 42] ks) false = (make [42] ks).map exactly ∧ plain n (make [92, 42] ks) = make [42] ks := by
  intro ks
  induction ks with
  | nil => intro n _; cases n <;> exact ⟨rfl, rfl⟩
  | cons k ks ih =>
    intro n hn
    rw [make_cons, List.length_append] at hn
    rw [make_cons, make_cons]
    have one : ∀ c : UInt8, c = 97 ∨ c = 98 ∨ c = 99 → 1 + (make [92, 42] ks).length ≤ n → pcs n ([c] ++ make [92, 42] ks) false = ([c] ++ make [42] ks).map exactly ∧ plain n ([c] ++ make [92, 42] ks) = [c] ++ make [42] ks := by
      intro c hc hl
      obtain ⟨m, rfl⟩ : ∃ m, n = m + 1 := ⟨n - 1, by omega⟩
      obtain ⟨i1, i2⟩ := ih m (by omega)
      rw [List.singleton_append, List.singleton_append]
      have h42 : c ≠ 42 := by rcases hc with rfl | rfl | rfl <;> decide
      have h63 : c ≠ 63 := by rcases hc with rfl | rfl | rfl <;> decide
      have h91 : c ≠ 91 := by rcases hc with rfl | rfl | rfl <;> decide
      have h92 : c ≠ 92 := by rcases hc with rfl | rfl | rfl <;> decide
      rw [step_plain c h42 h63 h91 h92, pl_plain c h92, i1, i2]
      exact ⟨rfl, rfl⟩
    match k with
    | 0 => exact one 97 (.inl rfl) hn
    | 1 => exact one 98 (.inr (.inl rfl)) hn
    | 2 =>
      have hn2 : 2 + (make [92, 42] ks).length ≤ n := hn
      obtain ⟨m, rfl⟩ : ∃ m, n = m + 2 := ⟨n - 2, by omega⟩
      obtain ⟨i1, i2⟩ := ih m (by omega)
      show pcs (m + 2) (97 :: 98 :: make [92, 42] ks) false = (97 :: 98 :: make [42] ks).map exactly ∧ plain (m + 2) (97 :: 98 :: make [92, 42] ks) = 97 :: 98 :: make [42] ks
      rw [step_plain 97 (by decide) (by decide) (by decide) (by decide), step_plain 98 (by decide) (by decide) (by decide) (by decide), pl_plain 97 (by decide), pl_plain 98 (by decide), i1, i2]
      exact ⟨rfl, rfl⟩
    | 3 =>
      have hn2 : 2 + (make [92, 42] ks).length ≤ n := hn
      obtain ⟨m, rfl⟩ : ∃ m, n = m + 1 := ⟨n - 1, by omega⟩
      obtain ⟨i1, i2⟩ := ih m (by omega)
      show pcs (m + 1) (92 :: 42 :: make [92, 42] ks) false = (42 :: make [42] ks).map exactly ∧ plain (m + 1) (92 :: 42 :: make [92, 42] ks) = 42 :: make [42] ks
      rw [step_quote, pl_quote, i1, i2]
      exact ⟨rfl, rfl⟩
    | 4 => exact one 99 (.inr (.inr rfl)) hn
    | _ + 5 => exact one 98 (.inr (.inl rfl)) hn
theorem pieces_make (ks : List Nat) : pieces (make [92, 42] ks) = (make [42] ks).map exactly := (both_make ks _ (Nat.le_refl _)).1
theorem plain_make (ks : List Nat) : plainL (make [92, 42] ks) = make [42] ks := (both_make ks _ (Nat.le_refl _)).2
theorem magic_make (ks : List Nat) : (pieces (make [92, 42] ks)).any (·.wild) = false := by
  rw [pieces_make]
  induction make [42] ks with
  | nil => rfl
  | cons c r ih => rw [List.map_cons, List.any_cons, ih]; rfl
theorem fit_make (ks : List Nat) (s : List UInt8) : fitL (pieces (make [92, 42] ks)) s = (s == make [42] ks) := by rw [pieces_make, fit_exactly]
theorem words_simple (ks : List Nat) : ∀ c ∈ make [42] ks ++ [42], c ≠ 91 ∧ c ≠ 92 := by
  intro c hc
  rcases List.mem_append.1 hc with hc | hc
  · rcases make_bytes ks c hc with rfl | rfl | rfl | rfl <;> decide
  · rw [List.mem_singleton.1 hc]; decide
theorem fit_any (s : List UInt8) : fitL [pieceOf 42] s = true := by
  rw [fit_star_iff _ _ _ star_yes]
  exact ⟨s.length, Nat.le_refl _, by rw [List.drop_length]; rfl⟩
theorem fit_behind (ks js : List Nat) : fitL (pieces (make [42] ks ++ [42])) (make [42] ks ++ make [42] js) = true := by
  rw [pieces_plain _ (words_simple ks), List.map_append]
  exact fit_own _ _ _ (fit_any _)
theorem fit_star_all (s : List UInt8) : fitL (pieces [42]) s = true := by
  rw [pieces_plain [42] (by intro c hc; rw [List.mem_singleton.1 hc]; decide)]
  exact fit_any s
end Go.Proofs.Ytegagjclkmomcaa.Gwords
