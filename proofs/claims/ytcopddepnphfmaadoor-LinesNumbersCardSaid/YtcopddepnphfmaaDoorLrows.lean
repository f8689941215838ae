/- Logical lines of texts that are put together line by line; no program is named here. -/
import Derived.Test.YtcopddepnphfmaaDoorLmem
namespace Go.Proofs.YtcopddepnphfmaaDoor.Lrows
open Go.Proofs.YtcopddepnphfmaaDoor.Pure Go.Proofs.YtcopddepnphfmaaDoor.Ln Go.Proofs.YtcopddepnphfmaaDoor.Lall Go.Proofs.YtcopddepnphfmaaDoor.Lmem

/-- lines, each with a byte 10 behind it, and what follows -/
def flatN : List (List UInt8) → List UInt8 → List UInt8
  | [], rest => rest
  | r :: rs, rest => r ++ 10 :: flatN rs rest
theorem flat_pieces (z rest : List UInt8) (hz : ∀ c ∈ z, c ≠ 10) (ho : odd z = false) (P : List (List UInt8)) : (∀ r ∈ P, (∀ c ∈ r, c ≠ 10) ∧ odd r = true) →
    (pieces (flatN (P ++ [z]) rest)).map (·.1) = P ++ [z] ∧ leftL (flatN (P ++ [z]) rest) = rest ∧ (pieces (flatN (P ++ [z]) rest)).length = P.length + 1 ∧ lineOf (flatN (P ++ [z]) rest) = (P ++ [z]).head (by simp) ∧ flatN (P ++ [z]) rest ≠ [] := by
  induction P with
  | nil =>
    intro _
    obtain ⟨h1, h2⟩ := rest_cut z rest hz
    have hne : flatN ([] ++ [z]) rest ≠ [] := by show z ++ 10 :: rest ≠ []; simp
    have hp := pieces_cons hne
    have e1 : lineOf (flatN ([] ++ [z]) rest) = z := h1
    have e2 : restOf (flatN ([] ++ [z]) rest) = rest := h2
    rw [e1, e2, if_neg (by rw [ho]; decide)] at hp
    exact ⟨by rw [hp]; rfl, leftL_of [] (z, rest) hp, by rw [hp]; rfl, e1, hne⟩
  | cons p P ih =>
    intro h
    obtain ⟨i1, i2, i3, _, i5⟩ := ih (fun r hr => h r (by simp [hr]))
    obtain ⟨hp10, hpo⟩ := h p (by simp)
    obtain ⟨h1, h2⟩ := rest_cut p (flatN (P ++ [z]) rest) hp10
    have hne : flatN (p :: P ++ [z]) rest ≠ [] := by show p ++ 10 :: flatN (P ++ [z]) rest ≠ []; simp
    have hp := pieces_cons hne
    have e1 : lineOf (flatN (p :: P ++ [z]) rest) = p := h1
    have e2 : restOf (flatN (p :: P ++ [z]) rest) = flatN (P ++ [z]) rest := h2
    rw [e1, e2, if_pos hpo] at hp
    obtain ⟨Q, x, hQ⟩ := pieces_last i5
    refine ⟨by rw [hp, List.map_cons, i1]; rfl, ?_, by rw [hp, List.length_cons, i3, List.length_cons], e1, hne⟩
    rw [leftL_of ((p, flatN (P ++ [z]) rest) :: Q) x (by rw [hp, hQ]; rfl), ← leftL_of Q x hQ, i2]
theorem flat_all (z rest : List UInt8) (hz : ∀ c ∈ z, c ≠ 10) (ho : odd z = false) (P : List (List UInt8)) (h : ∀ r ∈ P, (∀ c ∈ r, c ≠ 10) ∧ odd r = true) (n : Nat) :
    allL (flatN (P ++ [z]) rest) n = ((if isTab ((P ++ [z]).head (by simp)) then (textR true (P ++ [z])).drop 1 else bare (textR false (P ++ [z]))), n, isTab ((P ++ [z]).head (by simp))) :: allL rest (n + (P.length + 1)) := by
  obtain ⟨h1, h2, h3, h4, h5⟩ := flat_pieces z rest hz ho P h
  rw [allL_cons h5, h2, h3, h4]
  unfold textL
  rw [h4, h1]

/-! ### recipes -/
def lineR (p : Bool × List UInt8) : List UInt8 := (if p.1 then [9] else []) ++ 32 :: p.2
def rowsR : List UInt8 → List (Bool × List UInt8) → List (List UInt8)
  | cur, [] => [cur]
  | cur, p :: r => (cur ++ [92]) :: rowsR (lineR p) r
def moreR (ps : List (Bool × List UInt8)) : List UInt8 := (ps.map (fun p => [92, 10] ++ lineR p)).flatten
def wantR (ps : List (Bool × List UInt8)) : List UInt8 := (ps.map (fun p => [92, 10] ++ 32 :: p.2)).flatten
theorem rowsR_flat (rest : List UInt8) (ps : List (Bool × List UInt8)) : ∀ cur, flatN (rowsR cur ps) rest = cur ++ moreR ps ++ 10 :: rest := by
  induction ps with
  | nil => intro cur; simp [rowsR, flatN, moreR]
  | cons p r ih => intro cur; rw [rowsR, flatN, ih]; simp [moreR]
def OkW (w : List UInt8) : Prop := (∀ c ∈ w, c ≠ 10) ∧ tb w = 0
theorem lineR_ok (p : Bool × List UInt8) (h : OkW p.2) : OkW (lineR p) := by
  obtain ⟨h1, h2⟩ := h
  refine ⟨fun c hc => ?_, ?_⟩
  · unfold lineR at hc
    rcases List.mem_append.1 hc with hc | hc
    · split at hc
      · rw [List.mem_singleton.1 hc]; decide
      · exact absurd hc (by simp)
    · rcases List.mem_cons.1 hc with rfl | hc
      · decide
      · exact h1 c hc
  · unfold lineR; rw [tb_stop _ _ _ (by decide), h2]
theorem rowsR_split (ps : List (Bool × List UInt8)) : ∀ cur, OkW cur → (∀ p ∈ ps, OkW p.2) → ∃ P z, rowsR cur ps = P ++ [z] ∧ (∀ c ∈ z, c ≠ 10) ∧ odd z = false ∧ (∀ r ∈ P, (∀ c ∈ r, c ≠ 10) ∧ odd r = true) ∧ P.length = ps.length := by
  induction ps with
  | nil => intro cur h _; exact ⟨[], cur, rfl, h.1, by unfold odd; rw [h.2]; rfl, fun r hr => absurd hr (by simp), rfl⟩
  | cons p r ih =>
    intro cur h hp
    obtain ⟨P, z, h1, h2, h3, h4, h5⟩ := ih (lineR p) (lineR_ok p (hp p (by simp))) (fun q hq => hp q (by simp [hq]))
    refine ⟨(cur ++ [92]) :: P, z, by rw [rowsR, h1]; rfl, h2, h3, fun q hq => ?_, by rw [List.length_cons, h5, List.length_cons]⟩
    rcases List.mem_cons.1 hq with rfl | hq
    · refine ⟨fun c hc => ?_, ?_⟩
      · rcases List.mem_append.1 hc with hc | hc
        · exact h.1 c hc
        · rw [List.mem_singleton.1 hc]; decide
      · unfold odd; rw [tb_snoc, if_pos rfl, h.2]; rfl
    · exact h4 q hq
theorem tab9_app (cur b : List UInt8) (h : cur ≠ []) : tab9 (cur ++ b) = tab9 cur ++ b := by
  cases cur with
  | nil => exact absurd rfl h
  | cons c r => rw [List.cons_append, tab9_cons, tab9_cons]; split <;> rfl
theorem tab9_line (p : Bool × List UInt8) : tab9 (lineR p) = 32 :: p.2 := by
  unfold lineR
  cases p.1 with
  | false => rw [if_neg (by decide), List.nil_append, tab9_cons, if_neg (by decide)]
  | true => rw [if_pos rfl, List.singleton_append, tab9_cons, if_pos rfl]
theorem lineR_ne (p : Bool × List UInt8) : lineR p ≠ [] := by unfold lineR; simp
theorem rowsR_join (ps : List (Bool × List UInt8)) : ∀ cur, cur ≠ [] → Go.Lib.join ((rowsR cur ps).map tab9) [10] = tab9 cur ++ wantR ps := by
  induction ps with
  | nil => intro cur _; simp [rowsR, wantR, Go.Lib.join_one]
  | cons p r ih =>
    intro cur h
    have h2 := ih (lineR p) (lineR_ne p)
    have h3 : ∃ y ys, rowsR (lineR p) r = y :: ys := by cases r <;> exact ⟨_, _, rfl⟩
    obtain ⟨y, ys, hy⟩ := h3
    rw [hy, List.map_cons, Go.Lib.join_cons] at h2
    rw [rowsR, hy, List.map_cons, List.map_cons, Go.Lib.join_cons, tab9_app _ _ h]
    have e : Go.Lib.joinTail [10] (tab9 y :: ys.map tab9) = [10] ++ (tab9 y ++ Go.Lib.joinTail [10] (ys.map tab9)) := by simp [Go.Lib.joinTail]
    rw [e, h2, tab9_line]
    simp [wantR]
def firstR : List UInt8 := [102, 105, 114, 115, 116, 32, 35, 32, 120]
def nextR : List UInt8 := [110, 101, 120, 116, 32, 35, 32, 121, 10]
theorem next_text : textF nextR = [110, 101, 120, 116, 32] := by kernel_rfl
theorem next_left : leftF nextR = [] := by kernel_rfl
theorem next_all (n : Nat) : allL nextR n = [([110, 101, 120, 116, 32], n, false)] := by
  have h1 : nextR ≠ [] := by decide
  have e1 : textL nextR = [110, 101, 120, 116, 32] := by
    have : textF nextR = textL nextR := by unfold textF textL; rw [piecesF_is]
    rw [← this]; exact next_text
  have e2 : leftL nextR = [] := by
    have : leftF nextR = leftL nextR := by unfold leftF leftL; rw [piecesF_is]
    rw [← this]; exact next_left
  have e3 : isTab (lineOf nextR) = false := by decide
  rw [allL_cons h1, e1, e2, e3, allL_nil]
/-- recipes' lines, and one that is none -/
theorem recipes_all (ps : List (Bool × List UInt8)) (h : ∀ p ∈ ps, OkW p.2) :
    allL ((9 :: firstR) ++ moreR ps ++ 10 :: nextR) 1 = [(firstR ++ wantR ps, 1, true), ([110, 101, 120, 116, 32], ps.length + 2, false)] := by
  have h0 : OkW (9 :: firstR) := by unfold OkW; decide
  obtain ⟨P, z, h1, h2, h3, h4, h5⟩ := rowsR_split ps (9 :: firstR) h0 h
  rw [← rowsR_flat, h1, flat_all z nextR h2 h3 P h4]
  have hhead : ∃ x xs, P ++ [z] = x :: xs ∧ isTab x = true := by
    rw [← h1]
    cases ps with
    | nil => exact ⟨_, _, rfl, by decide⟩
    | cons p r => exact ⟨_, _, rfl, by decide⟩
  obtain ⟨x, xs, hx, ht⟩ := hhead
  have hj := rowsR_join ps (9 :: firstR) (by simp)
  rw [h1] at hj
  have e : (P ++ [z]).head (by simp) = x := by simp only [hx, List.head_cons]
  rw [e, ht, if_pos rfl, next_all, h5]
  rw [hx] at hj ⊢
  rw [recipe_is x xs ht, hj]
  have e2 : 1 + (ps.length + 1) = ps.length + 2 := by omega
  rw [e2]
  rfl

end Go.Proofs.YtcopddepnphfmaaDoor.Lrows
