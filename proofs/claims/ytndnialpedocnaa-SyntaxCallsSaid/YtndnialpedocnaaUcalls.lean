/- Plain facts on calls (no program). -/
import Derived.Test.YtndnialpedocnaaSpf
namespace Go.Proofs.Ytndnialpedocnaa.Ucalls
open Go.Proofs.Ytndnialpedocnaa.Spl Go.Proofs.Ytndnialpedocnaa.Spf

def fnAt (p : Nat) : T × Nat × Nat := fnL.getD p ([], 0, 0)
def nmF (p : Nat) : T := (fnAt p).1
def loF (p : Nat) : Nat := (fnAt p).2.1
def hiF (p : Nat) : Nat := (fnAt p).2.2
theorem fn_mem {p : Nat} (h : p < 8) : fnAt p ∈ fnL := by
  unfold fnAt
  have : p < fnL.length := h
  rw [List.getD_eq_getElem?_getD, List.getElem?_eq_getElem this]
  exact List.getElem_mem _
structure CallIs (f : T) (lo hi k : Nat) (l : List Nod) : Prop where
  least : lo ≤ k
  count : l.length = min k hi
  first : ∃ s, l[0]? = some (.mk 1 s [])
  last : k ≤ hi ∨ ∃ s, l[hi - 1]? = some (.mk 1 s []) ∧ 5 < s.length
theorem fn_bounds : (fnL.all fun x => decide (1 ≤ x.2.2 ∧ x.2.2 ≤ 99 ∧ x.2.1 ≤ 3 ∧ x.1.length ≤ 10)) = true := by kernel_rfl
theorem hi_pos {p : Nat} (h : p < 8) : 1 ≤ hiF p ∧ hiF p ≤ 99 ∧ loF p ≤ 3 ∧ (nmF p).length ≤ 10 := of_decide_eq_true (List.all_eq_true.1 fn_bounds _ (fn_mem h))
theorem leaf_of {l : List Nod} (h : l.all (fun n => match n with | .mk 1 _ [] => true | _ => false) = true) {i : Nat} {n : Nod} (hi : l[i]? = some n) : ∃ s, n = .mk 1 s [] := by
  have h1 := List.all_eq_true.1 h n (List.mem_of_getElem? hi)
  obtain ⟨k, s, m⟩ := n
  split at h1
  · rename_i s' e
    exact ⟨_, e⟩
  · cases h1
theorem call_facts (c : Bool) {p k : Nat} (hp : p < 8) (hk : k < 8) : (parse (callT c (nmF p) (k + 1)) = .bad .few ∧ k + 1 < loF p) ∨ ∃ l, parse (callT c (nmF p) (k + 1)) = .ok (.mk 4 (nmF p) l) ∧ CallIs (nmF p) (loF p) (hiF p) (k + 1) l := by
  have h1 := List.all_eq_true.1 call_all _ (fn_mem hp)
  have h2 := List.all_eq_true.1 h1 k (List.mem_range.2 hk)
  have hb : callB c (fnAt p) (k + 1) = true := by
    rw [Bool.and_eq_true] at h2
    cases c
    · exact h2.1
    · exact h2.2
  have hhi := (hi_pos hp).1
  unfold callB at hb
  show (parse (callT c (fnAt p).1 (k + 1)) = _ ∧ _) ∨ _
  unfold nmF
  split at hb
  · rename_i e
    exact .inl ⟨e, of_decide_eq_true hb⟩
  · rename_i f l e
    simp only [Bool.and_eq_true, decide_eq_true_eq, Bool.or_eq_true] at hb
    obtain ⟨⟨⟨⟨b1, b2⟩, b3⟩, b4⟩, b5⟩ := hb
    refine .inr ⟨l, by rw [e, b2], b1, b3, ?_, ?_⟩
    · have hl : 0 < l.length := by
        have : hiF p = (fnAt p).2.2 := rfl
        omega
      obtain ⟨s, hs⟩ := leaf_of b4 (List.getElem?_eq_getElem hl)
      exact ⟨s, by rw [List.getElem?_eq_getElem hl, hs]⟩
    · rcases b5 with b5 | b5
      · exact .inl b5
      · refine .inr ?_
        show ∃ s, l[(fnAt p).2.2 - 1]? = _ ∧ _
        cases hx : l[(fnAt p).2.2 - 1]? with
        | none => rw [hx] at b5; cases b5
        | some n =>
          rw [hx] at b5
          obtain ⟨s, rfl⟩ := leaf_of b4 hx
          exact ⟨s, rfl, of_decide_eq_true b5⟩
  · cases hb
theorem args_step (c : Bool) (q : Nat) : argsT c (q + 2) = argsT c (q + 1) ++ [44] ++ argT c (q + 1) := rfl
theorem arg_len (c : Bool) (i : Nat) : (argT c i).length = 5 := by cases c <;> rfl
theorem args_len : ∀ (c : Bool) (k : Nat), (argsT c k).length ≤ 6 * k
  | c, 0 => Nat.le_refl _
  | c, 1 => by show (argT c 0).length ≤ 6; rw [arg_len]; omega
  | c, k + 2 => by
    have := args_len c (k + 1)
    rw [args_step, List.length_append, List.length_append, arg_len, List.length_singleton]; omega
theorem args_zero (c : Bool) {q : Nat} (h : ¬ 0 < q) : [opB c] ++ digT q ++ [44, 120, shB c] = argsT c (q + 1) := by
  obtain rfl : q = 0 := by omega
  cases c <;> rfl
theorem args_put (c : Bool) {q : Nat} (h : 0 < q) : argsT c q ++ [44] ++ [opB c] ++ digT q ++ [44, 120, shB c] = argsT c (q + 1) := by
  obtain ⟨r, rfl⟩ : ∃ r, q = r + 1 := ⟨q - 1, by omega⟩
  cases c <;> simp [argsT, argT, shutT, opB, shB]
theorem args_none (c : Bool) {q : Nat} (h : ¬ 0 < q) : argsT c q = [] := by
  obtain rfl : q = 0 := by omega
  rfl
theorem call_len (c : Bool) (f : T) (k : Nat) : (callT c f k).length ≤ 5 + f.length + 6 * k := by
  have h := args_len c k
  have h1 : (openT c).length = 2 := by cases c <;> rfl
  have h2 : (shutT c).length = 1 := by cases c <;> rfl
  unfold callT
  rw [List.length_append, List.length_append, List.length_append, List.length_append, h1, h2]
  show 2 + f.length + 2 + _ + 1 ≤ _
  omega

end Go.Proofs.Ytndnialpedocnaa.Ucalls
