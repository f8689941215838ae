/- SoundPiles' plain facts: so many pushes, joins of so many (no program). -/
import Derived.Test.YtpphkaolonjjdaaDoorDpl
namespace Go.Proofs.YtpphkaolonjjdaaDoor.Dpi
open Go.Proofs.YtpphkaolonjjdaaDoor.Spl Go.Proofs.YtpphkaolonjjdaaDoor.Cpl Go.Proofs.YtpphkaolonjjdaaDoor.Dpl

def pushO : Opp := ⟨1, 0, [], []⟩
def joinO (j : Nat) : Opp := ⟨4, (j : Int), [], []⟩
/-- what lies on the pile behind so many joins; may it be? -/
def pileS : List Nat → Int → Bool → Int × Bool
  | [], n, ok => (n, ok)
  | j :: r, n, ok => pileS r (n - (j : Int) + 1) (ok && decide ((j : Int) ≤ n))
theorem takes_push (b q : Nat) : takesP b q pushO = 0 := by simp [takesP, badB, pushO]
theorem takes_join (b q j : Nat) : takesP b q (joinO j) = (j : Int) := by simp [takesP, badB, joinO]
theorem pile_snoc : ∀ (l : List Nat) (j : Nat) (n : Int) (ok : Bool), pileS (l ++ [j]) n ok = ((pileS l n ok).1 - (j : Int) + 1, (pileS l n ok).2 && decide ((j : Int) ≤ (pileS l n ok).1))
  | [], j, n, ok => rfl
  | x :: r, j, n, ok => by rw [List.cons_append, pileS, pileS, pile_snoc r]
theorem pile_no : ∀ (l : List Nat) (n : Int), (pileS l n false).2 = false
  | [], n => rfl
  | x :: r, n => by rw [pileS]; exact pile_no r _
theorem run_push (b q : Nat) : ∀ (k : Nat) (n m : Int), 0 ≤ n → n ≤ m → runP b q (List.replicate k pushO) n m = some (n + (k : Int), max m (n + (k : Int)))
  | 0, n, m, h0, h => by
    rw [List.replicate_zero, runP]
    congr 2 <;> omega
  | k + 1, n, m, h0, h => by
    rw [List.replicate_succ, runP, takes_push, if_neg (by omega), run_push b q k _ _ (by omega) (by omega)]
    congr 2 <;> omega
theorem run_join (b q : Nat) : ∀ (l : List Nat) (n m : Int), ((pileS l n true).2 = true → ∃ m', runP b q (l.map joinO) n m = some ((pileS l n true).1, m') ∧ m ≤ m') ∧ ((pileS l n true).2 = false → runP b q (l.map joinO) n m = none)
  | [], n, m => ⟨fun _ => ⟨m, rfl, Int.le_refl _⟩, fun h => by cases h⟩
  | j :: r, n, m => by
    rw [List.map_cons, runP, takes_join, pileS]
    by_cases h : (j : Int) ≤ n
    · rw [if_neg (by omega), decide_eq_true h, Bool.true_and]
      obtain ⟨h1, h2⟩ := run_join b q r (n - (j : Int) + 1) (max m (n - (j : Int) + 1))
      refine ⟨fun h3 => ?_, h2⟩
      obtain ⟨m', h4, h5⟩ := h1 h3
      exact ⟨m', h4, by omega⟩
    · rw [if_pos (.inr (by omega)), decide_eq_false h, Bool.and_false]
      exact ⟨fun h3 => (by rw [pile_no] at h3; cases h3), fun _ => rfl⟩
/-- the block -/
def pilesB (k : Nat) (js : List Nat) : List Opp := List.replicate k pushO ++ js.map joinO
def wantB (k : Nat) (js : List Nat) : Bool := (pileS js (k : Int) true).2 && decide ((pileS js (k : Int) true).1 = 1)
theorem piles_len (k : Nat) (js : List Nat) : (pilesB k js).length = k + js.length := by
  unfold pilesB; rw [List.length_append, List.length_replicate, List.length_map]
theorem piles_yes {k : Nat} {js : List Nat} (h : wantB k js = true) (hl : k + js.length ≤ 16384) : ∃ d : Int, depthP [pilesB k js] = d ∧ (k : Int) ≤ d ∧ 1 ≤ d := by
  unfold wantB at h
  rw [Bool.and_eq_true, decide_eq_true_eq] at h
  have h1 := run_push 0 1 k 0 0 (Int.le_refl _) (Int.le_refl _)
  rw [Int.zero_add] at h1
  obtain ⟨m', h2, h3⟩ := (run_join 0 1 js (k : Int) (max 0 (k : Int))).1 h.1
  rw [h.2] at h2
  have h4 : runP 0 1 (pilesB k js) 0 0 = some (1, m') := by
    unfold pilesB
    rw [run_app, h1]
    exact h2
  have h5 := run_le 0 1 (pilesB k js) 0 0 1 m' h4 (Int.le_refl _)
  have h6 : pilesB k js ≠ [] := fun e => by
    rw [e, runP] at h4
    cases h4
  have h7 := h5.2.2.2.2 h6
  have h8 : blockP 0 1 (pilesB k js) = m' := by unfold blockP; rw [h4]; rfl
  refine ⟨m', ?_, by omega, h7⟩
  unfold depthP
  show deepP 1 (opsP [pilesB k js]) 0 [pilesB k js] 0 = m'
  have h9 : opsP [pilesB k js] = k + js.length := by rw [opsP, piles_len]; rfl
  rw [deepP, h8, if_neg (by omega), deepP, h9, if_neg (by omega)]
  omega
theorem piles_no {k : Nat} {js : List Nat} (h : wantB k js = false) : depthP [pilesB k js] = 0 := by
  unfold wantB at h
  have h1 := run_push 0 1 k 0 0 (Int.le_refl _) (Int.le_refl _)
  rw [Int.zero_add] at h1
  have h8 : blockP 0 1 (pilesB k js) = -1 := by
    unfold blockP pilesB
    rw [run_app, h1]
    show (match runP 0 1 (js.map joinO) (k : Int) (max 0 (k : Int)) with | some (n, m) => if n = 1 then m else -1 | none => -1) = -1
    cases h2 : (pileS js (k : Int) true).2 with
    | false => rw [(run_join 0 1 js (k : Int) _).2 h2]
    | true =>
      obtain ⟨m', h3, _⟩ := (run_join 0 1 js (k : Int) (max 0 (k : Int))).1 h2
      rw [h2, Bool.true_and, decide_eq_false_iff_not] at h
      rw [h3]
      show (if _ = 1 then m' else -1) = -1
      rw [if_neg h]
  unfold depthP
  show deepP 1 (opsP [pilesB k js]) 0 [pilesB k js] 0 = 0
  rw [deepP, h8, if_pos (by decide)]

end Go.Proofs.YtpphkaolonjjdaaDoor.Dpi
