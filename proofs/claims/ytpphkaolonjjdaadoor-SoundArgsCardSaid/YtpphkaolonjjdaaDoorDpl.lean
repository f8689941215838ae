/- Code that may be, on plain lists (no program). -/
import Derived.Test.YtpphkaolonjjdaaDoorCpl
namespace Go.Proofs.YtpphkaolonjjdaaDoor.Dpl
open Go.Proofs.YtpphkaolonjjdaaDoor.Spl Go.Proofs.YtpphkaolonjjdaaDoor.Nz Go.Proofs.YtpphkaolonjjdaaDoor.Fpl Go.Proofs.YtpphkaolonjjdaaDoor.Cpl

/-- may a function have so many arguments? -/
def fitI (i : Inf) (n : Int) (lz : Bool) : Bool := (i.lz == lz) && (decide (i.mn ≤ n) && (decide (i.mx = 0) || decide (n ≤ i.mx)))
def fitsB (s : T) (n : Int) (lz : Bool) : Bool := match lookI tab s with
  | none => false
  | some i => fitI i n lz
/-- has it what one of its kind has not? -/
def badB (o : Opp) : Bool := (decide (o.k ≠ 1 ∧ o.k ≠ 5 ∧ o.k ≠ 6 ∧ o.s ≠ [])) || (decide (o.k ≠ 4 ∧ o.k ≠ 5 ∧ o.n ≠ 0) || decide (o.k ≠ 6 ∧ o.l ≠ []))
/-- does it name a block that it may not? -/
def farB (b q : Nat) (l : List Int) : Bool := l.any fun y => decide (y ≤ (b : Int)) || decide ((q : Int) ≤ y)
/-- how many an instruction takes; below 0: it may not be -/
def takesP (b q : Nat) (o : Opp) : Int :=
  if badB o = true then -1 else if o.k = 1 then 0 else if o.k = 2 then 1 else if o.k = 3 then 3 else if o.k = 4 then o.n
  else if o.k = 5 then (if fitsB o.s o.n false = true then o.n else -1)
  else if o.k = 6 then (if farB b q o.l = true then -1 else if fitsB o.s (o.l.length : Int) true = true then 0 else -1) else -1
/-- a block's run: what lies on its pile, the most that lay there -/
def runP (b q : Nat) : List Opp → Int → Int → Option (Int × Int)
  | [], n, m => some (n, m)
  | o :: r, n, m => if takesP b q o < 0 ∨ n < takesP b q o then none else runP b q r (n - takesP b q o + 1) (max m (n - takesP b q o + 1))
/-- the most on a block's pile; below 0: it may not be -/
def blockP (b q : Nat) (l : List Opp) : Int := match runP b q l 0 0 with
  | some (n, m) => if n = 1 then m else -1
  | none => -1
/-- the most that ever is on one block's pile; 0: the code may not be -/
def deepP (q tot : Nat) : Nat → List (List Opp) → Int → Int
  | _, [], m => if 16384 < tot then 0 else m
  | b, l :: r, m => if blockP b q l < 0 then 0 else deepP q tot (b + 1) r (max m (blockP b q l))
def depthP (B : List (List Opp)) : Int := deepP B.length (opsP B) 0 B 0
def checkP (B : List (List Opp)) : Bool := decide (0 < depthP B)

theorem run_app (b q : Nat) : ∀ (l r : List Opp) (n m : Int), runP b q (l ++ r) n m = (runP b q l n m).bind fun p => runP b q r p.1 p.2
  | [], r, n, m => rfl
  | o :: l, r, n, m => by
    rw [List.cons_append, runP, runP]
    split
    · rfl
    · exact run_app b q l r _ _
theorem run_step (b q : Nat) (l : List Opp) {j : Nat} {o : Opp} (hj : l[j]? = some o) {n m : Int} (h : runP b q (l.take j) 0 0 = some (n, m)) :
    runP b q (l.take (j + 1)) 0 0 = if takesP b q o < 0 ∨ n < takesP b q o then none else some (n - takesP b q o + 1, max m (n - takesP b q o + 1)) := by
  rw [List.take_add_one, hj, run_app, h]
  show runP b q [o] n m = _
  rw [runP]
  split <;> rfl
theorem run_none (b q : Nat) (l : List Opp) {j : Nat} (h : runP b q (l.take j) 0 0 = none) : runP b q l 0 0 = none := by
  have h1 : runP b q (l.take j ++ l.drop j) 0 0 = none := by rw [run_app, h]; rfl
  rwa [List.take_append_drop] at h1
/-- what lies on the pile is from 0 up, at most one for each instruction; the most too -/
theorem run_le (b q : Nat) : ∀ (l : List Opp) (n m n' m' : Int), runP b q l n m = some (n', m') → 0 ≤ n → 0 ≤ n' ∧ n' ≤ n + (l.length : Int) ∧ m ≤ m' ∧ m' ≤ max m (n + (l.length : Int)) ∧ (l ≠ [] → n' ≤ m')
  | [], n, m, n', m', h, hn => by
    rw [runP] at h
    cases h
    refine ⟨hn, by simp, Int.le_refl _, by omega, fun h => absurd rfl h⟩
  | o :: r, n, m, n', m', h, hn => by
    rw [runP] at h
    split at h
    · cases h
    · rename_i hk
      obtain ⟨h1, h2, h3, h4, h5⟩ := run_le b q r _ _ _ _ h (by omega)
      rw [List.length_cons]
      refine ⟨h1, by omega, by omega, by omega, fun _ => ?_⟩
      by_cases hr : r = []
      · subst hr
        rw [runP] at h
        cases h
        omega
      · exact h5 hr
theorem block_le (b q : Nat) (l : List Opp) : -1 ≤ blockP b q l ∧ blockP b q l ≤ (l.length : Int) := by
  unfold blockP
  split
  · rename_i n m h
    have := run_le b q l 0 0 n m h (Int.le_refl _)
    split <;> omega
  · omega

end Go.Proofs.YtpphkaolonjjdaaDoor.Dpl
