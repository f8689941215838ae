/- Expansions as instructions, on plain lists (no program). -/
import Derived.Test.YtpphkaolonjjdaaDoorNzJ
import Derived.Test.YtpphkaolonjjdaaDoorStrsJ
namespace Go.Proofs.YtpphkaolonjjdaaDoor.Cpl
open Go.Proofs.YtpphkaolonjjdaaDoor.Spl Go.Proofs.YtpphkaolonjjdaaDoor.Nz Go.Proofs.YtpphkaolonjjdaaDoor.Fpl

/-- an instruction: kind, number, text, blocks -/
structure Opp where
  k : Int
  n : Int
  s : T
  l : List Int
deriving DecidableEq
/-- is it the name of a lazy function? -/
def lazyB (s : T) : Bool := match lookI tab s with | some i => i.lz | none => false
/-- one instruction more, at the end of block b -/
def put (B : List (List Opp)) (b : Nat) (o : Opp) : List (List Opp) := B.set b (B.getD b [] ++ [o])
/-- the last instruction of a node that is not lazy -/
def lastOp (k : Int) (s : T) (n : Nat) : Opp :=
  if k = 2 then ⟨2, 0, [], []⟩ else if k = 3 then ⟨3, 0, [], []⟩ else if k = 4 then ⟨5, (n : Int), s, []⟩ else ⟨4, (n : Int), [], []⟩
mutual
/-- a node's instructions, behind block b's -/
def nodeP : Nz → Nat → List (List Opp) → List (List Opp)
  | .mk k s l, b, B =>
    if k = 1 then put B b ⟨1, 0, s, []⟩
    else if k = 4 ∧ lazyB s = true then put (lazyP l B.length (B ++ List.replicate l.length [])) b ⟨6, 0, s, (List.range' B.length l.length).map Int.ofNat⟩
    else put (nodesP l b B) b (lastOp k s l.length)
/-- each one's instructions, behind block b's -/
def nodesP : List Nz → Nat → List (List Opp) → List (List Opp)
  | [], _, B => B
  | n :: r, b, B => nodesP r b (nodeP n b B)
/-- each one's instructions, behind the block f, f + 1, .. -/
def lazyP : List Nz → Nat → List (List Opp) → List (List Opp)
  | [], _, B => B
  | n :: r, f, B => lazyP r (f + 1) (nodeP n f B)
end
/-- compiled -/
def compP (x : Nz) : List (List Opp) := nodeP x 0 [[]]
/-- how many instructions -/
def opsP : List (List Opp) → Nat
  | [] => 0
  | b :: r => b.length + opsP r

theorem put_len (B : List (List Opp)) (b : Nat) (o : Opp) : (put B b o).length = B.length := by rw [put, List.length_set]
theorem ops_set : ∀ (B : List (List Opp)) (b : Nat) (x : List Opp), b < B.length → opsP (B.set b x) + (B.getD b []).length = opsP B + x.length
  | [], b, x, h => absurd h (Nat.not_lt_zero _)
  | y :: r, 0, x, h => by rw [List.set_cons_zero, opsP, opsP, List.getD_cons_zero]; omega
  | y :: r, b + 1, x, h => by
    have := ops_set r b x (by rw [List.length_cons] at h; omega)
    rw [List.set_cons_succ, opsP, opsP, List.getD_cons_succ]; omega
theorem ops_put (B : List (List Opp)) (b : Nat) (o : Opp) (h : b < B.length) : opsP (put B b o) = opsP B + 1 := by
  have := ops_set B b (B.getD b [] ++ [o]) h
  rw [List.length_append, List.length_singleton] at this
  rw [put]; omega
theorem ops_app : ∀ (B C : List (List Opp)), opsP (B ++ C) = opsP B + opsP C
  | [], C => by rw [List.nil_append, opsP, Nat.zero_add]
  | x :: r, C => by rw [List.cons_append, opsP, opsP, ops_app r C, Nat.add_assoc]
theorem ops_none : ∀ n : Nat, opsP (List.replicate n []) = 0
  | 0 => rfl
  | n + 1 => by rw [List.replicate_succ, opsP, ops_none n]; rfl

mutual
/-- how many blocks a node makes -/
def newP : Nz → Nat
  | .mk k s l => if k = 1 then 0 else if k = 4 ∧ lazyB s = true then l.length + newsP l else newsP l
def newsP : List Nz → Nat
  | [] => 0
  | n :: r => newP n + newsP r
end
mutual
theorem node_len : ∀ (x : Nz) (b : Nat) (B : List (List Opp)), (nodeP x b B).length = B.length + newP x
  | .mk k s l, b, B => by
    rw [nodeP, newP]
    split
    · rw [put_len]; rfl
    · split
      · rw [put_len, lazy_len l, List.length_append, List.length_replicate]; omega
      · rw [put_len, nodes_len l]
theorem nodes_len : ∀ (l : List Nz) (b : Nat) (B : List (List Opp)), (nodesP l b B).length = B.length + newsP l
  | [], b, B => by rw [nodesP, newsP]; rfl
  | n :: r, b, B => by rw [nodesP, newsP, nodes_len r, node_len n]; omega
theorem lazy_len : ∀ (l : List Nz) (f : Nat) (B : List (List Opp)), (lazyP l f B).length = B.length + newsP l
  | [], f, B => by rw [lazyP, newsP]; rfl
  | n :: r, f, B => by rw [lazyP, newsP, lazy_len r, node_len n]; omega
end
mutual
/-- how many nodes, a text's list aside -/
def sizC : Nz → Nat
  | .mk k _ l => if k = 1 then 1 else 1 + sizsC l
def sizsC : List Nz → Nat
  | [] => 0
  | n :: r => sizC n + sizsC r
end
mutual
/-- as many instructions as nodes -/
theorem node_ops : ∀ (x : Nz) (b : Nat) (B : List (List Opp)), b < B.length → opsP (nodeP x b B) = opsP B + sizC x
  | .mk k s l, b, B, hb => by
    rw [nodeP, sizC]
    split
    · rw [ops_put _ _ _ hb]
    · split
      · rw [ops_put _ _ _ (by rw [lazy_len, List.length_append]; omega), lazy_ops l B.length (B ++ List.replicate l.length []) (by rw [List.length_append, List.length_replicate]; omega), ops_app, ops_none]; omega
      · rw [ops_put _ _ _ (by rw [nodes_len]; omega), nodes_ops l b B hb]; omega
theorem nodes_ops : ∀ (l : List Nz) (b : Nat) (B : List (List Opp)), b < B.length → opsP (nodesP l b B) = opsP B + sizsC l
  | [], b, B, hb => by rw [nodesP, sizsC]; rfl
  | n :: r, b, B, hb => by rw [nodesP, sizsC, nodes_ops r b _ (by rw [node_len]; omega), node_ops n b B hb]; omega
theorem lazy_ops : ∀ (l : List Nz) (f : Nat) (B : List (List Opp)), f + l.length ≤ B.length → opsP (lazyP l f B) = opsP B + sizsC l
  | [], f, B, hb => by rw [lazyP, sizsC]; rfl
  | n :: r, f, B, hb => by
    rw [List.length_cons] at hb
    rw [lazyP, sizsC, lazy_ops r (f + 1) _ (by rw [node_len]; omega), node_ops n f B (by omega)]; omega
end

end Go.Proofs.YtpphkaolonjjdaaDoor.Cpl

/- Codes in memory: a row of slices of instructions (four cells each), each with a row of numbers. -/
namespace Go.Proofs.YtpphkaolonjjdaaDoor.Cin
open Go Go.RowKit Go.Proofs.YtpphkaolonjjdaaDoor.Spl Go.Proofs.YtpphkaolonjjdaaDoor.Cpl
open Go.Proofs.YtpphkaolonjjdaaDoor.Pure (bs)

/-- numbers, in a block of S -/
def NumRow (S : Nat → Prop) (w : World) (A : Option Addr) (l : List Int) : Prop := l = [] ∨ ∃ b o, A = some ⟨b, o, none⟩ ∧ b < w.heap.size ∧ S b ∧ ∀ j z, l[j]? = some z → w.cell? ⟨b, o + j, none⟩ = some (.int .i64 z)
/-- an instruction, the j-th of a row -/
def OpAt (S : Nat → Prop) (w : World) (b o j : Nat) (x : Opp) : Prop := ∃ A c, x.l.length ≤ c ∧ NumRow S w A x.l ∧ w.cell? ⟨b, o + j * 4, none⟩ = some (.int .i64 x.k) ∧ w.cell? ⟨b, o + j * 4 + 1, none⟩ = some (.int .i64 x.n) ∧ w.cell? ⟨b, o + j * 4 + 2, none⟩ = some (.string (bs x.s)) ∧ w.cell? ⟨b, o + j * 4 + 3, none⟩ = some (.slice A x.l.length c)
/-- instructions, in a block of S -/
def OpsRow (S : Nat → Prop) (w : World) (A : Option Addr) (l : List Opp) : Prop := l = [] ∨ ∃ b o, A = some ⟨b, o, none⟩ ∧ b < w.heap.size ∧ S b ∧ ∀ j x, l[j]? = some x → OpAt S w b o j x
/-- a block of instructions, the j-th of a row -/
def BlkAt (S : Nat → Prop) (w : World) (b o j : Nat) (l : List Opp) : Prop := ∃ A c, l.length ≤ c ∧ OpsRow S w A l ∧ w.cell? ⟨b, o + j, none⟩ = some (.slice A l.length c)
/-- blocks of instructions, in a block of S -/
def BlkRow (S : Nat → Prop) (w : World) (A : Option Addr) (B : List (List Opp)) : Prop := B = [] ∨ ∃ b o, A = some ⟨b, o, none⟩ ∧ b < w.heap.size ∧ S b ∧ ∀ j l, B[j]? = some l → BlkAt S w b o j l
/-- a code -/
def CodeIn (S : Nat → Prop) (w : World) (v : Value) (B : List (List Opp)) : Prop := ∃ A c, v = .agg #[.slice A B.length c] ∧ B.length ≤ c ∧ BlkRow S w A B

section
variable {S S' : Nat → Prop} {w W : World} (hs : ∀ b, S b → b < w.heap.size → S' b ∧ W.heap[b]? = w.heap[b]?) (hz : w.heap.size ≤ W.heap.size)
include hs hz
theorem NumRow.move {A : Option Addr} {l : List Int} (h : NumRow S w A l) : NumRow S' W A l := by
  rcases h with h | ⟨b, o, h1, h2, h3, h4⟩
  · exact .inl h
  · exact .inr ⟨b, o, h1, Nat.lt_of_lt_of_le h2 hz, (hs b h3 h2).1, fun j z hj => (World.cell?_of_block (a := ⟨b, o + j, none⟩) (hs b h3 h2).2).trans (h4 j z hj)⟩
theorem OpAt.move {b o j : Nat} {x : Opp} (h : OpAt S w b o j x) (hb : W.heap[b]? = w.heap[b]?) : OpAt S' W b o j x := by
  obtain ⟨A, c, h1, h2, h3, h4, h5, h6⟩ := h
  exact ⟨A, c, h1, h2.move hs hz, (World.cell?_of_block (a := ⟨b, _, none⟩) hb).trans h3, (World.cell?_of_block (a := ⟨b, _, none⟩) hb).trans h4, (World.cell?_of_block (a := ⟨b, _, none⟩) hb).trans h5, (World.cell?_of_block (a := ⟨b, _, none⟩) hb).trans h6⟩
theorem OpsRow.move {A : Option Addr} {l : List Opp} (h : OpsRow S w A l) : OpsRow S' W A l := by
  rcases h with h | ⟨b, o, h1, h2, h3, h4⟩
  · exact .inl h
  · exact .inr ⟨b, o, h1, Nat.lt_of_lt_of_le h2 hz, (hs b h3 h2).1, fun j x hj => (h4 j x hj).move hs hz (hs b h3 h2).2⟩
theorem BlkAt.move {b o j : Nat} {l : List Opp} (h : BlkAt S w b o j l) (hb : W.heap[b]? = w.heap[b]?) : BlkAt S' W b o j l := by
  obtain ⟨A, c, h1, h2, h3⟩ := h
  exact ⟨A, c, h1, h2.move hs hz, (World.cell?_of_block (a := ⟨b, _, none⟩) hb).trans h3⟩
theorem BlkRow.move {A : Option Addr} {B : List (List Opp)} (h : BlkRow S w A B) : BlkRow S' W A B := by
  rcases h with h | ⟨b, o, h1, h2, h3, h4⟩
  · exact .inl h
  · exact .inr ⟨b, o, h1, Nat.lt_of_lt_of_le h2 hz, (hs b h3 h2).1, fun j l hj => (h4 j l hj).move hs hz (hs b h3 h2).2⟩
theorem CodeIn.move {v : Value} {B : List (List Opp)} (h : CodeIn S w v B) : CodeIn S' W v B := by
  obtain ⟨A, c, h1, h2, h3⟩ := h
  exact ⟨A, c, h1, h2, h3.move hs hz⟩
end
theorem CodeIn.on {S : Nat → Prop} {w W : World} {v : Value} {B : List (List Opp)} (h : CodeIn S w v B) (hb : Below w.heap.size w W) : CodeIn S W v B :=
  h.move (fun b hS hl => ⟨hS, hb.block b hl⟩) hb.size
theorem BlkRow.on {S : Nat → Prop} {w W : World} {A : Option Addr} {B : List (List Opp)} (h : BlkRow S w A B) (hb : Below w.heap.size w W) : BlkRow S W A B :=
  h.move (fun b hS hl => ⟨hS, hb.block b hl⟩) hb.size
theorem OpsRow.on {S : Nat → Prop} {w W : World} {A : Option Addr} {l : List Opp} (h : OpsRow S w A l) (hb : Below w.heap.size w W) : OpsRow S W A l :=
  h.move (fun b hS hl => ⟨hS, hb.block b hl⟩) hb.size

/-- the j-th block -/
theorem BlkRow.get {S : Nat → Prop} {w : World} {A : Option Addr} {B : List (List Opp)} (h : BlkRow S w A B) {j : Nat} {l : List Opp} (hj : B[j]? = some l) : ∃ b o, A = some ⟨b, o, none⟩ ∧ b < w.heap.size ∧ BlkAt S w b o j l := by
  rcases h with h | ⟨b, o, h1, h2, _, h4⟩
  · rw [h] at hj; cases hj
  · exact ⟨b, o, h1, h2, h4 j l hj⟩
/-- the j-th instruction -/
theorem OpsRow.get {S : Nat → Prop} {w : World} {A : Option Addr} {l : List Opp} (h : OpsRow S w A l) {j : Nat} {x : Opp} (hj : l[j]? = some x) : ∃ b o, A = some ⟨b, o, none⟩ ∧ b < w.heap.size ∧ OpAt S w b o j x := by
  rcases h with h | ⟨b, o, h1, h2, _, h4⟩
  · rw [h] at hj; cases hj
  · exact ⟨b, o, h1, h2, h4 j x hj⟩
/-- the j-th number -/
theorem NumRow.get {S : Nat → Prop} {w : World} {A : Option Addr} {l : List Int} (h : NumRow S w A l) {j : Nat} {z : Int} (hj : l[j]? = some z) : ∃ b o, A = some ⟨b, o, none⟩ ∧ w.cell? ⟨b, o + j, none⟩ = some (.int .i64 z) := by
  rcases h with h | ⟨b, o, h1, h2, _, h4⟩
  · rw [h] at hj; cases hj
  · exact ⟨b, o, h1, h4 j z hj⟩

end Go.Proofs.YtpphkaolonjjdaaDoor.Cin

/- Code that may be, on plain lists (no program). -/
namespace Go.Proofs.YtpphkaolonjjdaaDoor.Dpl
open Go.Proofs.YtpphkaolonjjdaaDoor.Spl Go.Proofs.YtpphkaolonjjdaaDoor.Nz Go.Proofs.YtpphkaolonjjdaaDoor.Fpl Go.Proofs.YtpphkaolonjjdaaDoor.Cpl

/-- may a function have so many arguments? -/
def fitI (i : Inf) (n : Int) (lz : Bool) : Bool := (i.lz == lz) && (decide (i.mn ≤ n) && (decide (i.mx = 0) || decide (n ≤ i.mx)))
def fitsB (s : T) (n : Int) (lz : Bool) : Bool := match lookI tab s with
  | none => false
  | some i => fitI i n lz
/-- has it what one of its kind has not? -/
def badB (o : Opp) : Bool := (decide (o.k ≠ 1 ∧ o.k ≠ 5 ∧ o.k ≠ 6 ∧ o.s ≠ [])) || (decide (o.k ≠ 4 ∧ o.k ≠ 5 ∧ o.n ≠ 0) || decide (o.k ≠ 6 ∧ o.l ≠ []))
/-- does it name a block that it may not? -/
def farB (b q : Nat) (l : List Int) : Bool := l.any fun y => decide (y ≤ (b : Int)) || decide ((q : Int) ≤ y)
/-- how many an instruction takes; below 0: it may not be -/
def takesP (b q : Nat) (o : Opp) : Int :=
  if badB o = true then -1 else if o.k = 1 then 0 else if o.k = 2 then 1 else if o.k = 3 then 3 else if o.k = 4 then o.n
  else if o.k = 5 then (if fitsB o.s o.n false = true then o.n else -1)
  else if o.k = 6 then (if farB b q o.l = true then -1 else if fitsB o.s (o.l.length : Int) true = true then 0 else -1) else -1
/-- a block's run: what lies on its pile, the most that lay there -/
def runP (b q : Nat) : List Opp → Int → Int → Option (Int × Int)
  | [], n, m => some (n, m)
  | o :: r, n, m => if takesP b q o < 0 ∨ n < takesP b q o then none else runP b q r (n - takesP b q o + 1) (max m (n - takesP b q o + 1))
/-- the most on a block's pile; below 0: it may not be -/
def blockP (b q : Nat) (l : List Opp) : Int := match runP b q l 0 0 with
  | some (n, m) => if n = 1 then m else -1
  | none => -1
/-- the most that ever is on one block's pile; 0: the code may not be -/
def deepP (q tot : Nat) : Nat → List (List Opp) → Int → Int
  | _, [], m => if 16384 < tot then 0 else m
  | b, l :: r, m => if blockP b q l < 0 then 0 else deepP q tot (b + 1) r (max m (blockP b q l))
def depthP (B : List (List Opp)) : Int := deepP B.length (opsP B) 0 B 0
def checkP (B : List (List Opp)) : Bool := decide (0 < depthP B)

theorem run_app (b q : Nat) : ∀ (l r : List Opp) (n m : Int), runP b q (l ++ r) n m = (runP b q l n m).bind fun p => runP b q r p.1 p.2
  | [], r, n, m => rfl
  | o :: l, r, n, m => by
    rw [List.cons_append, runP, runP]
    split
    · rfl
    · exact run_app b q l r _ _
theorem run_step (b q : Nat) (l : List Opp) {j : Nat} {o : Opp} (hj : l[j]? = some o) {n m : Int} (h : runP b q (l.take j) 0 0 = some (n, m)) :
    runP b q (l.take (j + 1)) 0 0 = if takesP b q o < 0 ∨ n < takesP b q o then none else some (n - takesP b q o + 1, max m (n - takesP b q o + 1)) := by
  rw [List.take_add_one, hj, run_app, h]
  show runP b q [o] n m = _
  rw [runP]
  split <;> rfl
theorem run_none (b q : Nat) (l : List Opp) {j : Nat} (h : runP b q (l.take j) 0 0 = none) : runP b q l 0 0 = none := by
  have h1 : runP b q (l.take j ++ l.drop j) 0 0 = none := by rw [run_app, h]; rfl
  rwa [List.take_append_drop] at h1
/-- what lies on the pile is from 0 up, at most one for each instruction; the most too -/
theorem run_le (b q : Nat) : ∀ (l : List Opp) (n m n' m' : Int), runP b q l n m = some (n', m') → 0 ≤ n → 0 ≤ n' ∧ n' ≤ n + (l.length : Int) ∧ m ≤ m' ∧ m' ≤ max m (n + (l.length : Int)) ∧ (l ≠ [] → n' ≤ m')
  | [], n, m, n', m', h, hn => by
    rw [runP] at h
    cases h
    refine ⟨hn, by simp, Int.le_refl _, by omega, fun h => absurd rfl h⟩
  | o :: r, n, m, n', m', h, hn => by
    rw [runP] at h
    split at h
    · cases h
    · rename_i hk
      obtain ⟨h1, h2, h3, h4, h5⟩ := run_le b q r _ _ _ _ h (by omega)
      rw [List.length_cons]
      refine ⟨h1, by omega, by omega, by omega, fun _ => ?_⟩
      by_cases hr : r = []
      · subst hr
        rw [runP] at h
        cases h
        omega
      · exact h5 hr
theorem block_le (b q : Nat) (l : List Opp) : -1 ≤ blockP b q l ∧ blockP b q l ≤ (l.length : Int) := by
  unfold blockP
  split
  · rename_i n m h
    have := run_le b q l 0 0 n m h (Int.le_refl _)
    split <;> omega
  · omega

end Go.Proofs.YtpphkaolonjjdaaDoor.Dpl
