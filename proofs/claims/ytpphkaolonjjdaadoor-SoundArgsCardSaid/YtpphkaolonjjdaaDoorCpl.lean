/- Expansions as instructions, on plain lists (no program). -/
import Derived.Test.YtpphkaolonjjdaaDoorQtp
import Derived.Test.YtpphkaolonjjdaaDoorFpl
namespace Go.Proofs.YtpphkaolonjjdaaDoor.Cpl
open Go.Proofs.YtpphkaolonjjdaaDoor.Spl Go.Proofs.YtpphkaolonjjdaaDoor.Nz Go.Proofs.YtpphkaolonjjdaaDoor.Fpl

/-- an instruction: kind, number, text, blocks -/
structure Opp where
  k : Int
  n : Int
  s : T
  l : List Int
deriving DecidableEq
/-- is it the name of a lazy function? -/
def lazyB (s : T) : Bool := match lookI tab s with | some i => i.lz | none => false
/-- one instruction more, at the end of block b -/
def put (B : List (List Opp)) (b : Nat) (o : Opp) : List (List Opp) := B.set b (B.getD b [] ++ [o])
/-- the last instruction of a node that is not lazy -/
def lastOp (k : Int) (s : T) (n : Nat) : Opp :=
  if k = 2 then ⟨2, 0, [], []⟩ else if k = 3 then ⟨3, 0, [], []⟩ else if k = 4 then ⟨5, (n : Int), s, []⟩ else ⟨4, (n : Int), [], []⟩
mutual
/-- a node's instructions, behind block b's -/
def nodeP : Nz → Nat → List (List Opp) → List (List Opp)
  | .mk k s l, b, B =>
    if k = 1 then put B b ⟨1, 0, s, []⟩
    else if k = 4 ∧ lazyB s = true then put (lazyP l B.length (B ++ List.replicate l.length [])) b ⟨6, 0, s, (List.range' B.length l.length).map Int.ofNat⟩
    else put (nodesP l b B) b (lastOp k s l.length)
/-- each one's instructions, behind block b's -/
def nodesP : List Nz → Nat → List (List Opp) → List (List Opp)
  | [], _, B => B
  | n :: r, b, B => nodesP r b (nodeP n b B)
/-- each one's instructions, behind the block f, f + 1, .. -/
def lazyP : List Nz → Nat → List (List Opp) → List (List Opp)
  | [], _, B => B
  | n :: r, f, B => lazyP r (f + 1) (nodeP n f B)
end
/-- compiled -/
def compP (x : Nz) : List (List Opp) := nodeP x 0 [[]]
/-- how many instructions -/
def opsP : List (List Opp) → Nat
  | [] => 0
  | b :: r => b.length + opsP r

theorem put_len (B : List (List Opp)) (b : Nat) (o : Opp) : (put B b o).length = B.length := by rw [put, List.length_set]
theorem ops_set : ∀ (B : List (List Opp)) (b : Nat) (x : List Opp), b < B.length → opsP (B.set b x) + (B.getD b []).length = opsP B + x.length
  | [], b, x, h => absurd h (Nat.not_lt_zero _)
  | y :: r, 0, x, h => by rw [List.set_cons_zero, opsP, opsP, List.getD_cons_zero]; omega
  | y :: r, b + 1, x, h => by
    have := ops_set r b x (by rw [List.length_cons] at h; omega)
    rw [List.set_cons_succ, opsP, opsP, List.getD_cons_succ]; omega
theorem ops_put (B : List (List Opp)) (b : Nat) (o : Opp) (h : b < B.length) : opsP (put B b o) = opsP B + 1 := by
  have := ops_set B b (B.getD b [] ++ [o]) h
  rw [List.length_append, List.length_singleton] at this
  rw [put]; omega
theorem ops_app : ∀ (B C : List (List Opp)), opsP (B ++ C) = opsP B + opsP C
  | [], C => by rw [List.nil_append, opsP, Nat.zero_add]
  | x :: r, C => by rw [List.cons_append, opsP, opsP, ops_app r C, Nat.add_assoc]
theorem ops_none : ∀ n : Nat, opsP (List.replicate n []) = 0
  | 0 => rfl
  | n + 1 => by rw [List.replicate_succ, opsP, ops_none n]; rfl

mutual
/-- how many blocks a node makes -/
def newP : Nz → Nat
  | .mk k s l => if k = 1 then 0 else if k = 4 ∧ lazyB s = true then l.length + newsP l else newsP l
def newsP : List Nz → Nat
  | [] => 0
  | n :: r => newP n + newsP r
end
mutual
theorem node_len : ∀ (x : Nz) (b : Nat) (B : List (List Opp)), (nodeP x b B).length = B.length + newP x
  | .mk k s l, b, B => by
    rw [nodeP, newP]
    split
    · rw [put_len]; rfl
    · split
      · rw [put_len, lazy_len l, List.length_append, List.length_replicate]; omega
      · rw [put_len, nodes_len l]
theorem nodes_len : ∀ (l : List Nz) (b : Nat) (B : List (List Opp)), (nodesP l b B).length = B.length + newsP l
  | [], b, B => by rw [nodesP, newsP]; rfl
  | n :: r, b, B => by rw [nodesP, newsP, nodes_len r, node_len n]; omega
theorem lazy_len : ∀ (l : List Nz) (f : Nat) (B : List (List Opp)), (lazyP l f B).length = B.length + newsP l
  | [], f, B => by rw [lazyP, newsP]; rfl
  | n :: r, f, B => by rw [lazyP, newsP, lazy_len r, node_len n]; omega
end
mutual
/-- how many nodes, a text's list aside -/
def sizC : Nz → Nat
  | .mk k _ l => if k = 1 then 1 else 1 + sizsC l
def sizsC : List Nz → Nat
  | [] => 0
  | n :: r => sizC n + sizsC r
end
mutual
/-- as many instructions as nodes -/
theorem node_ops : ∀ (x : Nz) (b : Nat) (B : List (List Opp)), b < B.length → opsP (nodeP x b B) = opsP B + sizC x
  | .mk k s l, b, B, hb => by
    rw [nodeP, sizC]
    split
    · rw [ops_put _ _ _ hb]
    · split
      · rw [ops_put _ _ _ (by rw [lazy_len, List.length_append]; omega), lazy_ops l B.length (B ++ List.replicate l.length []) (by rw [List.length_append, List.length_replicate]; omega), ops_app, ops_none]; omega
      · rw [ops_put _ _ _ (by rw [nodes_len]; omega), nodes_ops l b B hb]; omega
theorem nodes_ops : ∀ (l : List Nz) (b : Nat) (B : List (List Opp)), b < B.length → opsP (nodesP l b B) = opsP B + sizsC l
  | [], b, B, hb => by rw [nodesP, sizsC]; rfl
  | n :: r, b, B, hb => by rw [nodesP, sizsC, nodes_ops r b _ (by rw [node_len]; omega), node_ops n b B hb]; omega
theorem lazy_ops : ∀ (l : List Nz) (f : Nat) (B : List (List Opp)), f + l.length ≤ B.length → opsP (lazyP l f B) = opsP B + sizsC l
  | [], f, B, hb => by rw [lazyP, sizsC]; rfl
  | n :: r, f, B, hb => by
    rw [List.length_cons] at hb
    rw [lazyP, sizsC, lazy_ops r (f + 1) _ (by rw [node_len]; omega), node_ops n f B (by omega)]; omega
end

end Go.Proofs.YtpphkaolonjjdaaDoor.Cpl
