/- Compiling by a pile of parts that are still to be made: it comes to the same (no program). -/
import Derived.Test.YtpphkaolonjjdaaDoorCplJ
namespace Go.Proofs.YtpphkaolonjjdaaDoor.Cmc
open Go.Proofs.YtpphkaolonjjdaaDoor.Spl Go.Proofs.YtpphkaolonjjdaaDoor.Nz Go.Proofs.YtpphkaolonjjdaaDoor.Cpl

/-- nodes whose instructions are still to be made -/
structure Prt where
  l : List Nz
  b : Nat
  apart : Bool
  o : Opp
/-- a part is made -/
def finP (p : Prt) (B : List (List Opp)) : List (List Opp) := if p.apart then lazyP p.l p.b B else put (nodesP p.l p.b B) p.b p.o
/-- all parts are made, the last one first -/
def fin : List Prt → List (List Opp) → List (List Opp)
  | [], B => B
  | p :: r, B => finP p (fin r B)
theorem fin_app : ∀ (P Q : List Prt) (B : List (List Opp)), fin (P ++ Q) B = fin P (fin Q B)
  | [], _, _ => rfl
  | p :: r, Q, B => by rw [List.cons_append, fin, fin, fin_app r Q B]

/-- has it what one of its kind has? -/
def formB (k : Int) (l : List Nz) : Bool :=
  if k = 1 then l.isEmpty else if k = 2 then decide (l.length = 1) else if k = 3 then decide (l.length = 3) else decide (k = 4 ∨ k = 5)
mutual
def frmZ : Nz → Bool
  | .mk k s l => formB k l && (decide (s.length ≤ 1000000) && frmsZ l)
def frmsZ : List Nz → Bool
  | [] => true
  | n :: r => frmZ n && frmsZ r
end
theorem frms_cons {n : Nz} {r : List Nz} (h : frmsZ (n :: r) = true) : frmZ n = true ∧ frmsZ r = true := by
  rw [frmsZ, Bool.and_eq_true] at h; exact h
theorem frm_mk {k : Int} {s : T} {l : List Nz} (h : frmZ (.mk k s l) = true) : formB k l = true ∧ s.length ≤ 1000000 ∧ frmsZ l = true := by
  rw [frmZ, Bool.and_eq_true, Bool.and_eq_true] at h; exact ⟨h.1, of_decide_eq_true h.2.1, h.2.2⟩

/-! ### what is put early may be put late -/
theorem getD_set_ne {B : List (List Opp)} {b b' : Nat} (h : b ≠ b') (x : List Opp) : (B.set b x).getD b' [] = B.getD b' [] := by
  rw [List.getD_eq_getElem?_getD, List.getD_eq_getElem?_getD, List.getElem?_set_ne h]
theorem put_comm (B : List (List Opp)) {b b' : Nat} (h : b ≠ b') (o o' : Opp) : put (put B b o) b' o' = put (put B b' o') b o := by
  unfold put
  rw [getD_set_ne h, getD_set_ne (fun e => h e.symm), List.set_comm _ _ h]
theorem put_app (B C : List (List Opp)) {b : Nat} (h : b < B.length) (o : Opp) : put (B ++ C) b o = put B b o ++ C := by
  unfold put
  rw [List.set_append_left _ _ h]
  congr 3
  rw [List.getD_eq_getElem?_getD, List.getD_eq_getElem?_getD, List.getElem?_append_left h]
mutual
theorem node_late : ∀ (x : Nz) (b' b : Nat) (B : List (List Opp)) (o : Opp), b ≠ b' → b < B.length → nodeP x b' (put B b o) = put (nodeP x b' B) b o
  | .mk k s l, b', b, B, o, hne, hb => by
    rw [nodeP, nodeP]
    split
    · rw [put_comm _ hne]
    · split
      · rw [put_len, ← put_app _ _ hb, lazy_late l B.length b _ o hb (by rw [List.length_append]; omega), put_comm _ hne]
      · rw [nodes_late l b' b B o hne hb, put_comm _ hne]
theorem nodes_late : ∀ (l : List Nz) (b' b : Nat) (B : List (List Opp)) (o : Opp), b ≠ b' → b < B.length → nodesP l b' (put B b o) = put (nodesP l b' B) b o
  | [], b', b, B, o, hne, hb => by rw [nodesP, nodesP]
  | n :: r, b', b, B, o, hne, hb => by rw [nodesP, nodesP, node_late n b' b B o hne hb, nodes_late r b' b _ o hne (by rw [node_len]; omega)]
theorem lazy_late : ∀ (l : List Nz) (f b : Nat) (B : List (List Opp)) (o : Opp), b < f → b < B.length → lazyP l f (put B b o) = put (lazyP l f B) b o
  | [], f, b, B, o, hf, hb => by rw [lazyP, lazyP]
  | n :: r, f, b, B, o, hf, hb => by rw [lazyP, lazyP, node_late n f b B o (by omega) hb, lazy_late r (f + 1) b _ o (by omega) (by rw [node_len]; omega)]
end

/-! ### one step -/
/-- the top part without its first node -/
def Prt.tail (p : Prt) : Prt := ⟨p.l.tail, if p.apart then p.b + 1 else p.b, p.apart, p.o⟩
/-- the blocks once a node has been taken -/
def nextB (x : Nz) (b : Nat) (B : List (List Opp)) : List (List Opp) :=
  match x with
  | .mk k s l => if k = 4 ∧ lazyB s = true then put (B ++ List.replicate l.length []) b ⟨6, 0, s, (List.range' B.length l.length).map Int.ofNat⟩ else B
/-- the parts that a node lays down -/
def nextP (x : Nz) (b : Nat) (B : List (List Opp)) : List Prt :=
  match x with
  | .mk k s l => if k = 4 ∧ lazyB s = true then (if l = [] then [] else [⟨l, B.length, true, ⟨0, 0, [], []⟩⟩]) else [⟨l, b, false, if k = 1 then ⟨1, 0, s, []⟩ else lastOp k s l.length⟩]
theorem next_is (x : Nz) (b : Nat) (B : List (List Opp)) (hb : b < B.length) (hf : frmZ x = true) : fin (nextP x b B) (nextB x b B) = nodeP x b B := by
  obtain ⟨k, s, l⟩ := x
  have hff := (frm_mk hf).1
  rw [nodeP]
  unfold nextP nextB
  dsimp only
  by_cases hk : k = 1
  · have hl : l = [] := by
      unfold formB at hff
      rw [if_pos hk, List.isEmpty_iff] at hff
      exact hff
    have h4 : ¬ (k = 4 ∧ lazyB s = true) := fun h => by omega
    rw [if_neg h4, if_neg h4, if_pos hk, if_pos hk, hl]
    rfl
  · rw [if_neg hk, if_neg hk]
    by_cases h4 : k = 4 ∧ lazyB s = true
    · rw [if_pos h4, if_pos h4, if_pos h4]
      by_cases hl : l = []
      · rw [if_pos hl, hl, fin]; rfl
      · rw [if_neg hl, fin, fin, finP]
        dsimp only
        rw [if_pos rfl, lazy_late l B.length b _ _ hb (by rw [List.length_append]; omega)]
    · rw [if_neg h4, if_neg h4, if_neg h4]
      rfl
theorem step_is (p : Prt) (n : Nz) (r : List Nz) (hl : p.l = n :: r) (P : List Prt) (B : List (List Opp)) (hb : p.b < B.length) (hf : frmZ n = true) :
    fin (P ++ [p.tail] ++ nextP n p.b B) (nextB n p.b B) = fin (P ++ [p]) B := by
  rw [fin_app, next_is n p.b B hb hf, fin_app, fin_app, fin, fin, fin, fin]
  congr 1
  unfold finP Prt.tail
  dsimp only
  rw [hl]
  cases p.apart
  · simp only [Bool.false_eq_true, if_false]
    rw [List.tail_cons, nodesP]
  · simp only [if_true]
    rw [List.tail_cons, lazyP]
/-- the last part has no nodes left -/
def doneB (p : Prt) (B : List (List Opp)) : List (List Opp) := if p.apart then B else put B p.b p.o
theorem done_is (p : Prt) (hl : p.l = []) (P : List Prt) (B : List (List Opp)) : fin P (doneB p B) = fin (P ++ [p]) B := by
  rw [fin_app, fin, fin]
  congr 1
  unfold finP doneB
  rw [hl, lazyP, nodesP]

/-! ### how much is left -/
def left : List Prt → Nat
  | [] => 0
  | p :: r => 2 * sizs p.l + 1 + left r
theorem left_app : ∀ (P Q : List Prt), left (P ++ Q) = left P + left Q
  | [], Q => (Nat.zero_add _).symm
  | p :: r, Q => by rw [List.cons_append, left, left, left_app r Q]; omega
theorem left_next (x : Nz) (b : Nat) (B : List (List Opp)) : left (nextP x b B) < 2 * siz x := by
  obtain ⟨k, s, l⟩ := x
  unfold nextP
  dsimp only
  rw [siz]
  split
  · split
    · rw [left]; omega
    · rw [left, left]; dsimp only; omega
  · rw [left, left]; dsimp only; omega
theorem left_step (p : Prt) (n : Nz) (r : List Nz) (hl : p.l = n :: r) (P : List Prt) (B : List (List Opp)) : left (P ++ [p.tail] ++ nextP n p.b B) < left (P ++ [p]) := by
  have := left_next n p.b B
  rw [left_app, left_app, left_app, left, left, left, left, hl, sizs]
  show _ + (2 * sizs p.l.tail + 1 + 0) + _ < _
  rw [hl, List.tail_cons]; omega
theorem left_done (p : Prt) (P : List Prt) : left P < left (P ++ [p]) := by
  rw [left_app, left, left]; omega

/-! ### all stays within the nodes -/
/-- instructions that are still to come -/
def todo : List Prt → Nat
  | [] => 0
  | p :: r => sizs p.l + (if p.apart then 0 else 1) + todo r
theorem todo_app : ∀ (P Q : List Prt), todo (P ++ Q) = todo P + todo Q
  | [], Q => (Nat.zero_add _).symm
  | p :: r, Q => by rw [List.cons_append, todo, todo, todo_app r Q]; omega
/-- nodes below those of a part -/
def low : List Prt → Nat
  | [] => 0
  | p :: r => (sizs p.l - p.l.length) + low r
theorem low_app : ∀ (P Q : List Prt), low (P ++ Q) = low P + low Q
  | [], Q => (Nat.zero_add _).symm
  | p :: r, Q => by rw [List.cons_append, low, low, low_app r Q]; omega
theorem len_left : ∀ P : List Prt, P.length ≤ left P
  | [] => Nat.zero_le _
  | p :: r => by have := len_left r; rw [left, List.length_cons]; omega
def Good (B : List (List Opp)) (p : Prt) : Prop := p.b + (if p.apart then p.l.length else 1) ≤ B.length ∧ frmsZ p.l = true ∧ p.o.l = []
/-- all that holds while it is compiled -/
structure Fits (M : Nat) (P : List Prt) (B : List (List Opp)) : Prop where
  ops : opsP B + todo P ≤ M
  blocks : B.length + low P ≤ M
  parts : ∀ p ∈ P, Good B p
  count : left P ≤ 2 * M + 1
theorem fits_lt {B : List (List Opp)} {p : Prt} (h : Good B p) (hn : p.apart = false ∨ p.l ≠ []) : p.b < B.length := by
  have h1 := h.1
  cases ha : p.apart
  · rw [ha, if_neg (by decide)] at h1; omega
  · rw [ha, if_pos rfl] at h1
    have h2 : 0 < p.l.length := List.length_pos_iff.2 (hn.resolve_left (by rw [ha]; decide))
    omega
theorem row_le : ∀ {B : List (List Opp)} {l : List Opp}, l ∈ B → l.length ≤ opsP B
  | [], _, h => by cases h
  | x :: r, l, h => by
    rw [opsP]
    rcases List.mem_cons.1 h with rfl | h
    · omega
    · have := row_le h
      omega
theorem good_len {B B' : List (List Opp)} {p : Prt} (h : Good B p) (hl : B.length ≤ B'.length) : Good B' p := ⟨Nat.le_trans h.1 hl, h.2⟩
theorem next_len (x : Nz) (b : Nat) (B : List (List Opp)) : (nextB x b B).length + low (nextP x b B) ≤ B.length + (siz x - 1) ∧ B.length ≤ (nextB x b B).length := by
  obtain ⟨k, s, l⟩ := x
  have h := sizs_len l
  unfold nextP nextB
  dsimp only
  rw [siz]
  split
  · rw [put_len, List.length_append, List.length_replicate]
    split
    · rename_i e; subst e; rw [low]; exact ⟨by show _ + 0 + 0 ≤ _; omega, by omega⟩
    · rw [low, low]; dsimp only; omega
  · rw [low, low]; dsimp only; omega
theorem next_ops (x : Nz) (b : Nat) (B : List (List Opp)) (hb : b < B.length) : opsP (nextB x b B) + todo (nextP x b B) = opsP B + siz x := by
  obtain ⟨k, s, l⟩ := x
  unfold nextP nextB
  dsimp only
  rw [siz]
  split
  · rw [ops_put _ _ _ (by rw [List.length_append]; omega), ops_app, ops_none]
    split
    · rename_i e; subst e; rw [todo, sizs]
    · rw [todo, todo]; dsimp only; rw [if_pos rfl]; omega
  · rw [todo, todo]; dsimp only; rw [if_neg (by decide)]; omega
theorem next_good (x : Nz) (b : Nat) (B : List (List Opp)) (hb : b < B.length) (hf : frmZ x = true) : ∀ p ∈ nextP x b B, Good (nextB x b B) p := by
  obtain ⟨k, s, l⟩ := x
  have hl := (frm_mk hf).2.2
  intro p hp
  unfold nextP at hp
  unfold nextB
  dsimp only at hp ⊢
  split at hp
  · rename_i h4
    rw [if_pos h4]
    split at hp
    · cases hp
    · rw [List.mem_singleton] at hp
      subst hp
      refine ⟨?_, hl, rfl⟩
      rw [put_len, List.length_append, List.length_replicate]
      dsimp only
      rw [if_pos rfl]
      omega
  · rename_i h4
    rw [if_neg h4]
    rw [List.mem_singleton] at hp
    subst hp
    refine ⟨?_, hl, ?_⟩
    · dsimp only
      rw [if_neg (by decide)]
      omega
    · dsimp only
      split
      · rfl
      · unfold lastOp
        split
        · rfl
        · split
          · rfl
          · split <;> rfl
theorem fits_step {M : Nat} {P : List Prt} {p : Prt} {B : List (List Opp)} (h : Fits M (P ++ [p]) B) {n : Nz} {r : List Nz} (hl : p.l = n :: r) : Fits M (P ++ [p.tail] ++ nextP n p.b B) (nextB n p.b B) := by
  have hg := h.parts p (List.mem_append_right _ (List.mem_singleton_self _))
  have hb : p.b < B.length := fits_lt hg (.inr (by rw [hl]; exact List.cons_ne_nil _ _))
  obtain ⟨hfn, hfr⟩ := frms_cons (by have := hg.2.1; rw [hl] at this; exact this)
  have ht : p.tail.l = r := by show p.l.tail = r; rw [hl]; rfl
  have h1 := h.ops
  have h2 := h.blocks
  have h4 := h.count
  have h5 := next_ops n p.b B hb
  obtain ⟨h6, h7⟩ := next_len n p.b B
  have h8 := siz_pos n
  have h9 := sizs_len r
  refine ⟨?_, ?_, ?_, ?_⟩
  · rw [todo_app, todo, todo, hl, sizs] at h1
    rw [todo_app, todo_app, todo, todo, ht]
    show _ + (_ + (_ + (if p.apart = true then 0 else 1) + 0) + _) ≤ _
    omega
  · rw [low_app, low, low, hl, sizs, List.length_cons] at h2
    rw [low_app, low_app, low, low, ht]
    omega
  · intro q hq
    rcases List.mem_append.1 hq with hq | hq
    · rcases List.mem_append.1 hq with hq | hq
      · exact good_len (h.parts q (List.mem_append_left _ hq)) h7
      · rw [List.mem_singleton] at hq
        subst hq
        refine good_len (B := B) ⟨?_, by rw [ht]; exact hfr, hg.2.2⟩ h7
        have h10 := hg.1
        rw [ht]
        show (if p.apart = true then p.b + 1 else p.b) + (if p.apart = true then r.length else 1) ≤ _
        rw [hl, List.length_cons] at h10
        cases ha : p.apart
        · rw [ha, if_neg (by decide)] at h10
          rw [if_neg (by decide), if_neg (by decide)]; omega
        · rw [ha, if_pos rfl] at h10
          rw [if_pos rfl, if_pos rfl]; omega
    · exact next_good n p.b B hb hfn q hq
  · exact Nat.le_trans (Nat.le_of_lt (left_step p n r hl P B)) h4
theorem fits_done {M : Nat} {P : List Prt} {p : Prt} {B : List (List Opp)} (h : Fits M (P ++ [p]) B) (hl : p.l = []) : Fits M P (doneB p B) := by
  have hg := h.parts p (List.mem_append_right _ (List.mem_singleton_self _))
  have h1 := h.ops
  have h2 := h.blocks
  have h4 := h.count
  rw [todo_app, todo, todo, hl, sizs] at h1
  rw [low_app, low, low] at h2
  have h5 := left_done p P
  have h6 : (doneB p B).length = B.length := by unfold doneB; split; · rfl
                                                · rw [put_len]
  refine ⟨?_, by rw [h6]; omega, fun q hq => good_len (h.parts q (List.mem_append_left _ hq)) (by rw [h6]; exact Nat.le_refl _), by omega⟩
  unfold doneB
  cases ha : p.apart
  · rw [ha, if_neg (by decide)] at h1
    rw [if_neg (by decide), ops_put _ _ _ (fits_lt hg (.inl ha))]; omega
  · rw [if_pos rfl]; omega
/-- as it begins -/
def first (n : Nz) : Prt := ⟨[n], 0, true, ⟨0, 0, [], []⟩⟩
theorem fits_first (n : Nz) (hf : frmZ n = true) : Fits (siz n) [first n] [[]] := by
  have := siz_pos n
  refine ⟨?_, ?_, fun p hp => ?_, ?_⟩
  · rw [todo, todo, opsP, opsP]; show _ + (sizs [n] + 0 + 0) ≤ _; rw [sizs, sizs]; show 0 + 0 + _ ≤ _; omega
  · rw [low, low]; show 1 + ((sizs [n] - 1) + 0) ≤ _; rw [sizs, sizs]; omega
  · rw [List.mem_singleton] at hp
    subst hp
    exact ⟨Nat.le_refl _, by show frmsZ [n] = true; rw [frmsZ, frmsZ, hf]; rfl, rfl⟩
  · rw [left, left]; show 2 * sizs [n] + 1 + 0 ≤ _; rw [sizs, sizs]; omega
theorem fin_first (n : Nz) : fin [first n] [[]] = compP n := by
  rw [fin, fin]
  show lazyP [n] 0 [[]] = _
  rw [lazyP, lazyP]; rfl

end Go.Proofs.YtpphkaolonjjdaaDoor.Cmc
