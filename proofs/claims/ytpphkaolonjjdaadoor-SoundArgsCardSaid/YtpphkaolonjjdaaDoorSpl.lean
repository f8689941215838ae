/- References read, on lists of bytes (no program): the document's Parse as a plain function. -/
import Derived.KernelRfl
import Derived.Test.YtpphkaolonjjdaaDoorPure
import Derived.Test.YtpphkaolonjjdaaDoorFpl
namespace Go.Proofs.YtpphkaolonjjdaaDoor.Spl
open Go.Proofs.YtpphkaolonjjdaaDoor.Fpl

abbrev T := List UInt8
/-- an expansion: its kind, its text, what is below it -/
inductive Nod where
  | mk (k : Nat) (s : T) (l : List Nod)
/-- what may be wrong: it does not end, too few arguments, too deep -/
inductive Er where
  | form
  | few
  | deep
inductive Rd (α : Type) where
  | bad (e : Er)
  | ok (a : α)
def Rd.map {α β : Type} (f : α → β) : Rd α → Rd β
  | .bad e => .bad e
  | .ok a => .ok (f a)

def shutOf (o : UInt8) : UInt8 := if o = 123 then 125 else 41
/-- where the bracket is closed that is open d deep -/
def endsP (o c : UInt8) : Nat → T → Option Nat
  | _, [] => none
  | d, b :: r =>
    if b = o then (endsP o c (d + 1) r).map (· + 1)
    else if b = c then (if d ≤ 1 then some 0 else (endsP o c (d - 1) r).map (· + 1))
    else (endsP o c d r).map (· + 1)
/-- a call's arguments: d brackets open, m more may be cut off (none: as many as there are) -/
def argsP (o c : UInt8) : Nat → Option Nat → T → T → List T
  | _, _, cur, [] => [cur]
  | d, m, cur, b :: r =>
    if b = o then argsP o c (d + 1) m (cur ++ [b]) r
    else if b = c then argsP o c (d - 1) m (cur ++ [b]) r
    else if b = 44 ∧ d = 0 ∧ m ≠ some 0 then cur :: argsP o c 0 (m.map (· - 1)) [] r
    else argsP o c d m (cur ++ [b]) r
def letB (b : UInt8) : Bool := (decide (97 ≤ b) && decide (b ≤ 122)) || b == 45
/-- the function that a text begins a call of, what is behind its name, and what it is -/
def nameP (s : T) : Option (T × T × Inf) :=
  match s.dropWhile letB, lookI tab (s.takeWhile letB) with
  | b :: r, some i => if Pure.isBl b then some (s.takeWhile letB, b :: r, i) else none
  | _, _ => none
/-- the first colon at which no bracket is open: what is ahead of it and behind it -/
def colonP : Nat → T → T → Option (T × T)
  | _, _, [] => none
  | d, cur, b :: r =>
    if b = 40 ∨ b = 123 then colonP (d + 1) (cur ++ [b]) r
    else if b = 41 ∨ b = 125 then colonP (d - 1) (cur ++ [b]) r
    else if b = 58 ∧ d = 0 then some (cur, r)
    else colonP d (cur ++ [b]) r
/-- the first = behind it -/
def equalP : Nat → T → T → Option (T × T)
  | _, _, [] => none
  | d, cur, b :: r =>
    if b = 40 ∨ b = 123 then equalP (d + 1) (cur ++ [b]) r
    else if b = 41 ∨ b = 125 then equalP (d - 1) (cur ++ [b]) r
    else if b = 61 ∧ d = 0 then some (cur, r)
    else equalP d (cur ++ [b]) r
def cutsP (s : T) : Option (T × T × T) :=
  match colonP 0 [] s with
  | none => none
  | some (a, r) => match equalP 0 [] r with
    | none => none
    | some (b, c) => some (a, b, c)

def flushP (acc : List Nod) (cur : T) : List Nod := if cur.isEmpty then acc else acc ++ [.mk 1 cur []]
def wholeP : List Nod → Nod
  | [] => .mk 1 [] []
  | [n] => n
  | l => .mk 5 [] l
/-- texts, each read -/
def listP (p : T → Rd Nod) : List T → Rd (List Nod)
  | [] => .ok []
  | s :: r => match p s with
    | .bad e => .bad e
    | .ok n => (listP p r).map (n :: ·)
/-- what stands between brackets -/
def refP (p : T → Rd Nod) (o : UInt8) (s : T) : Rd Nod :=
  match nameP s with
  | some (f, r, i) =>
    let l := argsP o (shutOf o) 0 (if i.mx = 0 then none else some (i.mx.toNat - 1)) [] (Pure.left r)
    if l.length < i.mn.toNat then .bad .few else (listP p l).map (.mk 4 f)
  | none => match cutsP s with
    | some (a, b, c) => (listP p [a, b, c]).map (.mk 3 [])
    | none => (listP p [s]).map (.mk 2 [])
/-- from the front on; n: at least as many as there are bytes -/
def scanP (p : UInt8 → T → Rd Nod) : Nat → List Nod → T → T → Rd (List Nod)
  | 0, acc, cur, _ => .ok (flushP acc cur)
  | _ + 1, acc, cur, [] => .ok (flushP acc cur)
  | n + 1, acc, cur, b :: r =>
    if b = 36 then
      match r with
      | [] => .ok (flushP acc (cur ++ [36]))
      | c :: r2 =>
        if c = 36 then scanP p n acc (cur ++ [36]) r2
        else if c = 40 ∨ c = 123 then
          match endsP c (shutOf c) 1 r2 with
          | none => .bad .form
          | some e => match p c (r2.take e) with
            | .bad x => .bad x
            | .ok m => scanP p n (flushP acc cur ++ [m]) [] (r2.drop (e + 1))
        else scanP p n (flushP acc cur ++ [.mk 2 [] [.mk 1 [c] []]]) [] r2
    else scanP p n acc (cur ++ [b]) r
/-- a text; m: so many references within one another at most -/
def parseP : Nat → T → Rd Nod
  | 0, s => (scanP (fun _ _ => .bad .deep) (s.length + 1) [] [] s).map wholeP
  | m + 1, s => (scanP (refP (parseP m)) (s.length + 1) [] [] s).map wholeP
/-- the document's Parse -/
def parse (s : T) : Rd Nod := parseP 40 s

end Go.Proofs.YtpphkaolonjjdaaDoor.Spl
