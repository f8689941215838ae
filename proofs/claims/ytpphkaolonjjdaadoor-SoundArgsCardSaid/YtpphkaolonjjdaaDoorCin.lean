/- Codes in memory: a row of slices of instructions (four cells each), each with a row of numbers. -/
import Derived.Test.YtpphkaolonjjdaaDoorNz
import Derived.Test.YtpphkaolonjjdaaDoorCpl
namespace Go.Proofs.YtpphkaolonjjdaaDoor.Cin
open Go Go.RowKit Go.Proofs.YtpphkaolonjjdaaDoor.Spl Go.Proofs.YtpphkaolonjjdaaDoor.Cpl
open Go.Proofs.YtpphkaolonjjdaaDoor.Pure (bs)

/-- numbers, in a block of S -/
def NumRow (S : Nat → Prop) (w : World) (A : Option Addr) (l : List Int) : Prop := l = [] ∨ ∃ b o, A = some ⟨b, o, none⟩ ∧ b < w.heap.size ∧ S b ∧ ∀ j z, l[j]? = some z → w.cell? ⟨b, o + j, none⟩ = some (.int .i64 z)
/-- an instruction, the j-th of a row -/
def OpAt (S : Nat → Prop) (w : World) (b o j : Nat) (x : Opp) : Prop := ∃ A c, x.l.length ≤ c ∧ NumRow S w A x.l ∧ w.cell? ⟨b, o + j * 4, none⟩ = some (.int .i64 x.k) ∧ w.cell? ⟨b, o + j * 4 + 1, none⟩ = some (.int .i64 x.n) ∧ w.cell? ⟨b, o + j * 4 + 2, none⟩ = some (.string (bs x.s)) ∧ w.cell? ⟨b, o + j * 4 + 3, none⟩ = some (.slice A x.l.length c)
/-- instructions, in a block of S -/
def OpsRow (S : Nat → Prop) (w : World) (A : Option Addr) (l : List Opp) : Prop := l = [] ∨ ∃ b o, A = some ⟨b, o, none⟩ ∧ b < w.heap.size ∧ S b ∧ ∀ j x, l[j]? = some x → OpAt S w b o j x
/-- a block of instructions, the j-th of a row -/
def BlkAt (S : Nat → Prop) (w : World) (b o j : Nat) (l : List Opp) : Prop := ∃ A c, l.length ≤ c ∧ OpsRow S w A l ∧ w.cell? ⟨b, o + j, none⟩ = some (.slice A l.length c)
/-- blocks of instructions, in a block of S -/
def BlkRow (S : Nat → Prop) (w : World) (A : Option Addr) (B : List (List Opp)) : Prop := B = [] ∨ ∃ b o, A = some ⟨b, o, none⟩ ∧ b < w.heap.size ∧ S b ∧ ∀ j l, B[j]? = some l → BlkAt S w b o j l
/-- a code -/
def CodeIn (S : Nat → Prop) (w : World) (v : Value) (B : List (List Opp)) : Prop := ∃ A c, v = .agg #[.slice A B.length c] ∧ B.length ≤ c ∧ BlkRow S w A B

section
variable {S S' : Nat → Prop} {w W : World} (hs : ∀ b, S b → b < w.heap.size → S' b ∧ W.heap[b]? = w.heap[b]?) (hz : w.heap.size ≤ W.heap.size)
include hs hz
theorem NumRow.move {A : Option Addr} {l : List Int} (h : NumRow S w A l) : NumRow S' W A l := by
  rcases h with h | ⟨b, o, h1, h2, h3, h4⟩
  · exact .inl h
  · exact .inr ⟨b, o, h1, Nat.lt_of_lt_of_le h2 hz, (hs b h3 h2).1, fun j z hj => (World.cell?_of_block (a := ⟨b, o + j, none⟩) (hs b h3 h2).2).trans (h4 j z hj)⟩
theorem OpAt.move {b o j : Nat} {x : Opp} (h : OpAt S w b o j x) (hb : W.heap[b]? = w.heap[b]?) : OpAt S' W b o j x := by
  obtain ⟨A, c, h1, h2, h3, h4, h5, h6⟩ := h
  exact ⟨A, c, h1, h2.move hs hz, (World.cell?_of_block (a := ⟨b, _, none⟩) hb).trans h3, (World.cell?_of_block (a := ⟨b, _, none⟩) hb).trans h4, (World.cell?_of_block (a := ⟨b, _, none⟩) hb).trans h5, (World.cell?_of_block (a := ⟨b, _, none⟩) hb).trans h6⟩
theorem OpsRow.move {A : Option Addr} {l : List Opp} (h : OpsRow S w A l) : OpsRow S' W A l := by
  rcases h with h | ⟨b, o, h1, h2, h3, h4⟩
  · exact .inl h
  · exact .inr ⟨b, o, h1, Nat.lt_of_lt_of_le h2 hz, (hs b h3 h2).1, fun j x hj => (h4 j x hj).move hs hz (hs b h3 h2).2⟩
theorem BlkAt.move {b o j : Nat} {l : List Opp} (h : BlkAt S w b o j l) (hb : W.heap[b]? = w.heap[b]?) : BlkAt S' W b o j l := by
  obtain ⟨A, c, h1, h2, h3⟩ := h
  exact ⟨A, c, h1, h2.move hs hz, (World.cell?_of_block (a := ⟨b, _, none⟩) hb).trans h3⟩
theorem BlkRow.move {A : Option Addr} {B : List (List Opp)} (h : BlkRow S w A B) : BlkRow S' W A B := by
  rcases h with h | ⟨b, o, h1, h2, h3, h4⟩
  · exact .inl h
  · exact .inr ⟨b, o, h1, Nat.lt_of_lt_of_le h2 hz, (hs b h3 h2).1, fun j l hj => (h4 j l hj).move hs hz (hs b h3 h2).2⟩
theorem CodeIn.move {v : Value} {B : List (List Opp)} (h : CodeIn S w v B) : CodeIn S' W v B := by
  obtain ⟨A, c, h1, h2, h3⟩ := h
  exact ⟨A, c, h1, h2, h3.move hs hz⟩
end
theorem CodeIn.on {S : Nat → Prop} {w W : World} {v : Value} {B : List (List Opp)} (h : CodeIn S w v B) (hb : Below w.heap.size w W) : CodeIn S W v B :=
  h.move (fun b hS hl => ⟨hS, hb.block b hl⟩) hb.size
theorem BlkRow.on {S : Nat → Prop} {w W : World} {A : Option Addr} {B : List (List Opp)} (h : BlkRow S w A B) (hb : Below w.heap.size w W) : BlkRow S W A B :=
  h.move (fun b hS hl => ⟨hS, hb.block b hl⟩) hb.size
theorem OpsRow.on {S : Nat → Prop} {w W : World} {A : Option Addr} {l : List Opp} (h : OpsRow S w A l) (hb : Below w.heap.size w W) : OpsRow S W A l :=
  h.move (fun b hS hl => ⟨hS, hb.block b hl⟩) hb.size

/-- the j-th block -/
theorem BlkRow.get {S : Nat → Prop} {w : World} {A : Option Addr} {B : List (List Opp)} (h : BlkRow S w A B) {j : Nat} {l : List Opp} (hj : B[j]? = some l) : ∃ b o, A = some ⟨b, o, none⟩ ∧ b < w.heap.size ∧ BlkAt S w b o j l := by
  rcases h with h | ⟨b, o, h1, h2, _, h4⟩
  · rw [h] at hj; cases hj
  · exact ⟨b, o, h1, h2, h4 j l hj⟩
/-- the j-th instruction -/
theorem OpsRow.get {S : Nat → Prop} {w : World} {A : Option Addr} {l : List Opp} (h : OpsRow S w A l) {j : Nat} {x : Opp} (hj : l[j]? = some x) : ∃ b o, A = some ⟨b, o, none⟩ ∧ b < w.heap.size ∧ OpAt S w b o j x := by
  rcases h with h | ⟨b, o, h1, h2, _, h4⟩
  · rw [h] at hj; cases hj
  · exact ⟨b, o, h1, h2, h4 j x hj⟩
/-- the j-th number -/
theorem NumRow.get {S : Nat → Prop} {w : World} {A : Option Addr} {l : List Int} (h : NumRow S w A l) {j : Nat} {z : Int} (hj : l[j]? = some z) : ∃ b o, A = some ⟨b, o, none⟩ ∧ w.cell? ⟨b, o + j, none⟩ = some (.int .i64 z) := by
  rcases h with h | ⟨b, o, h1, h2, _, h4⟩
  · rw [h] at hj; cases hj
  · exact ⟨b, o, h1, h4 j z hj⟩

end Go.Proofs.YtpphkaolonjjdaaDoor.Cin
