/- Lists of texts in memory, and what the document's Same answers. -/
import Derived.WalkKit
import Derived.WalkSpells
import Derived.OwnWalk
import Derived.IntWalk
import Derived.Below
import Derived.Lib.Hide
import Derived.Lib.AppendStr
import Derived.Laws.IdiomStrings
import Derived.Deep.AppendLies
import Derived.Deep.OwnRows
import Derived.Deep.QuietTactic
import Derived.BigQuiet
import Derived.Maps.AppendAt
import Derived.Test.YtpphkaolonjjdaaDoorProg
namespace Go.Proofs.YtpphkaolonjjdaaDoor.Strs
open Go.RowKit

theorem addr_add (b o j : Nat) : (⟨b, o, none⟩ : Addr).add j = ⟨b, o + j, none⟩ := by
  unfold Addr.add
  by_cases h : j = 0 <;> simp [h]

/-- a slice of the texts xs: its address and its capacity -/
def SlIs (w : World) (A : Option Addr) (c : Nat) (xs : List ByteArray) : Prop :=
  xs.length ≤ c ∧ (xs = [] ∨ ∃ b o, A = some ⟨b, o, none⟩ ∧ b < w.heap.size ∧ ∀ j x, xs[j]? = some x → w.cell? ⟨b, o + j, none⟩ = some (.string x))

theorem SlIs.below {w w' : World} {A : Option Addr} {c : Nat} {xs : List ByteArray} (h : SlIs w A c xs) (hb : Below w.heap.size w w') : SlIs w' A c xs := by
  refine ⟨h.1, ?_⟩
  rcases h.2 with h0 | ⟨b, o, rfl, hlt, hc⟩
  · exact .inl h0
  · exact .inr ⟨b, o, rfl, Nat.lt_of_lt_of_le hlt hb.size, fun j x hx => (hb.cell (p := ⟨b, o + j, none⟩) hlt).trans (hc j x hx)⟩

/-- the text at a place, also later -/
theorem SlIs.at_ {w : World} {A : Option Addr} {c k : Nat} {xs : List ByteArray} (h : SlIs w A c xs) {x : ByteArray} (hx : xs[k]? = some x) :
    ∃ b o, A = some ⟨b, o, none⟩ ∧ b < w.heap.size ∧ ∀ W, Below w.heap.size w W → W.cell? ⟨b, o + k, none⟩ = some (.string x) := by
  rcases h.2 with h0 | ⟨b, o, rfl, hb, hc⟩
  · rw [h0] at hx; cases hx
  · exact ⟨b, o, rfl, hb, fun W hW => (hW.cell (p := ⟨b, o + k, none⟩) hb).trans (hc k _ hx)⟩

theorem slIs_of_own {w : World} {base e : Nat} {v : Value} {n : Nat} {xs : List ByteArray} (hn : xs.length = n) (h : w.ownsRow base e 1 v n (xs.map Value.string)) :
    ∃ A c, v = .slice A n c ∧ SlIs w A c xs := by
  subst hn
  have hcells : ∀ g, v.ownBlock = some g → ∀ j u, (xs.map Value.string)[j]? = some u → w.cell? ((⟨g, 0, none⟩ : Addr).add j) = some u := fun g hg => h.cells (g := g) hg
  rcases h.2 with ⟨rfl, hn⟩ | ⟨g, cap, cur, rfl, _, hg, hn, _, _, _⟩
  · exact ⟨none, 0, by rw [hn], by omega, .inl (List.eq_nil_of_length_eq_zero hn)⟩
  · refine ⟨_, cap, rfl, hn, .inr ⟨g, 0, rfl, (Array.getElem?_eq_some_iff.1 hg).1, fun j x hx => ?_⟩⟩
    rw [← addr_add]
    exact hcells g rfl j _ (by rw [List.getElem?_map, hx]; rfl)

/-- a row made by the call, as a slice of texts -/
theorem slIs_of_row {w : World} {g t n : Nat} {f : Nat → Value} {ys : List ByteArray} (hl : ys.length = n) (h : w.rowIs g t n f) (hf : ∀ j x, ys[j]? = some x → f j = .string x) :
    SlIs w (some ⟨g, 0, none⟩) n ys := by
  refine ⟨by omega, .inr ⟨g, 0, rfl, h.lt, fun j x hx => ?_⟩⟩
  have hj := (List.getElem?_eq_some_iff.1 hx).1
  rw [Nat.zero_add, h.cell (by omega), hf j x hx]

theorem infoString : (Tryd.prog.info? 9).map (fun i => (i.zero, i.size, i.bytes)) = some (some (.string .empty), 1, 16) := by kernel_rfl
theorem ret_int {k : IntKind} {a b : Int} (h : a = b) : Ending.returned (.int k a) = .returned (.int k b) := by rw [h]
theorem ret_str {a b : ByteArray} (h : a = b) : Ending.returned (.string a) = .returned (.string b) := by rw [h]
theorem ret_bool {a b : Bool} (h : a = b) : Ending.returned (.bool a) = .returned (.bool b) := by rw [h]

theorem below_drewN {B : Nat} {a w : World} (h : Below B a w) (n : Nat) : Below B a (w.drewN n) := ⟨h.os, h.tape, h.output, h.size, h.block⟩
theorem below_append {B e n : Nat} {w wr w1 : World} {v : Value} {xs : List Value} {o : Obj} (hB : Below B w wr) (hBs : B ≤ wr.heap.size) (hown : wr.ownsRow B e 1 v n xs) (hg : (wr.alloc o).grownBy w1 v.ownBlock) : Below B w w1 :=
  (hB.alloc hBs o).grown hg (by simp; omega) (fun k e => (hown.lt k e).1)
theorem below_append0 {B e n : Nat} {w wr w1 : World} {v : Value} {xs : List Value} (hB : Below B w wr) (hBs : B ≤ wr.heap.size) (hown : wr.ownsRow B e 1 v n xs) (hg : wr.grownBy w1 v.ownBlock) : Below B w w1 :=
  hB.grown hg hBs (fun k e => (hown.lt k e).1)


end Go.Proofs.YtpphkaolonjjdaaDoor.Strs
