/- Lists of texts in memory: what Join, Strip, Same and the document's Split, Join, Strip answer. -/
import Derived.WalkKit
import Derived.WalkSpells
import Derived.OwnWalk
import Derived.IntWalk
import Derived.Below
import Derived.Lib.Hide
import Derived.Lib.AppendStr
import Derived.Laws.IdiomStrings
import Derived.Deep.AppendLies
import Derived.Deep.QuietTactic
import Derived.BigQuiet
import Derived.Maps.AppendAt
import Derived.Test.YtaadhkfhjcaglaaShelf
import Derived.Test.YtaadhkfhjcaglaaCut
namespace Go.Proofs.Ytaadhkfhjcaglaa.Lists
open Go.RowKit Go.Proofs.Ytaadhkfhjcaglaa.Pure Go.Proofs.Ytaadhkfhjcaglaa.Ends

theorem addr_add (b o j : Nat) : (⟨b, o, none⟩ : Addr).add j = ⟨b, o + j, none⟩ := by
  unfold Addr.add
  by_cases h : j = 0 <;> simp [h]

/-- a slice of the texts xs: its address and its capacity -/
def SlIs (w : World) (A : Option Addr) (c : Nat) (xs : List ByteArray) : Prop :=
  xs.length ≤ c ∧ (xs = [] ∨ ∃ b o, A = some ⟨b, o, none⟩ ∧ b < w.heap.size ∧ ∀ j x, xs[j]? = some x → w.cell? ⟨b, o + j, none⟩ = some (.string x))

theorem SlIs.below {w w' : World} {A : Option Addr} {c : Nat} {xs : List ByteArray} (h : SlIs w A c xs) (hb : Below w.heap.size w w') : SlIs w' A c xs := by
  refine ⟨h.1, ?_⟩
  rcases h.2 with h0 | ⟨b, o, rfl, hlt, hc⟩
  · exact .inl h0
  · exact .inr ⟨b, o, rfl, Nat.lt_of_lt_of_le hlt hb.size, fun j x hx => (hb.cell (p := ⟨b, o + j, none⟩) hlt).trans (hc j x hx)⟩

theorem slIs_of_own {w : World} {base e : Nat} {v : Value} {xs : List ByteArray} (h : w.ownsRow base e 1 v xs.length (xs.map Value.string)) :
    ∃ A c, v = .slice A xs.length c ∧ SlIs w A c xs := by
  have hcells : ∀ g, v.ownBlock = some g → ∀ j u, (xs.map Value.string)[j]? = some u → w.cell? ((⟨g, 0, none⟩ : Addr).add j) = some u := fun g hg => h.cells (g := g) hg
  rcases h.2 with ⟨rfl, hn⟩ | ⟨g, cap, cur, rfl, _, hg, hn, _, _, _⟩
  · exact ⟨none, 0, by rw [hn], by omega, .inl (List.eq_nil_of_length_eq_zero hn)⟩
  · refine ⟨_, cap, rfl, hn, .inr ⟨g, 0, rfl, (Array.getElem?_eq_some_iff.1 hg).1, fun j x hx => ?_⟩⟩
    rw [← addr_add]
    exact hcells g rfl j _ (by rw [List.getElem?_map, hx]; rfl)

/-- a slice of the numbers zs -/
def IntIs (w : World) (A : Option Addr) (n c : Nat) (zs : List Int) : Prop :=
  zs.length = n ∧ n ≤ c ∧ (∀ z ∈ zs, (Lit.int .i64 z).wf = true) ∧ (zs = [] ∨ ∃ b o, A = some ⟨b, o, none⟩ ∧ b < w.heap.size ∧ ∀ j z, zs[j]? = some z → w.cell? ⟨b, o + j, none⟩ = some (.int .i64 z))
theorem IntIs.at_ {w : World} {A : Option Addr} {n c k : Nat} {zs : List Int} (h : IntIs w A n c zs) (hk : k < n) :
    ∃ b o z, A = some ⟨b, o, none⟩ ∧ (Lit.int .i64 z).wf = true ∧ ∀ W, Below w.heap.size w W → W.cell? ⟨b, o + k, none⟩ = some (.int .i64 z) := by
  have hl : k < zs.length := by have := h.1; omega
  rcases h.2.2.2 with h0 | ⟨b, o, rfl, hb, hc⟩
  · rw [h0] at hl; exact absurd hl (Nat.not_lt_zero _)
  · exact ⟨b, o, zs[k], rfl, h.2.2.1 _ (List.getElem_mem hl), fun W hW => (hW.cell (p := ⟨b, o + k, none⟩) hb).trans (hc k _ (List.getElem?_eq_getElem hl))⟩

/-- the program's Split, as a list of texts -/
theorem split_is (s : ByteArray) (w : World) (hs : s.size ≤ 1099511627776) :
    Calls Try.prog 9 #[.string s] w fun e W' => ∃ A c, e = .returned (.slice A (wordsB s).length c) ∧ SlIs W' A c (wordsB s) ∧ Below w.heap.size w W' :=
  (Cut.split_any s w hs).mono fun e W' ⟨v, he, hr, hb⟩ => by
    obtain ⟨A, c, rfl, h⟩ := slIs_of_own hr
    exact ⟨A, c, he, h, hb⟩

set_option maxHeartbeats 400000 in
/-- the program's Join, by what the library's answers -/
theorem join_core (A : Option Addr) (n c : Nat) (j : ByteArray) (w : World)
    (hJ : Calls Try.prog 23 #[.slice A n c, .string ⟨#[32]⟩] w fun e W' => e = .returned (.string j) ∧ Below w.heap.size w W') :
    Calls Try.prog 11 #[.slice A n c] w fun e W' => e = .returned (.string j) ∧ Below w.heap.size w W' := by
  go_enter Try.func11, Try.ntmps11
  go_wp2_with fail
  refine hJ.mono ?_
  rintro e w' ⟨rfl, hb⟩
  go_wp2
  go_ret
  exact ⟨rfl, hb⟩
theorem libJoin_is (A : Option Addr) (c : Nat) (xs : List ByteArray) (w : World) (h : SlIs w A c xs) (hN : xs.length ≤ 140737488355328) (hlen : (Lib.join (xs.map (·.data.toList)) [32]).length ≤ 140737488355328) :
    Calls Try.prog 23 #[.slice A xs.length c, .string ⟨#[32]⟩] w fun e W' => e = .returned (.string (joinB xs)) ∧ Below w.heap.size w W' := by
  have e1 : (⟨#[32]⟩ : ByteArray).data.toList = [32] := rfl
  rcases h.2 with h0 | ⟨b, o, rfl, hlt, hc⟩
  · subst h0
    refine (Try.strings_Join_none A c ⟨#[32]⟩ w).mono ?_
    rintro e W' ⟨he, hw⟩
    rw [hw]
    exact ⟨by rw [he, joinB]; rfl, Below.refl _ _⟩
  · refine (Try.strings_Join b o c xs ⟨#[32]⟩ w hc hlt hN h.1 (by rw [e1]; exact hlen)).mono ?_
    rintro e W' ⟨he, hw⟩
    exact ⟨by rw [he, joinB, e1]; rfl, hw⟩
/-- the program's Join -/
theorem join_is (A : Option Addr) (c : Nat) (xs : List ByteArray) (w : World) (h : SlIs w A c xs) (hN : xs.length ≤ 140737488355328) (hlen : (Lib.join (xs.map (·.data.toList)) [32]).length ≤ 140737488355328) :
    Calls Try.prog 11 #[.slice A xs.length c] w fun e W' => e = .returned (.string (joinB xs)) ∧ Below w.heap.size w W' :=
  join_core A xs.length c (joinB xs) w (libJoin_is A c xs w h hN hlen)

theorem join_n (A : Option Addr) (n c : Nat) (xs : List ByteArray) (w : World) (hn : xs.length = n) (h : SlIs w A c xs) (hN : n ≤ 140737488355328) (hlen : (Lib.join (xs.map (·.data.toList)) [32]).length ≤ 140737488355328) :
    Calls Try.prog 11 #[.slice A n c] w fun e W' => e = .returned (.string (joinB xs)) ∧ Below w.heap.size w W' := by
  subst hn
  exact join_is A c xs w h hN hlen

set_option maxHeartbeats 400000 in
/-- the program's Strip -/
theorem strip_is (s : ByteArray) (w : World) (hs : s.size ≤ 1099511627776) :
    Calls Try.prog 13 #[.string s] w fun e W' => e = .returned (.string (stripB s)) ∧ Below w.heap.size w W' := by
  have h1 := wordsB_length s
  have h2 := join_words s
  have HT : Hid (joinB (wordsB s) = stripB s) := rfl
  go_enter Try.func13, Try.ntmps13
  go_wp2_with fail
  refine (split_is s _ hs).mono ?_
  rintro e w1 ⟨A, c, rfl, hl, hb⟩
  have HB := Lib.hid hb
  clear hb
  go_wp2_with fail
  refine (join_is A c _ _ hl (by omega) (by omega)).mono ?_
  rintro e w2 ⟨rfl, hb2⟩
  go_wp2
  go_ret
  exact ⟨ret_str HT.out, HB.out.trans (hb2.mono HB.out.size)⟩

end Go.Proofs.Ytaadhkfhjcaglaa.Lists
