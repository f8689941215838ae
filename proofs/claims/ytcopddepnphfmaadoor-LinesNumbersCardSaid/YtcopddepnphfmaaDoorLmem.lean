/- Lists of logical lines in memory; logical lines reckoned out; the document's example of lines. -/
import Derived.Test.YtcopddepnphfmaaDoorLalls
namespace Go.Proofs.YtcopddepnphfmaaDoor.Lmem
open Go.RowKit Go.Proofs.YtcopddepnphfmaaDoor.Pure Go.Proofs.YtcopddepnphfmaaDoor.Ends Go.Proofs.YtcopddepnphfmaaDoor.Ln Go.Proofs.YtcopddepnphfmaaDoor.Lraw Go.Proofs.YtcopddepnphfmaaDoor.Lbare Go.Proofs.YtcopddepnphfmaaDoor.Leach Go.Proofs.YtcopddepnphfmaaDoor.Lall Go.Proofs.YtcopddepnphfmaaDoor.Lalls
open Go.Proofs.YtcopddepnphfmaaDoor.Strs (addr_add)

/-- a slice of the lines ls -/
def LlIs (w : World) (A : Option Addr) (c : Nat) (ls : List LL) : Prop :=
  ls.length ≤ c ∧ (ls = [] ∨ ∃ b, A = some ⟨b, 0, none⟩ ∧ b < w.heap.size ∧ ∀ (j : Nat) x, ls[j]? = some x → w.cell? ⟨b, j * 3, none⟩ = some (.string (bs x.1)) ∧ w.cell? ⟨b, j * 3 + 1, none⟩ = some (.int .i64 (x.2.1 : Int)) ∧ w.cell? ⟨b, j * 3 + 2, none⟩ = some (.bool x.2.2))
theorem cellsL_at (ls : List LL) : ∀ (j : Nat) (x : LL), ls[j]? = some x → (cellsL ls)[j * 3]? = some (.string (bs x.1)) ∧ (cellsL ls)[j * 3 + 1]? = some (.int .i64 (x.2.1 : Int)) ∧ (cellsL ls)[j * 3 + 2]? = some (.bool x.2.2) := by
  induction ls with
  | nil => intro j x h; cases h
  | cons y r ih =>
    intro j x h
    cases j with
    | zero => cases h; exact ⟨rfl, rfl, rfl⟩
    | succ j =>
      have h' : r[j]? = some x := by simpa using h
      obtain ⟨a, b, c⟩ := ih j x h'
      have e : ∀ i, (cellsL (y :: r))[(j + 1) * 3 + i]? = (cellsL r)[j * 3 + i]? := fun i => by
        rw [cellsL, show (j + 1) * 3 + i = (j * 3 + i) + 3 by omega]
        exact List.getElem?_append_right (l₁ := cells1 y) (by simp [cells1])
      exact ⟨(e 0).trans a, (e 1).trans b, (e 2).trans c⟩
theorem llIs_of_own {w : World} {base : Nat} {v : Value} {n : Nat} {ls : List LL} (hn : ls.length = n) (h : w.ownsRow base 26 3 v n (cellsL ls)) : ∃ A c, v = .slice A n c ∧ LlIs w A c ls := by
  subst hn
  have hcells : ∀ g, v.ownBlock = some g → ∀ j u, (cellsL ls)[j]? = some u → w.cell? ((⟨g, 0, none⟩ : Addr).add j) = some u := fun g hg => h.cells (g := g) hg
  rcases h.2 with ⟨rfl, hn⟩ | ⟨g, cap, cur, rfl, _, hg, hn, _, _, _⟩
  · exact ⟨none, 0, by rw [hn], by omega, .inl (List.eq_nil_of_length_eq_zero hn)⟩
  · have hz : ∀ (j : Nat) u, (cellsL ls)[j]? = some u → w.cell? ⟨g, j, none⟩ = some u := fun j u hu => by
      have := hcells g rfl j u hu
      rwa [addr_add, Nat.zero_add] at this
    exact ⟨_, cap, rfl, hn, .inr ⟨g, rfl, (Array.getElem?_eq_some_iff.1 hg).1, fun j x hx => by
      obtain ⟨a, b, c⟩ := cellsL_at ls j x hx
      exact ⟨hz _ _ a, hz _ _ b, hz _ _ c⟩⟩⟩
theorem LlIs.below {w w' : World} {A : Option Addr} {c : Nat} {ls : List LL} (h : LlIs w A c ls) (hb : Below w.heap.size w w') : LlIs w' A c ls := by
  refine ⟨h.1, ?_⟩
  rcases h.2 with h0 | ⟨b, rfl, hlt, hc⟩
  · exact .inl h0
  · exact .inr ⟨b, rfl, Nat.lt_of_lt_of_le hlt hb.size, fun j x hx => ⟨(hb.cell (p := ⟨b, j * 3, none⟩) hlt).trans (hc j x hx).1, (hb.cell (p := ⟨b, j * 3 + 1, none⟩) hlt).trans (hc j x hx).2.1, (hb.cell (p := ⟨b, j * 3 + 2, none⟩) hlt).trans (hc j x hx).2.2⟩⟩
theorem LlIs.at_ {w : World} {A : Option Addr} {c k : Nat} {ls : List LL} (h : LlIs w A c ls) {x : LL} (hx : ls[k]? = some x) :
    ∃ b, A = some ⟨b, 0, none⟩ ∧ b < w.heap.size ∧ ∀ W, Below w.heap.size w W → W.cell? ⟨b, k * 3, none⟩ = some (.string (bs x.1)) ∧ W.cell? ⟨b, k * 3 + 1, none⟩ = some (.int .i64 (x.2.1 : Int)) ∧ W.cell? ⟨b, k * 3 + 2, none⟩ = some (.bool x.2.2) := by
  rcases h.2 with h0 | ⟨b, rfl, hb, hc⟩
  · rw [h0] at hx; cases hx
  · exact ⟨b, rfl, hb, fun W hW => ⟨(hW.cell (p := ⟨b, k * 3, none⟩) hb).trans (hc k _ hx).1, (hW.cell (p := ⟨b, k * 3 + 1, none⟩) hb).trans (hc k _ hx).2.1, (hW.cell (p := ⟨b, k * 3 + 2, none⟩) hb).trans (hc k _ hx).2.2⟩⟩
/-- the program's All, its list in memory -/
theorem all_sl (s : ByteArray) (w : World) (hs : s.size ≤ 1000000) :
    Calls Tryd.prog 14 #[.string s] w fun e W' => ∃ A c, e = .returned (.slice A (allL s.data.toList 1).length c) ∧ LlIs W' A c (allL s.data.toList 1) ∧ Below w.heap.size w W' := by
  refine (all_is s w hs).mono ?_
  rintro e W' ⟨v, rfl, hr, hb⟩
  obtain ⟨A, c, rfl, hl⟩ := llIs_of_own rfl hr
  exact ⟨A, c, rfl, hl, hb⟩

/-! ### reckoned out -/
def linesF : Nat → List UInt8 → List Ls
  | 0, _ => []
  | n + 1, l => if l.isEmpty then [] else (lineOf l, restOf l) :: linesF n (restOf l)
theorem linesF_is (n : Nat) : ∀ l : List UInt8, l.length ≤ n → linesF n l = lines2 l := by
  induction n with
  | zero => intro l h; rw [List.eq_nil_of_length_eq_zero (Nat.le_zero.1 h), lines2_nil]; rfl
  | succ n ih =>
    intro l h
    by_cases hl : l = []
    · rw [hl, lines2_nil]; rfl
    · have h1 := rest_length hl
      rw [linesF, if_neg (by simpa using hl), ih _ (by omega), lines2_cons hl]
def piecesF (l : List UInt8) : List Ls := upto (linesF l.length l)
theorem piecesF_is (l : List UInt8) : piecesF l = pieces l := by unfold piecesF pieces; rw [linesF_is _ l (Nat.le_refl _)]
def textF (l : List UInt8) : List UInt8 := if isTab (lineOf l) then (textR true ((piecesF l).map (·.1))).drop 1 else bare (textR false ((piecesF l).map (·.1)))
def leftF (l : List UInt8) : List UInt8 := ((piecesF l).getLast?.map (·.2)).getD []
def allF : Nat → List UInt8 → Nat → List LL
  | 0, _, _ => []
  | n + 1, l, k => if l.isEmpty then [] else (textF l, k, isTab (lineOf l)) :: allF n (leftF l) (k + (piecesF l).length)
theorem allF_is (n : Nat) : ∀ (l : List UInt8) (k : Nat), l.length ≤ n → allF n l k = allL l k := by
  induction n with
  | zero => intro l k h; rw [List.eq_nil_of_length_eq_zero (Nat.le_zero.1 h), allL_nil]; rfl
  | succ n ih =>
    intro l k h
    by_cases hl : l = []
    · rw [hl, allL_nil]; rfl
    · have h1 := (leftL_suffix hl).2
      have e1 : textF l = textL l := by unfold textF textL; rw [piecesF_is]
      have e2 : leftF l = leftL l := by unfold leftF leftL; rw [piecesF_is]
      rw [allF, if_neg (by simpa using hl), e1, e2, piecesF_is, ih _ _ (by omega), allL_cons hl]

def exB : ByteArray := ⟨#[97, 32, 92, 10, 32, 32, 98, 32, 35, 32, 99, 10, 9, 120, 10]⟩
theorem ex_val : allL exB.data.toList 1 = [([97, 32, 98, 32], 1, false), ([120], 3, true)] := by
  rw [← allF_is 15 _ 1 (by decide)]; kernel_rfl
theorem raw_val : lineOf (dropT ⟨#[97, 98, 10, 99, 100]⟩ 3) = [99, 100] ∧ restOf (dropT ⟨#[97, 98, 10, 99, 100]⟩ 3) = [] := by decide
theorem bare_val : bare [97, 92, 35, 98, 35, 99] = [97, 35, 98] := by decide

theorem raw_lit (w : World) : Calls Tryd.prog 9 #[.string ⟨#[97, 98, 10, 99, 100]⟩, .int .i64 3] w fun e W' => e = .returned (.tuple #[.string ⟨#[99, 100]⟩, .int .i64 5]) ∧ Below w.heap.size w W' := by
  have h := raw_at ⟨#[97, 98, 10, 99, 100]⟩ 3 w (by decide) (by decide)
  rw [raw_val.1, raw_val.2] at h
  exact h
theorem bare_lit (w : World) : Calls Tryd.prog 16 #[.string ⟨#[97, 92, 35, 98, 35, 99]⟩] w fun e W' => e = .returned (.string ⟨#[97, 35, 98]⟩) ∧ Below w.heap.size w W' := by
  have h := bare_is ⟨#[97, 92, 35, 98, 35, 99]⟩ w (by decide)
  have e : bare (⟨#[97, 92, 35, 98, 35, 99]⟩ : ByteArray).data.toList = [97, 35, 98] := bare_val
  rw [e] at h
  exact h

set_option maxRecDepth 100000 in
set_option maxHeartbeats 2000000 in
/-- the document's example -/
theorem awake_is (w : World) : Calls Tryd.prog 8 #[] w fun e W' => e = .returned (.bool true) ∧ Below w.heap.size w W' := by
  have HA := Lib.hid (fun W => all_sl exB W (by decide))
  rw [ex_val] at HA
  go_enter Tryd.func8, Tryd.ntmps8
  go_wp2_with fail
  refine (HA.out _).mono ?_
  rintro e w1 ⟨A, c, rfl, hl, hb1⟩
  have B1 := Lib.hid hb1
  have HL := Lib.hid hl
  clear hl hb1 HA
  go_wp2_with fail
  refine (raw_lit _).mono ?_
  rintro e w2 ⟨rfl, hb2⟩
  have B2 := Lib.hid (B1.out.trans (hb2.mono B1.out.size))
  obtain ⟨b, rfl, hbl, hc⟩ := HL.out.at_ (k := 0) rfl
  obtain ⟨b', hA', _, hc'⟩ := HL.out.at_ (k := 1) rfl
  cases hA'
  obtain ⟨k0, k1, k2⟩ := hc w2 hb2
  obtain ⟨k3, k4, k5⟩ := hc' w2 hb2
  rw [Nat.zero_mul] at k0 k1 k2
  rw [Nat.one_mul] at k3 k4 k5
  rw [Nat.zero_add] at k1 k2
  rw [show bs ([97, 32, 98, 32], 1, false).1 = (⟨#[97, 32, 98, 32]⟩ : ByteArray) from rfl] at k0
  rw [show bs ([120], 3, true).1 = (⟨#[120]⟩ : ByteArray) from rfl] at k3
  clear hc hc' hb2 HL
  go_wp2_with fail
  refine (bare_lit _).mono ?_
  rintro e w3 ⟨rfl, hb3⟩
  have B3 := Lib.hid (B2.out.trans (hb3.mono B2.out.size))
  clear hb3 k0 k1 k2 k3 k4 k5
  go_wp2
  go_ret
  exact ⟨rfl, B3.out⟩

end Go.Proofs.YtcopddepnphfmaaDoor.Lmem
