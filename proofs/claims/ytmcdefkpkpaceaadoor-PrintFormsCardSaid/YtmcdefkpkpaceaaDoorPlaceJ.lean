/- What the laws' own helpers answer: a number's place among n. -/
import Derived.WalkKit
import Derived.WalkSpells
import Derived.IntWalk
import Derived.Lib.Hide
import Derived.Test.YtmcdefkpkpaceaaDoorProg
import Derived.Test.YtmcdefkpkpaceaaDoorStrsJ
import Derived.Test.YtmcdefkpkpaceaaDoorKgdJ
namespace Go.Proofs.YtmcdefkpkpaceaaDoor.Place
open Go.RowKit

/-- any number as one from 0 to n - 1 -/
def place (v : Int) (n : Nat) : Nat := (v % (n : Int)).toNat
theorem place_lt (v : Int) (n : Nat) (h : 0 < n) : place v n < n := by
  have h1 := Int.emod_nonneg v (b := (n : Int)) (by omega)
  have h2 := Int.emod_lt_of_pos v (b := (n : Int)) (by omega)
  unfold place; omega
theorem place_cast (v : Int) (n : Nat) (h : 0 < n) : ((place v n : Nat) : Int) = v % (n : Int) := by
  have h1 := Int.emod_nonneg v (b := (n : Int)) (by omega)
  unfold place; omega
theorem ret_int {k : IntKind} {a b : Int} (h : a = b) : Ending.returned (.int k a) = .returned (.int k b) := by rw [h]

theorem tmod_two (v n : Int) (hn : 0 < n) : v.tmod n = v % n ∨ v.tmod n = v % n - n := by
  rw [Int.tmod_eq_emod]
  split
  · left; omega
  · right; omega
theorem neg_way (v : Int) (n : Nat) (hn : 0 < n) (hn2 : n ≤ 1000000) (h : v.tmod (n : Int) < 0) : wrap64 (v.tmod (n : Int) + (n : Int)) = ((place v n : Nat) : Int) := by
  have h1 := Int.emod_nonneg v (b := (n : Int)) (by omega)
  have h2 := Int.emod_lt_of_pos v (b := (n : Int)) (by omega)
  have h3 := place_cast v n hn
  rcases tmod_two v (n : Int) (by omega) with e | e
  · omega
  · rw [h3, e, IntWalk.wrap64_in] <;> omega
theorem pos_way (v : Int) (n : Nat) (hn : 0 < n) (h : 0 ≤ v.tmod (n : Int)) : v.tmod (n : Int) = ((place v n : Nat) : Int) := by
  have h2 := Int.emod_lt_of_pos v (b := (n : Int)) (by omega)
  have h3 := place_cast v n hn
  rcases tmod_two v (n : Int) (by omega) with e | e <;> omega

set_option maxHeartbeats 400000 in
/-- a number's place -/
theorem place_is (v : Int) (n : Nat) (w : World) (hn : 0 < n) (hn2 : n ≤ 1000000) (hv : (Lit.int .i64 v).wf = true) :
    Calls Tryd.prog 11 #[.int .i64 v, .int .i64 (n : Int)] w fun e w' => e = .returned (.int .i64 ((place v n : Nat) : Int)) ∧ w = w' := by
  have hvb : -9223372036854775808 ≤ v ∧ v ≤ 9223372036854775807 := by
    simpa [Lit.wf, IntKind.min, IntKind.max, IntKind.signed, IntKind.bits] using hv
  have hn0 : ((n : Int) == 0) = false := by simp; omega
  have HP := Lib.hid (place_cast v n hn)
  obtain ⟨hv1, hv2⟩ := hvb
  by_cases h0 : 0 ≤ v
  · have h1 := Int.emod_nonneg v (b := (n : Int)) (by omega)
    have h2 : ¬ v % (n : Int) < 0 := by omega
    go_enter Tryd.func11, Tryd.ntmps11
    go_wp2
    go_ret
    exact ⟨ret_int HP.out.symm, rfl⟩
  · by_cases h2 : v.tmod (n : Int) < 0
    · have HQ := Lib.hid (neg_way v n hn hn2 h2)
      go_enter Tryd.func11, Tryd.ntmps11
      go_wp2
      go_ret
      exact ⟨ret_int HQ.out, rfl⟩
    · have HQ := Lib.hid (pos_way v n hn (by omega))
      go_enter Tryd.func11, Tryd.ntmps11
      go_wp2
      go_ret
      exact ⟨ret_int HQ.out, rfl⟩

end Go.Proofs.YtmcdefkpkpaceaaDoor.Place

/- What the laws' own helper answers: a number's word. -/
namespace Go.Proofs.YtmcdefkpkpaceaaDoor.Twrd
open Go.RowKit Go.Proofs.YtmcdefkpkpaceaaDoor.Pure Go.Proofs.YtmcdefkpkpaceaaDoor.Place

def wordList : List (List UInt8) := [[97], [98], [99], [97, 46, 99], [98, 46, 99], [120, 46, 111], [100, 105, 114, 47, 97, 46, 99], [46, 46, 47, 117, 112], [50], [45, 49], [102, 111, 111], [102, 111, 111, 46, 98, 97, 114, 46, 99], [108, 105, 98, 37], [97, 37, 98], [49, 48], [122]]
def wordAt (p : Nat) : ByteArray := bs (wordList.getD p [])

set_option maxHeartbeats 400000 in
theorem index_word (p : Nat) (hp : p < 16) (W : World) : (Instr.index 55 (.agg #[.string ⟨#[97]⟩, .string ⟨#[98]⟩, .string ⟨#[99]⟩, .string ⟨#[97, 46, 99]⟩, .string ⟨#[98, 46, 99]⟩, .string ⟨#[120, 46, 111]⟩, .string ⟨#[100, 105, 114, 47, 97, 46, 99]⟩, .string ⟨#[46, 46, 47, 117, 112]⟩, .string ⟨#[50]⟩, .string ⟨#[45, 49]⟩, .string ⟨#[102, 111, 111]⟩, .string ⟨#[102, 111, 111, 46, 98, 97, 114, 46, 99]⟩, .string ⟨#[108, 105, 98, 37]⟩, .string ⟨#[97, 37, 98]⟩, .string ⟨#[49, 48]⟩, .string ⟨#[122]⟩]) (.int .i64 (p : Int))).run Tryd.prog W = .ok (.string (wordAt p)) W := by
  have h : p = 0 ∨ p = 1 ∨ p = 2 ∨ p = 3 ∨ p = 4 ∨ p = 5 ∨ p = 6 ∨ p = 7 ∨ p = 8 ∨ p = 9 ∨ p = 10 ∨ p = 11 ∨ p = 12 ∨ p = 13 ∨ p = 14 ∨ p = 15 := by omega
  rcases h with rfl | rfl | rfl | rfl | rfl | rfl | rfl | rfl | rfl | rfl | rfl | rfl | rfl | rfl | rfl | rfl <;> (show _ = _; kernel_rfl)

set_option maxHeartbeats 400000 in
theorem word_core (v : Int) (p : Nat) (w : World) (hp : p < 16) (hP : ∀ W : World, Calls Tryd.prog 11 #[.int .i64 v, .int .i64 16] W fun e w' => e = .returned (.int .i64 (p : Int)) ∧ W = w') :
    Calls Tryd.prog 9 #[.int .i64 v] w fun e w' => e = .returned (.string (wordAt p)) ∧ w = w' := by
  have hix := index_word p hp
  go_enter Tryd.func9, Tryd.ntmps9
  go_wp2_with fail
  refine (hP _).mono ?_
  rintro e w' ⟨rfl, rfl⟩
  go_wp2
  go_ret
  exact ⟨rfl, rfl⟩
theorem word_is (v : Int) (w : World) (hv : (Lit.int .i64 v).wf = true) :
    Calls Tryd.prog 9 #[.int .i64 v] w fun e w' => e = .returned (.string (wordAt (place v 16))) ∧ w = w' :=
  word_core v (place v 16) w (place_lt v 16 (by omega)) (fun W => place_is v 16 W (by omega) (by omega) hv)

/-- a number's word, of at most 9 bytes -/
theorem word_len (v : Int) (hv : (Lit.int .i64 v).wf = true) :
    ∃ l : List UInt8, l.length ≤ 9 ∧ ∀ W, Calls Tryd.prog 9 #[.int .i64 v] W fun e w' => e = .returned (.string (bs l)) ∧ W = w' := by
  refine ⟨wordList.getD (place v 16) [], ?_, fun W => word_is v W hv⟩
  have h : (wordList.all fun x => decide (x.length ≤ 9)) = true := by kernel_rfl
  have hp : place v 16 < wordList.length := place_lt v 16 (by omega)
  rw [List.getD_eq_getElem?_getD, List.getElem?_eq_getElem hp]
  exact of_decide_eq_true (List.all_eq_true.1 h _ (List.getElem_mem hp))

end Go.Proofs.YtmcdefkpkpaceaaDoor.Twrd

/- Expansions made by hand, ten forms of each word: which can be written, and how (no program). -/
namespace Go.Proofs.YtmcdefkpkpaceaaDoor.Qforms
open Go.Proofs.YtmcdefkpkpaceaaDoor.Spl Go.Proofs.YtmcdefkpkpaceaaDoor.Nz Go.Proofs.YtmcdefkpkpaceaaDoor.Qtp Go.Proofs.YtmcdefkpkpaceaaDoor.Qprt Go.Proofs.YtmcdefkpkpaceaaDoor.Qsame

mutual
def eqN : Nod → Nod → Bool
  | .mk k s l, .mk k' s' l' => k == k' && (s == s' && eqNs l l')
def eqNs : List Nod → List Nod → Bool
  | [], [] => true
  | n :: r, n' :: r' => eqN n n' && eqNs r r'
  | [], _ :: _ => false
  | _ :: _, [] => false
end
mutual
theorem eqN_iff : ∀ a b : Nod, eqN a b = true ↔ a = b
  | .mk k s l, .mk k' s' l' => by
    rw [eqN, Bool.and_eq_true, Bool.and_eq_true, beq_iff_eq, beq_iff_eq, eqNs_iff l l', Nod.mk.injEq]
theorem eqNs_iff : ∀ a b : List Nod, eqNs a b = true ↔ a = b
  | [], [] => by rw [eqNs]; simp
  | n :: r, n' :: r' => by rw [eqNs, Bool.and_eq_true, eqN_iff n n', eqNs_iff r r', List.cons.injEq]
  | [], _ :: _ => by rw [eqNs]; simp
  | _ :: _, [] => by rw [eqNs]; simp
end
abbrev lf (s : T) : Nod := .mk 1 s []
def formL (w : T) : List (Nod × T) := [
  (lf w, w),
  (lf (w ++ [41]), w ++ [41]),
  (.mk 2 [] [lf w], [36, 40] ++ w ++ [41]),
  (.mk 2 [] [lf (w ++ [41])], []),
  (.mk 3 [] [lf w, lf [46, 99], lf [46, 111]], [36, 40] ++ w ++ [58, 46, 99, 61, 46, 111, 41]),
  (.mk 4 [115, 116, 114, 105, 112] [lf w], [36, 40, 115, 116, 114, 105, 112, 32] ++ w ++ [41]),
  (.mk 4 [115, 116, 114, 105, 112] [lf ([32] ++ w)], []),
  (.mk 4 [111, 114] [lf w, lf [97, 44, 98]], []),
  (.mk 5 [] [lf w, lf [120]], []),
  (.mk 4 [104, 111, 112] [lf w], [])]
def checkB (x : Nod × T) : Bool := match parse (textZ (toZ x.1)) with
  | .ok m => if eqN m x.1 then textZ (toZ x.1) == x.2 && !x.2.isEmpty else x.2.isEmpty
  | .bad _ => x.2.isEmpty
theorem check_all : (Twrd.wordList.all fun w => (formL w).all checkB) = true := by kernel_rfl
theorem form_is {w : T} (hw : w ∈ Twrd.wordList) {x : Nod × T} (hx : x ∈ formL w) : prT (toZ x.1) = x.2 ∧ prB (toZ x.1) = !x.2.isEmpty := by
  have h := List.all_eq_true.1 (List.all_eq_true.1 check_all w hw) x hx
  unfold checkB at h
  cases hp : parse (textZ (toZ x.1)) with
  | bad e =>
    rw [hp] at h
    have hb : prB (toZ x.1) = false := by unfold prB; rw [hp]
    have he : x.2 = [] := List.isEmpty_iff.1 h
    rw [prT, hb, he]; exact ⟨rfl, rfl⟩
  | ok m =>
    rw [hp] at h
    dsimp only at h
    by_cases e : eqN m x.1 = true
    · rw [if_pos e, Bool.and_eq_true, beq_iff_eq] at h
      have hb : prB (toZ x.1) = true := by
        unfold prB; rw [hp]
        exact same_yes (by rw [(eqN_iff _ _).1 e])
      rw [prT, hb, if_pos rfl, h.1, h.2]; exact ⟨rfl, rfl⟩
    · rw [if_neg e] at h
      have hb : prB (toZ x.1) = false := by
        unfold prB; rw [hp]
        exact same_no fun h2 => e ((eqN_iff _ _).2 (toZ_inj h2))
      have he : x.2 = [] := List.isEmpty_iff.1 h
      rw [prT, hb, he]; exact ⟨rfl, rfl⟩

end Go.Proofs.YtmcdefkpkpaceaaDoor.Qforms

/- PrintForms' closure: a Text made of a text; rows of such, in memory. -/
namespace Go.Proofs.YtmcdefkpkpaceaaDoor.Qleaf
open Go.RowKit Go.Proofs.YtmcdefkpkpaceaaDoor.Spl Go.Proofs.YtmcdefkpkpaceaaDoor.Nodm Go.Proofs.YtmcdefkpkpaceaaDoor.Nz Go.Proofs.YtmcdefkpkpaceaaDoor.Qwhole Go.Proofs.YtmcdefkpkpaceaaDoor.Qforms
open Go.Proofs.YtmcdefkpkpaceaaDoor.Pure (bs)

abbrev lv (s : T) : Value := .agg #[.int .i64 1, .string (bs s), .slice none 0 0]
set_option maxRecDepth 100000 in
theorem leaf_is (x : ByteArray) (w : World) :
    Calls Tryd.prog 10 #[.string x] w fun e W' => e = .returned (.agg #[.int .i64 1, .string x, .slice none 0 0]) ∧ Below w.heap.size w W' ∧ w.heap.size < W'.heap.size := by
  obtain ⟨w1, hw1⟩ : ∃ w1, w.alloc (.cells #[.int .i64 0, .string .empty, .slice none 0 0] 24) = w1 := ⟨_, rfl⟩
  have hx1 : w1.heap[w.heap.size]? = some (.cells #[.int .i64 0, .string .empty, .slice none 0 0] 24) := by rw [← hw1]; exact heap_alloc_new w _
  have hb1 : Below w.heap.size w w1 := by rw [← hw1]; exact (Below.refl _ _).alloc (Nat.le_refl _) _
  have HW1 := Lib.hid hw1
  have HB1 := Lib.hid hb1
  have HZ1 : Hid (w.heap.size < w1.heap.size) := by show _ < _; rw [← hw1, World.size_alloc]; omega
  obtain ⟨a0, a1, a2⟩ := cells_three hx1
  have f0 := frozen_of_row w1 w.heap.size 0 _ _ hx1
  have f1 := frozen_of_row w1 w.heap.size 1 _ _ hx1
  have f2 := frozen_of_row w1 w.heap.size 2 _ _ hx1
  have hgg := hx1
  clear hw1 hx1 hb1
  go_enter Tryd.func10, Tryd.ntmps10
  go_upto_region 1 with fail
  first | rw [HW1.out] | (show Code.wp _ _ _ _ (w.alloc (.cells #[.int .i64 0, .string .empty, .slice none 0 0] 24)); rw [HW1.out])
  go_wp2_with fail
  obtain ⟨W4, hW4⟩ : ∃ W4, ((w1.setCell ⟨w.heap.size, 0, none⟩ (.int .i64 1)).setCell ⟨w.heap.size, 1, none⟩ (.string x)).setCell ⟨w.heap.size, 2, none⟩ (.slice none 0 0) = W4 := ⟨_, rfl⟩
  obtain ⟨z1, z2, z3, z4⟩ := three_far w1 W4 _ _ _ _ _ _ _ _ hgg hW4
  obtain ⟨y0, y1, y2⟩ := cells_three z1
  rw [hW4]
  refine bodyPost_ret (v := .agg #[.int .i64 1, .string x, .slice none 0 0]) (by simp [results, Tryd.results10, go_sem, y0, y1, y2]) rfl ?_
  exact ⟨rfl, HB1.out.trans z4, Nat.lt_of_lt_of_le HZ1.out z4.size⟩

/-- rows made one by one, each in its own block -/
def Made (w u : World) (rows : List (Nat × Array Value)) : Prop := Below w.heap.size w u ∧ 0 < u.heap.size ∧ ∀ r ∈ rows, r.1 ≠ 0 ∧ w.heap.size ≤ r.1 ∧ u.heap[r.1]? = some (.cells r.2 24)
theorem made_first {w u : World} (hb : Below w.heap.size w u) (hz : w.heap.size < u.heap.size) : Made w u [] := ⟨hb, by omega, fun _ h => by cases h⟩
theorem made_call {w u u' : World} {rows : List (Nat × Array Value)} (h : Made w u rows) (hb : Below u.heap.size u u') : Made w u' rows :=
  ⟨h.1.trans (hb.mono h.1.size), Nat.lt_of_lt_of_le h.2.1 hb.size, fun r hr => ⟨(h.2.2 r hr).1, (h.2.2 r hr).2.1, (hb.block r.1 (Array.getElem?_eq_some_iff.1 (h.2.2 r hr).2.2).1).trans (h.2.2 r hr).2.2⟩⟩
theorem made_row {w u : World} {rows : List (Nat × Array Value)} (h : Made w u rows) (cs : Array Value) : Made w (u.alloc (.cells cs 24)) ((u.heap.size, cs) :: rows) := by
  have hb : Below u.heap.size u (u.alloc (.cells cs 24)) := (Below.refl _ _).alloc (Nat.le_refl _) _
  have h2 := made_call h hb
  refine ⟨h2.1, h2.2.1, fun r hr => ?_⟩
  rcases List.mem_cons.1 hr with rfl | hr
  · exact ⟨by have := h.2.1; show u.heap.size ≠ 0; omega, h.1.size, heap_alloc_new u _⟩
  · exact h2.2.2 r hr

theorem row_of (W : World) (b : Nat) (ts : List T) (ty : TypeId) (S : Nat → Prop) (hS : S b) (h : W.heap[b]? = some (.cells (ts.flatMap fun s => [Value.int .i64 1, .string (bs s), .slice none 0 0]).toArray ty)) : NodesIn S W (some ⟨b, 0, none⟩) ts.length (ts.map lf) := by
  have hlt := (Array.getElem?_eq_some_iff.1 h).1
  have hg : ∀ (ts : List T) (j : Nat) (s : T), ts[j]? = some s → ∀ i, i < 3 → (ts.flatMap fun s => [Value.int .i64 1, .string (bs s), .slice none 0 0])[j * 3 + i]? = [Value.int .i64 1, .string (bs s), .slice none 0 0][i]? := by
    intro ts
    induction ts with
    | nil => intro j s h; cases h
    | cons t r ih =>
      intro j s hj i hi
      rw [List.flatMap_cons]
      cases j with
      | zero =>
        cases hj
        rw [Nat.zero_mul, Nat.zero_add, List.getElem?_append_left (by simpa using hi)]
      | succ j =>
        rw [List.getElem?_append_right (by simp; omega), ← ih j s hj i hi]
        congr 1
        simp
        omega
  refine ⟨by rw [List.length_map]; exact Nat.le_refl _, fun j => lv (ts.getD j []), ?_, fun j n hj => ?_⟩
  · refine .inr ⟨b, 0, rfl, hlt, hS, .inr ⟨_, _, h⟩, fun j hj => ?_⟩
    rw [List.length_map] at hj
    have hs : ts[j]? = some (ts.getD j []) := by rw [List.getD_eq_getElem?_getD, List.getElem?_eq_getElem hj]; rfl
    refine ⟨_, _, _, rfl, ?_, ?_, ?_⟩
    · rw [Lib.cell_of_heap h, Nat.zero_add]
      have := hg ts j _ hs 0 (by decide)
      rw [List.getElem?_toArray]
      exact this
    · rw [Lib.cell_of_heap h, Nat.zero_add]
      have := hg ts j _ hs 1 (by decide)
      rw [List.getElem?_toArray]
      exact this
    · rw [Lib.cell_of_heap h, Nat.zero_add]
      have := hg ts j _ hs 2 (by decide)
      rw [List.getElem?_toArray]
      exact this
  · rw [List.getElem?_map] at hj
    cases hx : ts[j]? with
    | none => rw [hx] at hj; cases hj
    | some s =>
      rw [hx] at hj
      cases hj
      show NodeIn _ W (lv (ts.getD j [])) (lf s)
      rw [List.getD_eq_getElem?_getD, hx]
      exact NodeIn.leaf _ W 1 s none 0

end Go.Proofs.YtmcdefkpkpaceaaDoor.Qleaf

/- PrintForms: the ten expansions and texts made by hand, by their place. -/
namespace Go.Proofs.YtmcdefkpkpaceaaDoor.Qfmx
open Go.RowKit Go.Proofs.YtmcdefkpkpaceaaDoor.Spl Go.Proofs.YtmcdefkpkpaceaaDoor.Nodm Go.Proofs.YtmcdefkpkpaceaaDoor.Nz Go.Proofs.YtmcdefkpkpaceaaDoor.Qtp Go.Proofs.YtmcdefkpkpaceaaDoor.Qforms Go.Proofs.YtmcdefkpkpaceaaDoor.Qleaf
open Go.Proofs.YtmcdefkpkpaceaaDoor.Pure (bs)

/-- the expansion at a place: its kind, text, row and length -/
def formV (p : Nat) (xw xp : ByteArray) (bA bB bC bD bE bF bG bH : Nat) : Nat × ByteArray × Option Addr × Nat :=
  match p with
  | 0 => (1, xw, none, 0)
  | 1 => (1, xp, none, 0)
  | 2 => (2, ⟨#[]⟩, some ⟨bA, 0, none⟩, 1)
  | 3 => (2, ⟨#[]⟩, some ⟨bB, 0, none⟩, 1)
  | 4 => (3, ⟨#[]⟩, some ⟨bC, 0, none⟩, 3)
  | 5 => (4, ⟨#[115, 116, 114, 105, 112]⟩, some ⟨bD, 0, none⟩, 1)
  | 6 => (4, ⟨#[115, 116, 114, 105, 112]⟩, some ⟨bE, 0, none⟩, 1)
  | 7 => (4, ⟨#[111, 114]⟩, some ⟨bF, 0, none⟩, 2)
  | 8 => (5, ⟨#[]⟩, some ⟨bG, 0, none⟩, 2)
  | _ => (4, ⟨#[104, 111, 112]⟩, some ⟨bH, 0, none⟩, 1)
/-- the text wanted at a place -/
def wantV (p : Nat) (xw xp y2 y3 y5 : ByteArray) : ByteArray :=
  match p with
  | 0 => xw
  | 1 => xp
  | 2 => y2
  | 3 => ⟨#[]⟩
  | 4 => y3
  | 5 => y5
  | _ => ⟨#[]⟩
theorem ten {p : Nat} (hp : p < 10) : p = 0 ∨ p = 1 ∨ p = 2 ∨ p = 3 ∨ p = 4 ∨ p = 5 ∨ p = 6 ∨ p = 7 ∨ p = 8 ∨ p = 9 := by omega
set_option maxRecDepth 100000 in
theorem form_idx (p : Nat) (hp : p < 10) (xw xp : ByteArray) (bA bB bC bD bE bF bG bH : Nat) : ∃ (kk : Nat) (ss : ByteArray) (AA : Option Addr) (nn : Nat), (kk, ss, AA, nn) = formV p xw xp bA bB bC bD bE bF bG bH ∧ ∀ W : World,
    (Instr.index 32 (.agg #[.int .i64 1, .string xw, .slice none 0 0, .int .i64 1, .string xp, .slice none 0 0, .int .i64 2, .string ⟨#[]⟩, .slice (some ⟨bA, 0, none⟩) 1 1, .int .i64 2, .string ⟨#[]⟩, .slice (some ⟨bB, 0, none⟩) 1 1, .int .i64 3, .string ⟨#[]⟩, .slice (some ⟨bC, 0, none⟩) 3 3, .int .i64 4, .string ⟨#[115, 116, 114, 105, 112]⟩, .slice (some ⟨bD, 0, none⟩) 1 1, .int .i64 4, .string ⟨#[115, 116, 114, 105, 112]⟩, .slice (some ⟨bE, 0, none⟩) 1 1, .int .i64 4, .string ⟨#[111, 114]⟩, .slice (some ⟨bF, 0, none⟩) 2 2, .int .i64 5, .string ⟨#[]⟩, .slice (some ⟨bG, 0, none⟩) 2 2, .int .i64 4, .string ⟨#[104, 111, 112]⟩, .slice (some ⟨bH, 0, none⟩) 1 1]) (.int .i64 (p : Int))).run Tryd.prog W = .ok (.agg #[.int .i64 (kk : Int), .string ss, .slice AA nn nn]) W := by
  rcases ten hp with rfl | rfl | rfl | rfl | rfl | rfl | rfl | rfl | rfl | rfl <;> exact ⟨_, _, _, _, rfl, fun W => by kernel_rfl⟩
set_option maxRecDepth 100000 in
theorem want_idx (p : Nat) (hp : p < 10) (xw xp y2 y3 y5 : ByteArray) : ∀ W : World,
    (Instr.index 33 (.agg #[.string xw, .string xp, .string y2, .string ⟨#[]⟩, .string y3, .string y5, .string ⟨#[]⟩, .string ⟨#[]⟩, .string ⟨#[]⟩, .string ⟨#[]⟩]) (.int .i64 (p : Int))).run Tryd.prog W = .ok (.string (wantV p xw xp y2 y3 y5)) W := by
  rcases ten hp with rfl | rfl | rfl | rfl | rfl | rfl | rfl | rfl | rfl | rfl <;> exact fun W => by kernel_rfl
theorem form_at (wd : T) (p : Nat) (hp : p < 10) (w W : World) (bA bB bC bD bE bF bG bH : Nat)
    (hM : Made w W [(bH, #[.int .i64 1, .string (bs wd), .slice none 0 0]), (bG, #[.int .i64 1, .string (bs wd), .slice none 0 0, .int .i64 1, .string ⟨#[120]⟩, .slice none 0 0]), (bF, #[.int .i64 1, .string (bs wd), .slice none 0 0, .int .i64 1, .string ⟨#[97, 44, 98]⟩, .slice none 0 0]), (bE, #[.int .i64 1, .string (bs ([32] ++ wd)), .slice none 0 0]), (bD, #[.int .i64 1, .string (bs wd), .slice none 0 0]), (bC, #[.int .i64 1, .string (bs wd), .slice none 0 0, .int .i64 1, .string ⟨#[46, 99]⟩, .slice none 0 0, .int .i64 1, .string ⟨#[46, 111]⟩, .slice none 0 0]), (bB, #[.int .i64 1, .string (bs (wd ++ [41])), .slice none 0 0]), (bA, #[.int .i64 1, .string (bs wd), .slice none 0 0])]) :
    ∃ x, x ∈ formL wd ∧ ∃ S : Nat → Prop, ¬ S 0 ∧ NodeIn S W (.agg #[.int .i64 (((formV p (bs wd) (bs (wd ++ [41])) bA bB bC bD bE bF bG bH).1 : Nat) : Int), .string (formV p (bs wd) (bs (wd ++ [41])) bA bB bC bD bE bF bG bH).2.1, .slice (formV p (bs wd) (bs (wd ++ [41])) bA bB bC bD bE bF bG bH).2.2.1 (formV p (bs wd) (bs (wd ++ [41])) bA bB bC bD bE bF bG bH).2.2.2 (formV p (bs wd) (bs (wd ++ [41])) bA bB bC bD bE bF bG bH).2.2.2]) x.1 ∧ bs x.2 = (wantV p (bs wd) (bs (wd ++ [41])) (bs ([36, 40] ++ wd ++ [41])) (bs ([36, 40] ++ wd ++ [58, 46, 99, 61, 46, 111, 41])) (bs ([36, 40, 115, 116, 114, 105, 112, 32] ++ wd ++ [41]))) := by
  obtain ⟨_, _, hr⟩ := hM
  obtain ⟨r0, hr⟩ := List.forall_mem_cons.1 hr; obtain ⟨r1, hr⟩ := List.forall_mem_cons.1 hr; obtain ⟨r2, hr⟩ := List.forall_mem_cons.1 hr; obtain ⟨r3, hr⟩ := List.forall_mem_cons.1 hr; obtain ⟨r4, hr⟩ := List.forall_mem_cons.1 hr; obtain ⟨r5, hr⟩ := List.forall_mem_cons.1 hr; obtain ⟨r6, hr⟩ := List.forall_mem_cons.1 hr; obtain ⟨r7, hr⟩ := List.forall_mem_cons.1 hr; clear hr
  rcases ten hp with rfl | rfl | rfl | rfl | rfl | rfl | rfl | rfl | rfl | rfl
  · exact ⟨_, List.mem_of_getElem? (i := 0) rfl, fun _ => False, id, NodeIn.leaf _ W 1 wd none 0, rfl⟩
  · exact ⟨_, List.mem_of_getElem? (i := 1) rfl, fun _ => False, id, NodeIn.leaf _ W 1 (wd ++ [41]) none 0, rfl⟩
  · exact ⟨_, List.mem_of_getElem? (i := 2) rfl, fun g => g = bA, fun h => r7.1 h.symm, (row_of W bA [wd] _ (fun g => g = bA) rfl r7.2.2).node 2 [], rfl⟩
  · exact ⟨_, List.mem_of_getElem? (i := 3) rfl, fun g => g = bB, fun h => r6.1 h.symm, (row_of W bB [wd ++ [41]] _ (fun g => g = bB) rfl r6.2.2).node 2 [], rfl⟩
  · exact ⟨_, List.mem_of_getElem? (i := 4) rfl, fun g => g = bC, fun h => r5.1 h.symm, (row_of W bC [wd, [46, 99], [46, 111]] _ (fun g => g = bC) rfl r5.2.2).node 3 [], rfl⟩
  · exact ⟨_, List.mem_of_getElem? (i := 5) rfl, fun g => g = bD, fun h => r4.1 h.symm, (row_of W bD [wd] _ (fun g => g = bD) rfl r4.2.2).node 4 [115, 116, 114, 105, 112], rfl⟩
  · exact ⟨_, List.mem_of_getElem? (i := 6) rfl, fun g => g = bE, fun h => r3.1 h.symm, (row_of W bE [[32] ++ wd] _ (fun g => g = bE) rfl r3.2.2).node 4 [115, 116, 114, 105, 112], rfl⟩
  · exact ⟨_, List.mem_of_getElem? (i := 7) rfl, fun g => g = bF, fun h => r2.1 h.symm, (row_of W bF [wd, [97, 44, 98]] _ (fun g => g = bF) rfl r2.2.2).node 4 [111, 114], rfl⟩
  · exact ⟨_, List.mem_of_getElem? (i := 8) rfl, fun g => g = bG, fun h => r1.1 h.symm, (row_of W bG [wd, [120]] _ (fun g => g = bG) rfl r1.2.2).node 5 [], rfl⟩
  · exact ⟨_, List.mem_of_getElem? (i := 9) rfl, fun g => g = bH, fun h => r0.1 h.symm, (row_of W bH [wd] _ (fun g => g = bH) rfl r0.2.2).node 4 [104, 111, 112], rfl⟩
theorem few_all : (Twrd.wordList.all fun w => (formL w).all fun x => decide (wt (toZ x.1) ≤ 1000) && (decide (siz (toZ x.1) ≤ 1000) && (decide ((textZ (toZ x.1)).length ≤ 1000) && decide (x.2.length ≤ 1000)))) = true := by kernel_rfl
theorem few_is {w : T} (hw : w ∈ Twrd.wordList) {x : Nod × T} (hx : x ∈ formL w) : wt (toZ x.1) ≤ 1000 ∧ siz (toZ x.1) ≤ 1000 ∧ (textZ (toZ x.1)).length ≤ 1000 ∧ x.2.length ≤ 1000 := by
  have h := List.all_eq_true.1 (List.all_eq_true.1 few_all w hw) x hx
  simpa only [Bool.and_eq_true, decide_eq_true_eq] using h
theorem words_few : (Twrd.wordList.all fun w => decide (w.length ≤ 100)) = true := by kernel_rfl

end Go.Proofs.YtmcdefkpkpaceaaDoor.Qfmx
