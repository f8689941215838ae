/- Texts by numbers: a text out of a list that is written out; names, recipes, words. -/
import Derived.Test.YtcopddepnphfmaaDoorTnum
namespace Go.Proofs.YtcopddepnphfmaaDoor.Tidx
open Go.RowKit Go.Proofs.YtcopddepnphfmaaDoor.Pure Go.Proofs.YtcopddepnphfmaaDoor.Place Go.Proofs.YtcopddepnphfmaaDoor.Nums Go.Proofs.YtcopddepnphfmaaDoor.Range Go.Proofs.YtcopddepnphfmaaDoor.Tnum

theorem index_str (t n : Nat) (h : Tryd.prog.underlying t = some (.array n 9)) (cs : Array Value) (p : Nat) (hp : p < n) (s : ByteArray) (hs : cs[p]? = some (.string s)) (W : World) :
    (Instr.index t (.agg cs) (.int .i64 (p : Int))).run Tryd.prog W = .ok (.string s) W := by
  simp [Instr.index, run_underlying h, asIntOf, go_sem]
  rw [if_pos hp, hs]; rfl
def strArr (l : List (List UInt8)) : Array Value := (l.map (fun x => Value.string (bs x))).toArray
/-- one out of a list of texts that is written out -/
theorem index_lit (t n : Nat) (h : Tryd.prog.underlying t = some (.array n 9)) (l : List (List UInt8)) (hl : l.length = n) (M : Nat) (hM : (l.all fun x => decide (x.length ≤ M)) = true) (p : Nat) (hp : p < n) :
    ∃ x, x ∈ l ∧ x.length ≤ M ∧ ∀ W, (Instr.index t (.agg (strArr l)) (.int .i64 (p : Int))).run Tryd.prog W = .ok (.string (bs x)) W := by
  have hpl : p < l.length := by omega
  refine ⟨l[p], List.getElem_mem hpl, by simpa using List.all_eq_true.1 hM _ (List.getElem_mem hpl), fun W => index_str t n h _ p hp _ ?_ W⟩
  unfold strArr
  rw [List.getElem?_toArray, List.getElem?_map, List.getElem?_eq_getElem hpl]; rfl

def nameL : List (List UInt8) := [[97], [98], [99], [100], [101], [102], [103], [118, 49]]
def recipeL : List (List UInt8) := [[], [9, 100, 111, 32, 36, 64, 10], [9, 111, 110, 101, 32, 92, 10, 9, 116, 119, 111, 10], [9, 10, 10, 9, 108, 97, 115, 116, 10], [9, 35, 32, 110, 111, 116, 32, 103, 111, 110, 101, 10]]
def blankL : List (List UInt8) := [[32], [32], [32, 32]]
theorem name_idx (p : Nat) (hp : p < 8) : ∃ x, x ∈ nameL ∧ x.length ≤ 2 ∧ ∀ W, (Instr.index 91 (.agg #[.string ⟨#[97]⟩, .string ⟨#[98]⟩, .string ⟨#[99]⟩, .string ⟨#[100]⟩, .string ⟨#[101]⟩, .string ⟨#[102]⟩, .string ⟨#[103]⟩, .string ⟨#[118, 49]⟩]) (.int .i64 (p : Int))).run Tryd.prog W = .ok (.string (bs x)) W :=
  index_lit 91 8 Tryd.underlying91 nameL rfl 2 (by decide) p hp
theorem recipe_idx (p : Nat) (hp : p < 5) : ∃ x, x ∈ recipeL ∧ x.length ≤ 20 ∧ ∀ W, (Instr.index 77 (.agg #[.string ⟨#[]⟩, .string ⟨#[9, 100, 111, 32, 36, 64, 10]⟩, .string ⟨#[9, 111, 110, 101, 32, 92, 10, 9, 116, 119, 111, 10]⟩, .string ⟨#[9, 10, 10, 9, 108, 97, 115, 116, 10]⟩, .string ⟨#[9, 35, 32, 110, 111, 116, 32, 103, 111, 110, 101, 10]⟩]) (.int .i64 (p : Int))).run Tryd.prog W = .ok (.string (bs x)) W :=
  index_lit 77 5 Tryd.underlying77 recipeL rfl 20 (by decide) p hp
theorem blank_idx (p : Nat) (hp : p < 3) : ∃ x, x ∈ blankL ∧ x.length ≤ 2 ∧ ∀ W, (Instr.index 79 (.agg #[.string ⟨#[32]⟩, .string ⟨#[32]⟩, .string ⟨#[32, 32]⟩]) (.int .i64 (p : Int))).run Tryd.prog W = .ok (.string (bs x)) W :=
  index_lit 79 3 Tryd.underlying79 blankL rfl 2 (by decide) p hp

set_option maxHeartbeats 1000000 in
/-- a name -/
theorem name_is (tp : Nat) (A : Option Addr) (n c : Nat) (zs : List Int) (a : Nat) (w : World) (h : TS tp A n c zs a w) :
    Calls Tryd.prog 53 #[.pointer (some ⟨tp, 0, none⟩)] w fun e W => ∃ x, x ∈ nameL ∧ e = .returned (.string (bs x)) ∧ After tp A n c zs a w W := by
  have HN := Lib.hid (num_is tp A n c zs a 8 w (by omega) (by omega) h)
  go_enter Tryd.func53, Tryd.ntmps53
  go_wp2_with fail
  refine HN.out.mono ?_
  rintro e w1 ⟨p, hp, rfl, haf⟩
  obtain ⟨x, hx, _, hix⟩ := name_idx p hp
  have HA := Lib.hid haf
  clear haf HN
  go_wp2
  go_ret
  exact ⟨x, hx, rfl, HA.out⟩
set_option maxHeartbeats 1000000 in
/-- some recipe's lines -/
theorem recipe_is (tp : Nat) (A : Option Addr) (n c : Nat) (zs : List Int) (a : Nat) (w : World) (h : TS tp A n c zs a w) :
    Calls Tryd.prog 56 #[.pointer (some ⟨tp, 0, none⟩)] w fun e W => ∃ x, x ∈ recipeL ∧ e = .returned (.string (bs x)) ∧ After tp A n c zs a w W := by
  have HN := Lib.hid (num_is tp A n c zs a 5 w (by omega) (by omega) h)
  go_enter Tryd.func56, Tryd.ntmps56
  go_wp2_with fail
  refine HN.out.mono ?_
  rintro e w1 ⟨p, hp, rfl, haf⟩
  obtain ⟨x, hx, _, hix⟩ := recipe_idx p hp
  have HA := Lib.hid haf
  clear haf HN
  go_wp2
  go_ret
  exact ⟨x, hx, rfl, HA.out⟩

/-! ### sums of texts -/
theorem cat (x y : ByteArray) (W : World) (h : x.size + y.size ≤ 1099511627776) : (Op.stringOp .add x y).run Tryd.prog W = .ok (.string (x ++ y)) W := run_string_add_sum W _ _ (by omega)

set_option maxRecDepth 100000 in
set_option maxHeartbeats 2000000 in
/-- two words by numbers -/
theorem words_two (b : Nat) (k j : Nat) (c : Nat) (w : World) (hk : k ≤ 1000) (hj : j ≤ 1000) (h0 : w.cell? ⟨b, 0, none⟩ = some (.int .i64 (k : Int))) (h1 : w.cell? ⟨b, 1, none⟩ = some (.int .i64 (j : Int))) :
    Calls Tryd.prog 55 #[.slice (some ⟨b, 0, none⟩) 2 c] w fun e W => ∃ s : ByteArray, s.size ≤ 42 ∧ e = .returned (.string s) ∧ w = W := by
  have hwk : (Lit.int .i64 (k : Int)).wf = true := by simp [Lit.wf, IntKind.min, IntKind.max, IntKind.signed, IntKind.bits]; omega
  have hwj : (Lit.int .i64 (j : Int)).wf = true := by simp [Lit.wf, IntKind.min, IntKind.max, IntKind.signed, IntKind.bits]; omega
  obtain ⟨l1, g1, hw1⟩ := Lwords.word_gw (k : Int) hwk
  obtain ⟨l2, g2, hw2⟩ := Lwords.word_gw (j : Int) hwj
  have hq : ((j : Int)).tdiv 16 = ((j / 16 : Nat) : Int) := by rw [Int.tdiv_eq_ediv_of_nonneg (by omega)]; simp
  have hwq : (Lit.int .i64 ((j / 16 : Nat) : Int)).wf = true := by simp [Lit.wf, IntKind.min, IntKind.max, IntKind.signed, IntKind.bits]; omega
  have HP := Lib.hid (fun W => place_is ((j / 16 : Nat) : Int) 3 W (by omega) (by omega) hwq)
  obtain ⟨x, hx, hxl, hix⟩ := blank_idx (place ((j / 16 : Nat) : Int) 3) (place_lt _ 3 (by omega))
  generalize place ((j / 16 : Nat) : Int) 3 = pp at HP hix
  have HW1 := Lib.hid hw1
  have HW2 := Lib.hid hw2
  have z1 : (bs l1).size ≤ 20 := by rw [size_bs]; exact g1.len
  have z2 : (bs l2).size ≤ 20 := by rw [size_bs]; exact g2.len
  have z3 : (bs x).size ≤ 2 := by rw [size_bs]; exact hxl
  clear hw1 hw2 g1 g2 hwk hwj hwq hxl hx
  generalize bs l1 = L1 at *
  generalize bs l2 = L2 at *
  generalize bs x = X at *
  have ze : (⟨#[]⟩ : ByteArray).size = 0 := rfl
  have a1 : ∀ W, (Op.stringOp .add ⟨#[]⟩ L1).run Tryd.prog W = .ok (.string (⟨#[]⟩ ++ L1)) W := fun W => cat _ _ W (by omega)
  have a2 : ∀ W, (Op.stringOp .add (⟨#[]⟩ ++ L1) X).run Tryd.prog W = .ok (.string (⟨#[]⟩ ++ L1 ++ X)) W := fun W => cat _ _ W (by rw [ByteArray.size_append]; omega)
  have a3 : ∀ W, (Op.stringOp .add (⟨#[]⟩ ++ L1 ++ X) L2).run Tryd.prog W = .ok (.string (⟨#[]⟩ ++ L1 ++ X ++ L2)) W := fun W => cat _ _ W (by rw [ByteArray.size_append, ByteArray.size_append]; omega)
  have HZ : Hid ((⟨#[]⟩ ++ L1 ++ X ++ L2 : ByteArray).size ≤ 42) := by show _ ≤ _; rw [ByteArray.size_append, ByteArray.size_append, ByteArray.size_append]; omega
  generalize (⟨#[]⟩ ++ L1 ++ X ++ L2 : ByteArray) = S3 at *
  generalize (⟨#[]⟩ ++ L1 ++ X : ByteArray) = S2 at *
  generalize (⟨#[]⟩ ++ L1 : ByteArray) = S1 at *
  clear z1 z2 z3 ze
  go_enter Tryd.func55, Tryd.ntmps55
  go_wp2_with fail
  go_loopw [3, 4] (fun v i wr => w = wr ∧ ((v = .string ⟨#[]⟩ ∧ i = .int .i64 0) ∨ (v = .string S1 ∧ i = .int .i64 1) ∨ (v = .string S3 ∧ i = .int .i64 2))) (fun _ i _ => 2 - (intOf i).toNat)
  case atStart => exact ⟨rfl, .inl ⟨rfl, rfl⟩⟩
  case round =>
    obtain ⟨rfl, hc⟩ := hrel
    rcases hc with ⟨rfl, rfl⟩ | ⟨rfl, rfl⟩ | ⟨rfl, rfl⟩
    · go_wp2_with fail
      refine (HW1.out _).mono ?_
      rintro e w' ⟨rfl, rfl⟩
      go_wp2
      go_roundw
      case rel => exact ⟨trivial, .inr (.inl ⟨rfl, rfl⟩)⟩
      case measure => simp [intOf]
    · go_wp2_with fail
      refine (HP.out _).mono ?_
      rintro e w' ⟨rfl, rfl⟩
      go_wp2_with fail
      refine (HW2.out _).mono ?_
      rintro e w' ⟨rfl, rfl⟩
      go_wp2
      go_roundw
      case rel => exact ⟨trivial, .inr (.inr ⟨rfl, rfl⟩)⟩
      case measure => simp [intOf]
    · go_wp2
      go_ret
      exact ⟨_, HZ.out, rfl, rfl⟩

end Go.Proofs.YtcopddepnphfmaaDoor.Tidx
