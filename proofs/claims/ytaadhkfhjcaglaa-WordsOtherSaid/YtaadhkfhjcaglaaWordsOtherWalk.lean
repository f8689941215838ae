/- The walk of the law WordsOther: for every byte and every number the law answers true. -/
import Derived.Test.YtaadhkfhjcaglaaAwake
import Derived.Test.YtaadhkfhjcaglaaPlace
namespace Go.Proofs.Ytaadhkfhjcaglaa.WordsOther
open Go.RowKit Go.Proofs.Ytaadhkfhjcaglaa.Pure Go.Proofs.Ytaadhkfhjcaglaa.Ends Go.Proofs.Ytaadhkfhjcaglaa.Lists Go.Proofs.Ytaadhkfhjcaglaa.Refs Go.Proofs.Ytaadhkfhjcaglaa.Awake Go.Proofs.Ytaadhkfhjcaglaa.Place

theorem conv1 (c : UInt8) (W : World) : (convert 35 9 (.slice (some ⟨W.heap.size, 0, none⟩) 1 1)).run Try.prog (W.alloc (.cells #[.int .u8 ((c.toNat : Nat) : Int)] 5)) = .ok (.string (bs [c])) (W.alloc (.cells #[.int .u8 ((c.toNat : Nat) : Int)] 5)) :=
  run_convert_bytes_back _ 35 9 5 ⟨W.heap.size, 0, none⟩ 1 [c] Try.underlying35 Try.underlying5 Try.underlying9 fun j hj => by
    match j, hj with
    | 0, _ => rw [addr_add]; exact cell_of_row _ _ 0 _ _ _ (World.alloc_heap_new W _)
theorem conv3 (c : UInt8) (W : World) : (convert 35 9 (.slice (some ⟨W.heap.size, 0, none⟩) 3 3)).run Try.prog (W.alloc (.cells #[.int .u8 97, .int .u8 ((c.toNat : Nat) : Int), .int .u8 98] 5)) = .ok (.string (bs [97, c, 98])) (W.alloc (.cells #[.int .u8 97, .int .u8 ((c.toNat : Nat) : Int), .int .u8 98] 5)) :=
  run_convert_bytes_back _ 35 9 5 ⟨W.heap.size, 0, none⟩ 3 [97, c, 98] Try.underlying35 Try.underlying5 Try.underlying9 fun j hj => by
    match j, hj with
    | 0, _ => rw [addr_add]; exact cell_of_row _ _ 0 _ _ _ (World.alloc_heap_new W _)
    | 1, _ => rw [addr_add]; exact cell_of_row _ _ 1 _ _ _ (World.alloc_heap_new W _)
    | 2, _ => rw [addr_add]; exact cell_of_row _ _ 2 _ _ _ (World.alloc_heap_new W _)

/-- so many of one byte -/
def many (k : Nat) (c : UInt8) : ByteArray := bs (List.replicate k c)
theorem bs_app (a b : List UInt8) : bs a ++ bs b = bs (a ++ b) := ext_data (by simp [bs])
theorem many_succ (k : Nat) (c : UInt8) : many k c ++ bs [c] = many (k + 1) c := by
  rw [many, bs_app, many, List.replicate_succ']
theorem many_zero (c : UInt8) : many 0 c = ⟨#[]⟩ := rfl
theorem many_size (k : Nat) (c : UInt8) : (many k c).size = k := by rw [many, size_bs, List.length_replicate]

theorem split_len (s : ByteArray) (N : Nat) (w : World) (hs : s.size ≤ 1099511627776) (h : (wordsB s).length = N) :
    Calls Try.prog 9 #[.string s] w fun e W' => ∃ A c, e = .returned (.slice A N c) ∧ Below w.heap.size w W' :=
  (split_is s w hs).mono fun e W' ⟨A, c, he, _, hb⟩ => ⟨A, c, by rw [← h]; exact he, hb⟩
theorem strip_eq (s r : ByteArray) (w : World) (hs : s.size ≤ 1099511627776) (h : stripB s = r) :
    Calls Try.prog 13 #[.string s] w fun e W' => e = .returned (.string r) ∧ Below w.heap.size w W' :=
  (strip_is s w hs).mono fun e W' ⟨he, hb⟩ => ⟨by rw [← h]; exact he, hb⟩
theorem trim_eq (s r : ByteArray) (w : World) (hs : s.size ≤ maxLen) (h : trimB s = r) :
    Calls Try.prog 15 #[.string s] w fun e W' => e = .returned (.string r) ∧ w = W' :=
  (trim_any s w hs).mono fun e W' ⟨he, hb⟩ => ⟨by rw [← h]; exact he, hb⟩
theorem left_eq (s r : ByteArray) (w : World) (hs : s.size ≤ maxLen) (h : leftB s = r) :
    Calls Try.prog 17 #[.string s] w fun e W' => e = .returned (.string r) ∧ w = W' :=
  (left_any s w hs).mono fun e W' ⟨he, hb⟩ => ⟨by rw [← h]; exact he, hb⟩

/-! ### what the answers are -/
theorem words3 (c : UInt8) : (wordsB (bs [97, c, 98])).length = if isBl c then 2 else 1 := by
  have h1 : isBl 97 = false := by decide
  have h2 : isBl 98 = false := by decide
  cases h : isBl c <;> simp [wordsB, bs_data, words, cutFrom, h1, h2, h, flush]
theorem strip3_blank (c : UInt8) (h : isBl c = true) : stripB (bs [97, c, 98]) = ⟨#[97, 32, 98]⟩ := by
  have h1 : isBl 97 = false := by decide
  have h2 : isBl 98 = false := by decide
  simp [stripB, joinB, wordsB, words, cutFrom, h1, h2, h, flush, Lib.join, List.intercalate, List.intersperse, bs]
theorem strip3_other (c : UInt8) (h : isBl c = false) : stripB (bs [97, c, 98]) = bs [97, c, 98] := by
  have h1 : isBl 97 = false := by decide
  have h2 : isBl 98 = false := by decide
  simp [stripB, joinB, wordsB, words, cutFrom, h1, h2, h, flush, Lib.join, List.intercalate, bs]

theorem left_rep_blank (k : Nat) (c : UInt8) (l : List UInt8) (h : isBl c = true) : left (List.replicate k c ++ l) = left l := by
  induction k with
  | zero => rfl
  | succ k ih => rw [List.replicate_succ, List.cons_append, left, List.dropWhile_cons, if_pos h]; exact ih
theorem left_rep_other (k : Nat) (c d : UInt8) (l : List UInt8) (h : isBl c = false) (hd : isBl d = false) : left (List.replicate k c ++ d :: l) = List.replicate k c ++ d :: l := by
  cases k with
  | zero => simp [left, hd]
  | succ k => simp [left, List.replicate_succ, h]
theorem left_rep_other0 (k : Nat) (c : UInt8) (h : isBl c = false) : left (List.replicate k c) = List.replicate k c := by
  cases k with
  | zero => rfl
  | succ k => simp [left, List.replicate_succ, h]
theorem trim_many_blank (k : Nat) (c : UInt8) (h : isBl c = true) : trimB (many k c) = ⟨#[]⟩ := by
  have e : left (List.replicate k c) = [] := by have := left_rep_blank k c [] h; simpa [left] using this
  refine ext_data ?_
  rw [trimB, rightB, leftB, many, bs_data, bs_data, bs_data, e]; rfl
theorem trim_many_other (k : Nat) (c : UInt8) (h : isBl c = false) : trimB (many k c) = many k c := by
  rw [trimB, rightB, leftB, many, bs_data, bs_data, left_rep_other0 k c h]
  congr 1
  rw [right, List.reverse_replicate]
  have := left_rep_other0 k c h
  rw [left] at this
  rw [this, List.reverse_replicate]
theorem many_x (k : Nat) (c : UInt8) : many k c ++ (⟨#[120]⟩ : ByteArray) = bs (List.replicate k c ++ [120]) := bs_app _ _
theorem left_many_blank (k : Nat) (c : UInt8) (h : isBl c = true) : leftB (many k c ++ (⟨#[120]⟩ : ByteArray)) = ⟨#[120]⟩ := by
  rw [many_x, leftB, bs_data, left_rep_blank k c _ h]; rfl
theorem left_many_other (k : Nat) (c : UInt8) (h : isBl c = false) : leftB (many k c ++ (⟨#[120]⟩ : ByteArray)) = many k c ++ (⟨#[120]⟩ : ByteArray) := by
  rw [many_x, leftB, bs_data, left_rep_other k c 120 [] h (by decide)]
theorem add_x (W : World) : (Op.stringOp .add ⟨#[]⟩ ⟨#[120]⟩).run Try.prog W = .ok (.string ⟨#[120]⟩) W :=
  run_string_add_sum W ⟨#[]⟩ ⟨#[120]⟩ (by decide)
theorem many_x_size (k : Nat) (c : UInt8) : (many k c ++ (⟨#[120]⟩ : ByteArray)).size = k + 1 := by
  rw [many_x, size_bs]; simp

set_option maxRecDepth 100000 in
set_option maxHeartbeats 4000000 in
theorem walk_blank (c : UInt8) (n : Int) (hn : (Lit.int .i64 n).wf = true) (hb : isBl c = true)
    (hc : ((((c.toNat : Nat) : Int) == 32) = true) ∨ ((((c.toNat : Nat) : Int) == 32) = false ∧ (((c.toNat : Nat) : Int) == 9) = true) ∨ ((((c.toNat : Nat) : Int) == 32) = false ∧ (((c.toNat : Nat) : Int) == 9) = false ∧ (((c.toNat : Nat) : Int) == 10) = true)) (w : World) :
    Calls Try.prog 6 #[.int .u8 ((c.toNat : Nat) : Int), .int .i64 n] w fun e W' => e = .returned (.bool true) ∧ Below w.heap.size w W' := by
  have k3 := conv3 c
  have k1 := conv1 c
  have hw2 : (wordsB (bs [97, c, 98])).length = 2 := by rw [words3, hb]; rfl
  have HW := Lib.hid hw2
  have HS := Lib.hid (strip3_blank c hb)
  have HT := Lib.hid (fun k => trim_many_blank k c hb)
  have HL := Lib.hid (fun k => left_many_blank k c hb)
  have hp := place_lt n 30 (by omega)
  clear hw2 hb
  rcases hc with h1 | ⟨h1, h2⟩ | ⟨h1, h2, h3⟩
  all_goals
    go_enter Try.func6, Try.ntmps6
    go_wp2_with fail
    refine (split_len (bs [97, c, 98]) 2 _ (by rw [size_bs]; simp) HW.out).mono ?_
    rintro e w1 ⟨A, cp, rfl, hb1⟩
    have B1 := Lib.hid (((Below.refl _ w).alloc (Nat.le_refl _) _).trans (hb1.mono (by simp)))
    clear hb1
    go_wp2_with fail
    refine (place_is n 30 _ (by omega) (by omega) hn).mono ?_
    rintro e w' ⟨rfl, rfl⟩
    go_wp2
    generalize place n 30 = p at hp ⊢
    go_loopw [9, 10] (fun t i wr => ∃ k : Nat, k ≤ p ∧ i = .int .i64 k ∧ t = .string (many k c) ∧ Below w.heap.size w wr) (fun _ i _ => p - (intOf i).toNat)
    case atStart => exact ⟨0, Nat.zero_le _, rfl, rfl, B1.out⟩
    case round =>
      obtain ⟨k, hk, rfl, rfl, hB⟩ := hrel
      have HB := Lib.hid hB
      have hBs := hB.size
      clear hB B1
      have hs1 : (many k c).size ≤ 30 := by rw [many_size]; omega
      have hs2 : (bs [c]).size ≤ 1 := by rw [size_bs]; exact Nat.le_refl _
      by_cases hlt : k < p
      · go_wp2
        go_roundw
        case rel => exact ⟨k + 1, by omega, by go_num, by rw [many_succ], HB.out.alloc hBs _⟩
        case measure => simp [intOf]; omega
      · have hm1 : (many k c).size ≤ maxLen := by rw [many_size]; unfold maxLen; omega
        have hm2 : (many k c ++ (⟨#[120]⟩ : ByteArray)).size ≤ maxLen := by rw [many_x_size]; unfold maxLen; omega
        clear k1 k3
        have hs3 : (⟨#[120]⟩ : ByteArray).size ≤ 1 := Nat.le_refl _
        go_wp2_with fail
        refine (trim_eq (many k c) ⟨#[]⟩ _ hm1 (HT.out k)).mono ?_
        rintro e w' ⟨rfl, rfl⟩
        go_wp2_with fail
        refine (left_eq (many k c ++ (⟨#[120]⟩ : ByteArray)) ⟨#[120]⟩ _ hm2 (HL.out k)).mono ?_
        rintro e w' ⟨rfl, rfl⟩
        have hadd := add_x
        go_wp2_with fail
        refine (strip_eq (bs [97, c, 98]) ⟨#[97, 32, 98]⟩ _ (by rw [size_bs]; simp) HS.out).mono ?_
        rintro e w2 ⟨rfl, hb2⟩
        have B2 := Lib.hid (HB.out.trans (hb2.mono hBs))
        clear hb2 HB hBs
        go_wp2_with fail
        refine (awake_is _).mono ?_
        rintro e w3 ⟨rfl, hb3⟩
        have B3 := Lib.hid (B2.out.trans (hb3.mono B2.out.size))
        clear hb3 B2
        go_wp2
        go_ret
        exact ⟨rfl, B3.out⟩

set_option maxRecDepth 100000 in
set_option maxHeartbeats 4000000 in
theorem walk_other (c : UInt8) (n : Int) (hn : (Lit.int .i64 n).wf = true) (hb : isBl c = false)
    (h1 : (((c.toNat : Nat) : Int) == 32) = false) (h2 : (((c.toNat : Nat) : Int) == 9) = false) (h3 : (((c.toNat : Nat) : Int) == 10) = false) (w : World) :
    Calls Try.prog 6 #[.int .u8 ((c.toNat : Nat) : Int), .int .i64 n] w fun e W' => e = .returned (.bool true) ∧ Below w.heap.size w W' := by
  have k3 := conv3 c
  have k1 := conv1 c
  have hw2 : (wordsB (bs [97, c, 98])).length = 1 := by rw [words3, hb]; rfl
  have HW := Lib.hid hw2
  have HS := Lib.hid (strip3_other c hb)
  have HT := Lib.hid (fun k => trim_many_other k c hb)
  have HL := Lib.hid (fun k => left_many_other k c hb)
  have hp := place_lt n 30 (by omega)
  have HB32 : Hid (((bs [97, c, 98]).toList == [97, 32, 98]) = false) := by
    show _ = _
    rw [Lib.toList_data, bs_data]
    have hc : c ≠ 32 := by rintro rfl; cases h1
    simp [hc]
  clear hw2 hb
  go_enter Try.func6, Try.ntmps6
  go_wp2_with fail
  refine (split_len (bs [97, c, 98]) 1 _ (by rw [size_bs]; simp) HW.out).mono ?_
  rintro e w1 ⟨A, cp, rfl, hb1⟩
  have B1 := Lib.hid (((Below.refl _ w).alloc (Nat.le_refl _) _).trans (hb1.mono (by simp)))
  clear hb1
  go_wp2_with fail
  refine (place_is n 30 _ (by omega) (by omega) hn).mono ?_
  rintro e w' ⟨rfl, rfl⟩
  go_wp2
  generalize place n 30 = p at hp ⊢
  go_loopw [9, 10] (fun t i wr => ∃ k : Nat, k ≤ p ∧ i = .int .i64 k ∧ t = .string (many k c) ∧ Below w.heap.size w wr) (fun _ i _ => p - (intOf i).toNat)
  case atStart => exact ⟨0, Nat.zero_le _, rfl, rfl, B1.out⟩
  case round =>
    obtain ⟨k, hk, rfl, rfl, hB⟩ := hrel
    have HB := Lib.hid hB
    have hBs := hB.size
    clear hB B1
    have hs1 : (many k c).size ≤ 30 := by rw [many_size]; omega
    have hs2 : (bs [c]).size ≤ 1 := by rw [size_bs]; exact Nat.le_refl _
    by_cases hlt : k < p
    · go_wp2
      go_roundw
      case rel => exact ⟨k + 1, by omega, by go_num, by rw [many_succ], HB.out.alloc hBs _⟩
      case measure => simp [intOf]; omega
    · have hm1 : (many k c).size ≤ maxLen := by rw [many_size]; unfold maxLen; omega
      have hm2 : (many k c ++ (⟨#[120]⟩ : ByteArray)).size ≤ maxLen := by rw [many_x_size]; unfold maxLen; omega
      clear k1 k3
      have hs3 : (⟨#[120]⟩ : ByteArray).size ≤ 1 := Nat.le_refl _
      go_wp2_with fail
      refine (trim_eq (many k c) (many k c) _ hm1 (HT.out k)).mono ?_
      rintro e w' ⟨rfl, rfl⟩
      go_wp2_with fail
      refine (left_eq (many k c ++ (⟨#[120]⟩ : ByteArray)) (many k c ++ (⟨#[120]⟩ : ByteArray)) _ hm2 (HL.out k)).mono ?_
      rintro e w' ⟨rfl, rfl⟩
      go_wp2_with fail
      refine (strip_eq (bs [97, c, 98]) (bs [97, c, 98]) _ (by rw [size_bs]; simp) HS.out).mono ?_
      rintro e w2 ⟨rfl, hb2⟩
      have B2 := Lib.hid (HB.out.trans (hb2.mono hBs))
      have q32 := HB32.out
      clear hb2 HB hBs
      go_wp2_with fail
      refine (awake_is _).mono ?_
      rintro e w3 ⟨rfl, hb3⟩
      have B3 := Lib.hid (B2.out.trans (hb3.mono B2.out.size))
      clear hb3 B2
      go_wp2
      go_ret
      exact ⟨rfl, B3.out⟩

theorem walk (c : UInt8) (n : Int) (hn : (Lit.int .i64 n).wf = true) (w : World) :
    Calls Try.prog 6 #[.int .u8 ((c.toNat : Nat) : Int), .int .i64 n] w fun e W' => e = .returned (.bool true) ∧ Below w.heap.size w W' := by
  have hm := isBl_mk (c := c) rfl
  cases h1 : ((((c.toNat : Nat) : Int)) == 32) with
  | true =>
    rw [h1, Bool.true_or] at hm
    exact walk_blank c n hn hm.symm (.inl h1) w
  | false =>
    cases h2 : ((((c.toNat : Nat) : Int)) == 9) with
    | true =>
      rw [h1, h2] at hm
      exact walk_blank c n hn hm.symm (.inr (.inl ⟨h1, h2⟩)) w
    | false =>
      cases h3 : ((((c.toNat : Nat) : Int)) == 10) with
      | true =>
        rw [h1, h2, h3] at hm
        exact walk_blank c n hn hm.symm (.inr (.inr ⟨h1, h2, h3⟩)) w
      | false =>
        rw [h1, h2, h3] at hm
        exact walk_other c n hn hm.symm h1 h2 h3 w

end Go.Proofs.Ytaadhkfhjcaglaa.WordsOther
