/- The program's instruction of a node. -/
import Derived.Test.YtfenlhbkdfmneaaCap
namespace Go.Proofs.Ytfenlhbkdfmneaa.Cpo
open Go Go.RowKit Go.Proofs.Ytfenlhbkdfmneaa.Spl Go.Proofs.Ytfenlhbkdfmneaa.Nodm Go.Proofs.Ytfenlhbkdfmneaa.Nz Go.Proofs.Ytfenlhbkdfmneaa.Cpl Go.Proofs.Ytfenlhbkdfmneaa.Cin Go.Proofs.Ytfenlhbkdfmneaa.Cops Go.Proofs.Ytfenlhbkdfmneaa.Cmc Go.Proofs.Ytfenlhbkdfmneaa.Cmm Go.Proofs.Ytfenlhbkdfmneaa.Cnm Go.Proofs.Ytfenlhbkdfmneaa.Cpu Go.Proofs.Ytfenlhbkdfmneaa.Cla
open Go.Proofs.Ytfenlhbkdfmneaa.Pure (bs)

/-- the last instruction of a node -/
def lastO (k : Int) (s : T) (n : Nat) : Opp := if k = 1 then ⟨1, 0, s, []⟩ else lastOp k s n
theorem lastO_l (k : Int) (s : T) (n : Nat) : (lastO k s n).l = [] := by
  unfold lastO lastOp
  split
  · rfl
  · split
    · rfl
    · split
      · rfl
      · split <;> rfl
def PlainIs (k : Int) (s : T) (m : Nat) (o : Opp) : Prop := ∀ (A : Option Addr) (c : Nat) (w : World),
  Calls Try.prog 61 #[.agg #[.int .i64 k, .string (bs s), .slice A m c]] w fun e W' => e = .returned (.tuple #[.agg #[.int .i64 o.k, .int .i64 o.n, .string (bs o.s), .slice none 0 0], .bool true]) ∧ Below w.heap.size w W'

theorem cells_3 {W : World} {H : Nat} {x y z : Value} {ty : TypeId} (h : W.heap[H]? = some (.cells #[x, y, z] ty)) : W.cell? ⟨H, 0, none⟩ = some x ∧ W.cell? ⟨H, 1, none⟩ = some y ∧ W.cell? ⟨H, 2, none⟩ = some z :=
  ⟨by rw [Lib.cell_of_heap h]; rfl, by rw [Lib.cell_of_heap h]; rfl, by rw [Lib.cell_of_heap h]; rfl⟩
theorem two_boxes (w : World) (a b : Obj) : ∃ W, (w.alloc a).alloc b = W ∧ Below w.heap.size w W ∧ W.heap[w.heap.size]? = some a ∧ W.heap[w.heap.size + 1]? = some b := by
  refine ⟨_, rfl, ((Below.refl _ _).alloc (Nat.le_refl _) _).alloc (by simp) _, ?_, ?_⟩
  · rw [Lib.alloc_old (w.alloc a) b _ (by rw [World.size_alloc]; omega)]
    exact heap_alloc_new w a
  · have := heap_alloc_new (w.alloc a) b
    rw [World.size_alloc] at this
    exact this

set_option maxRecDepth 100000 in
set_option maxHeartbeats 4000000 in
theorem plain_text (s : T) : PlainIs 1 s 0 ⟨1, 0, s, []⟩ := by
  intro A c w
  obtain ⟨W2, hW2, hb2, hx1, hx2⟩ := two_boxes w (.cells #[.int .i64 1, .string (bs s), .slice A 0 c] 30) (.cells #[.int .i64 0, .int .i64 0, .string ⟨#[]⟩, .slice none 0 0] 44)
  obtain ⟨n0, n1, n2⟩ := cells_3 hx1
  obtain ⟨o0, o1, o2, o3⟩ := cells_four hx2
  have f0 := Lib.frozen_of_heap hx2 0
  have f1 := Lib.frozen_of_heap hx2 1
  have f2 := Lib.frozen_of_heap hx2 2
  have f3 := Lib.frozen_of_heap hx2 3
  obtain ⟨W3, hW3⟩ : ∃ W3, (((W2.setCell ⟨w.heap.size + 1, 0, none⟩ (.int .i64 1)).setCell ⟨w.heap.size + 1, 1, none⟩ (.int .i64 0)).setCell ⟨w.heap.size + 1, 2, none⟩ (.string (bs s))).setCell ⟨w.heap.size + 1, 3, none⟩ (.slice none 0 0) = W3 := ⟨_, rfl⟩
  obtain ⟨hx3, hb3, _⟩ := four_far hx2 hW3
  have HW2 := Lib.hid hW2
  have HW3 := Lib.hid hW3
  have HB3 := Lib.hid (hb2.trans (hb3.mono (Nat.le_succ _)))
  have HX3 := Lib.hid hx3
  clear hW2 hb2 hx1 hx2 hW3 hx3 hb3
  go_enter Try.func61, Try.ntmps61
  go_upto_region 1 with fail
  rw [HW2.out]
  go_upto_region 3 with fail
  go_region
  all_goals rw [HW3.out]
  all_goals obtain ⟨y0, y1, y2, y3⟩ := cells_four HX3.out
  all_goals go_wp2
  all_goals exact bodyPost_ret (v := .tuple #[.agg #[.int .i64 1, .int .i64 0, .string (bs s), .slice none 0 0], .bool true]) (by simp [results, Try.results61, go_sem, y0, y1, y2, y3]) rfl ⟨rfl, HB3.out.drew⟩

set_option maxRecDepth 100000 in
set_option maxHeartbeats 4000000 in
theorem plain_ref (s : T) : PlainIs 2 s 1 ⟨2, 0, [], []⟩ := by
  intro A c w
  obtain ⟨W2, hW2, hb2, hx1, hx2⟩ := two_boxes w (.cells #[.int .i64 2, .string (bs s), .slice A 1 c] 30) (.cells #[.int .i64 0, .int .i64 0, .string ⟨#[]⟩, .slice none 0 0] 44)
  obtain ⟨n0, n1, n2⟩ := cells_3 hx1
  obtain ⟨o0, o1, o2, o3⟩ := cells_four hx2
  have f0 := Lib.frozen_of_heap hx2 0
  have f1 := Lib.frozen_of_heap hx2 1
  have f2 := Lib.frozen_of_heap hx2 2
  have f3 := Lib.frozen_of_heap hx2 3
  obtain ⟨W3, hW3⟩ : ∃ W3, (((W2.setCell ⟨w.heap.size + 1, 0, none⟩ (.int .i64 2)).setCell ⟨w.heap.size + 1, 1, none⟩ (.int .i64 0)).setCell ⟨w.heap.size + 1, 2, none⟩ (.string ⟨#[]⟩)).setCell ⟨w.heap.size + 1, 3, none⟩ (.slice none 0 0) = W3 := ⟨_, rfl⟩
  obtain ⟨hx3, hb3, _⟩ := four_far hx2 hW3
  have HW2 := Lib.hid hW2
  have HW3 := Lib.hid hW3
  have HB3 := Lib.hid (hb2.trans (hb3.mono (Nat.le_succ _)))
  have HX3 := Lib.hid hx3
  clear hW2 hb2 hx1 hx2 hW3 hx3 hb3
  go_enter Try.func61, Try.ntmps61
  go_upto_region 1 with fail
  rw [HW2.out]
  go_upto_region 5 with fail
  go_region
  all_goals rw [HW3.out]
  all_goals obtain ⟨y0, y1, y2, y3⟩ := cells_four HX3.out
  all_goals go_wp2
  all_goals exact bodyPost_ret (v := .tuple #[.agg #[.int .i64 2, .int .i64 0, .string ⟨#[]⟩, .slice none 0 0], .bool true]) (by simp [results, Try.results61, go_sem, y0, y1, y2, y3]) rfl ⟨rfl, HB3.out.drew⟩

set_option maxRecDepth 100000 in
set_option maxHeartbeats 4000000 in
theorem plain_sub (s : T) : PlainIs 3 s 3 ⟨3, 0, [], []⟩ := by
  intro A c w
  obtain ⟨W2, hW2, hb2, hx1, hx2⟩ := two_boxes w (.cells #[.int .i64 3, .string (bs s), .slice A 3 c] 30) (.cells #[.int .i64 0, .int .i64 0, .string ⟨#[]⟩, .slice none 0 0] 44)
  obtain ⟨n0, n1, n2⟩ := cells_3 hx1
  obtain ⟨o0, o1, o2, o3⟩ := cells_four hx2
  have f0 := Lib.frozen_of_heap hx2 0
  have f1 := Lib.frozen_of_heap hx2 1
  have f2 := Lib.frozen_of_heap hx2 2
  have f3 := Lib.frozen_of_heap hx2 3
  obtain ⟨W3, hW3⟩ : ∃ W3, (((W2.setCell ⟨w.heap.size + 1, 0, none⟩ (.int .i64 3)).setCell ⟨w.heap.size + 1, 1, none⟩ (.int .i64 0)).setCell ⟨w.heap.size + 1, 2, none⟩ (.string ⟨#[]⟩)).setCell ⟨w.heap.size + 1, 3, none⟩ (.slice none 0 0) = W3 := ⟨_, rfl⟩
  obtain ⟨hx3, hb3, _⟩ := four_far hx2 hW3
  have HW2 := Lib.hid hW2
  have HW3 := Lib.hid hW3
  have HB3 := Lib.hid (hb2.trans (hb3.mono (Nat.le_succ _)))
  have HX3 := Lib.hid hx3
  clear hW2 hb2 hx1 hx2 hW3 hx3 hb3
  go_enter Try.func61, Try.ntmps61
  go_upto_region 1 with fail
  rw [HW2.out]
  go_upto_region 7 with fail
  go_region
  all_goals rw [HW3.out]
  all_goals obtain ⟨y0, y1, y2, y3⟩ := cells_four HX3.out
  all_goals go_wp2
  all_goals exact bodyPost_ret (v := .tuple #[.agg #[.int .i64 3, .int .i64 0, .string ⟨#[]⟩, .slice none 0 0], .bool true]) (by simp [results, Try.results61, go_sem, y0, y1, y2, y3]) rfl ⟨rfl, HB3.out.drew⟩

set_option maxRecDepth 100000 in
set_option maxHeartbeats 4000000 in
theorem plain_cat (s : T) (m : Nat) : PlainIs 5 s m ⟨4, (m : Int), [], []⟩ := by
  intro A c w
  obtain ⟨W2, hW2, hb2, hx1, hx2⟩ := two_boxes w (.cells #[.int .i64 5, .string (bs s), .slice A m c] 30) (.cells #[.int .i64 0, .int .i64 0, .string ⟨#[]⟩, .slice none 0 0] 44)
  obtain ⟨n0, n1, n2⟩ := cells_3 hx1
  obtain ⟨o0, o1, o2, o3⟩ := cells_four hx2
  have f0 := Lib.frozen_of_heap hx2 0
  have f1 := Lib.frozen_of_heap hx2 1
  have f2 := Lib.frozen_of_heap hx2 2
  have f3 := Lib.frozen_of_heap hx2 3
  obtain ⟨W3, hW3⟩ : ∃ W3, (((W2.setCell ⟨w.heap.size + 1, 0, none⟩ (.int .i64 4)).setCell ⟨w.heap.size + 1, 1, none⟩ (.int .i64 (m : Int))).setCell ⟨w.heap.size + 1, 2, none⟩ (.string ⟨#[]⟩)).setCell ⟨w.heap.size + 1, 3, none⟩ (.slice none 0 0) = W3 := ⟨_, rfl⟩
  obtain ⟨hx3, hb3, _⟩ := four_far hx2 hW3
  have HW2 := Lib.hid hW2
  have HW3 := Lib.hid hW3
  have HB3 := Lib.hid (hb2.trans (hb3.mono (Nat.le_succ _)))
  have HX3 := Lib.hid hx3
  clear hW2 hb2 hx1 hx2 hW3 hx3 hb3
  go_enter Try.func61, Try.ntmps61
  go_upto_region 1 with fail
  rw [HW2.out]
  go_wp2
  rw [HW3.out]
  obtain ⟨y0, y1, y2, y3⟩ := cells_four HX3.out
  exact bodyPost_ret (v := .tuple #[.agg #[.int .i64 4, .int .i64 (m : Int), .string ⟨#[]⟩, .slice none 0 0], .bool true]) (by simp [results, Try.results61, go_sem, y0, y1, y2, y3]) rfl ⟨rfl, HB3.out⟩

set_option maxRecDepth 100000 in
set_option maxHeartbeats 4000000 in
theorem plain_call (s : T) (m : Nat) : PlainIs 4 s m ⟨5, (m : Int), s, []⟩ := by
  intro A c w
  obtain ⟨W2, hW2, hb2, hx1, hx2⟩ := two_boxes w (.cells #[.int .i64 4, .string (bs s), .slice A m c] 30) (.cells #[.int .i64 0, .int .i64 0, .string ⟨#[]⟩, .slice none 0 0] 44)
  obtain ⟨n0, n1, n2⟩ := cells_3 hx1
  obtain ⟨o0, o1, o2, o3⟩ := cells_four hx2
  have f0 := Lib.frozen_of_heap hx2 0
  have f1 := Lib.frozen_of_heap hx2 1
  have f2 := Lib.frozen_of_heap hx2 2
  have f3 := Lib.frozen_of_heap hx2 3
  obtain ⟨W3, hW3⟩ : ∃ W3, (((W2.setCell ⟨w.heap.size + 1, 0, none⟩ (.int .i64 5)).setCell ⟨w.heap.size + 1, 1, none⟩ (.int .i64 (m : Int))).setCell ⟨w.heap.size + 1, 2, none⟩ (.string (bs s))).setCell ⟨w.heap.size + 1, 3, none⟩ (.slice none 0 0) = W3 := ⟨_, rfl⟩
  obtain ⟨hx3, hb3, _⟩ := four_far hx2 hW3
  have HW2 := Lib.hid hW2
  have HW3 := Lib.hid hW3
  have HB3 := Lib.hid (hb2.trans (hb3.mono (Nat.le_succ _)))
  have HX3 := Lib.hid hx3
  clear hW2 hb2 hx1 hx2 hW3 hx3 hb3
  go_enter Try.func61, Try.ntmps61
  go_upto_region 1 with fail
  rw [HW2.out]
  go_wp2
  rw [HW3.out]
  obtain ⟨y0, y1, y2, y3⟩ := cells_four HX3.out
  exact bodyPost_ret (v := .tuple #[.agg #[.int .i64 5, .int .i64 (m : Int), .string (bs s), .slice none 0 0], .bool true]) (by simp [results, Try.results61, go_sem, y0, y1, y2, y3]) rfl ⟨rfl, HB3.out⟩

theorem plain_is (k : Int) (s : T) (l : List Nz) (hf : formB k l = true) : PlainIs k s l.length (lastO k s l.length) := by
  unfold formB at hf
  unfold lastO lastOp
  by_cases h1 : k = 1
  · rw [if_pos h1] at hf ⊢
    rw [List.isEmpty_iff.1 hf, h1]
    exact plain_text s
  · rw [if_neg h1] at hf ⊢
    by_cases h2 : k = 2
    · rw [if_pos h2] at hf ⊢
      rw [of_decide_eq_true hf, h2]
      exact plain_ref s
    · rw [if_neg h2] at hf ⊢
      by_cases h3 : k = 3
      · rw [if_pos h3] at hf ⊢
        rw [of_decide_eq_true hf, h3]
        exact plain_sub s
      · rw [if_neg h3] at hf ⊢
        rcases of_decide_eq_true hf with h4 | h5
        · rw [if_pos h4, h4]
          exact plain_call s l.length
        · rw [if_neg (by omega), h5]
          exact plain_cat s l.length

end Go.Proofs.Ytfenlhbkdfmneaa.Cpo
