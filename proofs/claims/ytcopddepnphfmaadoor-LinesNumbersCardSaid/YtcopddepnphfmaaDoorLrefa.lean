/- What the document's All and Same answer. -/
import Derived.Deep.QuietTactic
import Derived.BigQuiet
import Derived.Test.YtcopddepnphfmaaDoorLrefn
namespace Go.Proofs.YtcopddepnphfmaaDoor.Lrefa
open Go.RowKit Go.Proofs.YtcopddepnphfmaaDoor.Pure Go.Proofs.YtcopddepnphfmaaDoor.Ends Go.Proofs.YtcopddepnphfmaaDoor.Ln Go.Proofs.YtcopddepnphfmaaDoor.Leach Go.Proofs.YtcopddepnphfmaaDoor.Lnext Go.Proofs.YtcopddepnphfmaaDoor.Lall Go.Proofs.YtcopddepnphfmaaDoor.Lalls Go.Proofs.YtcopddepnphfmaaDoor.Lmem Go.Proofs.YtcopddepnphfmaaDoor.Lrefn

theorem refNext_any (s : ByteArray) (k n : Nat) (w : World) (hk : k ≤ s.size) (hs : s.size ≤ 10000) (hn : n ≤ 4000000) :
    Calls Tryd.prog 12 #[.string s, .int .i64 (k : Int), .int .i64 (n : Int)] w fun e W' => ∃ (t : List UInt8) (N : Nat) (r : Bool) (a m : Nat) (ok : Bool),
      e = .returned (.tuple #[.agg #[.string (bs t), .int .i64 (N : Int), .bool r], .int .i64 (a : Int), .int .i64 (m : Int), .bool ok]) ∧ Below w.heap.size w W' ∧ Hid (Curr s k n t N r a m ok) := by
  by_cases h : k < s.size
  · refine (refNext_is s k (n : Int) w h hs (by omega) (by omega)).mono ?_
    rintro e W' ⟨rfl, hb⟩
    exact ⟨textL (dropT s k), n, isTab (lineOf (dropT s k)), s.size - (leftL (dropT s k)).length, n + (pieces (dropT s k)).length, true, by simp only [lineV, Int.natCast_add], hb, .inl ⟨h, rfl, rfl, rfl, rfl, rfl, rfl⟩⟩
  · refine (refNext_no s (k : Int) (n : Int) w (.inr (by omega))).mono ?_
    rintro e W' ⟨rfl, hb⟩
    exact ⟨[], 0, false, 0, 0, false, none_eq, hb, .inr ⟨by omega, rfl⟩⟩

theorem ownl_below {w W : World} {base : Nat} {v : Value} {k : Nat} {xs : List Value} (h : w.ownsRow base 26 3 v k xs) (hb : Below w.heap.size w W) : W.ownsRow base 26 3 v k xs := by
  rcases h.2 with h0 | ⟨g, cap, cur, rfl, hb0, hg, r⟩
  · exact ⟨h.1, .inl h0⟩
  · exact ⟨h.1, .inr ⟨g, cap, cur, rfl, hb0, (hb.block g (Array.getElem?_eq_some_iff.1 hg).1).trans hg, r⟩⟩
theorem below_append3 {B e n : Nat} {w wr w1 : World} {v : Value} {xs : List Value} {o : Obj} (hB : Below B w wr) (hBs : B ≤ wr.heap.size) (hown : wr.ownsRow B e 3 v n xs) (hg : (wr.alloc o).grownBy w1 v.ownBlock) : Below B w w1 :=
  (hB.alloc hBs o).grown hg (by simp; omega) (fun k e => (hown.lt k e).1)

set_option maxRecDepth 100000 in
set_option maxHeartbeats 2000000 in
/-- the document's All -/
theorem refAll_is (s : ByteArray) (w : World) (hs : s.size ≤ 10000) :
    Calls Tryd.prog 15 #[.string s] w fun e W' => ∃ A c, e = .returned (.slice A (allL s.data.toList 1).length c) ∧ LlIs W' A c (allL s.data.toList 1) ∧ Below w.heap.size w W' := by
  obtain ⟨i0, hi, hz0, hz1, hz2⟩ := info_parts infoLine
  have hcount := allL_count _ s.data.toList 1 (Nat.le_refl _)
  rw [← Lib.size_eq] at hcount
  have HC := Lib.hid hcount
  clear hcount
  go_enter Tryd.func15, Tryd.ntmps15
  go_wp2_with fail
  go_loopw [3, 4, 5] (fun v va vm wr => ∃ (pre : List LL) (k m : Nat), va = .int .i64 (k : Int) ∧ vm = .int .i64 (m : Int) ∧ k ≤ s.size ∧ m ≤ k + 1 ∧ wr.ownsRow w.heap.size 26 3 v pre.length (cellsL pre) ∧ Hid (allL s.data.toList 1 = pre ++ allL (dropT s k) m) ∧ Hid (Below w.heap.size w wr))
    (fun _ va _ _ => s.size - (intOf va).toNat)
  case atStart => exact ⟨[], 0, 1, rfl, rfl, Nat.zero_le _, Nat.le_refl _, World.ownsRow_nil _ _ _ _, rfl, Below.refl _ _⟩
  case round =>
    obtain ⟨pre, k, m, rfl, rfl, hk, hm, hown, HX, HB⟩ := hrel
    have HN1 := Lib.hid (fun W => refNext_any s k m W hk hs (by omega))
    have hBs := HB.out.size
    have HO := Lib.hid hown
    clear hown
    go_wp2_with fail
    refine (HN1.out _).mono ?_
    rintro e w2 ⟨t, N, r, a, m', ok, rfl, hb2, hcur⟩
    have HCur := Lib.hid hcur
    have HB2 := Lib.hid (HB.out.trans (hb2.mono hBs))
    have HO2 := Lib.hid (ownl_below HO.out hb2)
    have hs2 := HB2.out.size
    clear hb2 hcur HN1 HO
    cases ok with
    | false =>
      have HE : Hid (pre = allL s.data.toList 1) := by show _ = _; rw [HX.out, curr_end HCur.out, List.append_nil]
      obtain ⟨A, c, rfl, hl⟩ := llIs_of_own rfl HO2.out
      have HL := Lib.hid (hl.below ((Below.refl _ w2).alloc (Nat.le_refl _) (.cells #[.string (bs t), .int .i64 (N : Int), .bool r] 26)))
      clear hl
      go_wp2
      go_ret
      refine ⟨A, c, ?_, ?_, HB2.out.alloc hs2 _⟩
      · rw [HE.out]; rfl
      · rw [← HE.out]; exact HL.out
    | true =>
      obtain ⟨h1, h2, h3, h4⟩ := curr_step HCur.out
      have HX2 : Hid (allL s.data.toList 1 = pre ++ (t, N, r) :: allL (dropT s a) m') := by show _ = _; rw [HX.out, h1]
      have hpl : pre.length + 1 ≤ 10000 := by
        have e := congrArg List.length HX2.out
        have := HC.out
        simp at e
        omega
      obtain ⟨w3, hw3⟩ : ∃ w3, w3 = w2.alloc (.cells #[.string (bs t), .int .i64 (N : Int), .bool r] 26) := ⟨_, rfl⟩
      have hL : w3.heap[w2.heap.size]? = some (.cells #[.string (bs t), .int .i64 (N : Int), .bool r] 26 (0, 0)) := by rw [hw3]; exact World.alloc_heap_new w2 _
      have l0 : w3.cell? ⟨w2.heap.size, 0, none⟩ = some (.string (bs t)) := by rw [Lib.cell_of_heap hL]; rfl
      have l1 : w3.cell? ⟨w2.heap.size, 1, none⟩ = some (.int .i64 (N : Int)) := by rw [Lib.cell_of_heap hL]; rfl
      have l2 : w3.cell? ⟨w2.heap.size, 2, none⟩ = some (.bool r) := by rw [Lib.cell_of_heap hL]; rfl
      have hown3 := HO2.out.alloc (.cells #[.string (bs t), .int .i64 (N : Int), .bool r] 26)
      rw [← hw3] at hown3
      have HB3 : Hid (Below w.heap.size w w3) := by show Below _ _ _; rw [hw3]; exact HB2.out.alloc hs2 _
      have hs3 := HB3.out.size
      have HW3 := Lib.hid hw3
      clear h1 hL HO2
      go_upto_region 4 with fail
      rw [← hw3]
      clear hw3
      go_wp2_with (at_builtin; refine wpList_append_own _ rfl _ _ 30 rfl w.heap.size 26 i0 (.agg #[.string .empty, .int .i64 0, .bool false]) 3 32 Tryd.underlying30 hi hz0 hz1 hz2 rfl (by decide) _ _ _ rfl (hown3.alloc _) ⟨w3.heap.size, 0, none⟩ 1 1 (cells1 (t, N, r)) rfl rfl (three_cells w3 (t, N, r)) (by simp [cells1, Value.oneCell']) (by unfold maxLen; omega) (by omega) (by simp; omega) ?_; intro v' w4 hown' hgrow _; have HO4 := Lib.hid hown'; have HG := Lib.hid (below_append3 HB3.out hs3 hown3 hgrow); clear hown' hgrow hown3 l0 l1 l2)
      go_roundw
      case rel => exact ⟨pre ++ [(t, N, r)], a, m', rfl, rfl, h3, by omega, by rw [cellsL_snoc, List.length_append]; exact HO4.out, by show _ = _; rw [HX2.out]; simp, HG.out⟩
      case measure => simp [intOf]; omega

theorem below_drewN {B : Nat} {a w : World} (h : Below B a w) (n : Nat) : Below B a (w.drewN n) := ⟨h.os, h.tape, h.output, h.size, h.block⟩
set_option maxRecDepth 100000 in
set_option maxHeartbeats 2000000 in
/-- the document's Same, of two lists of the same lines -/
theorem same_is (A A' : Option Addr) (n c c' : Nat) (ls : List LL) (w : World) (hn : ls.length = n) (h : LlIs w A c ls) (h' : LlIs w A' c' ls) (hm : n ≤ 1000000) :
    Calls Tryd.prog 13 #[.slice A n c, .slice A' n c'] w fun e W' => e = .returned (.bool true) ∧ Below w.heap.size w W' := by
  have HN := Lib.hid hn
  have HL := Lib.hid h
  have HL' := Lib.hid h'
  clear hn h h'
  go_enter Tryd.func13, Tryd.ntmps13
  go_wp2
  go_loopw [5] (fun i wr => ∃ k m : Nat, k ≤ n ∧ i = .int .i64 k ∧ wr = w.drewN m) (fun i _ => n - (intOf i).toNat)
  case atStart => exact ⟨0, 0, Nat.zero_le _, rfl, rfl⟩
  case round =>
    obtain ⟨k, m, hk, rfl, rfl⟩ := hrel
    by_cases hlt : k < n
    · have hl : k < ls.length := by have := HN.out; omega
      have hx : ls[k]? = some ls[k] := List.getElem?_eq_getElem hl
      obtain ⟨b, rfl, hb, hc⟩ := HL.out.at_ hx
      obtain ⟨b', rfl, hb', hc'⟩ := HL'.out.at_ hx
      obtain ⟨c1, c2, c3⟩ := hc w (Below.refl _ _)
      obtain ⟨d1, d2, d3⟩ := hc' w (Below.refl _ _)
      clear hc hc' hx hb hb' HL HL' HN
      generalize ls[k] = x at *
      generalize bs x.1 = T at *
      generalize ((x.2.1 : Nat) : Int) = N at *
      generalize x.2.2 = R at *
      go_wp2
      go_quiet (fail)
      go_wp2
      go_roundw
      case rel => exact ⟨k + 1, _, by omega, by go_num, rfl⟩
      case measure => simp [intOf]; omega
    · go_wp2
      go_ret
      exact ⟨rfl, below_drewN (Below.refl _ _) m⟩

end Go.Proofs.YtcopddepnphfmaaDoor.Lrefa
