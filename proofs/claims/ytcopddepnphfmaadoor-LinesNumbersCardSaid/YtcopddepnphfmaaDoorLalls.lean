/- What the program's All answers: a list that holds the text's logical lines. -/
import Derived.Test.YtcopddepnphfmaaDoorLall
namespace Go.Proofs.YtcopddepnphfmaaDoor.Lalls
open Go.RowKit Go.Shelf Go.Proofs.YtcopddepnphfmaaDoor.Pure Go.Proofs.YtcopddepnphfmaaDoor.Ends Go.Proofs.YtcopddepnphfmaaDoor.Ln Go.Proofs.YtcopddepnphfmaaDoor.Lnext Go.Proofs.YtcopddepnphfmaaDoor.Lall Go.Proofs.YtcopddepnphfmaaDoor.Range
open Go.Proofs.YtcopddepnphfmaaDoor.Strs (addr_add)

attribute [local go_sem] Oper.semAt_some

def cells1 (x : LL) : List Value := [.string (bs x.1), .int .i64 (x.2.1 : Int), .bool x.2.2]
def cellsL : List LL → List Value
  | [] => []
  | x :: r => cells1 x ++ cellsL r
theorem cellsL_app (a b : List LL) : cellsL (a ++ b) = cellsL a ++ cellsL b := by
  induction a with
  | nil => rfl
  | cons x r ih => rw [List.cons_append, cellsL, ih, cellsL, List.append_assoc]
theorem cellsL_snoc (a : List LL) (x : LL) : cellsL (a ++ [x]) = cellsL a ++ cells1 x := by
  rw [cellsL_app]; exact congrArg _ (List.append_nil _)
theorem three_cells (w : World) (x : LL) : ∀ (j : Nat) (u : Value), (cells1 x)[j]? = some u → (w.alloc (.cells #[.string (bs x.1), .int .i64 (x.2.1 : Int), .bool x.2.2] 26)).cell? ((⟨w.heap.size, 0, none⟩ : Addr).add j) = some u := fun j u hu => by
  rw [addr_add, Nat.zero_add, Lib.cell_of_heap (heap_alloc_new w _)]
  rw [← hu]
  simp [cells1]
theorem allL_count (n : Nat) : ∀ (l : List UInt8) (k : Nat), l.length ≤ n → (allL l k).length ≤ l.length := by
  induction n with
  | zero =>
    intro l k h
    rw [List.eq_nil_of_length_eq_zero (Nat.le_zero.1 h), allL_nil]; exact Nat.le_refl _
  | succ n ih =>
    intro l k h
    by_cases hl : l = []
    · rw [hl, allL_nil]; exact Nat.le_refl _
    · have h1 := (leftL_suffix hl).2
      have := ih (leftL l) (k + (pieces l).length) (by omega)
      rw [allL_cons hl]; simp; omega

/-- what is there between two rounds -/
def Mid (q : Nat) (w : World) (pre : List LL) (X : List Nat) (W : World) : Prop :=
  ∃ v, Boxed W q 30 v ∧ W.ownsRow (q + 4) 26 3 v pre.length (cellsL pre) ∧ (∀ g, v.ownBlock = some g → g ∉ X) ∧ q ∉ X ∧ Below q w W
theorem mid_out {q : Nat} {w : World} (hq : q ≤ w.heap.size) (s : List LL) (X : List Nat) (A B : World) (h : Mid q w s X A) (ho : Out X A B) (hX : ∀ k ∈ X, q ≤ k) : Mid q w s X B := by
  obtain ⟨v, hv, hr, hg, hn, hb⟩ := h
  exact ⟨v, (ho.block q hv.lt hn).trans hv, own_out hr ho hg, hg, hn, hb.trans ⟨ho.os, ho.tape, ho.output, ho.size, fun k hk => ho.block k (by have := hb.size; omega) (fun e => by have := hX k e; omega)⟩⟩

set_option maxRecDepth 100000 in
set_option maxHeartbeats 4000000 in
/-- the program's All -/
theorem all_is (s : ByteArray) (w : World) (hs : s.size ≤ 1000000) :
    Calls Tryd.prog 14 #[.string s] w fun e W' => ∃ v, e = .returned v ∧ W'.ownsRow w.heap.size 26 3 v (allL s.data.toList 1).length (cellsL (allL s.data.toList 1)) ∧ Below w.heap.size w W' := by
  obtain ⟨i0, hi, hz0, hz1, hz2⟩ := info_parts infoLine
  have hcount := allL_count _ s.data.toList 1 (Nat.le_refl _)
  rw [← Lib.size_eq] at hcount
  refine (callsIn_wide (n := 8)).1 ?_
  have f1 : Fence.wide.fn 14 := trivial
  have f2 : Fence.wide.fn 33 := trivial
  have f3 : Fence.wide.fn 49 := trivial
  refine callsIn_of_wp_marks Tryd.func14 rfl f1 ?_ rfl
  simp only [Tryd.ntmps14, List.size_toArray, List.length_cons, List.length_nil, Nat.reduceAdd, Nat.reduceSub, Array.replicate_succ, Array.replicate_zero, List.push_toArray, List.append_toArray, List.nil_append, List.cons_append]
  gi_wp2_with (gi_at_call 33; refine (each_in _ _ _).mono ?_; rintro e w' ⟨rfl, rfl⟩)
  have bO := (Boxed.new w 30 (.slice none 0 0)).alloc (.cells #[.string s] 9)
  have bN := Boxed.new (w.alloc (.cells #[.slice none 0 0] 30)) 9 (.string s)
  rw [World.size_alloc] at bN
  have hB0 : Below w.heap.size w ((w.alloc (.cells #[.slice none 0 0] 30)).alloc (.cells #[.string s] 9)) := ((Below.refl _ w).alloc (Nat.le_refl _) _).alloc (by simp) _
  have hz : ((w.alloc (.cells #[.slice none 0 0] 30)).alloc (.cells #[.string s] 9)).heap.size = w.heap.size + 2 := by simp
  obtain ⟨W0, hW0⟩ : ∃ W0, W0 = (w.alloc (.cells #[.slice none 0 0] 30)).alloc (.cells #[.string s] 9) := ⟨_, rfl⟩
  rw [← hW0] at bO bN hB0 hz ⊢
  clear hW0
  refine range_own rfl (by omega) (gf := 49) (lb := #[.pointer (some ⟨w.heap.size + 1, 0, none⟩)]) rfl f3 (enters_of Tryd.func49 (by kernel_rfl) rfl)
    (lines_stops _ (by omega) (w.heap.size + 1) s hs W0 bN) (fun h1 h2 => h2.trans h1) (fun A l o o' hl _ _ => World.putObj_heap_other (by have := bN.lt; omega)) (Below.refl _ _) (fun _ => rfl)
    (fun pre X W => Mid w.heap.size w pre X W ∧ ∀ k ∈ X, w.heap.size ≤ k)
    (fun pre X A B h ho => ⟨mid_out (Nat.le_refl _) pre X A B h.1 ho h.2, h.2⟩) ?new ?puto ⟨⟨_, bO, World.ownsRow_nil _ _ _ _, fun g h => (by cases h), by simp, hB0⟩, fun k hk => absurd hk (by simp)⟩
    (fun x a' W => ∃ c, W.heap[c]? = some (.cells #[.string (bs x.1), .int .i64 (x.2.1 : Int), .bool x.2.2] 26 (0, 0)) ∧ a' = { tmps := #[.string s, undef, .slice none 0 0, .pointer (some ⟨w.heap.size, 0, none⟩), .pointer (some ⟨c, 0, none⟩), .string s, .func (.func 49) #[] #[.pointer (some ⟨w.heap.size + 1, 0, none⟩)], llV x, undef, undef, undef, undef, undef], defers := [] })
    ?ax ?assign ?body ?done
  case new =>
    rintro pre X A o ⟨⟨v, hv, hr, hg, hn, hb⟩, hX⟩
    have hA := hv.lt
    refine ⟨⟨v, hv.alloc o, hr.alloc o, fun g h => ?_, ?_, hb.alloc hb.size o⟩, fun k hk => ?_⟩
    · have := (hr.lt g h).2
      simp only [List.mem_cons, not_or]
      exact ⟨by omega, hg g h⟩
    · simp only [List.mem_cons, not_or]
      exact ⟨by omega, hn⟩
    · rcases List.mem_cons.1 hk with rfl | hk
      · omega
      · exact hX k hk
  case puto =>
    rintro pre X A l o o' ⟨⟨v, hv, hr, hg, hn, hb⟩, hX⟩ hl1 hl2 hl ho
    exact ⟨⟨v, (World.putObj_heap_other (by omega)).trans hv, ownsRow_putObj hr o' hl ho, hg, hn, hb.grown (grownBy_putObj' A l o') hb.size (fun k e => by cases e; omega)⟩, hX⟩
  case ax =>
    rintro x a' A l o o' ⟨c, hc, rfl⟩ hl1 hl2 hl ho
    refine ⟨c, (World.putObj_heap_other (fun e => ?_)).trans hc, rfl⟩
    rw [e] at hc
    rw [hc] at hl
    cases hl
    cases ho
  case assign =>
    rintro l pre X x W K hsz hx hi hK
    unfold llE llV
    gi_wp2
    exact hK _ _ ((KeepsOthers.alloc _ _).from _) (Below.heap_alloc _ _ _ (by omega)) (fun k hk => Below.heap_alloc _ _ _ (hx k hk).2) ⟨mid_out (Nat.le_refl _) pre X _ _ hi.1 (Out.of_below ((Below.refl _ W).alloc (Nat.le_refl _) _)) hi.2, hi.2⟩ ⟨_, World.alloc_heap_new W _, rfl⟩
  case body =>
    rintro l pre X x a' W hsz hx ⟨⟨v, hv, hr, hg, hn, hb⟩, hX⟩ ⟨c, hc, rfl⟩ hlt
    have hcv := hv.cell
    have l0 : W.cell? ⟨c, 0, none⟩ = some (.string (bs x.1)) := by rw [Lib.cell_of_heap hc]; rfl
    have l1 : W.cell? ⟨c, 1, none⟩ = some (.int .i64 (x.2.1 : Int)) := by rw [Lib.cell_of_heap hc]; rfl
    have l2 : W.cell? ⟨c, 2, none⟩ = some (.bool x.2.2) := by rw [Lib.cell_of_heap hc]; rfl
    have HG := Lib.hid hg
    have HX := Lib.hid hx
    have HN := Lib.hid hn
    have HXX := Lib.hid hX
    have HBW := Lib.hid hb
    clear hg hx hn hX hb hc
    gi_wp2_with (gi_at_builtin; refine round_append rfl _ _ 30 rfl (w.heap.size + 4) 26 i0 (.agg #[.string .empty, .int .i64 0, .bool false]) 3 32 Tryd.underlying30 hi hz0 hz1 hz2 rfl (by decide) _ _ _ rfl (hr.alloc _) ⟨W.heap.size, 0, none⟩ 1 1 (cells1 x) rfl rfl (three_cells W x) (by simp [cells1, Value.oneCell']) (by decide) (by unfold maxLen; omega) (by omega) (by simp; omega) (W.heap.size + 1) (by simp) ?_; intro g' cap' w1 hown' hgrow hat hlt'; obtain ⟨hv1, hv2, hr2, hk2, hb2⟩ := hv.appended (by decide) (hr.mono (show w.heap.size ≤ w.heap.size + 4 by omega)) (by omega) (Nat.le_refl _) (hown'.mono (show w.heap.size ≤ w.heap.size + 4 by omega)) hgrow; have hc1 := hv1.cell; have hf1 := hv1.frozen; have hr4 := Lib.hid (hown'.kept (grownBy_setCell' w1 w.heap.size (.slice (some ⟨g', 0, none⟩) (pre.length + 1) cap')) (.inr (hv1.not_row (by decide) hown').symm)); have H2 := Lib.hid hv2; have HK2 := Lib.hid hk2; have HB2 := Lib.hid hb2; have HGr := Lib.hid hgrow; have HAt := Lib.hid hat; clear hv2 hr2 hk2 hb2 hown' hgrow hat hv1 hlt')
    have hXs : ∀ k, k < W.heap.size → some k ≠ v.ownBlock → k ≠ w.heap.size → (w1.setCell ⟨w.heap.size, 0, none⟩ (.slice (some ⟨g', 0, none⟩) (pre.length + 1) cap')).heap[k]? = W.heap[k]? := fun k hk h1 h2 => by
      rw [Below.heap_setCell _ _ _ _ h2, HGr.out.block k (by simp; omega) h1]
      exact Below.heap_alloc _ _ _ hk
    refine ⟨HK2.out.from _, hXs _ (by have := bN.lt; omega) (fun e => by have := (hr.lt _ e.symm).1; omega) (by omega), fun k hk => hXs k (HX.out k hk).2 (fun e => HG.out k e.symm hk) (fun e => HN.out (by rw [← e]; exact hk)), ⟨_, H2.out, ?_, ?_, HN.out, HBW.out.trans HB2.out⟩, HXX.out⟩
    · rw [cellsL_snoc, List.length_append]; exact hr4.out
    · intro g hgg hgX
      have e : g' = g := by simpa [Value.ownBlock] using hgg
      subst e
      rcases HAt.out with h | h
      · exact HG.out _ h hgX
      · have := (HX.out _ hgX).2; omega
  case done =>
    rintro D xs X W hD rfl ⟨⟨v, hv, hr, hg, hn, hb⟩, hX⟩ hK
    have hcv := hv.cell
    gi_wp2
    refine ⟨by simp, .inl ⟨_, _, rfl, run_takeDeferred hK, ?_⟩⟩
    exact ⟨_, results_tmp rfl _ _ _, v, rfl, (ownsRow_putObj hr _ hK rfl).mono (by omega), hb.trans (belowK_b (w := w) (Nat.le_refl _) W D _ _ (by omega) hK rfl rfl)⟩

end Go.Proofs.YtcopddepnphfmaaDoor.Lalls
