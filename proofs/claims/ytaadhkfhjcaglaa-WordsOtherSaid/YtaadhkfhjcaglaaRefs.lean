/- What the document's Same, Split, Join and Strip answer over lists of texts. -/
import Derived.Laws.BytesArg
import Derived.Test.YtaadhkfhjcaglaaLists
namespace Go.Proofs.Ytaadhkfhjcaglaa.Refs
open Go.RowKit Go.Proofs.Ytaadhkfhjcaglaa.Pure Go.Proofs.Ytaadhkfhjcaglaa.Ends Go.Proofs.Ytaadhkfhjcaglaa.Lists

theorem below_drewN {B : Nat} {a w : World} (h : Below B a w) (n : Nat) : Below B a (w.drewN n) := ⟨h.os, h.tape, h.output, h.size, h.block⟩

set_option maxHeartbeats 1000000 in
/-- the document's Same, of two lists of the same texts -/
theorem same_is (A A' : Option Addr) (n c c' : Nat) (xs : List ByteArray) (w : World) (hn : xs.length = n) (h : SlIs w A c xs) (h' : SlIs w A' c' xs) (hm : n ≤ maxLen) :
    Calls Try.prog 8 #[.slice A n c, .slice A' n c'] w fun e W' => e = .returned (.bool true) ∧ ∃ m, W' = w.drewN m := by
  unfold maxLen at hm
  have HN := Lib.hid hn
  have HL := Lib.hid h
  have HL' := Lib.hid h'
  clear hn h h'
  go_enter Try.func8, Try.ntmps8
  go_wp2
  go_loopw [5] (fun i wr => ∃ k m : Nat, k ≤ n ∧ i = .int .i64 k ∧ wr = w.drewN m) (fun i _ => n - (intOf i).toNat)
  case atStart => exact ⟨0, 0, Nat.zero_le _, rfl, rfl⟩
  case round =>
    obtain ⟨k, m, hk, rfl, rfl⟩ := hrel
    by_cases hlt : k < n
    · have hl : k < xs.length := by have := HN.out; omega
      have hx : xs[k]? = some xs[k] := List.getElem?_eq_getElem hl
      rcases HL.out.2 with h0 | ⟨b, o, rfl, hb, hc⟩
      · rw [h0] at hl; exact absurd hl (Nat.not_lt_zero _)
      rcases HL'.out.2 with h0 | ⟨b', o', rfl, hb', hc'⟩
      · rw [h0] at hl; exact absurd hl (Nat.not_lt_zero _)
      have c1 : w.cell? ⟨b, o + k, none⟩ = some (.string xs[k]) := hc k _ hx
      have c2 : w.cell? ⟨b', o' + k, none⟩ = some (.string xs[k]) := hc' k _ hx
      clear hc hc' hx hb hb' HL HL' HN
      generalize xs[k] = x at c1 c2
      go_wp2
      go_quiet (fail)
      go_wp2
      go_roundw
      case rel => exact ⟨k + 1, _, by omega, by go_num, rfl⟩
      case measure => simp [intOf]; omega
    · go_wp2
      go_ret
      exact ⟨rfl, m, rfl⟩

theorem below_append {B e n : Nat} {w wr w1 : World} {v : Value} {xs : List Value} {o : Obj} (hB : Below B w wr) (hBs : B ≤ wr.heap.size) (hown : wr.ownsRow B e 1 v n xs) (hg : (wr.alloc o).grownBy w1 v.ownBlock) : Below B w w1 :=
  (hB.alloc hBs o).grown hg (by simp; omega) (fun k e => (hown.lt k e).1)
theorem below_append0 {B e n : Nat} {w wr w1 : World} {v : Value} {xs : List Value} (hB : Below B w wr) (hBs : B ≤ wr.heap.size) (hown : wr.ownsRow B e 1 v n xs) (hg : wr.grownBy w1 v.ownBlock) : Below B w w1 :=
  hB.grown hg hBs (fun k e => (hown.lt k e).1)

set_option maxHeartbeats 2000000 in
/-- the document's Split -/
theorem refSplit_any (s : ByteArray) (w : World) (hs : s.size ≤ 1099511627776) :
    Calls Try.prog 10 #[.string s] w fun e W' => ∃ v, e = .returned v ∧ W'.ownsRow w.heap.size 9 1 v (wordsB s).length ((wordsB s).map Value.string) ∧ Below w.heap.size w W' := by
  obtain ⟨i0, hi, hz0, hz1, hz2⟩ := info_parts Cut.infoString
  go_enter Try.func10, Try.ntmps10
  go_wp2
  go_loopw [3, 4, 5] (fun v fr i wr => ∃ (k f : Nat) (acc : List ByteArray), k ≤ s.size + 1 ∧ f ≤ k ∧ acc.length ≤ k ∧ i = .int .i64 k ∧ fr = .int .i64 f ∧ wr.ownsRow w.heap.size 9 1 v acc.length (acc.map Value.string) ∧ Below w.heap.size w wr ∧ Hid (Inv s k f acc))
    (fun _ _ i _ => s.size + 1 - (intOf i).toNat)
  case atStart => exact ⟨0, 0, [], Nat.zero_le _, Nat.le_refl _, Nat.le_refl _, rfl, rfl, World.ownsRow_nil _ _ _ _, Below.refl _ _, inv_start s⟩
  case round =>
    obtain ⟨k, f, acc, hk, hf, ha, rfl, rfl, hown, hB, hinv⟩ := hrel
    have hBs := hB.size
    by_cases hle : k ≤ s.size
    · by_cases ho : ∃ h : k < s.size, isBl s[k] = false
      · obtain ⟨hlt, hb⟩ := ho
        have HS := Lib.hid (inv_other hf hlt hb hinv.out)
        have HO := Lib.hid hown
        have HB := Lib.hid hB
        clear hown hB hinv
        go_wp2_with (go_at_call 22; refine (refBlank_num _ false _ (isBl_mk hb)).mono ?_; rintro e w' ⟨rfl, rfl⟩)
        go_roundw
        case rel => exact ⟨k + 1, f, acc, by omega, by omega, by omega, by go_num, rfl, HO.out, HB.out, HS⟩
        case measure => simp [intOf]; omega
      · have hb : ∀ h : k < s.size, isBl s[k] = true := fun h => by
          cases hh : isBl s[k] with
          | true => rfl
          | false => exact absurd ⟨h, hh⟩ ho
        clear ho
        by_cases hfk : f < k
        · have HS := Lib.hid (inv_cut hfk hle hb hinv.out)
          have HB := Lib.hid hB
          clear hB hinv
          by_cases hlt : k < s.size
          · have hb' := isBl_mk (hb hlt)
            clear hb
            go_wp2_with (first | (go_at_call 22; refine (refBlank_num _ true _ hb').mono ?_; rintro e w' ⟨rfl, rfl⟩) | (at_builtin; refine wpList_append_own _ rfl _ _ 22 rfl w.heap.size 9 i0 (.string .empty) 1 16 Try.underlying22 hi hz0 hz1 hz2 rfl (by decide) _ _ _ rfl (hown.alloc _) ⟨wr.heap.size, 0, none⟩ 1 1 [.string (s.extract f k)] rfl rfl (cell_one_new _ _ _) (by simp [Value.oneCell']) (by unfold maxLen; omega) (by omega) (by simp; omega) ?_; intro v' w1 hown' hgrow _; have HO := Lib.hid hown'; have HG := Lib.hid (below_append HB.out hBs hown hgrow); clear hown' hgrow))
            go_roundw
            case rel => exact ⟨k + 1, k + 1, acc ++ [s.extract f k], by omega, by omega, by simp; omega, by go_num, by go_num, by simpa using HO.out, HG.out, HS⟩
            case measure => simp [intOf]; omega
          · clear hb
            go_wp2_with (first | (at_builtin; refine wpList_append_own _ rfl _ _ 22 rfl w.heap.size 9 i0 (.string .empty) 1 16 Try.underlying22 hi hz0 hz1 hz2 rfl (by decide) _ _ _ rfl (hown.alloc _) ⟨wr.heap.size, 0, none⟩ 1 1 [.string (s.extract f k)] rfl rfl (cell_one_new _ _ _) (by simp [Value.oneCell']) (by unfold maxLen; omega) (by omega) (by simp; omega) ?_; intro v' w1 hown' hgrow _; have HO := Lib.hid hown'; have HG := Lib.hid (below_append HB.out hBs hown hgrow); clear hown' hgrow))
            go_roundw
            case rel => exact ⟨k + 1, k + 1, acc ++ [s.extract f k], by omega, by omega, by simp; omega, by go_num, by go_num, by simpa using HO.out, HG.out, HS⟩
            case measure => simp [intOf]; omega
        · obtain rfl : f = k := by omega
          have HS := Lib.hid (inv_skip hle hb hinv.out)
          have HO := Lib.hid hown
          have HB := Lib.hid hB
          clear hown hB hinv
          by_cases hlt : f < s.size
          · have hb' := isBl_mk (hb hlt)
            clear hb
            go_wp2_with (go_at_call 22; refine (refBlank_num _ true _ hb').mono ?_; rintro e w' ⟨rfl, rfl⟩)
            go_roundw
            case rel => exact ⟨f + 1, f + 1, acc, by omega, by omega, by omega, by go_num, by go_num, HO.out, HB.out, HS⟩
            case measure => simp [intOf]; omega
          · clear hb
            go_wp2
            go_roundw
            case rel => exact ⟨f + 1, f + 1, acc, by omega, by omega, by omega, by go_num, by go_num, HO.out, HB.out, HS⟩
            case measure => simp [intOf]; omega
    · have HS := Lib.hid (hinv.out.2 (by omega))
      have HO := Lib.hid hown
      have HB := Lib.hid hB
      clear hown hB hinv
      go_wp2
      go_ret
      exact ⟨_, rfl, by rw [← HS.out]; exact HO.out, HB.out⟩
theorem refSplit_is (s : ByteArray) (w : World) (hs : s.size ≤ 1099511627776) :
    Calls Try.prog 10 #[.string s] w fun e W' => ∃ A c, e = .returned (.slice A (wordsB s).length c) ∧ SlIs W' A c (wordsB s) ∧ Below w.heap.size w W' :=
  (refSplit_any s w hs).mono fun e W' ⟨v, he, hr, hb⟩ => by
    obtain ⟨A, c, rfl, h⟩ := slIs_of_own hr
    exact ⟨A, c, he, h, hb⟩

theorem infoByte : (Try.prog.info? 5).map (fun i => (i.zero, i.size, i.bytes)) = some (some (.int .u8 0), 1, 1) := by kernel_rfl

/-- bytes as cells -/
def cellsOf (l : List UInt8) : List Value := l.map fun b => Value.int .u8 b.toNat
theorem cellsOf_app (a b : List UInt8) : cellsOf (a ++ b) = cellsOf a ++ cellsOf b := List.map_append
theorem cellsOf_len (a : List UInt8) : (cellsOf a).length = a.length := List.length_map _

/-- a slice of bytes that the call owns, turned into a text -/
theorem conv_own {w : World} {base : Nat} {v : Value} {l : List UInt8} (h : w.ownsRow base 5 1 v l.length (cellsOf l)) :
    (convert 35 9 v).run Try.prog w = .ok (.string (bs l)) w := by
  have hcells : ∀ g, v.ownBlock = some g → ∀ j u, (cellsOf l)[j]? = some u → w.cell? ((⟨g, 0, none⟩ : Addr).add j) = some u := fun g hg => h.cells (g := g) hg
  rcases h.2 with ⟨rfl, hn⟩ | ⟨g, cap, cur, rfl, _, _, _, _, _, _⟩
  · have hl : l = [] := List.eq_nil_of_length_eq_zero hn
    subst hl
    exact run_convert_bytes_nil w 35 5 Try.underlying35 Try.underlying5 0 0 9 Try.underlying9
  · exact run_convert_bytes_back w 35 9 5 ⟨g, 0, none⟩ cap l Try.underlying35 Try.underlying5 Try.underlying9 fun j hj => hcells g rfl j _ (by
      rw [cellsOf, List.getElem?_map, List.getElem?_eq_getElem hj]; rfl)

def Jn (xs : List ByteArray) (k : Nat) : List UInt8 := Lib.join ((xs.map (·.data.toList)).take k) [32]
theorem jn_zero (xs : List ByteArray) : Jn xs 0 = [] := by simp [Jn, Lib.join_nil]
theorem jn_all (xs : List ByteArray) : bs (Jn xs xs.length) = joinB xs := by
  rw [Jn, joinB, List.take_of_length_le (by simp)]
theorem jn_one (xs : List ByteArray) (x : ByteArray) (h : xs[0]? = some x) : Jn xs 1 = x.data.toList :=
  join_take_one _ _ (by rw [List.getElem?_map, h]; rfl)
theorem jn_succ (xs : List ByteArray) (k : Nat) (x : ByteArray) (hk : 0 < k) (h : xs[k]? = some x) : Jn xs (k + 1) = Jn xs k ++ [32] ++ x.data.toList :=
  join_take_succ _ _ _ hk (by rw [List.getElem?_map, h]; rfl)
theorem jn_le (xs : List ByteArray) (k : Nat) : (Jn xs k).length ≤ (Lib.join (xs.map (·.data.toList)) [32]).length := join_take_le _ _
theorem str_cells (x : ByteArray) : Lib.strCells x = cellsOf x.data.toList := rfl

set_option maxHeartbeats 2000000 in
/-- the document's Join -/
theorem refJoin_is (A : Option Addr) (n c : Nat) (xs : List ByteArray) (w : World) (hn : xs.length = n) (h : SlIs w A c xs) (hN : n ≤ 1099511627776) (hlen : (Lib.join (xs.map (·.data.toList)) [32]).length ≤ 1099511627776) :
    Calls Try.prog 12 #[.slice A n c] w fun e W' => e = .returned (.string (joinB xs)) ∧ Below w.heap.size w W' := by
  obtain ⟨i0, hi, hz0, hz1, hz2⟩ := info_parts infoByte
  have HN := Lib.hid hn
  have HL := Lib.hid h
  have HJ := Lib.hid hlen
  clear hn h hlen
  go_enter Try.func12, Try.ntmps12
  go_wp2
  go_loopw [3, 4] (fun v i wr => ∃ k : Nat, k ≤ n ∧ i = .int .i64 k ∧ wr.ownsRow w.heap.size 5 1 v (Jn xs k).length (cellsOf (Jn xs k)) ∧ Below w.heap.size w wr) (fun _ i _ => n - (intOf i).toNat)
  case atStart => exact ⟨0, Nat.zero_le _, rfl, by rw [jn_zero]; exact World.ownsRow_nil _ _ _ _, Below.refl _ _⟩
  case round =>
    obtain ⟨k, hk, rfl, hown, hB⟩ := hrel
    have hBs := hB.size
    by_cases hlt : k < n
    · have hl : k < xs.length := by have := HN.out; omega
      have hx : xs[k]? = some xs[k] := List.getElem?_eq_getElem hl
      rcases HL.out.2 with h0 | ⟨b, o, rfl, hb, hc⟩
      · rw [h0] at hl; exact absurd hl (Nat.not_lt_zero _)
      have c0 : w.cell? ⟨b, o + k, none⟩ = some (.string xs[k]) := hc k _ hx
      have c1 : ∀ W : World, Below w.heap.size w W → W.cell? ⟨b, o + k, none⟩ = some (.string xs[k]) := fun W hW => (hW.cell (p := ⟨b, o + k, none⟩) hb).trans c0
      clear hc c0
      have q1 := Nat.le_trans (jn_le xs (k + 1)) HJ.out
      generalize xs[k] = x at hx c1
      rcases Nat.eq_zero_or_pos k with hk0 | hk0
      · have c2 := c1 wr hB
        have HX : Hid (Jn xs (k + 1) = x.data.toList) := by subst hk0; exact jn_one xs x hx
        have e0 : Jn xs k = [] := by rw [hk0, jn_zero]
        rw [e0] at hown
        rw [HX.out, ← Lib.size_eq] at q1
        have hk1 : ¬ 0 < k := by omega
        clear e0 hk0
        have HB := Lib.hid hB
        clear c1 hB hx
        go_wp2_with (at_builtin; refine Lib.wpList_append_own_string _ rfl (.tmp 16) (.tmp 20) 35 9 rfl w.heap.size 5 i0 Try.underlying35 Try.underlying9 hi hz0 hz1 hz2 _ _ _ rfl hown x rfl (by unfold maxLen; simp; omega) (by simp; omega) hBs ?_; intro v' w1 hown' hgrow _; have HO := Lib.hid hown'; have HG := Lib.hid (below_append0 HB.out hBs hown hgrow); clear hown' hgrow)
        go_roundw
        case rel => exact ⟨k + 1, by omega, by go_num, by rw [HX.out, ← Lib.size_eq]; simpa [cellsOf, str_cells] using HO.out, HG.out⟩
        case measure => simp [intOf]; omega
      · have HX := Lib.hid (jn_succ xs k x hk0 hx)
        rw [HX.out] at q1
        simp only [List.length_append, List.length_cons, List.length_nil, ← Lib.size_eq] at q1
        have HB := Lib.hid hB
        clear hB hx
        have HC := Lib.hid c1
        clear c1
        go_wp2_with (first | (at_builtin; refine wpList_append_own _ rfl (.tmp 13) (.tmp 14) 35 rfl w.heap.size 5 i0 (.int .u8 0) 1 1 Try.underlying35 hi hz0 hz1 hz2 rfl (by decide) _ _ _ rfl (hown.alloc _) ⟨wr.heap.size, 0, none⟩ 1 1 [.int .u8 32] rfl rfl (cell_one_new _ _ _) (by simp [Value.oneCell']) (by unfold maxLen; omega) (by omega) (by simp; omega) ?_; intro v' w1 hown' hgrow _; have HG := Lib.hid (below_append HB.out hBs hown hgrow); have hBs1 := HG.out.size; have c2 := HC.out w1 HG.out; clear hgrow hown) | (at_builtin; refine Lib.wpList_append_own_string _ rfl (.tmp 16) (.tmp 20) 35 9 rfl w.heap.size 5 i0 Try.underlying35 Try.underlying9 hi hz0 hz1 hz2 _ _ _ rfl hown' x rfl (by unfold maxLen; omega) (by omega) hBs1 ?_; intro v2 w2 hown2 hgrow2 _; have HO := Lib.hid hown2; have HG2 := Lib.hid (below_append0 HG.out hBs1 hown' hgrow2); clear hown2 hgrow2))
        go_roundw
        case rel => exact ⟨k + 1, by omega, by go_num, by rw [HX.out]; have q := HO.out; simpa [cellsOf, str_cells, ← Lib.size_eq, Nat.add_assoc, Nat.add_comm 1] using q, HG2.out⟩
        case measure => simp [intOf]; omega
    · obtain rfl : k = n := by omega
      have hcv := conv_own hown
      have HX : Hid (bs (Jn xs k) = joinB xs) := by show _ = _; rw [← HN.out]; exact jn_all xs
      have HB := Lib.hid hB
      clear hown hB
      go_wp2
      go_ret
      exact ⟨ret_str HX.out, HB.out⟩

set_option maxHeartbeats 400000 in
/-- the document's Strip -/
theorem refStrip_is (s : ByteArray) (w : World) (hs : s.size ≤ 1000000000) :
    Calls Try.prog 14 #[.string s] w fun e W' => e = .returned (.string (stripB s)) ∧ Below w.heap.size w W' := by
  have h1 := wordsB_length s
  have h2 := join_words s
  have HT : Hid (joinB (wordsB s) = stripB s) := rfl
  go_enter Try.func14, Try.ntmps14
  go_wp2_with fail
  refine (refSplit_is s _ (by omega)).mono ?_
  rintro e w1 ⟨A, c, rfl, hl, hb⟩
  have HB := Lib.hid hb
  clear hb
  go_wp2_with fail
  refine (refJoin_is A _ c _ _ rfl hl (by omega) (by omega)).mono ?_
  rintro e w2 ⟨rfl, hb2⟩
  go_wp2
  go_ret
  exact ⟨ret_str HT.out, HB.out.trans (hb2.mono HB.out.size)⟩

end Go.Proofs.Ytaadhkfhjcaglaa.Refs
