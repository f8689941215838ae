/- What the document's Of answers: the text's pattern. -/
import Derived.Laws.BytesArg
import Derived.Laws.IdiomStrings
import Derived.StillTailTactics
import Derived.Test.YtmallbgmpmdjiaaDoorRefMatch
namespace Go.Proofs.YtmallbgmpmdjiaaDoor.RefOf
open Go.RowKit Go.Proofs.YtmallbgmpmdjiaaDoor.Pat Go.Proofs.YtmallbgmpmdjiaaDoor.Build Go.Proofs.YtmallbgmpmdjiaaDoor.Of Go.Proofs.YtmallbgmpmdjiaaDoor.Match Go.Proofs.YtmallbgmpmdjiaaDoor.RefMatch

theorem u8_eq (c d : UInt8) : (((c.toNat : Nat) : Int) == ((d.toNat : Nat) : Int)) = (c == d) := by
  rw [Bool.eq_iff_iff, beq_iff_eq, beq_iff_eq, ← UInt8.toNat_inj]; omega
theorem u8_yes {c d : UInt8} (n : Int) (hd : ((d.toNat : Nat) : Int) = n) (h : c = d) : (((c.toNat : Nat) : Int) == n) = true := by
  rw [← hd, u8_eq, h]; simp
theorem u8_no {c d : UInt8} (n : Int) (hd : ((d.toNat : Nat) : Int) = n) (h : c ≠ d) : (((c.toNat : Nat) : Int) == n) = false := by
  rw [← hd, u8_eq]; simp [h]

theorem drop_cons (s : ByteArray) (k : Nat) (h : k < s.size) : s.data.toList.drop k = s[k] :: s.data.toList.drop (k + 1) := by
  rw [List.drop_eq_getElem_cons (by simpa using h)]; rfl

/-- the walk through the text: at place k, so many backslashes ahead, this was read -/
def Inv (s : ByteArray) (k b : Nat) (acc : List UInt8) : Prop := go (s.data.toList.drop k) b acc = ofL s.data.toList
theorem inv_start (s : ByteArray) : Inv s 0 0 [] := by unfold Inv; rw [List.drop_zero]; rfl
theorem inv_back {s : ByteArray} {k b : Nat} {acc : List UInt8} (h : k < s.size) (hc : s[k] = 92) (hi : Inv s k b acc) : Inv s (k + 1) (b + 1) (acc ++ [s[k]]) := by
  unfold Inv at hi
  rw [drop_cons s k h, go, if_pos hc] at hi
  exact hi
theorem inv_other {s : ByteArray} {k b : Nat} {acc : List UInt8} (h : k < s.size) (h1 : s[k] ≠ 92) (h2 : s[k] ≠ 37) (hi : Inv s k b acc) : Inv s (k + 1) 0 (acc ++ [s[k]]) := by
  unfold Inv at hi
  rw [drop_cons s k h, go, if_neg h1, if_neg h2] at hi
  exact hi
theorem inv_odd {s : ByteArray} {k b : Nat} {acc : List UInt8} (h : k < s.size) (h2 : s[k] = 37) (hb : b % 2 ≠ 0) (hi : Inv s k b acc) : Inv s (k + 1) 0 (cutAt acc b ++ [s[k]]) := by
  unfold Inv at hi
  rw [drop_cons s k h, go, if_neg (by rw [h2]; decide), if_pos h2, if_neg hb] at hi
  exact hi
theorem inv_even {s : ByteArray} {k b : Nat} {acc : List UInt8} (h : k < s.size) (h2 : s[k] = 37) (hb : b % 2 = 0) (hi : Inv s k b acc) : ofL s.data.toList = ⟨true, cutAt acc b, s.data.toList.drop (k + 1)⟩ := by
  unfold Inv at hi
  rw [drop_cons s k h, go, if_neg (by rw [h2]; decide), if_pos h2, if_pos hb] at hi
  exact hi.symm
theorem inv_end {s : ByteArray} {k b : Nat} {acc : List UInt8} (h : s.size ≤ k) (hi : Inv s k b acc) : ofL s.data.toList = ⟨false, acc, []⟩ := by
  unfold Inv at hi
  rw [List.drop_eq_nil_iff.2 (by rw [← Lib.size_eq]; exact h)] at hi
  exact hi.symm

/-- bytes as cells, owned by the call -/
def Row (B : Nat) (v : Value) (l : List UInt8) (w : World) : Prop := w.ownsRow B 5 1 v l.length (Lib.byteCells l)
theorem row_shape {B : Nat} {v : Value} {l : List UInt8} {w : World} (h : Row B v l w) : ∃ ao cap, v = .slice ao l.length cap ∧ l.length ≤ cap := by
  rcases h.2 with ⟨rfl, hn⟩ | ⟨g, cap, cur, rfl, _, _, hc, _⟩
  · exact ⟨none, 0, by rw [hn], by omega⟩
  · exact ⟨_, cap, rfl, hc⟩
theorem row_cut {B : Nat} {ao : Option Addr} {cap : Nat} {l : List UInt8} {w : World} (h : Row B (.slice ao l.length cap) l w) (n : Nat) (hn : n ≤ l.length) : Row B (.slice ao n cap) (l.take n) w := by
  have e1 : (l.take n).length = n := by rw [List.length_take]; omega
  have e2 : Lib.byteCells (l.take n) = (Lib.byteCells l).take n := List.map_take
  refine ⟨by rw [e1, e2, List.length_take, Nat.mul_one]; have : (Lib.byteCells l).length = l.length := List.length_map _; omega, ?_⟩
  rw [e1]
  rcases h.2 with ⟨hv, h0⟩ | ⟨g, cap', cur, hv, hB, hg, hc, hm, hs, ht⟩
  · injection hv with q1 q2 q3
    have : n = 0 := by omega
    exact .inl ⟨by rw [q1, q3, this], this⟩
  · injection hv with q1 q2 q3
    subst q3
    refine .inr ⟨g, cap, cur, by rw [q1], hB, hg, by omega, hm, hs, ?_⟩
    rw [e2, ← ht, List.take_take, Nat.mul_one, Nat.mul_one, Nat.min_eq_left hn]
theorem row_conv {B : Nat} {v : Value} {l : List UInt8} {w : World} (h : Row B v l w) (n : Nat) :
    (convert 57 9 v).run Tryd.prog (w.drewN n) = .ok (.string (bs l)) (w.drewN n) := by
  have hcells : ∀ g, v.ownBlock = some g → ∀ j u, (Lib.byteCells l)[j]? = some u → w.cell? ((⟨g, 0, none⟩ : Addr).add j) = some u := fun g hg => World.ownsRow.cells h (g := g) hg
  rcases h.2 with ⟨rfl, hn⟩ | ⟨g, cap, cur, rfl, _, _, _, _, _, _⟩
  · have hl : l = [] := List.eq_nil_of_length_eq_zero hn
    subst hl
    exact run_convert_bytes_nil _ 57 5 Tryd.underlying57 Tryd.underlying5 0 0 9 Tryd.underlying9
  · exact run_convert_bytes_back _ 57 9 5 ⟨g, 0, none⟩ cap l Tryd.underlying57 Tryd.underlying5 Tryd.underlying9 fun j hj => (show w.cell? _ = _ from hcells g rfl j _ (by
      rw [Lib.byteCells, List.getElem?_map, List.getElem?_eq_getElem hj]; rfl))

theorem below_append {B e n : Nat} {w wr w1 : World} {v : Value} {xs : List Value} {o : Obj} (hB : Below B w wr) (hBs : B ≤ wr.heap.size) (hown : wr.ownsRow B e 1 v n xs) (hg : (wr.alloc o).grownBy w1 v.ownBlock) : Below B w w1 :=
  (hB.alloc hBs o).grown hg (by simp; omega) (fun k e => (hown.lt k e).1)

theorem cutAt_len (acc : List UInt8) (b : Nat) (h : b ≤ acc.length) : (cutAt acc b).length = acc.length - b + b / 2 := by
  unfold cutAt
  rw [List.length_take]; omega
theorem row_cutAt {B : Nat} {ao : Option Addr} {cap b : Nat} {l : List UInt8} {w : World} (h : Row B (.slice ao l.length cap) l w) (hb : b ≤ l.length) : Row B (.slice ao (l.length - b + b / 2) cap) (cutAt l b) w :=
  row_cut h _ (by omega)

theorem row_snoc {B n : Nat} {v : Value} {l : List UInt8} {c : UInt8} {w : World} (hn : l.length = n) (h : w.ownsRow B 5 1 v (n + 1) (Lib.byteCells l ++ [.int .u8 ((c.toNat : Nat) : Int)])) : Row B v (l ++ [c]) w := by
  subst hn
  have e1 : Lib.byteCells (l ++ [c]) = Lib.byteCells l ++ [.int .u8 ((c.toNat : Nat) : Int)] := List.map_append
  unfold Row
  rw [e1, List.length_append]
  exact h

theorem kept_cellsP {w W : World} {h : Bool} {a b : ByteArray} (hb : Below (w.heap.size + 1) (w.alloc (.cells #[.bool h, .string a, .string b] 48)) W) :
    W.heap[w.heap.size]? = some (.cells #[.bool h, .string a, .string b] 48 (0, 0)) := by
  rw [hb.block w.heap.size (by omega)]
  exact heap_alloc_new w _

set_option maxRecDepth 100000 in
set_option maxHeartbeats 4000000 in
/-- the document's Of -/
theorem refOf_is (s : ByteArray) (w : World) (hs : s.size ≤ 1099511627776) :
    Calls Tryd.prog 30 #[.string s] w fun e W' => e = .returned (patV (hasB s) (preB s) (postB s)) ∧ Below w.heap.size w W' := by
  obtain ⟨i0, hi, hz0, hz1, hz2⟩ := info_parts infoByte
  go_enter Tryd.func30, Tryd.ntmps30
  go_wp2
  go_loopw [3, 4, 5] (fun v bk i wr => ∃ (k b : Nat) (acc : List UInt8), k ≤ s.size ∧ b ≤ acc.length ∧ acc.length ≤ k ∧ i = .int .i64 k ∧ bk = .int .i64 b ∧ Row (w.heap.size + 1) v acc wr ∧ Below (w.heap.size + 1) (w.alloc (.cells #[.bool false, .string .empty, .string .empty] 48)) wr ∧ Hid (Inv s k b acc))
    (fun _ _ i _ => s.size - (intOf i).toNat)
  case atStart => exact ⟨0, 0, [], Nat.zero_le _, Nat.le_refl _, Nat.le_refl _, rfl, rfl, World.ownsRow_nil _ _ _ _, Below.refl _ _, inv_start s⟩
  case round =>
    obtain ⟨k, b, acc, hk, hb, hacc, rfl, rfl, hown, hB, hinv⟩ := hrel
    have hBs := hB.size
    rw [World.size_alloc] at hBs
    have hcl : (Lib.byteCells acc).length = acc.length := List.length_map _
    have HC := Lib.hid hcl
    clear hcl
    by_cases hlt : k < s.size
    · by_cases h92 : s[k] = 92
      · have HS := Lib.hid (inv_back hlt h92 hinv.out)
        have t1 := u8_yes 92 rfl h92
        have HB := Lib.hid hB
        obtain ⟨ao, cap, rfl, hcap⟩ := row_shape hown
        clear hinv h92 hB
        go_wp2_with (at_builtin; refine wpList_append_own _ rfl (.tmp 40) (.tmp 44) 57 rfl (w.heap.size + 1) 5 i0 (.int .u8 0) 1 1 Tryd.underlying57 hi hz0 hz1 hz2 rfl (by decide) _ _ _ rfl (World.ownsRow.alloc hown _) ⟨wr.heap.size, 0, none⟩ 1 1 [.int .u8 ((s[k].toNat : Nat) : Int)] rfl rfl (cell_one_new _ _ _) (by simp [Value.oneCell']) (by unfold maxLen; omega) (by have := HC.out; omega) (by simp; omega) ?_; intro v' w1 hown' hgrow _; have HO := Lib.hid hown'; have HG := Lib.hid (below_append HB.out hBs hown hgrow); clear hown' hgrow)
        go_roundw
        case rel => exact ⟨k + 1, b + 1, acc ++ [s[k]], by omega, by simp; omega, by simp; omega, by go_num, by go_num, row_snoc rfl HO.out, HG.out, HS⟩
        case measure => simp [intOf]; omega
      · by_cases h37 : s[k] = 37
        · have t1 := u8_no 92 rfl h92
          have t2 := u8_yes 37 rfl h37
          have HB := Lib.hid hB
          by_cases hp : b % 2 = 0
          · have HS := Lib.hid (inv_even hlt h37 hp hinv.out)
            have hpar : (((b : Nat) : Int) % 2 == 0) = true := by rw [beq_iff_eq]; omega
            obtain ⟨ao, cap, rfl, hcap⟩ := row_shape hown
            have hcut := row_cutAt hown hb
            have hcv : (convert 57 9 (.slice ao (acc.length - b + b / 2) cap)).run Tryd.prog wr.drew = .ok (.string (bs (cutAt acc b))) wr.drew := row_conv hcut 1
            have hk' := kept_cellsP hB
            have c0 : wr.cell? ⟨w.heap.size, 0, none⟩ = some (.bool false) := by rw [Lib.cell_of_heap hk']; rfl
            have c1 : wr.cell? ⟨w.heap.size, 1, none⟩ = some (.string .empty) := by rw [Lib.cell_of_heap hk']; rfl
            have c2 : wr.cell? ⟨w.heap.size, 2, none⟩ = some (.string .empty) := by rw [Lib.cell_of_heap hk']; rfl
            have f0 : wr.frozen? ⟨w.heap.size, 0, none⟩ = false := Lib.frozen_of_heap hk' 0
            have f1 : wr.frozen? ⟨w.heap.size, 1, none⟩ = false := Lib.frozen_of_heap hk' 1
            have f2 : wr.frozen? ⟨w.heap.size, 2, none⟩ = false := Lib.frozen_of_heap hk' 2
            clear h92 h37 hp hinv hB hown hcut hk'
            go_wp2
            go_region
            go_wp2
            exact bodyPost_ret (v := .agg #[.bool true, .string (bs (cutAt acc b)), .string (s.extract (k + 1) s.size)]) (by simp [results, Tryd.results30, go_sem, c0, c1, c2]) rfl
              ⟨patV_eq (by rw [hasB, HS.out]) (by rw [preB, HS.out]) (by rw [postB, HS.out, Lib.extract_from]; rfl), below_drewN (end_below HB.out _ _ _) 1⟩
          · have HS := Lib.hid (inv_odd hlt h37 hp hinv.out)
            have hpar : (((b : Nat) : Int) % 2 == 0) = false := by rw [beq_eq_false_iff_ne]; omega
            have hb1 : 1 ≤ b := by omega
            obtain ⟨ao, cap, rfl, hcap⟩ := row_shape hown
            have hlc := cutAt_len acc b hb
            have HLC := Lib.hid hlc
            have hle : (cutAt acc b).length + 1 ≤ acc.length := by omega
            have hbc : (Lib.byteCells (cutAt acc b)).length = (cutAt acc b).length := List.length_map _
            have hbl : (Lib.byteCells (cutAt acc b)).length + 1 ≤ acc.length := by omega
            have hcut := row_cutAt hown hb
            have hcut2 : wr.ownsRow (w.heap.size + 1) 5 1 (.slice ao (acc.length - b + b / 2) cap) (cutAt acc b).length (Lib.byteCells (cutAt acc b)) := hcut
            clear h92 h37 hp hinv hB hcut hlc hbc
            go_wp2_with (at_builtin; refine wpList_append_own _ rfl (.tmp 40) (.tmp 44) 57 rfl (w.heap.size + 1) 5 i0 (.int .u8 0) 1 1 Tryd.underlying57 hi hz0 hz1 hz2 rfl (by decide) _ _ _ rfl (World.ownsRow.alloc hcut2 _) ⟨wr.heap.size, 0, none⟩ 1 1 [.int .u8 ((s[k].toNat : Nat) : Int)] rfl rfl (cell_one_new _ _ _) (by simp [Value.oneCell']) (by unfold maxLen; omega) (by omega) (by simp; omega) ?_; intro v' w1 hown' hgrow _; have HO := Lib.hid hown'; have HG := Lib.hid (below_append HB.out hBs hcut2 hgrow); clear hown' hgrow)
            go_roundw
            case rel => exact ⟨k + 1, 0, cutAt acc b ++ [s[k]], by omega, by simp, by simp; omega, by go_num, rfl, row_snoc rfl HO.out, HG.out, HS⟩
            case measure => simp [intOf]; omega
        · have HS := Lib.hid (inv_other hlt h92 h37 hinv.out)
          have t1 := u8_no 92 rfl h92
          have t2 := u8_no 37 rfl h37
          have HB := Lib.hid hB
          obtain ⟨ao, cap, rfl, hcap⟩ := row_shape hown
          clear hinv h92 h37 hB
          go_wp2_with (at_builtin; refine wpList_append_own _ rfl (.tmp 40) (.tmp 44) 57 rfl (w.heap.size + 1) 5 i0 (.int .u8 0) 1 1 Tryd.underlying57 hi hz0 hz1 hz2 rfl (by decide) _ _ _ rfl (World.ownsRow.alloc hown _) ⟨wr.heap.size, 0, none⟩ 1 1 [.int .u8 ((s[k].toNat : Nat) : Int)] rfl rfl (cell_one_new _ _ _) (by simp [Value.oneCell']) (by unfold maxLen; omega) (by have := HC.out; omega) (by simp; omega) ?_; intro v' w1 hown' hgrow _; have HO := Lib.hid hown'; have HG := Lib.hid (below_append HB.out hBs hown hgrow); clear hown' hgrow)
          go_roundw
          case rel => exact ⟨k + 1, 0, acc ++ [s[k]], by omega, by simp, by simp; omega, by go_num, rfl, row_snoc rfl HO.out, HG.out, HS⟩
          case measure => simp [intOf]; omega
    · have HS := Lib.hid (inv_end (by omega) hinv.out)
      have hcv := row_conv hown 0
      have e0 : wr.drewN 0 = wr := rfl
      rw [e0] at hcv
      clear e0
      have HB := Lib.hid hB
      have hk := kept_cellsP hB
      have c0 : wr.cell? ⟨w.heap.size, 0, none⟩ = some (.bool false) := by rw [Lib.cell_of_heap hk]; rfl
      have c1 : wr.cell? ⟨w.heap.size, 1, none⟩ = some (.string .empty) := by rw [Lib.cell_of_heap hk]; rfl
      have c2 : wr.cell? ⟨w.heap.size, 2, none⟩ = some (.string .empty) := by rw [Lib.cell_of_heap hk]; rfl
      have f0 : wr.frozen? ⟨w.heap.size, 0, none⟩ = false := Lib.frozen_of_heap hk 0
      have f1 : wr.frozen? ⟨w.heap.size, 1, none⟩ = false := Lib.frozen_of_heap hk 1
      have f2 : wr.frozen? ⟨w.heap.size, 2, none⟩ = false := Lib.frozen_of_heap hk 2
      clear hinv hB hown hk
      go_wp2
      exact bodyPost_ret (v := .agg #[.bool false, .string (bs acc), .string ⟨#[]⟩]) (by simp [results, Tryd.results30, go_sem, c0, c1, c2]) rfl
        ⟨patV_eq (by rw [hasB, HS.out]) (by rw [preB, HS.out]) (by rw [postB, HS.out]; rfl), end_below HB.out _ _ _⟩

end Go.Proofs.YtmallbgmpmdjiaaDoor.RefOf
