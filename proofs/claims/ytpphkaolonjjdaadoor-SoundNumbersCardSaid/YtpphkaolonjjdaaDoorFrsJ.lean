/- The document's Blank and Split. -/
import Derived.WalkKit
import Derived.WalkSpells
import Derived.IntWalk
import Derived.Lib.Hide
import Derived.Laws.BytesArg
import Derived.Laws.OwnMore
import Derived.Test.YtpphkaolonjjdaaDoorStrsJ
import Derived.Lib.Builder
import Derived.Deep.DeepCutAuto
namespace Go.Proofs.YtpphkaolonjjdaaDoor.Frs
open Go.RowKit Go.Proofs.YtpphkaolonjjdaaDoor.Pure Go.Proofs.YtpphkaolonjjdaaDoor.Strs

theorem u8_eq (c d : UInt8) : (((c.toNat : Nat) : Int) == ((d.toNat : Nat) : Int)) = (c == d) := by
  rw [Bool.eq_iff_iff, beq_iff_eq, beq_iff_eq, ← UInt8.toNat_inj]; omega

theorem isBl_mk {c : UInt8} {b : Bool} (h : isBl c = b) : (((c.toNat : Nat) : Int) == 32 || (((c.toNat : Nat) : Int) == 9 || ((c.toNat : Nat) : Int) == 10)) = b := by
  rw [← h, isBl]
  have e1 := u8_eq c 32
  have e2 := u8_eq c 9
  have e3 := u8_eq c 10
  have f1 : (((32 : UInt8).toNat : Nat) : Int) = 32 := rfl
  have f2 : (((9 : UInt8).toNat : Nat) : Int) = 9 := rfl
  have f3 : (((10 : UInt8).toNat : Nat) : Int) = 10 := rfl
  rw [f1] at e1; rw [f2] at e2; rw [f3] at e3
  rw [e1, e2, e3, Bool.or_assoc]

set_option maxHeartbeats 400000 in
/-- the document's Blank, by its number's value -/
theorem refBlank_num (n : Int) (b : Bool) (w : World) (hm : (n == 32 || (n == 9 || n == 10)) = b) : Calls Tryd.prog 51 #[.int .u8 n] w fun e w' => e = .returned (.bool b) ∧ w = w' := by
  by_cases h1 : n = 32
  · subst h1
    have : b = true := by simpa using hm.symm
    subst this
    clear hm
    go_enter Tryd.func51, Tryd.ntmps51
    go_wp2
    go_ret
    exact ⟨rfl, rfl⟩
  · by_cases h2 : n = 9
    · subst h2
      have : b = true := by simpa using hm.symm
      subst this
      clear hm h1
      go_enter Tryd.func51, Tryd.ntmps51
      go_wp2
      go_ret
      exact ⟨rfl, rfl⟩
    · have h1' : (n == 32) = false := by simpa using h1
      have h2' : (n == 9) = false := by simpa using h2
      rw [h1', h2', Bool.false_or, Bool.false_or] at hm
      subst hm
      clear h1 h2
      go_enter Tryd.func51, Tryd.ntmps51
      go_wp2
      go_ret
      exact ⟨rfl, rfl⟩

set_option maxHeartbeats 2000000 in
/-- the document's Split -/
theorem refSplit_any (s : ByteArray) (w : World) (hs : s.size ≤ 1099511627776) :
    Calls Tryd.prog 53 #[.string s] w fun e W' => ∃ v, e = .returned v ∧ W'.ownsRow w.heap.size 9 1 v (wordsB s).length ((wordsB s).map Value.string) ∧ Below w.heap.size w W' := by
  obtain ⟨i0, hi, hz0, hz1, hz2⟩ := info_parts infoString
  go_enter Tryd.func53, Tryd.ntmps53
  go_wp2
  go_loopw [3, 4, 5] (fun v fr i wr => ∃ (k f : Nat) (acc : List ByteArray), k ≤ s.size + 1 ∧ f ≤ k ∧ acc.length ≤ k ∧ i = .int .i64 k ∧ fr = .int .i64 f ∧ wr.ownsRow w.heap.size 9 1 v acc.length (acc.map Value.string) ∧ Below w.heap.size w wr ∧ Hid (Inv s k f acc))
    (fun _ _ i _ => s.size + 1 - (intOf i).toNat)
  case atStart => exact ⟨0, 0, [], Nat.zero_le _, Nat.le_refl _, Nat.le_refl _, rfl, rfl, World.ownsRow_nil _ _ _ _, Below.refl _ _, inv_start s⟩
  case round =>
    obtain ⟨k, f, acc, hk, hf, ha, rfl, rfl, hown, hB, hinv⟩ := hrel
    have hBs := hB.size
    by_cases hle : k ≤ s.size
    · by_cases ho : ∃ h : k < s.size, isBl s[k] = false
      · obtain ⟨hlt, hb⟩ := ho
        have HS := Lib.hid (inv_other hf hlt hb hinv.out)
        have HO := Lib.hid hown
        have HB := Lib.hid hB
        clear hown hB hinv
        go_wp2_with (go_at_call 51; refine (refBlank_num _ false _ (isBl_mk hb)).mono ?_; rintro e w' ⟨rfl, rfl⟩)
        go_roundw
        case rel => exact ⟨k + 1, f, acc, by omega, by omega, by omega, by go_num, rfl, HO.out, HB.out, HS⟩
        case measure => simp [intOf]; omega
      · have hb : ∀ h : k < s.size, isBl s[k] = true := fun h => by
          cases hh : isBl s[k] with
          | true => rfl
          | false => exact absurd ⟨h, hh⟩ ho
        clear ho
        by_cases hfk : f < k
        · have HS := Lib.hid (inv_cut hfk hle hb hinv.out)
          have HB := Lib.hid hB
          clear hB hinv
          by_cases hlt : k < s.size
          · have hb' := isBl_mk (hb hlt)
            clear hb
            go_wp2_with (first | (go_at_call 51; refine (refBlank_num _ true _ hb').mono ?_; rintro e w' ⟨rfl, rfl⟩) | (at_builtin; refine wpList_append_own _ rfl _ _ 83 rfl w.heap.size 9 i0 (.string .empty) 1 16 Tryd.underlying83 hi hz0 hz1 hz2 rfl (by decide) _ _ _ rfl (hown.alloc _) ⟨wr.heap.size, 0, none⟩ 1 1 [.string (s.extract f k)] rfl rfl (cell_one_new _ _ _) (by simp [Value.oneCell']) (by unfold maxLen; omega) (by omega) (by simp; omega) ?_; intro v' w1 hown' hgrow _; have HO := Lib.hid hown'; have HG := Lib.hid (below_append HB.out hBs hown hgrow); clear hown' hgrow))
            go_roundw
            case rel => exact ⟨k + 1, k + 1, acc ++ [s.extract f k], by omega, by omega, by simp; omega, by go_num, by go_num, by simpa using HO.out, HG.out, HS⟩
            case measure => simp [intOf]; omega
          · clear hb
            go_wp2_with (first | (at_builtin; refine wpList_append_own _ rfl _ _ 83 rfl w.heap.size 9 i0 (.string .empty) 1 16 Tryd.underlying83 hi hz0 hz1 hz2 rfl (by decide) _ _ _ rfl (hown.alloc _) ⟨wr.heap.size, 0, none⟩ 1 1 [.string (s.extract f k)] rfl rfl (cell_one_new _ _ _) (by simp [Value.oneCell']) (by unfold maxLen; omega) (by omega) (by simp; omega) ?_; intro v' w1 hown' hgrow _; have HO := Lib.hid hown'; have HG := Lib.hid (below_append HB.out hBs hown hgrow); clear hown' hgrow))
            go_roundw
            case rel => exact ⟨k + 1, k + 1, acc ++ [s.extract f k], by omega, by omega, by simp; omega, by go_num, by go_num, by simpa using HO.out, HG.out, HS⟩
            case measure => simp [intOf]; omega
        · obtain rfl : f = k := by omega
          have HS := Lib.hid (inv_skip hle hb hinv.out)
          have HO := Lib.hid hown
          have HB := Lib.hid hB
          clear hown hB hinv
          by_cases hlt : f < s.size
          · have hb' := isBl_mk (hb hlt)
            clear hb
            go_wp2_with (go_at_call 51; refine (refBlank_num _ true _ hb').mono ?_; rintro e w' ⟨rfl, rfl⟩)
            go_roundw
            case rel => exact ⟨f + 1, f + 1, acc, by omega, by omega, by omega, by go_num, by go_num, HO.out, HB.out, HS⟩
            case measure => simp [intOf]; omega
          · clear hb
            go_wp2
            go_roundw
            case rel => exact ⟨f + 1, f + 1, acc, by omega, by omega, by omega, by go_num, by go_num, HO.out, HB.out, HS⟩
            case measure => simp [intOf]; omega
    · have HS := Lib.hid (hinv.out.2 (by omega))
      have HO := Lib.hid hown
      have HB := Lib.hid hB
      clear hown hB hinv
      go_wp2
      go_ret
      exact ⟨_, rfl, by rw [← HS.out]; exact HO.out, HB.out⟩
theorem refSplit_is (s : ByteArray) (w : World) (hs : s.size ≤ 1099511627776) :
    Calls Tryd.prog 53 #[.string s] w fun e W' => ∃ A c, e = .returned (.slice A (wordsB s).length c) ∧ SlIs W' A c (wordsB s) ∧ Below w.heap.size w W' :=
  (refSplit_any s w hs).mono fun e W' ⟨v, he, hr, hb⟩ => by
    obtain ⟨A, c, rfl, h⟩ := slIs_of_own rfl hr
    exact ⟨A, c, he, h, hb⟩


end Go.Proofs.YtpphkaolonjjdaaDoor.Frs

/- The document's in and Find of functions. -/
namespace Go.Proofs.YtpphkaolonjjdaaDoor.Frd
open Go Go.RowKit Go.Proofs.YtpphkaolonjjdaaDoor.Strs Go.Proofs.YtpphkaolonjjdaaDoor.Srt Go.Proofs.YtpphkaolonjjdaaDoor.Fpl Go.Proofs.YtpphkaolonjjdaaDoor.Frs
open Go.Proofs.YtpphkaolonjjdaaDoor.Pure (bs words wordsB)

theorem alloc_below (w : World) (o : Obj) : Below w.heap.size w (w.alloc o) := (Below.refl _ _).alloc (Nat.le_refl _) _
theorem beq_is (x y : ByteArray) : (x.toList == y.toList) = decide (x = y) := by
  rw [Bool.eq_iff_iff, beq_iff_eq, decide_eq_true_iff, Lib.toList_data, Lib.toList_data]
  exact ⟨fun h => Pure.ext_data h, fun h => by rw [h]⟩
theorem beq_lit (x : ByteArray) (l : List UInt8) : (x.toList == l) = decide (x.data.toList = l) := by
  rw [Bool.eq_iff_iff, beq_iff_eq, decide_eq_true_iff, Lib.toList_data]

set_option maxRecDepth 100000 in
set_option maxHeartbeats 1000000 in
/-- the document's in -/
theorem in_is (s all : ByteArray) (l : List T) (w : World) (hw : words all.data.toList = l) (hz : all.size ≤ 1000000) (hl : l.length ≤ 1000000) :
    Calls Tryd.prog 49 #[.string s, .string all] w fun e W' => e = .returned (.bool (decide (s.data.toList ∈ l))) ∧ Below w.heap.size w W' := by
  have hB : wordsB all = l.map bs := by unfold wordsB; rw [hw]
  have HS := Lib.hid (refSplit_is all w (by omega))
  rw [hB] at HS
  have hlen : ∃ n, n = (l.map bs).length ∧ n ≤ 1000001 := ⟨_, rfl, by
    rw [List.length_map]; omega⟩
  obtain ⟨n, hn, hn2⟩ := hlen
  rw [← hn] at HS
  have HN := Lib.hid hn
  clear hB hw hn hz hl
  go_enter Tryd.func49, Tryd.ntmps49
  go_wp2_with fail
  refine HS.out.mono ?_
  rintro e W1 ⟨A, c, rfl, hsl, hb1⟩
  have HL := Lib.hid hsl
  have HB := Lib.hid hb1
  clear hsl hb1 HS
  go_wp2_with fail
  go_loop [6] (fun i => ∃ k : Nat, k ≤ n ∧ i = .int .i64 k ∧ Hid (s.data.toList ∉ l.take k)) (fun i => n - (intOf i).toNat)
  case atStart => exact ⟨0, Nat.zero_le _, rfl, by show _ ∉ _; simp⟩
  case round =>
    obtain ⟨k, hk, rfl, HNo⟩ := hrel
    by_cases hlt : k < n
    · have hl : k < l.length := by have := HN.out; rw [List.length_map] at this; omega
      have hx : (l.map bs)[k]? = some (bs l[k]) := by rw [List.getElem?_map, List.getElem?_eq_getElem hl]; rfl
      obtain ⟨b, o, rfl, hbl, hcs⟩ := HL.out.at_ hx
      have c1 := hcs W1 (Below.refl _ _)
      have heq := beq_is (bs l[k]) s
      by_cases he : bs l[k] = s
      · rw [decide_eq_true he] at heq
        have HR : Hid (decide (s.data.toList ∈ l) = true) := by
          show _ = _
          rw [decide_eq_true_iff, ← he]
          exact List.getElem_mem hl
        clear hcs hx hbl he HNo
        generalize l[k] = x at *
        go_wp2
        go_ret
        rw [HR.out]
        exact ⟨rfl, HB.out⟩
      · rw [decide_eq_false he] at heq
        have HNx : Hid (s.data.toList ∉ l.take (k + 1)) := by
          show _ ∉ _
          rw [List.take_succ_eq_append_getElem hl, List.mem_append, List.mem_singleton]
          rintro (h1 | h1)
          · exact HNo.out h1
          · exact he (by rw [← h1]; rfl)
        clear hcs hx hbl he HNo
        generalize l[k] = x at *
        go_wp2
        go_round
        case rel => exact ⟨k + 1, by omega, by go_num, HNx⟩
        case measure => simp [intOf]; omega
    · have HR : Hid (decide (s.data.toList ∈ l) = false) := by
        show _ = _
        have h1 := HNo.out
        rw [List.take_of_length_le (by have := HN.out; rw [List.length_map] at this; omega)] at h1
        exact decide_eq_false h1
      clear HNo
      go_wp2
      go_ret
      rw [HR.out]
      exact ⟨rfl, HB.out⟩

def lOne : List T := [[115, 116, 114, 105, 112], [115, 111, 114, 116], [119, 111, 114, 100, 115], [102, 105, 114, 115, 116, 119, 111, 114, 100], [108, 97, 115, 116, 119, 111, 114, 100], [100, 105, 114], [110, 111, 116, 100, 105, 114], [115, 117, 102, 102, 105, 120], [98, 97, 115, 101, 110, 97, 109, 101], [97, 98, 115, 112, 97, 116, 104], [119, 105, 108, 100, 99, 97, 114, 100]]
def lTwo : List T := [[102, 105, 110, 100, 115, 116, 114, 105, 110, 103], [102, 105, 108, 116, 101, 114], [102, 105, 108, 116, 101, 114, 45, 111, 117, 116], [119, 111, 114, 100], [97, 100, 100, 115, 117, 102, 102, 105, 120], [97, 100, 100, 112, 114, 101, 102, 105, 120], [106, 111, 105, 110]]
def lThree : List T := [[115, 117, 98, 115, 116], [112, 97, 116, 115, 117, 98, 115, 116], [119, 111, 114, 100, 108, 105, 115, 116]]
def lAny : List T := [[111, 114], [97, 110, 100]]
def lLazy : List T := [[102, 111, 114, 101, 97, 99, 104], [108, 101, 116]]
def lRest : List T := [[101, 118, 97, 108], [118, 97, 108, 117, 101], [111, 114, 105, 103, 105, 110], [102, 108, 97, 118, 111, 114], [101, 114, 114, 111, 114], [119, 97, 114, 110, 105, 110, 103], [105, 110, 102, 111]]
/-- what the document's Find says -/
def refI (x : T) : Option Inf :=
  if x = [] then none
  else if x ∈ lOne then some ⟨1, 1, false, true⟩
  else if x ∈ lTwo then some ⟨2, 2, false, true⟩
  else if x ∈ lThree then some ⟨3, 3, false, true⟩
  else if x = [105, 102] then some ⟨2, 3, true, false⟩
  else if x ∈ lAny then some ⟨1, 0, true, false⟩
  else if x = [105, 110, 116, 99, 109, 112] then some ⟨2, 5, true, false⟩
  else if x ∈ lLazy then some ⟨3, 3, true, false⟩
  else if x = [99, 97, 108, 108] then some ⟨1, 0, false, false⟩
  else if x ∈ lRest then some ⟨1, 1, false, false⟩
  else none
theorem refI_eq (x : T) : refI x = lookI tab x := by
  by_cases h : x ∈ names
  · have h1 : (names.all fun x => decide (refI x = lookI tab x)) = true := by kernel_rfl
    exact of_decide_eq_true (List.all_eq_true.1 h1 x h)
  · have h0 : lookI tab x = none := by
      rw [look_none, ← names_tab]; exact h
    have hs : ∀ l : List T, sub l names = true → x ∉ l := fun l hl hx => h (sub_mem hl hx)
    have he : ∀ y : T, sub [y] names = true → ¬ x = y := fun y hy e => hs [y] hy (by rw [e]; exact List.mem_singleton_self _)
    rw [h0]
    unfold refI
    split
    · rfl
    · rw [if_neg (hs lOne (by kernel_rfl)), if_neg (hs lTwo (by kernel_rfl)), if_neg (hs lThree (by kernel_rfl)), if_neg (he [105, 102] (by kernel_rfl)), if_neg (hs lAny (by kernel_rfl)), if_neg (he [105, 110, 116, 99, 109, 112] (by kernel_rfl)), if_neg (hs lLazy (by kernel_rfl)), if_neg (he [99, 97, 108, 108] (by kernel_rfl)), if_neg (hs lRest (by kernel_rfl))]

def infV (i : Inf) : Value := .agg #[.int .i64 i.mn, .int .i64 i.mx, .bool i.lz, .bool i.pu]
def refV (x : ByteArray) : Value := .tuple #[infV ((refI x.data.toList).getD zero), .bool (refI x.data.toList).isSome]
/-- the answer's cells, empty as yet -/
structure Box (w W : World) : Prop where
  below : Below w.heap.size w W
  cell : W.heap[w.heap.size]? = some (.cells #[.int .i64 0, .int .i64 0, .bool false, .bool false] 73 (0, 0))
theorem box_new (w : World) : Box w (w.alloc (.cells #[.int .i64 0, .int .i64 0, .bool false, .bool false] 73)) :=
  ⟨alloc_below _ _, heap_alloc_new w _⟩
theorem Box.lt {w W : World} (h : Box w W) : w.heap.size < W.heap.size := (Array.getElem?_eq_some_iff.1 h.cell).1
theorem Box.on {w W W' : World} (h : Box w W) (hb : Below W.heap.size W W') : Box w W' :=
  ⟨h.below.trans (hb.mono h.below.size), (hb.block _ h.lt).trans h.cell⟩

set_option maxRecDepth 100000 in
set_option maxHeartbeats 8000000 in
/-- the document's Find -/
theorem refFind_is (s : ByteArray) (w : World) :
    Calls Tryd.prog 35 #[.string s] w fun e W' => e = .returned (refV s) ∧ Below w.heap.size w W' := by
  have HX0 := Lib.hid (box_new w)
  have e0 := beq_lit s []
  have eif := beq_lit s [105, 102]
  have eintcmp := beq_lit s [105, 110, 116, 99, 109, 112]
  have ecall := beq_lit s [99, 97, 108, 108]
  obtain ⟨W0, hW0⟩ : ∃ W0, W0 = w.alloc (.cells #[.int .i64 0, .int .i64 0, .bool false, .bool false] 73) := ⟨_, rfl⟩
  rw [← hW0] at HX0
  have HW0 := Lib.hid hW0
  clear hW0
  go_enter Tryd.func35, Tryd.ntmps35
  go_upto_region 1 with fail
  rw [← HW0.out]
  clear HW0
  by_cases g0 : s.data.toList = []
  · rw [decide_eq_true g0] at e0
    have HV : Hid (refV s = .tuple #[.agg #[.int .i64 0, .int .i64 0, .bool false, .bool false], .bool false]) := by
      show _ = _
      unfold refV refI
      rw [if_pos g0]; rfl
    have hg := HX0.out.cell
    have HB := Lib.hid HX0.out.below
    have k0 : W0.cell? ⟨w.heap.size, 0, none⟩ = some (.int .i64 0) := by rw [Lib.cell_of_heap hg]; rfl
    have f0 : W0.frozen? ⟨w.heap.size, 0, none⟩ = false := Lib.frozen_of_heap hg 0
    have k1 : W0.cell? ⟨w.heap.size, 1, none⟩ = some (.int .i64 0) := by rw [Lib.cell_of_heap hg]; rfl
    have f1 : W0.frozen? ⟨w.heap.size, 1, none⟩ = false := Lib.frozen_of_heap hg 1
    have k2 : W0.cell? ⟨w.heap.size, 2, none⟩ = some (.bool false) := by rw [Lib.cell_of_heap hg]; rfl
    have f2 : W0.frozen? ⟨w.heap.size, 2, none⟩ = false := Lib.frozen_of_heap hg 2
    have k3 : W0.cell? ⟨w.heap.size, 3, none⟩ = some (.bool false) := by rw [Lib.cell_of_heap hg]; rfl
    have f3 : W0.frozen? ⟨w.heap.size, 3, none⟩ = false := Lib.frozen_of_heap hg 3
    clear hg
    go_wp2
    exact bodyPost_ret (v := .tuple #[.agg #[.int .i64 0, .int .i64 0, .bool false, .bool false], .bool false]) (by simp [results, Tryd.results35, go_sem, k0, k1, k2, k3]) rfl
      ⟨by rw [HV.out], (((HB.out.setCell (p := ⟨_, _, none⟩) (Nat.le_refl _) _).setCell (p := ⟨_, _, none⟩) (Nat.le_refl _) _).setCell (p := ⟨_, _, none⟩) (Nat.le_refl _) _).setCell (p := ⟨_, _, none⟩) (Nat.le_refl _) _⟩
  rw [decide_eq_false g0] at e0
  go_wp2_with fail
  refine (in_is s _ lOne _ (by kernel_rfl) (by decide) (by decide)).mono ?_
  rintro e W1 ⟨rfl, hb⟩
  have HX1 := Lib.hid (HX0.out.on hb)
  clear hb HX0
  by_cases g1 : s.data.toList ∈ lOne
  · rw [decide_eq_true g1]
    have HV : Hid (refV s = .tuple #[.agg #[.int .i64 1, .int .i64 1, .bool false, .bool true], .bool true]) := by
      show _ = _
      unfold refV refI
      rw [if_neg g0, if_pos g1]; rfl
    have hg := HX1.out.cell
    have HB := Lib.hid HX1.out.below
    have k0 : W1.cell? ⟨w.heap.size, 0, none⟩ = some (.int .i64 0) := by rw [Lib.cell_of_heap hg]; rfl
    have f0 : W1.frozen? ⟨w.heap.size, 0, none⟩ = false := Lib.frozen_of_heap hg 0
    have k1 : W1.cell? ⟨w.heap.size, 1, none⟩ = some (.int .i64 0) := by rw [Lib.cell_of_heap hg]; rfl
    have f1 : W1.frozen? ⟨w.heap.size, 1, none⟩ = false := Lib.frozen_of_heap hg 1
    have k2 : W1.cell? ⟨w.heap.size, 2, none⟩ = some (.bool false) := by rw [Lib.cell_of_heap hg]; rfl
    have f2 : W1.frozen? ⟨w.heap.size, 2, none⟩ = false := Lib.frozen_of_heap hg 2
    have k3 : W1.cell? ⟨w.heap.size, 3, none⟩ = some (.bool false) := by rw [Lib.cell_of_heap hg]; rfl
    have f3 : W1.frozen? ⟨w.heap.size, 3, none⟩ = false := Lib.frozen_of_heap hg 3
    clear hg
    go_wp2
    exact bodyPost_ret (v := .tuple #[.agg #[.int .i64 1, .int .i64 1, .bool false, .bool true], .bool true]) (by simp [results, Tryd.results35, go_sem, k0, k1, k2, k3]) rfl
      ⟨by rw [HV.out], (((HB.out.setCell (p := ⟨_, _, none⟩) (Nat.le_refl _) _).setCell (p := ⟨_, _, none⟩) (Nat.le_refl _) _).setCell (p := ⟨_, _, none⟩) (Nat.le_refl _) _).setCell (p := ⟨_, _, none⟩) (Nat.le_refl _) _⟩
  rw [decide_eq_false g1]
  go_wp2_with fail
  refine (in_is s _ lTwo _ (by kernel_rfl) (by decide) (by decide)).mono ?_
  rintro e W2 ⟨rfl, hb⟩
  have HX2 := Lib.hid (HX1.out.on hb)
  clear hb HX1
  by_cases g2 : s.data.toList ∈ lTwo
  · rw [decide_eq_true g2]
    have HV : Hid (refV s = .tuple #[.agg #[.int .i64 2, .int .i64 2, .bool false, .bool true], .bool true]) := by
      show _ = _
      unfold refV refI
      rw [if_neg g0, if_neg g1, if_pos g2]; rfl
    have hg := HX2.out.cell
    have HB := Lib.hid HX2.out.below
    have k0 : W2.cell? ⟨w.heap.size, 0, none⟩ = some (.int .i64 0) := by rw [Lib.cell_of_heap hg]; rfl
    have f0 : W2.frozen? ⟨w.heap.size, 0, none⟩ = false := Lib.frozen_of_heap hg 0
    have k1 : W2.cell? ⟨w.heap.size, 1, none⟩ = some (.int .i64 0) := by rw [Lib.cell_of_heap hg]; rfl
    have f1 : W2.frozen? ⟨w.heap.size, 1, none⟩ = false := Lib.frozen_of_heap hg 1
    have k2 : W2.cell? ⟨w.heap.size, 2, none⟩ = some (.bool false) := by rw [Lib.cell_of_heap hg]; rfl
    have f2 : W2.frozen? ⟨w.heap.size, 2, none⟩ = false := Lib.frozen_of_heap hg 2
    have k3 : W2.cell? ⟨w.heap.size, 3, none⟩ = some (.bool false) := by rw [Lib.cell_of_heap hg]; rfl
    have f3 : W2.frozen? ⟨w.heap.size, 3, none⟩ = false := Lib.frozen_of_heap hg 3
    clear hg
    go_wp2
    exact bodyPost_ret (v := .tuple #[.agg #[.int .i64 2, .int .i64 2, .bool false, .bool true], .bool true]) (by simp [results, Tryd.results35, go_sem, k0, k1, k2, k3]) rfl
      ⟨by rw [HV.out], (((HB.out.setCell (p := ⟨_, _, none⟩) (Nat.le_refl _) _).setCell (p := ⟨_, _, none⟩) (Nat.le_refl _) _).setCell (p := ⟨_, _, none⟩) (Nat.le_refl _) _).setCell (p := ⟨_, _, none⟩) (Nat.le_refl _) _⟩
  rw [decide_eq_false g2]
  go_wp2_with fail
  refine (in_is s _ lThree _ (by kernel_rfl) (by decide) (by decide)).mono ?_
  rintro e W3 ⟨rfl, hb⟩
  have HX3 := Lib.hid (HX2.out.on hb)
  clear hb HX2
  by_cases g3 : s.data.toList ∈ lThree
  · rw [decide_eq_true g3]
    have HV : Hid (refV s = .tuple #[.agg #[.int .i64 3, .int .i64 3, .bool false, .bool true], .bool true]) := by
      show _ = _
      unfold refV refI
      rw [if_neg g0, if_neg g1, if_neg g2, if_pos g3]; rfl
    have hg := HX3.out.cell
    have HB := Lib.hid HX3.out.below
    have k0 : W3.cell? ⟨w.heap.size, 0, none⟩ = some (.int .i64 0) := by rw [Lib.cell_of_heap hg]; rfl
    have f0 : W3.frozen? ⟨w.heap.size, 0, none⟩ = false := Lib.frozen_of_heap hg 0
    have k1 : W3.cell? ⟨w.heap.size, 1, none⟩ = some (.int .i64 0) := by rw [Lib.cell_of_heap hg]; rfl
    have f1 : W3.frozen? ⟨w.heap.size, 1, none⟩ = false := Lib.frozen_of_heap hg 1
    have k2 : W3.cell? ⟨w.heap.size, 2, none⟩ = some (.bool false) := by rw [Lib.cell_of_heap hg]; rfl
    have f2 : W3.frozen? ⟨w.heap.size, 2, none⟩ = false := Lib.frozen_of_heap hg 2
    have k3 : W3.cell? ⟨w.heap.size, 3, none⟩ = some (.bool false) := by rw [Lib.cell_of_heap hg]; rfl
    have f3 : W3.frozen? ⟨w.heap.size, 3, none⟩ = false := Lib.frozen_of_heap hg 3
    clear hg
    go_wp2
    exact bodyPost_ret (v := .tuple #[.agg #[.int .i64 3, .int .i64 3, .bool false, .bool true], .bool true]) (by simp [results, Tryd.results35, go_sem, k0, k1, k2, k3]) rfl
      ⟨by rw [HV.out], (((HB.out.setCell (p := ⟨_, _, none⟩) (Nat.le_refl _) _).setCell (p := ⟨_, _, none⟩) (Nat.le_refl _) _).setCell (p := ⟨_, _, none⟩) (Nat.le_refl _) _).setCell (p := ⟨_, _, none⟩) (Nat.le_refl _) _⟩
  rw [decide_eq_false g3]
  by_cases g4 : s.data.toList = [105, 102]
  · rw [decide_eq_true g4] at eif
    have HV : Hid (refV s = .tuple #[.agg #[.int .i64 2, .int .i64 3, .bool true, .bool false], .bool true]) := by
      show _ = _
      unfold refV refI
      rw [if_neg g0, if_neg g1, if_neg g2, if_neg g3, if_pos g4]; rfl
    have hg := HX3.out.cell
    have HB := Lib.hid HX3.out.below
    have k0 : W3.cell? ⟨w.heap.size, 0, none⟩ = some (.int .i64 0) := by rw [Lib.cell_of_heap hg]; rfl
    have f0 : W3.frozen? ⟨w.heap.size, 0, none⟩ = false := Lib.frozen_of_heap hg 0
    have k1 : W3.cell? ⟨w.heap.size, 1, none⟩ = some (.int .i64 0) := by rw [Lib.cell_of_heap hg]; rfl
    have f1 : W3.frozen? ⟨w.heap.size, 1, none⟩ = false := Lib.frozen_of_heap hg 1
    have k2 : W3.cell? ⟨w.heap.size, 2, none⟩ = some (.bool false) := by rw [Lib.cell_of_heap hg]; rfl
    have f2 : W3.frozen? ⟨w.heap.size, 2, none⟩ = false := Lib.frozen_of_heap hg 2
    have k3 : W3.cell? ⟨w.heap.size, 3, none⟩ = some (.bool false) := by rw [Lib.cell_of_heap hg]; rfl
    have f3 : W3.frozen? ⟨w.heap.size, 3, none⟩ = false := Lib.frozen_of_heap hg 3
    clear hg
    go_wp2
    exact bodyPost_ret (v := .tuple #[.agg #[.int .i64 2, .int .i64 3, .bool true, .bool false], .bool true]) (by simp [results, Tryd.results35, go_sem, k0, k1, k2, k3]) rfl
      ⟨by rw [HV.out], (((HB.out.setCell (p := ⟨_, _, none⟩) (Nat.le_refl _) _).setCell (p := ⟨_, _, none⟩) (Nat.le_refl _) _).setCell (p := ⟨_, _, none⟩) (Nat.le_refl _) _).setCell (p := ⟨_, _, none⟩) (Nat.le_refl _) _⟩
  rw [decide_eq_false g4] at eif
  go_wp2_with fail
  refine (in_is s _ lAny _ (by kernel_rfl) (by decide) (by decide)).mono ?_
  rintro e W5 ⟨rfl, hb⟩
  have HX5 := Lib.hid (HX3.out.on hb)
  clear hb HX3
  by_cases g5 : s.data.toList ∈ lAny
  · rw [decide_eq_true g5]
    have HV : Hid (refV s = .tuple #[.agg #[.int .i64 1, .int .i64 0, .bool true, .bool false], .bool true]) := by
      show _ = _
      unfold refV refI
      rw [if_neg g0, if_neg g1, if_neg g2, if_neg g3, if_neg g4, if_pos g5]; rfl
    have hg := HX5.out.cell
    have HB := Lib.hid HX5.out.below
    have k0 : W5.cell? ⟨w.heap.size, 0, none⟩ = some (.int .i64 0) := by rw [Lib.cell_of_heap hg]; rfl
    have f0 : W5.frozen? ⟨w.heap.size, 0, none⟩ = false := Lib.frozen_of_heap hg 0
    have k1 : W5.cell? ⟨w.heap.size, 1, none⟩ = some (.int .i64 0) := by rw [Lib.cell_of_heap hg]; rfl
    have f1 : W5.frozen? ⟨w.heap.size, 1, none⟩ = false := Lib.frozen_of_heap hg 1
    have k2 : W5.cell? ⟨w.heap.size, 2, none⟩ = some (.bool false) := by rw [Lib.cell_of_heap hg]; rfl
    have f2 : W5.frozen? ⟨w.heap.size, 2, none⟩ = false := Lib.frozen_of_heap hg 2
    have k3 : W5.cell? ⟨w.heap.size, 3, none⟩ = some (.bool false) := by rw [Lib.cell_of_heap hg]; rfl
    have f3 : W5.frozen? ⟨w.heap.size, 3, none⟩ = false := Lib.frozen_of_heap hg 3
    clear hg
    go_wp2
    exact bodyPost_ret (v := .tuple #[.agg #[.int .i64 1, .int .i64 0, .bool true, .bool false], .bool true]) (by simp [results, Tryd.results35, go_sem, k0, k1, k2, k3]) rfl
      ⟨by rw [HV.out], (((HB.out.setCell (p := ⟨_, _, none⟩) (Nat.le_refl _) _).setCell (p := ⟨_, _, none⟩) (Nat.le_refl _) _).setCell (p := ⟨_, _, none⟩) (Nat.le_refl _) _).setCell (p := ⟨_, _, none⟩) (Nat.le_refl _) _⟩
  rw [decide_eq_false g5]
  by_cases g6 : s.data.toList = [105, 110, 116, 99, 109, 112]
  · rw [decide_eq_true g6] at eintcmp
    have HV : Hid (refV s = .tuple #[.agg #[.int .i64 2, .int .i64 5, .bool true, .bool false], .bool true]) := by
      show _ = _
      unfold refV refI
      rw [if_neg g0, if_neg g1, if_neg g2, if_neg g3, if_neg g4, if_neg g5, if_pos g6]; rfl
    have hg := HX5.out.cell
    have HB := Lib.hid HX5.out.below
    have k0 : W5.cell? ⟨w.heap.size, 0, none⟩ = some (.int .i64 0) := by rw [Lib.cell_of_heap hg]; rfl
    have f0 : W5.frozen? ⟨w.heap.size, 0, none⟩ = false := Lib.frozen_of_heap hg 0
    have k1 : W5.cell? ⟨w.heap.size, 1, none⟩ = some (.int .i64 0) := by rw [Lib.cell_of_heap hg]; rfl
    have f1 : W5.frozen? ⟨w.heap.size, 1, none⟩ = false := Lib.frozen_of_heap hg 1
    have k2 : W5.cell? ⟨w.heap.size, 2, none⟩ = some (.bool false) := by rw [Lib.cell_of_heap hg]; rfl
    have f2 : W5.frozen? ⟨w.heap.size, 2, none⟩ = false := Lib.frozen_of_heap hg 2
    have k3 : W5.cell? ⟨w.heap.size, 3, none⟩ = some (.bool false) := by rw [Lib.cell_of_heap hg]; rfl
    have f3 : W5.frozen? ⟨w.heap.size, 3, none⟩ = false := Lib.frozen_of_heap hg 3
    clear hg
    go_wp2
    exact bodyPost_ret (v := .tuple #[.agg #[.int .i64 2, .int .i64 5, .bool true, .bool false], .bool true]) (by simp [results, Tryd.results35, go_sem, k0, k1, k2, k3]) rfl
      ⟨by rw [HV.out], (((HB.out.setCell (p := ⟨_, _, none⟩) (Nat.le_refl _) _).setCell (p := ⟨_, _, none⟩) (Nat.le_refl _) _).setCell (p := ⟨_, _, none⟩) (Nat.le_refl _) _).setCell (p := ⟨_, _, none⟩) (Nat.le_refl _) _⟩
  rw [decide_eq_false g6] at eintcmp
  go_wp2_with fail
  refine (in_is s _ lLazy _ (by kernel_rfl) (by decide) (by decide)).mono ?_
  rintro e W7 ⟨rfl, hb⟩
  have HX7 := Lib.hid (HX5.out.on hb)
  clear hb HX5
  by_cases g7 : s.data.toList ∈ lLazy
  · rw [decide_eq_true g7]
    have HV : Hid (refV s = .tuple #[.agg #[.int .i64 3, .int .i64 3, .bool true, .bool false], .bool true]) := by
      show _ = _
      unfold refV refI
      rw [if_neg g0, if_neg g1, if_neg g2, if_neg g3, if_neg g4, if_neg g5, if_neg g6, if_pos g7]; rfl
    have hg := HX7.out.cell
    have HB := Lib.hid HX7.out.below
    have k0 : W7.cell? ⟨w.heap.size, 0, none⟩ = some (.int .i64 0) := by rw [Lib.cell_of_heap hg]; rfl
    have f0 : W7.frozen? ⟨w.heap.size, 0, none⟩ = false := Lib.frozen_of_heap hg 0
    have k1 : W7.cell? ⟨w.heap.size, 1, none⟩ = some (.int .i64 0) := by rw [Lib.cell_of_heap hg]; rfl
    have f1 : W7.frozen? ⟨w.heap.size, 1, none⟩ = false := Lib.frozen_of_heap hg 1
    have k2 : W7.cell? ⟨w.heap.size, 2, none⟩ = some (.bool false) := by rw [Lib.cell_of_heap hg]; rfl
    have f2 : W7.frozen? ⟨w.heap.size, 2, none⟩ = false := Lib.frozen_of_heap hg 2
    have k3 : W7.cell? ⟨w.heap.size, 3, none⟩ = some (.bool false) := by rw [Lib.cell_of_heap hg]; rfl
    have f3 : W7.frozen? ⟨w.heap.size, 3, none⟩ = false := Lib.frozen_of_heap hg 3
    clear hg
    go_wp2
    exact bodyPost_ret (v := .tuple #[.agg #[.int .i64 3, .int .i64 3, .bool true, .bool false], .bool true]) (by simp [results, Tryd.results35, go_sem, k0, k1, k2, k3]) rfl
      ⟨by rw [HV.out], (((HB.out.setCell (p := ⟨_, _, none⟩) (Nat.le_refl _) _).setCell (p := ⟨_, _, none⟩) (Nat.le_refl _) _).setCell (p := ⟨_, _, none⟩) (Nat.le_refl _) _).setCell (p := ⟨_, _, none⟩) (Nat.le_refl _) _⟩
  rw [decide_eq_false g7]
  by_cases g8 : s.data.toList = [99, 97, 108, 108]
  · rw [decide_eq_true g8] at ecall
    have HV : Hid (refV s = .tuple #[.agg #[.int .i64 1, .int .i64 0, .bool false, .bool false], .bool true]) := by
      show _ = _
      unfold refV refI
      rw [if_neg g0, if_neg g1, if_neg g2, if_neg g3, if_neg g4, if_neg g5, if_neg g6, if_neg g7, if_pos g8]; rfl
    have hg := HX7.out.cell
    have HB := Lib.hid HX7.out.below
    have k0 : W7.cell? ⟨w.heap.size, 0, none⟩ = some (.int .i64 0) := by rw [Lib.cell_of_heap hg]; rfl
    have f0 : W7.frozen? ⟨w.heap.size, 0, none⟩ = false := Lib.frozen_of_heap hg 0
    have k1 : W7.cell? ⟨w.heap.size, 1, none⟩ = some (.int .i64 0) := by rw [Lib.cell_of_heap hg]; rfl
    have f1 : W7.frozen? ⟨w.heap.size, 1, none⟩ = false := Lib.frozen_of_heap hg 1
    have k2 : W7.cell? ⟨w.heap.size, 2, none⟩ = some (.bool false) := by rw [Lib.cell_of_heap hg]; rfl
    have f2 : W7.frozen? ⟨w.heap.size, 2, none⟩ = false := Lib.frozen_of_heap hg 2
    have k3 : W7.cell? ⟨w.heap.size, 3, none⟩ = some (.bool false) := by rw [Lib.cell_of_heap hg]; rfl
    have f3 : W7.frozen? ⟨w.heap.size, 3, none⟩ = false := Lib.frozen_of_heap hg 3
    clear hg
    go_wp2
    exact bodyPost_ret (v := .tuple #[.agg #[.int .i64 1, .int .i64 0, .bool false, .bool false], .bool true]) (by simp [results, Tryd.results35, go_sem, k0, k1, k2, k3]) rfl
      ⟨by rw [HV.out], (((HB.out.setCell (p := ⟨_, _, none⟩) (Nat.le_refl _) _).setCell (p := ⟨_, _, none⟩) (Nat.le_refl _) _).setCell (p := ⟨_, _, none⟩) (Nat.le_refl _) _).setCell (p := ⟨_, _, none⟩) (Nat.le_refl _) _⟩
  rw [decide_eq_false g8] at ecall
  go_wp2_with fail
  refine (in_is s _ lRest _ (by kernel_rfl) (by decide) (by decide)).mono ?_
  rintro e W9 ⟨rfl, hb⟩
  have HX9 := Lib.hid (HX7.out.on hb)
  clear hb HX7
  by_cases g9 : s.data.toList ∈ lRest
  · rw [decide_eq_true g9]
    have HV : Hid (refV s = .tuple #[.agg #[.int .i64 1, .int .i64 1, .bool false, .bool false], .bool true]) := by
      show _ = _
      unfold refV refI
      rw [if_neg g0, if_neg g1, if_neg g2, if_neg g3, if_neg g4, if_neg g5, if_neg g6, if_neg g7, if_neg g8, if_pos g9]; rfl
    have hg := HX9.out.cell
    have HB := Lib.hid HX9.out.below
    have k0 : W9.cell? ⟨w.heap.size, 0, none⟩ = some (.int .i64 0) := by rw [Lib.cell_of_heap hg]; rfl
    have f0 : W9.frozen? ⟨w.heap.size, 0, none⟩ = false := Lib.frozen_of_heap hg 0
    have k1 : W9.cell? ⟨w.heap.size, 1, none⟩ = some (.int .i64 0) := by rw [Lib.cell_of_heap hg]; rfl
    have f1 : W9.frozen? ⟨w.heap.size, 1, none⟩ = false := Lib.frozen_of_heap hg 1
    have k2 : W9.cell? ⟨w.heap.size, 2, none⟩ = some (.bool false) := by rw [Lib.cell_of_heap hg]; rfl
    have f2 : W9.frozen? ⟨w.heap.size, 2, none⟩ = false := Lib.frozen_of_heap hg 2
    have k3 : W9.cell? ⟨w.heap.size, 3, none⟩ = some (.bool false) := by rw [Lib.cell_of_heap hg]; rfl
    have f3 : W9.frozen? ⟨w.heap.size, 3, none⟩ = false := Lib.frozen_of_heap hg 3
    clear hg
    go_wp2
    exact bodyPost_ret (v := .tuple #[.agg #[.int .i64 1, .int .i64 1, .bool false, .bool false], .bool true]) (by simp [results, Tryd.results35, go_sem, k0, k1, k2, k3]) rfl
      ⟨by rw [HV.out], (((HB.out.setCell (p := ⟨_, _, none⟩) (Nat.le_refl _) _).setCell (p := ⟨_, _, none⟩) (Nat.le_refl _) _).setCell (p := ⟨_, _, none⟩) (Nat.le_refl _) _).setCell (p := ⟨_, _, none⟩) (Nat.le_refl _) _⟩
  rw [decide_eq_false g9]
  have HV : Hid (refV s = .tuple #[.agg #[.int .i64 0, .int .i64 0, .bool false, .bool false], .bool false]) := by
    show _ = _
    unfold refV refI
    rw [if_neg g0, if_neg g1, if_neg g2, if_neg g3, if_neg g4, if_neg g5, if_neg g6, if_neg g7, if_neg g8, if_neg g9]; rfl
  have hg := HX9.out.cell
  have HB := Lib.hid HX9.out.below
  have k0 : W9.cell? ⟨w.heap.size, 0, none⟩ = some (.int .i64 0) := by rw [Lib.cell_of_heap hg]; rfl
  have f0 : W9.frozen? ⟨w.heap.size, 0, none⟩ = false := Lib.frozen_of_heap hg 0
  have k1 : W9.cell? ⟨w.heap.size, 1, none⟩ = some (.int .i64 0) := by rw [Lib.cell_of_heap hg]; rfl
  have f1 : W9.frozen? ⟨w.heap.size, 1, none⟩ = false := Lib.frozen_of_heap hg 1
  have k2 : W9.cell? ⟨w.heap.size, 2, none⟩ = some (.bool false) := by rw [Lib.cell_of_heap hg]; rfl
  have f2 : W9.frozen? ⟨w.heap.size, 2, none⟩ = false := Lib.frozen_of_heap hg 2
  have k3 : W9.cell? ⟨w.heap.size, 3, none⟩ = some (.bool false) := by rw [Lib.cell_of_heap hg]; rfl
  have f3 : W9.frozen? ⟨w.heap.size, 3, none⟩ = false := Lib.frozen_of_heap hg 3
  clear hg
  go_wp2
  exact bodyPost_ret (v := .tuple #[.agg #[.int .i64 0, .int .i64 0, .bool false, .bool false], .bool false]) (by simp [results, Tryd.results35, go_sem, k0, k1, k2, k3]) rfl
    ⟨by rw [HV.out], (((HB.out.setCell (p := ⟨_, _, none⟩) (Nat.le_refl _) _).setCell (p := ⟨_, _, none⟩) (Nat.le_refl _) _).setCell (p := ⟨_, _, none⟩) (Nat.le_refl _) _).setCell (p := ⟨_, _, none⟩) (Nat.le_refl _) _⟩


end Go.Proofs.YtpphkaolonjjdaaDoor.Frd

/- The document's Left: without the blanks ahead. -/
namespace Go.Proofs.YtpphkaolonjjdaaDoor.Qleft
open Go.RowKit Go.Proofs.YtpphkaolonjjdaaDoor.Pure Go.Proofs.YtpphkaolonjjdaaDoor.Frs
open Go.Proofs.YtpphkaolonjjdaaDoor.Strs (ret_str)

def strLen : Value → Nat
  | .string s => s.size
  | _ => 0

set_option maxHeartbeats 800000 in
/-- the document's Left -/
theorem refLeft_any (s : ByteArray) (w : World) (_hs : s.size ≤ maxLen) :
    Calls Tryd.prog 42 #[.string s] w fun e w' => e = .returned (.string (leftB s)) ∧ w = w' := by
  go_enter Tryd.func42, Tryd.ntmps42
  go_wp2
  go_loop [0] (fun v => ∃ u : ByteArray, u.size ≤ s.size ∧ v = .string u ∧ Hid (leftB u = leftB s)) (fun v => strLen v)
  case atStart => exact ⟨s, Nat.le_refl _, rfl, rfl⟩
  case round =>
    obtain ⟨u, hk, rfl, hinv⟩ := hrel
    by_cases hlt : 0 < u.size
    · cases hb : isBl u[0] with
      | true =>
        have HS := Lib.hid (leftB_tail u hlt hb)
        go_wp2_with (go_at_call 51; refine (refBlank_num _ true _ (isBl_mk hb)).mono ?_; rintro e w' ⟨rfl, rfl⟩)
        go_round
        case rel => exact ⟨u.extract 1 u.size, by rw [ByteArray.size_extract]; omega, rfl, HS.out.trans hinv.out⟩
        case measure => simp [strLen]; omega
      | false =>
        have HS := Lib.hid ((leftB_stop u hlt hb).symm.trans hinv.out)
        go_wp2_with (go_at_call 51; refine (refBlank_num _ false _ (isBl_mk hb)).mono ?_; rintro e w' ⟨rfl, rfl⟩)
        go_ret
        exact ⟨ret_str HS.out, rfl⟩
    · have HS := Lib.hid ((leftB_end u (by omega)).symm.trans hinv.out)
      go_wp2
      go_ret
      exact ⟨ret_str HS.out, rfl⟩


end Go.Proofs.YtpphkaolonjjdaaDoor.Qleft
