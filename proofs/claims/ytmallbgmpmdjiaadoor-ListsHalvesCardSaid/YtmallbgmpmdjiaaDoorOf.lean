/- What the program's Of answers: the text's pattern. -/
import Derived.Test.YtmallbgmpmdjiaaDoorBuild
namespace Go.Proofs.YtmallbgmpmdjiaaDoor.Of
open Go.RowKit Go.Proofs.YtmallbgmpmdjiaaDoor.Pat Go.Proofs.YtmallbgmpmdjiaaDoor.Build

theorem ret_int {k : IntKind} {a b : Int} (h : a = b) : Ending.returned (.int k a) = .returned (.int k b) := by rw [h]
theorem ret_str {a b : ByteArray} (h : a = b) : Ending.returned (.string a) = .returned (.string b) := by rw [h]
def strLen : Value → Nat
  | .string s => s.size
  | _ => 0

/-- a pattern, as the program's value -/
def patV (h : Bool) (a b : ByteArray) : Value := .agg #[.bool h, .string a, .string b]
theorem patV_eq {h h' : Bool} {a a' b b' : ByteArray} (e1 : h = h') (e2 : a = a') (e3 : b = b') : Ending.returned (.agg #[.bool h, .string a, .string b]) = .returned (patV h' a' b') := by rw [e1, e2, e3]; rfl

set_option maxHeartbeats 400000 in
/-- how many backslashes a text ends with -/
theorem slashes_is (s : ByteArray) (w : World) (hs : s.size ≤ maxLen) :
    Calls Tryd.prog 37 #[.string s] w fun e w' => e = .returned (.int .i64 (trail s.data.toList : Nat)) ∧ w = w' := by
  unfold maxLen at hs
  have hle := trim_le s.data.toList
  rw [← Lib.size_eq] at hle
  have HT : Hid (((s.size : Nat) : Int) - ((Lib.trimRightB s.data.toList 92).length : Nat) = (trail s.data.toList : Nat)) := by
    show _ = _
    unfold trail
    rw [← Lib.size_eq]
    omega
  have hz : (bs (Lib.trimRightB s.data.toList 92)).size = (Lib.trimRightB s.data.toList 92).length := size_bs _
  have HZ := Lib.hid hz
  rw [← hz] at hle
  clear hz
  go_enter Tryd.func37, Tryd.ntmps37
  go_wp2_with fail
  refine (Tryd.strings_TrimRight_one s 92 (by decide) _ (by omega)).mono ?_
  rintro e w' ⟨rfl, rfl⟩
  have e1 : (⟨(Lib.trimRightB s.data.toList 92).toArray⟩ : ByteArray) = bs (Lib.trimRightB s.data.toList 92) := rfl
  rw [e1]
  clear e1
  go_wp2
  go_ret
  exact ⟨ret_int (by rw [HZ.out]; exact HT.out), rfl⟩


theorem index_int (u : ByteArray) (w : World) (z : Int) (h : Lib.indexByte u.data.toList 37 = z) :
    Calls Tryd.prog 34 #[.string u, .int .u8 37] w fun e w' => e = .returned (.int .i64 z) ∧ w' = w := by
  subst h
  exact Tryd.strings_IndexByte u 37 w

theorem new_holds (w : World) (B : Nat) (hB : B ≤ w.heap.size) : Holds B w.heap.size [] (w.alloc (.cells #[.pointer none, .slice none 0 0] 59)) :=
  .inl ⟨hB, _, heap_alloc_new w _, World.ownsRow_nil _ _ _ _, by simp [Value.ownBlock]⟩

/-- what the result's place holds at first, and that it stays while the builder is written -/
theorem kept_cells {w W : World} {h : Bool} {a b : ByteArray} (hb : Below (w.heap.size + 1) (w.alloc (.cells #[.bool h, .string a, .string b] 42)) W) :
    W.heap[w.heap.size]? = some (.cells #[.bool h, .string a, .string b] 42 (0, 0)) := by
  rw [hb.block w.heap.size (by omega)]
  exact heap_alloc_new w _

theorem slashes_eq (u : ByteArray) (k : Nat) (w : World) (hs : (u.extract 0 k).size ≤ maxLen) :
    Calls Tryd.prog 37 #[.string (u.extract 0 k)] w fun e w' => e = .returned (.int .i64 (backs u k : Nat)) ∧ w = w' := by
  have h := slashes_is (u.extract 0 k) w hs
  rw [Lib.extract_upto] at h ⊢
  exact h

theorem end_below {w W : World} {o : Obj} (hb : Below (w.heap.size + 1) (w.alloc o) W) (x y z : Value) :
    Below w.heap.size w (((W.setCell ⟨w.heap.size, 0, none⟩ x).setCell ⟨w.heap.size, 1, none⟩ y).setCell ⟨w.heap.size, 2, none⟩ z) :=
  ((((((Below.refl _ w).alloc (Nat.le_refl _) o).trans (hb.mono (Nat.le_succ _))).setCell (p := ⟨w.heap.size, 0, none⟩) (Nat.le_refl _) x).setCell (p := ⟨w.heap.size, 1, none⟩) (Nat.le_refl _) y).setCell (p := ⟨w.heap.size, 2, none⟩) (Nat.le_refl _) z)

set_option maxRecDepth 100000 in
set_option maxHeartbeats 2000000 in
/-- the program's Of -/
theorem of_is (s : ByteArray) (w : World) (hs : s.size ≤ 1099511627776) :
    Calls Tryd.prog 26 #[.string s] w fun e W' => e = .returned (patV (hasB s) (preB s) (postB s)) ∧ Below w.heap.size w W' := by
  go_enter Tryd.func26, Tryd.ntmps26
  go_wp2
  go_loopw [0] (fun v wr => ∃ (u : ByteArray) (acc : List UInt8), v = .string u ∧ acc.length + u.size ≤ s.size ∧ Holds (w.heap.size + 1) (w.heap.size + 1) acc wr ∧ Below (w.heap.size + 1) (w.alloc (.cells #[.bool false, .string .empty, .string .empty] 42)) wr ∧ Hid (go u.data.toList 0 acc = ofL s.data.toList)) (fun v _ => strLen v)
  case atStart =>
    refine ⟨s, [], rfl, by simp, ?_, ?_, rfl⟩
    · have := new_holds (w.alloc (.cells #[.bool false, .string .empty, .string .empty] 42)) (w.heap.size + 1) (by simp)
      rw [World.size_alloc] at this
      exact this
    · exact (Below.refl _ _).alloc (by simp) _
  case round =>
    obtain ⟨u, acc, rfl, hlen, hH, hB, hinv⟩ := hrel
    have hBs := hB.size
    rw [World.size_alloc] at hBs
    have HH := Lib.hid hH
    have HB := Lib.hid hB
    clear hH hB
    have hge := Lib.indexByte_ge u.data.toList 37
    by_cases hm : Lib.indexByte u.data.toList 37 = -1
    · have HS := Lib.hid (step_none u acc hm)
      have HM := Lib.hid hm
      clear hm hge
      go_wp2_with fail
      refine (index_int u _ (-1) HM.out).mono ?_
      rintro e w' ⟨rfl, rfl⟩
      go_wp2_with fail
      refine (write_text _ _ acc u _ HH.out (by omega) (by omega)).mono ?_
      rintro e w1 ⟨rfl, hH1, hb1⟩
      have H1 := Lib.hid hH1
      have B1 := Lib.hid (HB.out.trans hb1)
      have hs1 := B1.out.size
      rw [World.size_alloc] at hs1
      clear hH1 hb1
      go_wp2_with fail
      refine (text_is _ _ _ _ H1.out (by omega)).mono ?_
      rintro e w2 ⟨rfl, hb2⟩
      have B2 := Lib.hid (B1.out.trans hb2)
      have hk := kept_cells B2.out
      have c0 : w2.cell? ⟨w.heap.size, 0, none⟩ = some (.bool false) := by rw [Lib.cell_of_heap hk]; rfl
      have c1 : w2.cell? ⟨w.heap.size, 1, none⟩ = some (.string .empty) := by rw [Lib.cell_of_heap hk]; rfl
      have c2 : w2.cell? ⟨w.heap.size, 2, none⟩ = some (.string .empty) := by rw [Lib.cell_of_heap hk]; rfl
      have f0 : w2.frozen? ⟨w.heap.size, 0, none⟩ = false := Lib.frozen_of_heap hk 0
      have f1 : w2.frozen? ⟨w.heap.size, 1, none⟩ = false := Lib.frozen_of_heap hk 1
      have f2 : w2.frozen? ⟨w.heap.size, 2, none⟩ = false := Lib.frozen_of_heap hk 2
      have HK := Lib.hid hk
      clear hk hb2
      go_wp2
      exact bodyPost_ret (v := .agg #[.bool false, .string (bs (acc ++ u.data.toList)), .string ⟨#[]⟩]) (by simp [results, Tryd.results26, go_sem, c0, c1, c2]) rfl
        ⟨patV_eq (by rw [hasB, ← hinv.out, HS.out]) (by rw [preB, ← hinv.out, HS.out]) (by rw [postB, ← hinv.out, HS.out]; rfl), end_below B2.out _ _ _⟩
    · obtain ⟨k, hk⟩ : ∃ k : Nat, Lib.indexByte u.data.toList 37 = k := ⟨(Lib.indexByte u.data.toList 37).toNat, by omega⟩
      obtain ⟨hku, hstep⟩ := step_some u k acc hk
      have HM := Lib.hid hk
      have HS := Lib.hid hstep
      have hbk := backs_le u k
      clear hm hge hk hstep
      have hx : (u.extract 0 k).size ≤ maxLen := by rw [ByteArray.size_extract]; unfold maxLen; omega
      have hsl := fun W => slashes_eq u k W hx
      have HSL := Lib.hid hsl
      clear hsl hx
      generalize backs u k = b at HS hbk HSL
      go_wp2_with fail
      refine (index_int u _ k HM.out).mono ?_
      rintro e w' ⟨rfl, rfl⟩
      go_wp2_with fail
      refine (HSL.out _).mono ?_
      rintro e w' ⟨rfl, rfl⟩
      go_wp2_with fail
      have hx2 : (u.extract 0 (k - b + b / 2)).size ≤ k := by rw [ByteArray.size_extract]; omega
      have hx3 : (u.extract (k + 1) u.size).size + (k + 1) = u.size := by rw [ByteArray.size_extract]; omega
      have HX := Lib.hid hx3
      clear hx3
      refine (write_text _ _ acc (u.extract 0 (k - b + b / 2)) _ HH.out (by omega) (by omega)).mono ?_
      rintro e w1 ⟨rfl, hH1, hb1⟩
      have H1 := Lib.hid hH1
      have B1 := Lib.hid (HB.out.trans hb1)
      have hs1 := B1.out.size
      rw [World.size_alloc] at hs1
      clear hH1 hb1 HH HB
      by_cases hp : b % 2 = 0
      · have HP : Hid (go u.data.toList 0 acc = ⟨true, acc ++ (u.extract 0 (k - b + b / 2)).data.toList, (u.extract (k + 1) u.size).data.toList⟩) := by
          have := HS.out
          rw [if_pos hp] at this
          exact this
        have hpar : (((b : Nat) : Int) % 2 == 0) = true := by rw [beq_iff_eq]; omega
        clear hp HS
        go_wp2_with fail
        refine (text_is _ _ _ _ H1.out (by omega)).mono ?_
        rintro e w2 ⟨rfl, hb2⟩
        have B2 := Lib.hid (B1.out.trans hb2)
        have hk := kept_cells B2.out
        have c0 : w2.cell? ⟨w.heap.size, 0, none⟩ = some (.bool false) := by rw [Lib.cell_of_heap hk]; rfl
        have c1 : w2.cell? ⟨w.heap.size, 1, none⟩ = some (.string .empty) := by rw [Lib.cell_of_heap hk]; rfl
        have c2 : w2.cell? ⟨w.heap.size, 2, none⟩ = some (.string .empty) := by rw [Lib.cell_of_heap hk]; rfl
        have f0 : w2.frozen? ⟨w.heap.size, 0, none⟩ = false := Lib.frozen_of_heap hk 0
        have f1 : w2.frozen? ⟨w.heap.size, 1, none⟩ = false := Lib.frozen_of_heap hk 1
        have f2 : w2.frozen? ⟨w.heap.size, 2, none⟩ = false := Lib.frozen_of_heap hk 2
        clear hk hb2
        go_wp2
        exact bodyPost_ret (v := .agg #[.bool true, .string (bs (acc ++ (u.extract 0 (k - b + b / 2)).data.toList)), .string (u.extract (k + 1) u.size)]) (by simp [results, Tryd.results26, go_sem, c0, c1, c2]) rfl
          ⟨patV_eq (by rw [hasB, ← hinv.out, HP.out]) (by rw [preB, ← hinv.out, HP.out]) (by rw [postB, ← hinv.out, HP.out, bs_self]), end_below B2.out _ _ _⟩
      · have HP : Hid (go u.data.toList 0 acc = go (u.extract (k + 1) u.size).data.toList 0 (acc ++ (u.extract 0 (k - b + b / 2)).data.toList ++ [37])) := by
          have := HS.out
          rw [if_neg hp] at this
          exact this
        have hpar : (((b : Nat) : Int) % 2 == 0) = false := by rw [beq_eq_false_iff_ne]; omega
        have hb1 : 1 ≤ b := by omega
        have hx4 : (u.extract 0 (k - b + b / 2)).size + 1 ≤ k := by rw [ByteArray.size_extract]; omega
        have HX4 : Hid ((u.extract 0 (k - b + b / 2)).data.toList.length + 1 ≤ k) := by show _ ≤ _; rw [← Lib.size_eq]; exact hx4
        clear hp HS hx4
        go_wp2_with fail
        refine (write_byte _ _ _ 37 37 _ rfl H1.out (by have := HX4.out; simp; omega) (by omega)).mono ?_
        rintro e w2 ⟨rfl, hH2, hb2⟩
        have H2 := Lib.hid hH2
        have B2 := Lib.hid (B1.out.trans hb2)
        clear hH2 hb2
        go_wp2
        go_roundw
        case rel => exact ⟨u.extract (k + 1) u.size, _, rfl, by have h1 := HX4.out; have h2 := HX.out; simp at h1 h2 ⊢; omega, H2.out, B2.out, by show _ = _; rw [← HP.out]; exact hinv.out⟩
        case measure => have h2 := HX.out; simp [strLen]; omega
end Go.Proofs.YtmallbgmpmdjiaaDoor.Of
