/- The walk of the law TableKinds. -/
import Derived.Test.YtlnpahajkhdpjaaFaw
import Derived.Test.YtlnpahajkhdpjaaWplace
import Derived.Deep.QuietTactic
import Derived.BigQuiet
import Derived.BigRegion
namespace Go.Proofs.Ytlnpahajkhdpjaa.TableKinds
open Go Go.RowKit Go.Proofs.Ytlnpahajkhdpjaa.Strs Go.Proofs.Ytlnpahajkhdpjaa.Srt Go.Proofs.Ytlnpahajkhdpjaa.Fpl Go.Proofs.Ytlnpahajkhdpjaa.Fmp Go.Proofs.Ytlnpahajkhdpjaa.Fnm Go.Proofs.Ytlnpahajkhdpjaa.Faw Go.Proofs.Ytlnpahajkhdpjaa.Place
open Go.Proofs.Ytlnpahajkhdpjaa.Pure (bs)

def sel (p : Nat) (l u b c d e : Bool) : Bool := match p with
  | 0 => l
  | 1 => u
  | 2 => b
  | 3 => c
  | 4 => d
  | _ => e
theorem sel_run {p : Nat} (hp : p < 6) (l u b c d e : Bool) (W : World) : (Instr.index 37 (.agg #[.bool l, .bool u, .bool b, .bool c, .bool d, .bool e]) (.int .i64 (p : Int))).run Try.prog W = .ok (.bool (sel p l u b c d e)) W := by
  have h : Try.prog.underlying 37 = some (.array 6 4) := Try.underlying37
  simp [Instr.index, run_underlying h, asIntOf, go_sem]
  rw [if_pos hp]
  obtain rfl | rfl | rfl | rfl | rfl | rfl : p = 0 ∨ p = 1 ∨ p = 2 ∨ p = 3 ∨ p = 4 ∨ p = 5 := by omega
  all_goals rfl

def infOf (x : T) : Inf := (lookI tab x).getD zero
def kindB (p : Nat) (x : T) : Bool := sel p (infOf x).lz (infOf x).pu ((infOf x).mx == 0) ((infOf x).mn == 1) ((infOf x).mn == 2) ((infOf x).mn == 3)
/-- how many of the first k are of the kind -/
def cnt (p k : Nat) : Nat := (names.take k).countP (kindB p)
theorem cnt_le (p k : Nat) : cnt p k ≤ 35 := Nat.le_trans (List.countP_le_length) (by rw [List.length_take, names_len]; omega)
theorem cnt_succ (p k : Nat) (h : k < names.length) : cnt p (k + 1) = cnt p k + (if kindB p names[k] then 1 else 0) := by
  unfold cnt
  rw [List.take_succ_eq_append_getElem h, List.countP_append, List.countP_singleton]
def wantL : List Nat := [6, 21, 3, 21, 9, 5]
theorem cnt_run {p : Nat} (hp : p < 6) (W : World) : (Instr.index 38 (.agg #[.int .i64 6, .int .i64 21, .int .i64 3, .int .i64 21, .int .i64 9, .int .i64 5]) (.int .i64 (p : Int))).run Try.prog W = .ok (.int .i64 (cnt p 35 : Nat)) W := by
  have h : Try.prog.underlying 38 = some (.array 6 3) := Try.underlying38
  have hc : ∀ q, q < 6 → cnt q 35 = wantL.getD q 0 := by
    intro q hq
    obtain rfl | rfl | rfl | rfl | rfl | rfl : q = 0 ∨ q = 1 ∨ q = 2 ∨ q = 3 ∨ q = 4 ∨ q = 5 := by omega
    all_goals kernel_rfl
  rw [hc p hp]
  simp [Instr.index, run_underlying h, asIntOf, go_sem]
  rw [if_pos hp]
  obtain rfl | rfl | rfl | rfl | rfl | rfl : p = 0 ∨ p = 1 ∨ p = 2 ∨ p = 3 ∨ p = 4 ∨ p = 5 := by omega
  all_goals rfl

theorem find_name {x : T} (h : x ∈ names) : findV (bs x) = .tuple #[.agg #[.int .i64 (infOf x).mn, .int .i64 (infOf x).mx, .bool (infOf x).lz, .bool (infOf x).pu], .bool true] := by
  unfold findV
  rw [show (bs x).data.toList = x from rfl, look_tab, decide_eq_true h]; rfl
theorem names_small {x : T} (h : x ∈ names) : x.length ≤ 10 := by
  have : (names.all fun x => decide (x.length ≤ 10)) = true := by kernel_rfl
  exact of_decide_eq_true (List.all_eq_true.1 this x h)
theorem binOp_geq (t : TypeId) (a b : ByteArray) (h : Op.bytesLess a.toList b.toList = true) (W : World) : (binOp .geq t (.string a) (.string b)).run Try.prog W = .ok (.bool false) W := by
  simp [binOp, Op.stringOp, h]
theorem less_names {k : Nat} (h : k + 1 < names.length) : Op.bytesLess (bs names[k]).toList (bs names[k + 1]).toList = true := by
  rw [bytesLess_eq, Lib.toList_data, Lib.toList_data]
  exact decide_eq_true (up_get names_up (Nat.lt_succ_self k) (List.getElem?_eq_getElem (Nat.lt_of_succ_lt h)) (List.getElem?_eq_getElem h))

set_option maxRecDepth 100000 in
set_option maxHeartbeats 8000000 in
theorem walk (a0 : Int) (w : World) (w0 : (Lit.int .i64 a0).wf = true) :
    Calls Try.prog 5 #[.int .i64 a0] w fun e W' => e = .returned (.bool true) ∧ Below w.heap.size w W' := by
  have hp := place_lt a0 6 (by omega)
  have HP := Lib.hid (show ∀ W : World, Calls Try.prog 9 #[.int .i64 a0, .int .i64 6] W fun e w' => e = .returned (.int .i64 ((place a0 6 : Nat) : Int)) ∧ W = w' from fun W => Wplace.place_is a0 6 W (by omega) (by omega) w0)
  have HM : Hid ((maxLen : Nat) = 9223372036854775807) := by unfold maxLen; exact Lib.hid rfl
  clear w0
  generalize place a0 6 = p at *
  have hsel := @sel_run p hp
  have hcnt := cnt_run hp
  go_enter Try.func5, Try.ntmps5
  go_wp2_with fail
  refine (names_is _).mono ?_
  rintro e W1 ⟨A, c, rfl, hsl, hb1⟩
  have HSL := Lib.hid hsl
  have HB1 := Lib.hid hb1
  clear hsl hb1
  go_wp2_with fail
  refine (HP.out _).mono ?_
  rintro e w' ⟨rfl, rfl⟩
  clear HP
  go_wp2_with fail
  go_loopw [5, 6] (fun n i wr => ∃ k : Nat, k ≤ 35 ∧ n = .int .i64 (cnt p k) ∧ i = .int .i64 k ∧ Hid (Below W1.heap.size W1 wr)) (fun _ i _ => 35 - (intOf i).toNat)
  case atStart => exact ⟨0, Nat.zero_le _, rfl, rfl, Below.refl _ _⟩
  case round =>
    obtain ⟨k, hk, rfl, rfl, HB⟩ := hrel
    have hc35 := cnt_le p k
    by_cases hlt : k < 35
    · have hkl : k < names.length := hlt
      have hx : namesB[k]? = some (bs names[k]) := by
        unfold namesB
        rw [List.getElem?_map, List.getElem?_eq_getElem hkl]; rfl
      have hmem : names[k] ∈ names := List.getElem_mem hkl
      have HSm := Lib.hid (names_small hmem)
      have HF := Lib.hid (find_name hmem)
      have HCs := Lib.hid (cnt_succ p k hkl)
      obtain ⟨b, o, rfl, hbl, hcs⟩ := HSL.out.at_ hx
      have c1 := hcs wr HB.out
      have HC1 := Lib.hid hcs
      have HFi : Hid (∀ W, Calls Try.prog 10 #[.string (bs names[k])] W fun e W' => e = .returned (findV (bs names[k])) ∧ Below W.heap.size W W') := fun W => find_is _ W (by rw [HM.out, Pure.size_bs]; have := HSm.out; omega)
      by_cases hk0 : k = 0
      · subst hk0
        clear hx hmem HSm hcs hbl hk
        rw [Nat.add_zero] at c1
        generalize names[0] = x at *
        unfold kindB at HCs
        generalize infOf x = q at *
        clear hkl
        go_wp2_with fail
        refine (HFi.out _).mono ?_
        rintro e W2 ⟨rfl, hb2⟩
        rw [HF.out]
        have hB2 := HB.out.trans (hb2.mono HB.out.size)
        have hB3 := hB2.alloc hB2.size (.cells #[.int .i64 q.mn, .int .i64 q.mx, .bool q.lz, .bool q.pu] 28)
        have c3 := HC1.out _ hB3
        rw [Nat.add_zero] at c3
        have HB3 := Lib.hid hB3
        clear hB2 hB3 hb2 c1 HC1 HFi HF HB
        go_wp2_with fail
        go_quiet (fail)
        rcases Bool.eq_false_or_eq_true (sel p q.lz q.pu (q.mx == 0) (q.mn == 1) (q.mn == 2) (q.mn == 3)) with hs | hs
        · have HCs2 : Hid (cnt p (0 + 1) = cnt p (0) + 1) := by show _ = _; rw [HCs.out, hs]; rfl
          go_wp2_with fail
          go_roundw
          case rel => exact ⟨0 + 1, by omega, by rw [HCs2.out]; go_num, by go_num, below_drewN HB3.out _⟩
          case measure => simp [intOf] <;> omega
        · have HCs2 : Hid (cnt p (0 + 1) = cnt p (0)) := by show _ = _; rw [HCs.out, hs]; rfl
          go_wp2_with fail
          go_roundw
          case rel => exact ⟨0 + 1, by omega, by rw [HCs2.out], by go_num, below_drewN HB3.out _⟩
          case measure => simp [intOf] <;> omega
      · obtain ⟨j, rfl⟩ : ∃ j, k = j + 1 := ⟨k - 1, by omega⟩
        have hjl : j < names.length := Nat.lt_of_succ_lt hkl
        have hy : namesB[j]? = some (bs names[j]) := by
          unfold namesB
          rw [List.getElem?_map, List.getElem?_eq_getElem hjl]; rfl
        obtain ⟨b', o', hbo, hbl', hcs'⟩ := HSL.out.at_ hy
        obtain ⟨rfl, rfl⟩ : b = b' ∧ o = o' := by simpa using hbo
        have hge := fun t W => binOp_geq t _ _ (less_names hkl) W
        have HC2 := Lib.hid hcs'
        have q1 : IntKind.i64.wrap (((j + 1 : Nat) : Int) - 1) = (j : Int) := by
          rw [show (((j + 1 : Nat) : Int) - 1) = (j : Int) by omega]; exact IntWalk.i64_in _ (by omega)
        clear hx hy hmem HSm hcs hcs' hbo hbl hbl' hk
        generalize names[j] = y at *
        generalize names[j + 1] = x at *
        unfold kindB at HCs
        generalize infOf x = q at *
        clear hkl hjl
        go_wp2_with fail
        refine (HFi.out _).mono ?_
        rintro e W2 ⟨rfl, hb2⟩
        rw [HF.out]
        have hB2 := HB.out.trans (hb2.mono HB.out.size)
        have hB3 := hB2.alloc hB2.size (.cells #[.int .i64 q.mn, .int .i64 q.mx, .bool q.lz, .bool q.pu] 28)
        have c3 := HC1.out _ hB3
        have c4 := HC2.out _ hB3
        have HB3 := Lib.hid hB3
        clear hB2 hB3 hb2 c1 HC1 HC2 HFi HF HB
        go_wp2_with fail
        go_quiet (fail)
        rcases Bool.eq_false_or_eq_true (sel p q.lz q.pu (q.mx == 0) (q.mn == 1) (q.mn == 2) (q.mn == 3)) with hs | hs
        · have HCs2 : Hid (cnt p (j + 1 + 1) = cnt p (j + 1) + 1) := by show _ = _; rw [HCs.out, hs]; rfl
          go_wp2_with fail
          go_roundw
          case rel => exact ⟨j + 1 + 1, by omega, by rw [HCs2.out]; go_num, by go_num, below_drewN HB3.out _⟩
          case measure => simp [intOf] <;> omega
        · have HCs2 : Hid (cnt p (j + 1 + 1) = cnt p (j + 1)) := by show _ = _; rw [HCs.out, hs]; rfl
          go_wp2_with fail
          go_roundw
          case rel => exact ⟨j + 1 + 1, by omega, by rw [HCs2.out], by go_num, below_drewN HB3.out _⟩
          case measure => simp [intOf] <;> omega
    · obtain rfl : k = 35 := by omega
      have HB2 := Lib.hid (HB1.out.trans (HB.out.mono HB1.out.size))
      clear HB hsel
      go_wp2_with fail
      refine (awake_is _).mono ?_
      rintro e W2 ⟨rfl, hb2⟩
      have HB3 := Lib.hid (HB2.out.trans (hb2.mono HB2.out.size))
      clear hb2
      go_wp2
      go_ret
      exact ⟨rfl, HB3.out⟩

end Go.Proofs.Ytlnpahajkhdpjaa.TableKinds
