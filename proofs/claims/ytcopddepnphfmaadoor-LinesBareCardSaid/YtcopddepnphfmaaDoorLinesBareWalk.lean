/- LinesBare walked: so many backslashes ahead of a mark. -/
import Derived.Deep.RegionHeld3
import Derived.Deep.DeepCutAuto
import Derived.Test.YtcopddepnphfmaaDoorPlace
import Derived.Test.YtcopddepnphfmaaDoorLmem
namespace Go.Proofs.YtcopddepnphfmaaDoor.LinesBare
open Go.RowKit Go.Proofs.YtcopddepnphfmaaDoor.Pure Go.Proofs.YtcopddepnphfmaaDoor.Ends Go.Proofs.YtcopddepnphfmaaDoor.Ln Go.Proofs.YtcopddepnphfmaaDoor.Lbare Go.Proofs.YtcopddepnphfmaaDoor.Lmem Go.Proofs.YtcopddepnphfmaaDoor.Place

def sA (q : Nat) : List UInt8 := 97 :: List.replicate q 92
def sB (k q : Nat) : List UInt8 := sA k ++ (35 :: 98 :: List.replicate q 92)
theorem sA_snoc (q : Nat) : sA q ++ [92] = sA (q + 1) := by unfold sA; rw [List.cons_append, ← List.replicate_succ']
theorem sB_start (k : Nat) : sA k ++ [35, 98] = sB k 0 := rfl
theorem sB_snoc (k q : Nat) : sB k q ++ [92] = sB k (q + 1) := by unfold sB; rw [List.append_assoc, List.cons_append, List.cons_append, ← List.replicate_succ']
theorem sA_len (q : Nat) : (sA q).length = q + 1 := by simp [sA]
theorem sB_len (k q : Nat) : (sB k q).length = k + q + 3 := by simp [sB, sA]; omega
theorem add_bs (a b : List UInt8) (W : World) (h : (a ++ b).length ≤ 1000) : (Op.stringOp .add (bs a) (bs b)).run Tryd.prog W = .ok (.string (bs (a ++ b))) W := by
  have e : bs a ++ bs b = bs (a ++ b) := ext_data (by rw [ByteArray.data_append, Array.toList_append]; rfl)
  rw [← e]
  refine run_string_add_sum W _ _ ?_
  rw [List.length_append] at h
  rw [size_bs, size_bs]
  omega
def good (k j : Nat) : Bool := if k % 2 = 0 then (bare (sB k j)).length == 1 + k / 2 else ((bare (sB k j)).length == 1 + k / 2 + 2 + j && (bare (sB k j))[1 + k / 2]? == some 35)
theorem good_all : ((List.range 20).all fun k => (List.range 20).all fun j => good k j) = true := by kernel_rfl
theorem good_is (k j : Nat) (hk : k < 20) (hj : j < 20) : good k j = true := by
  have h := List.all_eq_true.1 good_all k (List.mem_range.2 hk)
  exact List.all_eq_true.1 h j (List.mem_range.2 hj)

set_option maxRecDepth 100000 in
set_option maxHeartbeats 2000000 in
theorem walk_kj (a0 a1 : Int) (k j : Nat) (w : World) (hk : k < 20) (hj : j < 20)
    (h0 : ∀ W : World, Calls Tryd.prog 22 #[.int .i64 a0, .int .i64 20] W fun e w' => e = .returned (.int .i64 (k : Int)) ∧ W = w')
    (h1 : ∀ W : World, Calls Tryd.prog 22 #[.int .i64 a1, .int .i64 20] W fun e w' => e = .returned (.int .i64 (j : Int)) ∧ W = w') :
    Calls Tryd.prog 6 #[.int .i64 a0, .int .i64 a1] w fun e W' => e = .returned (.bool true) ∧ Below w.heap.size w W' := by
  have H0 := Lib.hid h0
  have H1 := Lib.hid h1
  clear h0 h1
  go_enter Tryd.func6, Tryd.ntmps6
  go_wp2_with fail
  refine (H0.out _).mono ?_
  rintro e w' ⟨rfl, rfl⟩
  go_wp2_with fail
  refine (H1.out _).mono ?_
  rintro e w' ⟨rfl, rfl⟩
  clear H0 H1
  go_wp2_with fail
  go_loopw [7, 8] (fun v i wr => ∃ q : Nat, q ≤ k ∧ v = .string (bs (sA q)) ∧ i = .int .i64 (q : Int) ∧ w = wr) (fun _ i _ => k - (intOf i).toNat)
  case atStart => exact ⟨0, Nat.zero_le _, rfl, rfl, rfl⟩
  case round =>
    obtain ⟨q, hq, rfl, rfl, rfl⟩ := hrel
    by_cases hlt : q < k
    · have a1 : ∀ W, (Op.stringOp .add (bs (sA q)) ⟨#[92]⟩).run Tryd.prog W = .ok (.string (bs (sA (q + 1)))) W := fun W => by
        have := add_bs (sA q) [92] W (by rw [List.length_append, sA_len]; simp; omega)
        rw [sA_snoc] at this
        exact this
      go_wp2
      go_roundw
      case rel => exact ⟨q + 1, by omega, rfl, by go_num, trivial⟩
      case measure => simp [intOf]; omega
    · obtain rfl : q = k := by omega
      have a1 : ∀ W, (Op.stringOp .add (bs (sA q)) ⟨#[35, 98]⟩).run Tryd.prog W = .ok (.string (bs (sB q 0))) W := fun W => by
        have := add_bs (sA q) [35, 98] W (by rw [List.length_append, sA_len]; simp; omega)
        rw [sB_start] at this
        exact this
      go_wp2_with fail
      clear a1
      go_loopw [7, 9] (fun v i wr => ∃ p : Nat, p ≤ j ∧ v = .string (bs (sB q p)) ∧ i = .int .i64 (p : Int) ∧ w = wr) (fun _ i _ => j - (intOf i).toNat)
      case atStart => exact ⟨0, Nat.zero_le _, rfl, rfl, rfl⟩
      case round =>
        obtain ⟨p, hp, rfl, rfl, rfl⟩ := hrel
        by_cases hlt2 : p < j
        · have a1 : ∀ W, (Op.stringOp .add (bs (sB q p)) ⟨#[92]⟩).run Tryd.prog W = .ok (.string (bs (sB q (p + 1)))) W := fun W => by
            have := add_bs (sB q p) [92] W (by rw [List.length_append, sB_len]; simp; omega)
            rw [sB_snoc] at this
            exact this
          go_wp2
          go_roundw
          case rel => exact ⟨p + 1, by omega, rfl, by go_num, trivial⟩
          case measure => simp [intOf]; omega
        · obtain rfl : p = j := by omega
          have HB := Lib.hid (bare_is (bs (sB q p)) w (by rw [size_bs, sB_len]; omega))
          have hg := good_is q p hk hj
          have hd : (bs (sB q p)).data.toList = sB q p := rfl
          rw [hd] at HB
          unfold good at hg
          generalize bare (sB q p) = T at HB hg
          have hTz : (bs T).size = T.length := size_bs T
          clear hd
          by_cases hpar : q % 2 = 0
          · rw [if_pos hpar] at hg
            have hz : ((bs T).size : Int) = 1 + ((q / 2 : Nat) : Int) := by rw [hTz, beq_iff_eq.1 hg]; simp
            have hb : (((q : Nat) : Int) % 2 == 0) = true := by rw [beq_iff_eq]; omega
            clear hg hTz hpar
            generalize bs T = U at HB hz
            go_wp2_with fail
            refine HB.out.mono ?_
            rintro e w1 ⟨rfl, hb1⟩
            have HB1 := Lib.hid hb1
            clear hb1 HB
            go_wp2_with fail
            refine (awake_is _).mono ?_
            rintro e w2 ⟨rfl, hb2⟩
            have HB2 := Lib.hid (HB1.out.trans (hb2.mono HB1.out.size))
            clear hb2
            go_wp2
            go_ret
            exact ⟨rfl, HB2.out⟩
          · rw [if_neg hpar, Bool.and_eq_true, beq_iff_eq, beq_iff_eq] at hg
            have hz : ((bs T).size : Int) = 1 + ((q / 2 : Nat) : Int) + 2 + (p : Int) := by rw [hTz, hg.1]; simp
            have hlt3 : 1 + q / 2 < (bs T).size := by omega
            have hget : (((bs T)[1 + q / 2]'hlt3).toNat : Int) = 35 := by
              have h2 := hg.2
              have h3 : T[1 + q / 2]? = some ((bs T)[1 + q / 2]'hlt3) := List.getElem?_eq_getElem (by rw [← hTz]; exact hlt3)
              rw [h3] at h2
              have h4 : (bs T)[1 + q / 2]'hlt3 = 35 := Option.some.inj h2
              rw [h4]; rfl
            have hb : (((q : Nat) : Int) % 2 == 0) = false := by rw [beq_eq_false_iff_ne]; omega
            clear hg hTz hpar
            generalize bs T = U at HB hz hlt3 hget
            go_wp2_with fail
            refine HB.out.mono ?_
            rintro e w1 ⟨rfl, hb1⟩
            have HB1 := Lib.hid hb1
            clear hb1 HB
            go_wp2_with fail
            refine (awake_is _).mono ?_
            rintro e w2 ⟨rfl, hb2⟩
            have HB2 := Lib.hid (HB1.out.trans (hb2.mono HB1.out.size))
            clear hb2
            go_wp2
            go_ret
            exact ⟨rfl, HB2.out⟩

theorem walk (a0 a1 : Int) (w : World) (w0 : (Lit.int .i64 a0).wf = true) (w1 : (Lit.int .i64 a1).wf = true) :
    Calls Tryd.prog 6 #[.int .i64 a0, .int .i64 a1] w fun e W' => e = .returned (.bool true) ∧ Below w.heap.size w W' :=
  walk_kj a0 a1 (place a0 20) (place a1 20) w (place_lt a0 20 (by omega)) (place_lt a1 20 (by omega)) (fun W => place_is a0 20 W (by omega) (by omega) w0) (fun W => place_is a1 20 W (by omega) (by omega) w1)

end Go.Proofs.YtcopddepnphfmaaDoor.LinesBare
