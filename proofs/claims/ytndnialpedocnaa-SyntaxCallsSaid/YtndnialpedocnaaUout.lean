/- The program's brackets: outside. -/
import Derived.WalkKit
import Derived.WalkSpells
import Derived.IntWalk
import Derived.Below
import Derived.Lib.Hide
import Derived.Lib.Builder
import Derived.Lib.IndexLaws
import Derived.Deep.QuietTactic
import Derived.BigQuiet
import Derived.Test.YtndnialpedocnaaShelf
import Derived.Test.YtndnialpedocnaaUpl
import Derived.Test.YtndnialpedocnaaStrs
namespace Go.Proofs.Ytndnialpedocnaa.Uout
open Go.RowKit Go.Proofs.Ytndnialpedocnaa.Spl Go.Proofs.Ytndnialpedocnaa.Upl
open Go.Proofs.Ytndnialpedocnaa.Pure (bs)

theorem u8_eq (c d : UInt8) : (((c.toNat : Nat) : Int) == ((d.toNat : Nat) : Int)) = decide (c = d) := by
  rw [Bool.eq_iff_iff, beq_iff_eq, decide_eq_true_iff, ← UInt8.toNat_inj]; omega
theorem drop_at {s : T} {k : Nat} (h : k < s.length) : s.drop k = s[k] :: s.drop (k + 1) := List.drop_eq_getElem_cons h
/-- is a byte among others: by its place -/
theorem idx_mem (l : T) (c : UInt8) : (c ∈ l ∧ 0 ≤ Lib.indexByte l c) ∨ (c ∉ l ∧ Lib.indexByte l c = -1) := by
  have h0 := Lib.indexByte_ge l c
  rcases (show Lib.indexByte l c < 0 ∨ 0 ≤ Lib.indexByte l c by omega) with h1 | h1
  · refine .inr ⟨fun hm => ?_, by omega⟩
    obtain ⟨j, hj, e⟩ := List.getElem_of_mem hm
    exact Lib.indexByte_none (show Lib.indexByte l c = -1 by omega) j (by rw [List.getElem?_eq_getElem hj, e])
  · obtain ⟨o, ho⟩ := Int.eq_ofNat_of_zero_le h1
    exact .inl ⟨List.mem_of_getElem? (Lib.indexByte_some ho).1, h1⟩
theorem u8_back (c : UInt8) : ((c.toNat : Nat) : Int).toNat.toUInt8 = c := by simp
/-- what is looked for in the brackets' bytes -/
theorem index_is (l : T) (c : UInt8) (w : World) : Calls Try.prog 38 #[.string (bs l), .int .u8 ((c.toNat : Nat) : Int)] w fun e w' => e = .returned (.int .i64 (Lib.indexByte l c)) ∧ w' = w := by
  have h := Try.strings_IndexByte (bs l) ((c.toNat : Nat) : Int) w
  rw [u8_back] at h
  exact h
theorem index_yes (l : T) (c : UInt8) (w : World) (h : c ∈ l) : Calls Try.prog 38 #[.string (bs l), .int .u8 ((c.toNat : Nat) : Int)] w fun e w' => (∃ n : Nat, e = .returned (.int .i64 (n : Int))) ∧ w' = w := by
  refine (index_is l c w).mono ?_
  rintro e w' ⟨rfl, rfl⟩
  rcases idx_mem l c with ⟨_, h1⟩ | ⟨h1, _⟩
  · obtain ⟨n, hn⟩ := Int.eq_ofNat_of_zero_le h1
    exact ⟨⟨n, by rw [hn]⟩, rfl⟩
  · exact absurd h h1
theorem index_no (l : T) (c : UInt8) (w : World) (h : ¬ c ∈ l) : Calls Try.prog 38 #[.string (bs l), .int .u8 ((c.toNat : Nat) : Int)] w fun e w' => e = .returned (.int .i64 (-1)) ∧ w' = w := by
  refine (index_is l c w).mono ?_
  rintro e w' ⟨rfl, rfl⟩
  rcases idx_mem l c with ⟨h1, _⟩ | ⟨_, h1⟩
  · exact absurd h1 h
  · rw [h1]; exact ⟨rfl, rfl⟩

set_option maxRecDepth 100000 in
set_option maxHeartbeats 4000000 in
theorem outside_is (op sh s : T) (a : UInt8) (w : World) (hs : s.length ≤ 1000000) :
    Calls Try.prog 31 #[.agg #[.string (bs op), .string (bs sh)], .string (bs s), .int .u8 ((a.toNat : Nat) : Int)] w fun e W' => e = .returned (.int .i64 (outI op sh a 0 s 0)) ∧ Below w.heap.size w W' := by
  have hsz : (bs s).size = s.length := Pure.size_bs s
  have hg := heap_alloc_new w (.cells #[.string (bs op), .string (bs sh)] 59)
  have g0 : ∀ W : World, W.heap[w.heap.size]? = some (.cells #[.string (bs op), .string (bs sh)] 59) → W.cell? ⟨w.heap.size, 0, none⟩ = some (.string (bs op)) ∧ W.cell? ⟨w.heap.size, 1, none⟩ = some (.string (bs sh)) := fun W h => ⟨by rw [Lib.cell_of_heap h]; rfl, by rw [Lib.cell_of_heap h]; rfl⟩
  have HG := Lib.hid g0
  have HI := Lib.hid hg
  have HB0 := Lib.hid ((Below.refl w.heap.size w).alloc (Nat.le_refl _) (.cells #[.string (bs op), .string (bs sh)] 59))
  clear hg g0
  go_enter Try.func31, Try.ntmps31
  go_wp2_with fail
  generalize hW : w.alloc (.cells #[.string (bs op), .string (bs sh)] 59) = W1
  rw [hW] at HI HB0
  clear hW
  go_loopw [7, 11] (fun dv i wr => ∃ d k : Nat, d ≤ k ∧ k ≤ s.length ∧ dv = .int .i64 d ∧ i = .int .i64 k ∧ Hid (wr.heap[w.heap.size]? = some (.cells #[.string (bs op), .string (bs sh)] 59)) ∧ Hid (Below w.heap.size w wr) ∧ Hid (outI op sh a d s k = outI op sh a 0 s 0)) (fun _ i _ => s.length - (intOf i).toNat)
  case atStart => exact ⟨0, 0, Nat.le_refl _, Nat.zero_le _, rfl, rfl, HI, HB0, rfl⟩
  case round =>
    obtain ⟨d, k, hdk, hk, rfl, rfl, HI, HB, HE⟩ := hrel
    by_cases hlt : k < s.length
    · have hb : ((((bs s)[k]'(by rw [hsz]; exact hlt)).toNat : Nat) : Int) = (((s[k]).toNat : Nat) : Int) := rfl
      have e1 := u8_eq s[k] a
      have hdr := drop_at hlt
      obtain ⟨c0, c1⟩ := HG.out wr HI.out
      by_cases h1 : d = 0 ∧ s[k] = a
      · obtain ⟨rfl, h2⟩ := h1
        rw [decide_eq_true h2] at e1
        have HN : Hid (outI op sh a 0 s 0 = (k : Int)) := by
          show _ = _
          rw [← HE.out]
          unfold outI
          rw [hdr, outP, if_pos ⟨rfl, h2⟩]
          rfl
        clear hdr h2
        generalize s[k] = x at *
        go_wp2
        go_ret
        rw [HN.out]
        exact ⟨rfl, HB.out⟩
      · have HO := Lib.hid (fun W => index_is op s[k] W)
        have HS := Lib.hid (fun W => index_is sh s[k] W)
        rcases idx_mem op s[k] with ⟨ho, hi⟩ | ⟨ho, hi⟩
        · obtain ⟨n, hn⟩ := Int.eq_ofNat_of_zero_le hi
          rw [hn] at HO
          have HN : Hid (outI op sh a (d + 1) s (k + 1) = outI op sh a 0 s 0) := by
            show _ = _
            rw [← HE.out]
            exact (outI_step (by rw [hdr, outP, if_neg h1, if_pos ho])).symm
          clear hdr hi hn ho HS
          by_cases hd : d = 0
          · have h2 : ¬ s[k] = a := fun e => h1 ⟨hd, e⟩
            rw [decide_eq_false h2] at e1
            subst hd
            clear h1 h2
            generalize s[k] = x at *
            go_wp2_with fail
            go_quiet (first | (go_at_call 38; refine Calls.quiet_of_same (HO.out _)))
            go_wp2
            go_roundw
            case rel => exact ⟨1, k + 1, by omega, by omega, by go_num, by go_num, by first | exact HI | exact HI2, by first | exact HB | exact Strs.below_drewN HB2.out _ | exact Strs.below_drewN HB.out _ | exact Strs.below_drewN (Strs.below_drewN HB.out _) _, HN⟩
            case measure => simp [intOf]; omega
          · have hd0 : (((d : Nat) : Int) == 0) = false := by rw [beq_eq_false_iff_ne]; omega
            clear h1 e1
            generalize s[k] = x at *
            go_wp2_with fail
            go_quiet (first | (go_at_call 38; refine Calls.quiet_of_same (HO.out _)))
            go_wp2
            go_roundw
            case rel => exact ⟨d + 1, k + 1, by omega, by omega, by go_num, by go_num, by first | exact HI | exact HI2, by first | exact HB | exact Strs.below_drewN HB2.out _ | exact Strs.below_drewN HB.out _ | exact Strs.below_drewN (Strs.below_drewN HB.out _) _, HN⟩
            case measure => simp [intOf]; omega
        · rw [hi] at HO
          by_cases hd : d = 0
          · have h2 : ¬ s[k] = a := fun e => h1 ⟨hd, e⟩
            rw [decide_eq_false h2] at e1
            subst hd
            have HN : Hid (outI op sh a 0 s (k + 1) = outI op sh a 0 s 0) := by
              show _ = _
              rw [← HE.out]
              exact (outI_step (by rw [hdr, outP, if_neg h1, if_neg ho, if_neg (fun h => absurd h.1 (Nat.lt_irrefl 0))])).symm
            clear h1 h2 hdr hi ho HS
            generalize s[k] = x at *
            go_wp2_with fail
            go_quiet (first | (go_at_call 38; refine Calls.quiet_of_same (HO.out _)))
            go_wp2
            go_quiet (fail)
            go_wp2
            go_roundw
            case rel => exact ⟨0, k + 1, by omega, by omega, rfl, by go_num, by first | exact HI | exact HI2, by first | exact HB | exact Strs.below_drewN HB2.out _ | exact Strs.below_drewN HB.out _ | exact Strs.below_drewN (Strs.below_drewN HB.out _) _, HN⟩
            case measure => simp [intOf]; omega
          · have hd0 : (((d : Nat) : Int) == 0) = false := by rw [beq_eq_false_iff_ne]; omega
            have hd1 : 0 < d := by omega
            rcases idx_mem sh s[k] with ⟨hs1, hi2⟩ | ⟨hs1, hi2⟩
            · obtain ⟨n, hn⟩ := Int.eq_ofNat_of_zero_le hi2
              rw [hn] at HS
              have HN : Hid (outI op sh a (d - 1) s (k + 1) = outI op sh a 0 s 0) := by
                show _ = _
                rw [← HE.out]
                exact (outI_step (by rw [hdr, outP, if_neg h1, if_neg ho, if_pos ⟨by omega, hs1⟩])).symm
              have hd2 : ((d : Nat) : Int) - 1 = ((d - 1 : Nat) : Int) := by omega
              clear h1 e1 hdr hi hi2 hn ho hs1
              generalize s[k] = x at *
              go_wp2_with fail
              go_quiet (first | (go_at_call 38; refine Calls.quiet_of_same (HO.out _)))
              go_wp2_with fail
              obtain ⟨wq, hwq⟩ : ∃ wq, wr.drewN nq = wq := ⟨_, rfl⟩
              have d1 : wq.cell? ⟨w.heap.size, 1, none⟩ = some (.string (bs sh)) := by rw [← hwq]; exact c1
              have HI2 : Hid (wq.heap[w.heap.size]? = some (.cells #[.string (bs op), .string (bs sh)] 59)) := by rw [← hwq]; exact HI
              have HB2 : Hid (Below w.heap.size w wq) := by rw [← hwq]; exact Strs.below_drewN HB.out _
              rw [hwq]
              clear hwq HI HB
              go_quiet (first | (go_at_call 38; refine Calls.quiet_of_same (HS.out _)))
              go_wp2
              go_roundw
              case rel => exact ⟨d - 1, k + 1, by omega, by omega, by first | rfl | (rw [hd2]) | go_num, by go_num, by first | exact HI | exact HI2, by first | exact HB | exact Strs.below_drewN HB2.out _ | exact Strs.below_drewN HB.out _ | exact Strs.below_drewN (Strs.below_drewN HB.out _) _, HN⟩
              case measure => simp [intOf]; omega
            · rw [hi2] at HS
              have HN : Hid (outI op sh a d s (k + 1) = outI op sh a 0 s 0) := by
                show _ = _
                rw [← HE.out]
                exact (outI_step (by rw [hdr, outP, if_neg h1, if_neg ho, if_neg (fun h => hs1 h.2)])).symm
              clear h1 e1 hdr hi hi2 ho hs1
              generalize s[k] = x at *
              go_wp2_with fail
              go_quiet (first | (go_at_call 38; refine Calls.quiet_of_same (HO.out _)))
              go_wp2_with fail
              obtain ⟨wq, hwq⟩ : ∃ wq, wr.drewN nq = wq := ⟨_, rfl⟩
              have d1 : wq.cell? ⟨w.heap.size, 1, none⟩ = some (.string (bs sh)) := by rw [← hwq]; exact c1
              have HI2 : Hid (wq.heap[w.heap.size]? = some (.cells #[.string (bs op), .string (bs sh)] 59)) := by rw [← hwq]; exact HI
              have HB2 : Hid (Below w.heap.size w wq) := by rw [← hwq]; exact Strs.below_drewN HB.out _
              rw [hwq]
              clear hwq HI HB
              go_quiet (first | (go_at_call 38; refine Calls.quiet_of_same (HS.out _)))
              go_wp2
              go_roundw
              case rel => exact ⟨d, k + 1, by omega, by omega, rfl, by go_num, by first | exact HI | exact HI2, by first | exact HB | exact Strs.below_drewN HB2.out _ | exact Strs.below_drewN HB.out _ | exact Strs.below_drewN (Strs.below_drewN HB.out _) _, HN⟩
              case measure => simp [intOf]; omega
    · have HN : Hid (outI op sh a 0 s 0 = -1) := by
        show _ = _
        rw [← HE.out, outI_end (by omega)]
      go_wp2
      go_ret
      rw [HN.out]
      exact ⟨rfl, HB.out⟩

end Go.Proofs.Ytndnialpedocnaa.Uout
