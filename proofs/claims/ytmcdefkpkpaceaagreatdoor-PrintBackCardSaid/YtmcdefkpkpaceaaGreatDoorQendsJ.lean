/- The document's ends: where a bracket is closed. -/
import Derived.WalkKit
import Derived.WalkSpells
import Derived.IntWalk
import Derived.Lib.Hide
import Derived.Deep.DeepCutAuto
import Derived.Test.YtmcdefkpkpaceaaGreatDoorProg
import Derived.Test.YtmcdefkpkpaceaaGreatDoorStrsJ
import Derived.OwnWalk
import Derived.Lib.SplitLaws
import Derived.Laws.BytesArg
import Derived.Laws.OwnMore
import Derived.Lib.Builder
namespace Go.Proofs.YtmcdefkpkpaceaaGreatDoor.Qends
open Go.RowKit Go.Proofs.YtmcdefkpkpaceaaGreatDoor.Spl
open Go.Proofs.YtmcdefkpkpaceaaGreatDoor.Pure (bs)

theorem u8_eq (c d : UInt8) : (((c.toNat : Nat) : Int) == ((d.toNat : Nat) : Int)) = decide (c = d) := by
  rw [Bool.eq_iff_iff, beq_iff_eq, decide_eq_true_iff, ← UInt8.toNat_inj]; omega
/-- from here on, as far as here -/
def endI (o c : UInt8) (d : Nat) (s : T) (k : Nat) : Int := match endsP o c d (s.drop k) with
  | none => -1
  | some e => ((k + e : Nat) : Int)
theorem endI_end {o c : UInt8} {d : Nat} {s : T} {k : Nat} (h : s.length ≤ k) : endI o c d s k = -1 := by
  unfold endI; rw [List.drop_of_length_le h]; rfl
theorem endI_step {o c : UInt8} {d d' : Nat} {s : T} {k : Nat} (h : endsP o c d (s.drop k) = (endsP o c d' (s.drop (k + 1))).map (· + 1)) : endI o c d s k = endI o c d' s (k + 1) := by
  unfold endI
  rw [h]
  cases endsP o c d' (s.drop (k + 1)) with
  | none => rfl
  | some e =>
    show ((k + (e + 1) : Nat) : Int) = ((k + 1 + e : Nat) : Int)
    omega
theorem drop_at {s : T} {k : Nat} (h : k < s.length) : s.drop k = s[k] :: s.drop (k + 1) := List.drop_eq_getElem_cons h

set_option maxHeartbeats 2000000 in
theorem ends_is (s : T) (at0 : Nat) (o c : UInt8) (w : World) (hne : c ≠ o) (hs : s.length ≤ 1000000) (ha : at0 ≤ s.length) :
    Calls Tryz.prog 20 #[.string (bs s), .int .i64 at0, .int .u8 ((o.toNat : Nat) : Int), .int .u8 ((c.toNat : Nat) : Int)] w fun e w' => e = .returned (.int .i64 (endI o c 1 s at0)) ∧ w = w' := by
  have hsz : (bs s).size = s.length := Pure.size_bs s
  have HS := Lib.hid hsz
  go_enter Tryz.func20, Tryz.ntmps20
  go_wp2_with fail
  go_loop [9, 10] (fun dv i => ∃ d k : Nat, 1 ≤ d ∧ d ≤ k + 1 ∧ k ≤ s.length ∧ dv = .int .i64 d ∧ i = .int .i64 k ∧ Hid (endI o c d s k = endI o c 1 s at0)) (fun _ i => s.length - (intOf i).toNat)
  case atStart => exact ⟨1, at0, Nat.le_refl _, by omega, ha, rfl, rfl, rfl⟩
  case round =>
    obtain ⟨d, k, hd, hdk, hk, rfl, rfl, HE⟩ := hrel
    by_cases hlt : k < s.length
    · have hb : ((((bs s)[k]'(by rw [hsz]; exact hlt)).toNat : Nat) : Int) = (((s[k]).toNat : Nat) : Int) := rfl
      have e1 := u8_eq s[k] o
      have e2 := u8_eq s[k] c
      have hdr := drop_at hlt
      by_cases h1 : s[k] = o
      · rw [decide_eq_true h1] at e1
        have HN : Hid (endI o c (d + 1) s (k + 1) = endI o c 1 s at0) := by
          show _ = _
          rw [← HE.out]
          exact (endI_step (by rw [hdr, endsP, if_pos h1])).symm
        generalize s[k] = x at *
        clear hdr h1
        go_wp2_with fail
        go_round
        case rel => exact ⟨d + 1, k + 1, by omega, by omega, by omega, by go_num, by go_num, HN⟩
        case measure => simp [intOf]; omega
      · rw [decide_eq_false h1] at e1
        by_cases h2 : s[k] = c
        · rw [decide_eq_true h2] at e2
          by_cases h3 : d = 1
          · subst h3
            have HN : Hid (endI o c 1 s at0 = (k : Int)) := by
              show _ = _
              rw [← HE.out]
              unfold endI
              rw [hdr, h2, endsP, if_neg hne, if_pos rfl, if_pos (Nat.le_refl _)]
              rfl
            generalize s[k] = x at *
            clear hdr h1 h2
            go_wp2
            go_ret
            rw [HN.out]
            exact ⟨rfl, rfl⟩
          · have HN : Hid (endI o c (d - 1) s (k + 1) = endI o c 1 s at0) := by
              show _ = _
              rw [← HE.out]
              exact (endI_step (by rw [hdr, h2, endsP, if_neg hne, if_pos rfl, if_neg (by omega)])).symm
            have hd1 : (((d : Nat) : Int) - 1 == 0) = false := by rw [beq_eq_false_iff_ne]; omega
            have hd2 : ((d : Nat) : Int) - 1 = ((d - 1 : Nat) : Int) := by omega
            generalize s[k] = x at *
            clear hdr h1 h2
            go_wp2_with fail
            go_round
            case rel => exact ⟨d - 1, k + 1, by omega, by omega, by omega, by first | rfl | (rw [hd2]) | go_num, by go_num, HN⟩
            case measure => simp [intOf]; omega
        · rw [decide_eq_false h2] at e2
          have HN : Hid (endI o c d s (k + 1) = endI o c 1 s at0) := by
            show _ = _
            rw [← HE.out]
            exact (endI_step (by rw [hdr, endsP, if_neg h1, if_neg h2])).symm
          generalize s[k] = x at *
          clear hdr h1 h2
          go_wp2_with fail
          go_round
          case rel => exact ⟨d, k + 1, hd, by omega, by omega, rfl, by go_num, HN⟩
          case measure => simp [intOf]; omega
    · have HN : Hid (endI o c 1 s at0 = -1) := by
        show _ = _
        rw [← HE.out, endI_end (by omega)]
      go_wp2
      go_ret
      rw [HN.out]
      exact ⟨rfl, rfl⟩

end Go.Proofs.YtmcdefkpkpaceaaGreatDoor.Qends

/- The document's Args: a call's arguments. -/
namespace Go.Proofs.YtmcdefkpkpaceaaGreatDoor.Qargs
open Go.RowKit Go.Proofs.YtmcdefkpkpaceaaGreatDoor.Strs Go.Proofs.YtmcdefkpkpaceaaGreatDoor.Spl Go.Proofs.YtmcdefkpkpaceaaGreatDoor.Qends
open Go.Proofs.YtmcdefkpkpaceaaGreatDoor.Pure (bs)

def vals (zs : List T) : List Value := (zs.map bs).map Value.string
theorem vals_snoc (zs : List T) (y : T) : vals (zs ++ [y]) = vals zs ++ [.string (bs y)] := by unfold vals; rw [List.map_append, List.map_append]; rfl
/-- so many may be cut off yet -/
def more (most n : Nat) : Option Nat := if most = 0 then none else some (most - 1 - n)
def midT (s : T) (f k : Nat) : T := (s.take k).drop f
theorem mid_same (s : T) (f : Nat) : midT s f f = [] := by
  unfold midT
  rw [List.drop_eq_nil_iff, List.length_take]; omega
theorem mid_next {s : T} {f k : Nat} (hf : f ≤ k) (hk : k < s.length) : midT s f (k + 1) = midT s f k ++ [s[k]] := by
  unfold midT
  rw [List.take_succ_eq_append_getElem hk, List.drop_append_of_le_length (by rw [List.length_take]; omega)]
theorem mid_extract (s : T) (f k : Nat) : (bs s).extract f k = bs (midT s f k) := Pure.ext_data (by
  have h := Lib.extract_toList (bs s) f k
  rw [Lib.toList_data] at h
  rw [h]
  show (s.drop f).take (k - f) = (s.take k).drop f
  rw [List.drop_take])
theorem mid_len (s : T) (f k : Nat) : (midT s f k).length ≤ s.length := by
  unfold midT
  rw [List.length_drop, List.length_take]; omega
/-- how far: d open, cut last at f, acc cut off -/
def At (o c : UInt8) (most : Nat) (s : T) (d f k : Nat) (acc : List T) : Prop :=
  argsP o c 0 (more most 0) [] s = acc ++ argsP o c d (more most acc.length) (midT s f k) (s.drop k) ∧ (most ≠ 0 → acc.length < most)
theorem at_start (o c : UInt8) (most : Nat) (s : T) : At o c most s 0 0 0 [] := ⟨rfl, fun h => by show 0 < most; omega⟩
theorem at_next {o c : UInt8} {most : Nat} {s : T} {d d' f k : Nat} {acc : List T} (hf : f ≤ k) (hk : k < s.length) (h : At o c most s d f k acc) (h1 : ∀ m cur r, m = more most acc.length → argsP o c d m cur (s[k] :: r) = argsP o c d' m (cur ++ [s[k]]) r) : At o c most s d' f (k + 1) acc := by
  refine ⟨?_, h.2⟩
  rw [h.1, List.drop_eq_getElem_cons hk, h1 _ _ _ rfl, mid_next hf hk]
theorem at_cut {o c : UInt8} {most : Nat} {s : T} {f k : Nat} {acc : List T} (hk : k < s.length) (h : At o c most s 0 f k acc) (h1 : s[k] ≠ o) (h2 : s[k] ≠ c) (h3 : s[k] = 44) (hm : most = 0 ∨ acc.length + 1 < most) : At o c most s 0 (k + 1) (k + 1) (acc ++ [midT s f k]) := by
  have hmm : more most acc.length ≠ some 0 := by
    unfold more
    split
    · exact fun e => by cases e
    · exact fun e => by have := Option.some.inj e; omega
  have hmn : (more most acc.length).map (· - 1) = more most (acc ++ [midT s f k]).length := by
    unfold more
    rw [List.length_append, List.length_singleton]
    split
    · rfl
    · show some (most - 1 - acc.length - 1) = some (most - 1 - (acc.length + 1))
      rw [Nat.sub_sub]
  refine ⟨?_, fun h0 => by rw [List.length_append, List.length_singleton]; omega⟩
  rw [h.1, List.drop_eq_getElem_cons hk, argsP, if_neg h1, if_neg h2, if_pos ⟨h3, rfl, hmm⟩, hmn, mid_same, List.append_assoc]
  rfl
theorem at_end {o c : UInt8} {most : Nat} {s : T} {d f k : Nat} {acc : List T} (hk : s.length ≤ k) (h : At o c most s d f k acc) : argsP o c 0 (more most 0) [] s = acc ++ [s.drop f] := by
  rw [h.1, List.drop_of_length_le hk]
  unfold midT
  rw [List.take_of_length_le hk]
  rfl
theorem drop_extract (s : T) (f : Nat) : (bs s).extract f (bs s).size = bs (s.drop f) := Pure.ext_data (by rw [Lib.extract_to_end]; rfl)

set_option maxRecDepth 100000 in
set_option maxHeartbeats 8000000 in
theorem args_is (s : T) (most : Nat) (o c : UInt8) (w : World) (hs : s.length ≤ 1000000) (hm : most ≤ 100) :
    Calls Tryz.prog 39 #[.string (bs s), .int .i64 most, .int .u8 ((o.toNat : Nat) : Int), .int .u8 ((c.toNat : Nat) : Int)] w fun e w' => ∃ v, e = .returned v ∧ w'.ownsRow w.heap.size 9 1 v (argsP o c 0 (more most 0) [] s).length (vals (argsP o c 0 (more most 0) [] s)) ∧ Below w.heap.size w w' := by
  obtain ⟨i0, hi, hz0, hz1, hz2⟩ := info_parts infoString
  have hsz : (bs s).size = s.length := Pure.size_bs s
  go_enter Tryz.func39, Tryz.ntmps39
  go_wp2_with fail
  go_loopw [9, 10, 11, 12] (fun v dv fv i wr => ∃ (d f k : Nat) (acc : List T), d ≤ k ∧ f ≤ k ∧ k ≤ s.length ∧ acc.length ≤ k ∧ dv = .int .i64 d ∧ fv = .int .i64 f ∧ i = .int .i64 k ∧ wr.ownsRow w.heap.size 9 1 v acc.length (vals acc) ∧ Hid (Below w.heap.size w wr) ∧ Hid (At o c most s d f k acc)) (fun _ _ _ i _ => s.length - (intOf i).toNat)
  case atStart => exact ⟨0, 0, 0, [], Nat.le_refl _, Nat.le_refl _, Nat.zero_le _, Nat.le_refl _, rfl, rfl, rfl, World.ownsRow_nil _ _ _ _, Below.refl _ _, at_start _ _ _ _⟩
  case round =>
    obtain ⟨d, f, k, acc, hdk, hfk, hk, hacc, rfl, rfl, rfl, hown, HB, HA⟩ := hrel
    obtain ⟨A9, c9, rfl, _⟩ := slIs_of_own (w := wr) (xs := acc.map bs) (n := acc.length) (List.length_map _) hown
    by_cases hlt : k < s.length
    · have hb : ((((bs s)[k]'(by rw [hsz]; exact hlt)).toNat : Nat) : Int) = (((s[k]).toNat : Nat) : Int) := rfl
      have e1 := u8_eq s[k] o
      have e2 := u8_eq s[k] c
      have e3 := u8_eq s[k] 44
      rw [show (((44 : UInt8).toNat : Nat) : Int) = 44 from rfl] at e3
      by_cases h1 : s[k] = o
      · rw [decide_eq_true h1] at e1
        have HN : Hid (At o c most s (d + 1) f (k + 1) acc) := at_next hfk hlt HA.out fun m cur r _ => by rw [argsP, if_pos h1]
        have HO := Lib.hid hown
        clear h1 e2 e3 hown
        generalize s[k] = x at *
        go_wp2_with fail
        go_roundw
        case rel => exact ⟨d + 1, f, k + 1, acc, by omega, by omega, by omega, by omega, by go_num, rfl, by go_num, HO.out, HB.out, HN⟩
        case measure => simp [intOf]; omega
      · rw [decide_eq_false h1] at e1
        by_cases h2 : s[k] = c
        · rw [decide_eq_true h2] at e2
          have HN : Hid (At o c most s (d - 1) f (k + 1) acc) := at_next hfk hlt HA.out fun m cur r _ => by rw [argsP, if_neg h1, if_pos h2]
          have hmax : max (((d : Nat) : Int) - 1) 0 = ((d - 1 : Nat) : Int) := by omega
          have HO := Lib.hid hown
          clear h1 h2 e3 hown
          generalize s[k] = x at *
          go_wp2_with fail
          go_roundw
          case rel => exact ⟨d - 1, f, k + 1, acc, by omega, by omega, by omega, by omega, by first | rfl | (rw [hmax]) | go_num, rfl, by go_num, HO.out, HB.out, HN⟩
          case measure => simp [intOf]; omega
        · rw [decide_eq_false h2] at e2
          by_cases h3 : s[k] = 44 ∧ d = 0 ∧ (most = 0 ∨ acc.length + 1 < most)
          · obtain ⟨h3, rfl, h4⟩ := h3
            rw [decide_eq_true h3] at e3
            have HN : Hid (At o c most s 0 (k + 1) (k + 1) (acc ++ [midT s f k])) := at_cut hlt HA.out h1 h2 h3 h4
            have hex := mid_extract s f k
            have hfk2 : (f : Int) ≤ (k : Int) := by omega
            clear h1 h2 h3
            generalize s[k] = x at *
            rcases h4 with h4 | h4
            · have hm0 : (((most : Nat) : Int) == 0) = true := by rw [h4]; rfl
              clear h4
              go_wp2_with (at_builtin; refine wpList_append_own _ rfl _ _ 96 rfl w.heap.size 9 i0 (.string .empty) 1 16 Tryz.underlying96 hi hz0 hz1 hz2 rfl (by decide) _ _ _ rfl (hown.alloc _) ⟨wr.heap.size, 0, none⟩ 1 1 [.string (bs (midT s f k))] rfl rfl (cell_one_new _ _ _) (by simp [Value.oneCell']) (by unfold maxLen; omega) (by omega) (by have := HB.out.size; simp; omega) ?_; intro v' wA hown' hgrow _; have HOA := Lib.hid hown'; have HGA := Lib.hid (below_append HB.out HB.out.size hown hgrow); clear hown' hgrow)
              have HOB : Hid (wA.ownsRow w.heap.size 9 1 v' (acc ++ [midT s f k]).length (vals (acc ++ [midT s f k]))) := by
                rw [List.length_append, List.length_singleton, vals_snoc]; exact HOA.out
              go_roundw
              case rel => exact ⟨0, k + 1, k + 1, acc ++ [midT s f k], by omega, by omega, by omega, by rw [List.length_append, List.length_singleton]; omega, rfl, by go_num, by go_num, HOB.out, HGA.out, HN⟩
              case measure => simp [intOf]; omega
            · have hm0 : (((most : Nat) : Int) == 0) = false := by rw [beq_eq_false_iff_ne]; omega
              have hm1 : ((acc.length : Nat) : Int) + 1 < (most : Int) := by omega
              go_wp2_with (at_builtin; refine wpList_append_own _ rfl _ _ 96 rfl w.heap.size 9 i0 (.string .empty) 1 16 Tryz.underlying96 hi hz0 hz1 hz2 rfl (by decide) _ _ _ rfl (hown.alloc _) ⟨wr.heap.size, 0, none⟩ 1 1 [.string (bs (midT s f k))] rfl rfl (cell_one_new _ _ _) (by simp [Value.oneCell']) (by unfold maxLen; omega) (by omega) (by have := HB.out.size; simp; omega) ?_; intro v' wA hown' hgrow _; have HOA := Lib.hid hown'; have HGA := Lib.hid (below_append HB.out HB.out.size hown hgrow); clear hown' hgrow)
              have HOB : Hid (wA.ownsRow w.heap.size 9 1 v' (acc ++ [midT s f k]).length (vals (acc ++ [midT s f k]))) := by
                rw [List.length_append, List.length_singleton, vals_snoc]; exact HOA.out
              go_roundw
              case rel => exact ⟨0, k + 1, k + 1, acc ++ [midT s f k], by omega, by omega, by omega, by rw [List.length_append, List.length_singleton]; omega, rfl, by go_num, by go_num, HOB.out, HGA.out, HN⟩
              case measure => simp [intOf]; omega
          · have HN : Hid (At o c most s d f (k + 1) acc) := at_next hfk hlt HA.out fun m cur r hmo => by
              rw [argsP, if_neg h1, if_neg h2, if_neg]
              rintro ⟨g1, g2, g3⟩
              refine h3 ⟨g1, g2, ?_⟩
              rw [hmo] at g3
              unfold more at g3
              by_cases hm0 : most = 0
              · exact .inl hm0
              · rw [if_neg hm0] at g3
                right
                have : most - 1 - acc.length ≠ 0 := fun e => g3 (by rw [e])
                omega
            have HO := Lib.hid hown
            clear hown
            by_cases g1 : s[k] = 44
            · rw [decide_eq_true g1] at e3
              by_cases g2 : d = 0
              · have g3 : ¬ most = 0 := fun e => h3 ⟨g1, g2, .inl e⟩
                have g4 : ¬ acc.length + 1 < most := fun e => h3 ⟨g1, g2, .inr e⟩
                subst g2
                have hm0 : (((most : Nat) : Int) == 0) = false := by rw [beq_eq_false_iff_ne]; omega
                have hm1 : ¬ ((acc.length : Nat) : Int) + 1 < (most : Int) := by omega
                clear h1 h2 h3 g1
                generalize s[k] = x at *
                go_wp2_with fail
                go_roundw
                case rel => exact ⟨0, f, k + 1, acc, by omega, by omega, by omega, by omega, rfl, rfl, by go_num, HO.out, HB.out, HN⟩
                case measure => simp [intOf]; omega
              · have hd0 : (((d : Nat) : Int) == 0) = false := by rw [beq_eq_false_iff_ne]; omega
                clear h1 h2 h3 g1
                generalize s[k] = x at *
                go_wp2_with fail
                go_roundw
                case rel => exact ⟨d, f, k + 1, acc, by omega, by omega, by omega, by omega, rfl, rfl, by go_num, HO.out, HB.out, HN⟩
                case measure => simp [intOf]; omega
            · rw [decide_eq_false g1] at e3
              clear h1 h2 h3 g1
              generalize s[k] = x at *
              go_wp2_with fail
              go_roundw
              case rel => exact ⟨d, f, k + 1, acc, by omega, by omega, by omega, by omega, rfl, rfl, by go_num, HO.out, HB.out, HN⟩
              case measure => simp [intOf]; omega
    · have HE := Lib.hid (at_end (by omega) HA.out)
      have hex := drop_extract s f
      rw [hsz] at hex
      have hfs : (f : Int) ≤ (s.length : Int) := by omega
      go_wp2_with (at_builtin; refine wpList_append_own _ rfl _ _ 96 rfl w.heap.size 9 i0 (.string .empty) 1 16 Tryz.underlying96 hi hz0 hz1 hz2 rfl (by decide) _ _ _ rfl (hown.alloc _) ⟨wr.heap.size, 0, none⟩ 1 1 [.string (bs (s.drop f))] rfl rfl (cell_one_new _ _ _) (by simp [Value.oneCell']) (by unfold maxLen; omega) (by omega) (by have := HB.out.size; simp; omega) ?_; intro v' wA hown' hgrow _; have HOA := Lib.hid hown'; have HGA := Lib.hid (below_append HB.out HB.out.size hown hgrow); clear hown' hgrow)
      go_ret
      rw [HE.out]
      refine ⟨_, rfl, ?_, HGA.out⟩
      rw [List.length_append, List.length_singleton, vals_snoc]; exact HOA.out

end Go.Proofs.YtmcdefkpkpaceaaGreatDoor.Qargs

/- The document's Blank and Split. -/
namespace Go.Proofs.YtmcdefkpkpaceaaGreatDoor.Frs
open Go.RowKit Go.Proofs.YtmcdefkpkpaceaaGreatDoor.Pure Go.Proofs.YtmcdefkpkpaceaaGreatDoor.Strs

theorem u8_eq (c d : UInt8) : (((c.toNat : Nat) : Int) == ((d.toNat : Nat) : Int)) = (c == d) := by
  rw [Bool.eq_iff_iff, beq_iff_eq, beq_iff_eq, ← UInt8.toNat_inj]; omega

theorem isBl_mk {c : UInt8} {b : Bool} (h : isBl c = b) : (((c.toNat : Nat) : Int) == 32 || (((c.toNat : Nat) : Int) == 9 || ((c.toNat : Nat) : Int) == 10)) = b := by
  rw [← h, isBl]
  have e1 := u8_eq c 32
  have e2 := u8_eq c 9
  have e3 := u8_eq c 10
  have f1 : (((32 : UInt8).toNat : Nat) : Int) = 32 := rfl
  have f2 : (((9 : UInt8).toNat : Nat) : Int) = 9 := rfl
  have f3 : (((10 : UInt8).toNat : Nat) : Int) = 10 := rfl
  rw [f1] at e1; rw [f2] at e2; rw [f3] at e3
  rw [e1, e2, e3, Bool.or_assoc]

set_option maxHeartbeats 400000 in
/-- the document's Blank, by its number's value -/
theorem refBlank_num (n : Int) (b : Bool) (w : World) (hm : (n == 32 || (n == 9 || n == 10)) = b) : Calls Tryz.prog 57 #[.int .u8 n] w fun e w' => e = .returned (.bool b) ∧ w = w' := by
  by_cases h1 : n = 32
  · subst h1
    have : b = true := by simpa using hm.symm
    subst this
    clear hm
    go_enter Tryz.func57, Tryz.ntmps57
    go_wp2
    go_ret
    exact ⟨rfl, rfl⟩
  · by_cases h2 : n = 9
    · subst h2
      have : b = true := by simpa using hm.symm
      subst this
      clear hm h1
      go_enter Tryz.func57, Tryz.ntmps57
      go_wp2
      go_ret
      exact ⟨rfl, rfl⟩
    · have h1' : (n == 32) = false := by simpa using h1
      have h2' : (n == 9) = false := by simpa using h2
      rw [h1', h2', Bool.false_or, Bool.false_or] at hm
      subst hm
      clear h1 h2
      go_enter Tryz.func57, Tryz.ntmps57
      go_wp2
      go_ret
      exact ⟨rfl, rfl⟩

set_option maxHeartbeats 2000000 in
/-- the document's Split -/
theorem refSplit_any (s : ByteArray) (w : World) (hs : s.size ≤ 1099511627776) :
    Calls Tryz.prog 71 #[.string s] w fun e W' => ∃ v, e = .returned v ∧ W'.ownsRow w.heap.size 9 1 v (wordsB s).length ((wordsB s).map Value.string) ∧ Below w.heap.size w W' := by
  obtain ⟨i0, hi, hz0, hz1, hz2⟩ := info_parts infoString
  go_enter Tryz.func71, Tryz.ntmps71
  go_wp2
  go_loopw [3, 4, 5] (fun v fr i wr => ∃ (k f : Nat) (acc : List ByteArray), k ≤ s.size + 1 ∧ f ≤ k ∧ acc.length ≤ k ∧ i = .int .i64 k ∧ fr = .int .i64 f ∧ wr.ownsRow w.heap.size 9 1 v acc.length (acc.map Value.string) ∧ Below w.heap.size w wr ∧ Hid (Inv s k f acc))
    (fun _ _ i _ => s.size + 1 - (intOf i).toNat)
  case atStart => exact ⟨0, 0, [], Nat.zero_le _, Nat.le_refl _, Nat.le_refl _, rfl, rfl, World.ownsRow_nil _ _ _ _, Below.refl _ _, inv_start s⟩
  case round =>
    obtain ⟨k, f, acc, hk, hf, ha, rfl, rfl, hown, hB, hinv⟩ := hrel
    have hBs := hB.size
    by_cases hle : k ≤ s.size
    · by_cases ho : ∃ h : k < s.size, isBl s[k] = false
      · obtain ⟨hlt, hb⟩ := ho
        have HS := Lib.hid (inv_other hf hlt hb hinv.out)
        have HO := Lib.hid hown
        have HB := Lib.hid hB
        clear hown hB hinv
        go_wp2_with (go_at_call 57; refine (refBlank_num _ false _ (isBl_mk hb)).mono ?_; rintro e w' ⟨rfl, rfl⟩)
        go_roundw
        case rel => exact ⟨k + 1, f, acc, by omega, by omega, by omega, by go_num, rfl, HO.out, HB.out, HS⟩
        case measure => simp [intOf]; omega
      · have hb : ∀ h : k < s.size, isBl s[k] = true := fun h => by
          cases hh : isBl s[k] with
          | true => rfl
          | false => exact absurd ⟨h, hh⟩ ho
        clear ho
        by_cases hfk : f < k
        · have HS := Lib.hid (inv_cut hfk hle hb hinv.out)
          have HB := Lib.hid hB
          clear hB hinv
          by_cases hlt : k < s.size
          · have hb' := isBl_mk (hb hlt)
            clear hb
            go_wp2_with (first | (go_at_call 57; refine (refBlank_num _ true _ hb').mono ?_; rintro e w' ⟨rfl, rfl⟩) | (at_builtin; refine wpList_append_own _ rfl _ _ 96 rfl w.heap.size 9 i0 (.string .empty) 1 16 Tryz.underlying96 hi hz0 hz1 hz2 rfl (by decide) _ _ _ rfl (hown.alloc _) ⟨wr.heap.size, 0, none⟩ 1 1 [.string (s.extract f k)] rfl rfl (cell_one_new _ _ _) (by simp [Value.oneCell']) (by unfold maxLen; omega) (by omega) (by simp; omega) ?_; intro v' w1 hown' hgrow _; have HO := Lib.hid hown'; have HG := Lib.hid (below_append HB.out hBs hown hgrow); clear hown' hgrow))
            go_roundw
            case rel => exact ⟨k + 1, k + 1, acc ++ [s.extract f k], by omega, by omega, by simp; omega, by go_num, by go_num, by simpa using HO.out, HG.out, HS⟩
            case measure => simp [intOf]; omega
          · clear hb
            go_wp2_with (first | (at_builtin; refine wpList_append_own _ rfl _ _ 96 rfl w.heap.size 9 i0 (.string .empty) 1 16 Tryz.underlying96 hi hz0 hz1 hz2 rfl (by decide) _ _ _ rfl (hown.alloc _) ⟨wr.heap.size, 0, none⟩ 1 1 [.string (s.extract f k)] rfl rfl (cell_one_new _ _ _) (by simp [Value.oneCell']) (by unfold maxLen; omega) (by omega) (by simp; omega) ?_; intro v' w1 hown' hgrow _; have HO := Lib.hid hown'; have HG := Lib.hid (below_append HB.out hBs hown hgrow); clear hown' hgrow))
            go_roundw
            case rel => exact ⟨k + 1, k + 1, acc ++ [s.extract f k], by omega, by omega, by simp; omega, by go_num, by go_num, by simpa using HO.out, HG.out, HS⟩
            case measure => simp [intOf]; omega
        · obtain rfl : f = k := by omega
          have HS := Lib.hid (inv_skip hle hb hinv.out)
          have HO := Lib.hid hown
          have HB := Lib.hid hB
          clear hown hB hinv
          by_cases hlt : f < s.size
          · have hb' := isBl_mk (hb hlt)
            clear hb
            go_wp2_with (go_at_call 57; refine (refBlank_num _ true _ hb').mono ?_; rintro e w' ⟨rfl, rfl⟩)
            go_roundw
            case rel => exact ⟨f + 1, f + 1, acc, by omega, by omega, by omega, by go_num, by go_num, HO.out, HB.out, HS⟩
            case measure => simp [intOf]; omega
          · clear hb
            go_wp2
            go_roundw
            case rel => exact ⟨f + 1, f + 1, acc, by omega, by omega, by omega, by go_num, by go_num, HO.out, HB.out, HS⟩
            case measure => simp [intOf]; omega
    · have HS := Lib.hid (hinv.out.2 (by omega))
      have HO := Lib.hid hown
      have HB := Lib.hid hB
      clear hown hB hinv
      go_wp2
      go_ret
      exact ⟨_, rfl, by rw [← HS.out]; exact HO.out, HB.out⟩
theorem refSplit_is (s : ByteArray) (w : World) (hs : s.size ≤ 1099511627776) :
    Calls Tryz.prog 71 #[.string s] w fun e W' => ∃ A c, e = .returned (.slice A (wordsB s).length c) ∧ SlIs W' A c (wordsB s) ∧ Below w.heap.size w W' :=
  (refSplit_any s w hs).mono fun e W' ⟨v, he, hr, hb⟩ => by
    obtain ⟨A, c, rfl, h⟩ := slIs_of_own rfl hr
    exact ⟨A, c, he, h, hb⟩


end Go.Proofs.YtmcdefkpkpaceaaGreatDoor.Frs

/- The document's in and Find of functions. -/
namespace Go.Proofs.YtmcdefkpkpaceaaGreatDoor.Frd
open Go Go.RowKit Go.Proofs.YtmcdefkpkpaceaaGreatDoor.Strs Go.Proofs.YtmcdefkpkpaceaaGreatDoor.Srt Go.Proofs.YtmcdefkpkpaceaaGreatDoor.Fpl Go.Proofs.YtmcdefkpkpaceaaGreatDoor.Frs
open Go.Proofs.YtmcdefkpkpaceaaGreatDoor.Pure (bs words wordsB)

theorem alloc_below (w : World) (o : Obj) : Below w.heap.size w (w.alloc o) := (Below.refl _ _).alloc (Nat.le_refl _) _
theorem beq_is (x y : ByteArray) : (x.toList == y.toList) = decide (x = y) := by
  rw [Bool.eq_iff_iff, beq_iff_eq, decide_eq_true_iff, Lib.toList_data, Lib.toList_data]
  exact ⟨fun h => Pure.ext_data h, fun h => by rw [h]⟩
theorem beq_lit (x : ByteArray) (l : List UInt8) : (x.toList == l) = decide (x.data.toList = l) := by
  rw [Bool.eq_iff_iff, beq_iff_eq, decide_eq_true_iff, Lib.toList_data]

set_option maxRecDepth 100000 in
set_option maxHeartbeats 1000000 in
/-- the document's in -/
theorem in_is (s all : ByteArray) (l : List T) (w : World) (hw : words all.data.toList = l) (hz : all.size ≤ 1000000) (hl : l.length ≤ 1000000) :
    Calls Tryz.prog 58 #[.string s, .string all] w fun e W' => e = .returned (.bool (decide (s.data.toList ∈ l))) ∧ Below w.heap.size w W' := by
  have hB : wordsB all = l.map bs := by unfold wordsB; rw [hw]
  have HS := Lib.hid (refSplit_is all w (by omega))
  rw [hB] at HS
  have hlen : ∃ n, n = (l.map bs).length ∧ n ≤ 1000001 := ⟨_, rfl, by
    rw [List.length_map]; omega⟩
  obtain ⟨n, hn, hn2⟩ := hlen
  rw [← hn] at HS
  have HN := Lib.hid hn
  clear hB hw hn hz hl
  go_enter Tryz.func58, Tryz.ntmps58
  go_wp2_with fail
  refine HS.out.mono ?_
  rintro e W1 ⟨A, c, rfl, hsl, hb1⟩
  have HL := Lib.hid hsl
  have HB := Lib.hid hb1
  clear hsl hb1 HS
  go_wp2_with fail
  go_loop [6] (fun i => ∃ k : Nat, k ≤ n ∧ i = .int .i64 k ∧ Hid (s.data.toList ∉ l.take k)) (fun i => n - (intOf i).toNat)
  case atStart => exact ⟨0, Nat.zero_le _, rfl, by show _ ∉ _; simp⟩
  case round =>
    obtain ⟨k, hk, rfl, HNo⟩ := hrel
    by_cases hlt : k < n
    · have hl : k < l.length := by have := HN.out; rw [List.length_map] at this; omega
      have hx : (l.map bs)[k]? = some (bs l[k]) := by rw [List.getElem?_map, List.getElem?_eq_getElem hl]; rfl
      obtain ⟨b, o, rfl, hbl, hcs⟩ := HL.out.at_ hx
      have c1 := hcs W1 (Below.refl _ _)
      have heq := beq_is (bs l[k]) s
      by_cases he : bs l[k] = s
      · rw [decide_eq_true he] at heq
        have HR : Hid (decide (s.data.toList ∈ l) = true) := by
          show _ = _
          rw [decide_eq_true_iff, ← he]
          exact List.getElem_mem hl
        clear hcs hx hbl he HNo
        generalize l[k] = x at *
        go_wp2
        go_ret
        rw [HR.out]
        exact ⟨rfl, HB.out⟩
      · rw [decide_eq_false he] at heq
        have HNx : Hid (s.data.toList ∉ l.take (k + 1)) := by
          show _ ∉ _
          rw [List.take_succ_eq_append_getElem hl, List.mem_append, List.mem_singleton]
          rintro (h1 | h1)
          · exact HNo.out h1
          · exact he (by rw [← h1]; rfl)
        clear hcs hx hbl he HNo
        generalize l[k] = x at *
        go_wp2
        go_round
        case rel => exact ⟨k + 1, by omega, by go_num, HNx⟩
        case measure => simp [intOf]; omega
    · have HR : Hid (decide (s.data.toList ∈ l) = false) := by
        show _ = _
        have h1 := HNo.out
        rw [List.take_of_length_le (by have := HN.out; rw [List.length_map] at this; omega)] at h1
        exact decide_eq_false h1
      clear HNo
      go_wp2
      go_ret
      rw [HR.out]
      exact ⟨rfl, HB.out⟩

def lOne : List T := [[115, 116, 114, 105, 112], [115, 111, 114, 116], [119, 111, 114, 100, 115], [102, 105, 114, 115, 116, 119, 111, 114, 100], [108, 97, 115, 116, 119, 111, 114, 100], [100, 105, 114], [110, 111, 116, 100, 105, 114], [115, 117, 102, 102, 105, 120], [98, 97, 115, 101, 110, 97, 109, 101], [97, 98, 115, 112, 97, 116, 104], [119, 105, 108, 100, 99, 97, 114, 100]]
def lTwo : List T := [[102, 105, 110, 100, 115, 116, 114, 105, 110, 103], [102, 105, 108, 116, 101, 114], [102, 105, 108, 116, 101, 114, 45, 111, 117, 116], [119, 111, 114, 100], [97, 100, 100, 115, 117, 102, 102, 105, 120], [97, 100, 100, 112, 114, 101, 102, 105, 120], [106, 111, 105, 110]]
def lThree : List T := [[115, 117, 98, 115, 116], [112, 97, 116, 115, 117, 98, 115, 116], [119, 111, 114, 100, 108, 105, 115, 116]]
def lAny : List T := [[111, 114], [97, 110, 100]]
def lLazy : List T := [[102, 111, 114, 101, 97, 99, 104], [108, 101, 116]]
def lRest : List T := [[101, 118, 97, 108], [118, 97, 108, 117, 101], [111, 114, 105, 103, 105, 110], [102, 108, 97, 118, 111, 114], [101, 114, 114, 111, 114], [119, 97, 114, 110, 105, 110, 103], [105, 110, 102, 111]]
/-- what the document's Find says -/
def refI (x : T) : Option Inf :=
  if x = [] then none
  else if x ∈ lOne then some ⟨1, 1, false, true⟩
  else if x ∈ lTwo then some ⟨2, 2, false, true⟩
  else if x ∈ lThree then some ⟨3, 3, false, true⟩
  else if x = [105, 102] then some ⟨2, 3, true, false⟩
  else if x ∈ lAny then some ⟨1, 0, true, false⟩
  else if x = [105, 110, 116, 99, 109, 112] then some ⟨2, 5, true, false⟩
  else if x ∈ lLazy then some ⟨3, 3, true, false⟩
  else if x = [99, 97, 108, 108] then some ⟨1, 0, false, false⟩
  else if x ∈ lRest then some ⟨1, 1, false, false⟩
  else none
theorem refI_eq (x : T) : refI x = lookI tab x := by
  by_cases h : x ∈ names
  · have h1 : (names.all fun x => decide (refI x = lookI tab x)) = true := by kernel_rfl
    exact of_decide_eq_true (List.all_eq_true.1 h1 x h)
  · have h0 : lookI tab x = none := by
      rw [look_none, ← names_tab]; exact h
    have hs : ∀ l : List T, sub l names = true → x ∉ l := fun l hl hx => h (sub_mem hl hx)
    have he : ∀ y : T, sub [y] names = true → ¬ x = y := fun y hy e => hs [y] hy (by rw [e]; exact List.mem_singleton_self _)
    rw [h0]
    unfold refI
    split
    · rfl
    · rw [if_neg (hs lOne (by kernel_rfl)), if_neg (hs lTwo (by kernel_rfl)), if_neg (hs lThree (by kernel_rfl)), if_neg (he [105, 102] (by kernel_rfl)), if_neg (hs lAny (by kernel_rfl)), if_neg (he [105, 110, 116, 99, 109, 112] (by kernel_rfl)), if_neg (hs lLazy (by kernel_rfl)), if_neg (he [99, 97, 108, 108] (by kernel_rfl)), if_neg (hs lRest (by kernel_rfl))]

def infV (i : Inf) : Value := .agg #[.int .i64 i.mn, .int .i64 i.mx, .bool i.lz, .bool i.pu]
def refV (x : ByteArray) : Value := .tuple #[infV ((refI x.data.toList).getD zero), .bool (refI x.data.toList).isSome]
/-- the answer's cells, empty as yet -/
structure Box (w W : World) : Prop where
  below : Below w.heap.size w W
  cell : W.heap[w.heap.size]? = some (.cells #[.int .i64 0, .int .i64 0, .bool false, .bool false] 93 (0, 0))
theorem box_new (w : World) : Box w (w.alloc (.cells #[.int .i64 0, .int .i64 0, .bool false, .bool false] 93)) :=
  ⟨alloc_below _ _, heap_alloc_new w _⟩
theorem Box.lt {w W : World} (h : Box w W) : w.heap.size < W.heap.size := (Array.getElem?_eq_some_iff.1 h.cell).1
theorem Box.on {w W W' : World} (h : Box w W) (hb : Below W.heap.size W W') : Box w W' :=
  ⟨h.below.trans (hb.mono h.below.size), (hb.block _ h.lt).trans h.cell⟩

set_option maxRecDepth 100000 in
set_option maxHeartbeats 8000000 in
/-- the document's Find -/
theorem refFind_is (s : ByteArray) (w : World) :
    Calls Tryz.prog 38 #[.string s] w fun e W' => e = .returned (refV s) ∧ Below w.heap.size w W' := by
  have HX0 := Lib.hid (box_new w)
  have e0 := beq_lit s []
  have eif := beq_lit s [105, 102]
  have eintcmp := beq_lit s [105, 110, 116, 99, 109, 112]
  have ecall := beq_lit s [99, 97, 108, 108]
  obtain ⟨W0, hW0⟩ : ∃ W0, W0 = w.alloc (.cells #[.int .i64 0, .int .i64 0, .bool false, .bool false] 93) := ⟨_, rfl⟩
  rw [← hW0] at HX0
  have HW0 := Lib.hid hW0
  clear hW0
  go_enter Tryz.func38, Tryz.ntmps38
  go_upto_region 1 with fail
  rw [← HW0.out]
  clear HW0
  by_cases g0 : s.data.toList = []
  · rw [decide_eq_true g0] at e0
    have HV : Hid (refV s = .tuple #[.agg #[.int .i64 0, .int .i64 0, .bool false, .bool false], .bool false]) := by
      show _ = _
      unfold refV refI
      rw [if_pos g0]; rfl
    have hg := HX0.out.cell
    have HB := Lib.hid HX0.out.below
    have k0 : W0.cell? ⟨w.heap.size, 0, none⟩ = some (.int .i64 0) := by rw [Lib.cell_of_heap hg]; rfl
    have f0 : W0.frozen? ⟨w.heap.size, 0, none⟩ = false := Lib.frozen_of_heap hg 0
    have k1 : W0.cell? ⟨w.heap.size, 1, none⟩ = some (.int .i64 0) := by rw [Lib.cell_of_heap hg]; rfl
    have f1 : W0.frozen? ⟨w.heap.size, 1, none⟩ = false := Lib.frozen_of_heap hg 1
    have k2 : W0.cell? ⟨w.heap.size, 2, none⟩ = some (.bool false) := by rw [Lib.cell_of_heap hg]; rfl
    have f2 : W0.frozen? ⟨w.heap.size, 2, none⟩ = false := Lib.frozen_of_heap hg 2
    have k3 : W0.cell? ⟨w.heap.size, 3, none⟩ = some (.bool false) := by rw [Lib.cell_of_heap hg]; rfl
    have f3 : W0.frozen? ⟨w.heap.size, 3, none⟩ = false := Lib.frozen_of_heap hg 3
    clear hg
    go_wp2
    exact bodyPost_ret (v := .tuple #[.agg #[.int .i64 0, .int .i64 0, .bool false, .bool false], .bool false]) (by simp [results, Tryz.results38, go_sem, k0, k1, k2, k3]) rfl
      ⟨by rw [HV.out], (((HB.out.setCell (p := ⟨_, _, none⟩) (Nat.le_refl _) _).setCell (p := ⟨_, _, none⟩) (Nat.le_refl _) _).setCell (p := ⟨_, _, none⟩) (Nat.le_refl _) _).setCell (p := ⟨_, _, none⟩) (Nat.le_refl _) _⟩
  rw [decide_eq_false g0] at e0
  go_wp2_with fail
  refine (in_is s _ lOne _ (by kernel_rfl) (by decide) (by decide)).mono ?_
  rintro e W1 ⟨rfl, hb⟩
  have HX1 := Lib.hid (HX0.out.on hb)
  clear hb HX0
  by_cases g1 : s.data.toList ∈ lOne
  · rw [decide_eq_true g1]
    have HV : Hid (refV s = .tuple #[.agg #[.int .i64 1, .int .i64 1, .bool false, .bool true], .bool true]) := by
      show _ = _
      unfold refV refI
      rw [if_neg g0, if_pos g1]; rfl
    have hg := HX1.out.cell
    have HB := Lib.hid HX1.out.below
    have k0 : W1.cell? ⟨w.heap.size, 0, none⟩ = some (.int .i64 0) := by rw [Lib.cell_of_heap hg]; rfl
    have f0 : W1.frozen? ⟨w.heap.size, 0, none⟩ = false := Lib.frozen_of_heap hg 0
    have k1 : W1.cell? ⟨w.heap.size, 1, none⟩ = some (.int .i64 0) := by rw [Lib.cell_of_heap hg]; rfl
    have f1 : W1.frozen? ⟨w.heap.size, 1, none⟩ = false := Lib.frozen_of_heap hg 1
    have k2 : W1.cell? ⟨w.heap.size, 2, none⟩ = some (.bool false) := by rw [Lib.cell_of_heap hg]; rfl
    have f2 : W1.frozen? ⟨w.heap.size, 2, none⟩ = false := Lib.frozen_of_heap hg 2
    have k3 : W1.cell? ⟨w.heap.size, 3, none⟩ = some (.bool false) := by rw [Lib.cell_of_heap hg]; rfl
    have f3 : W1.frozen? ⟨w.heap.size, 3, none⟩ = false := Lib.frozen_of_heap hg 3
    clear hg
    go_wp2
    exact bodyPost_ret (v := .tuple #[.agg #[.int .i64 1, .int .i64 1, .bool false, .bool true], .bool true]) (by simp [results, Tryz.results38, go_sem, k0, k1, k2, k3]) rfl
      ⟨by rw [HV.out], (((HB.out.setCell (p := ⟨_, _, none⟩) (Nat.le_refl _) _).setCell (p := ⟨_, _, none⟩) (Nat.le_refl _) _).setCell (p := ⟨_, _, none⟩) (Nat.le_refl _) _).setCell (p := ⟨_, _, none⟩) (Nat.le_refl _) _⟩
  rw [decide_eq_false g1]
  go_wp2_with fail
  refine (in_is s _ lTwo _ (by kernel_rfl) (by decide) (by decide)).mono ?_
  rintro e W2 ⟨rfl, hb⟩
  have HX2 := Lib.hid (HX1.out.on hb)
  clear hb HX1
  by_cases g2 : s.data.toList ∈ lTwo
  · rw [decide_eq_true g2]
    have HV : Hid (refV s = .tuple #[.agg #[.int .i64 2, .int .i64 2, .bool false, .bool true], .bool true]) := by
      show _ = _
      unfold refV refI
      rw [if_neg g0, if_neg g1, if_pos g2]; rfl
    have hg := HX2.out.cell
    have HB := Lib.hid HX2.out.below
    have k0 : W2.cell? ⟨w.heap.size, 0, none⟩ = some (.int .i64 0) := by rw [Lib.cell_of_heap hg]; rfl
    have f0 : W2.frozen? ⟨w.heap.size, 0, none⟩ = false := Lib.frozen_of_heap hg 0
    have k1 : W2.cell? ⟨w.heap.size, 1, none⟩ = some (.int .i64 0) := by rw [Lib.cell_of_heap hg]; rfl
    have f1 : W2.frozen? ⟨w.heap.size, 1, none⟩ = false := Lib.frozen_of_heap hg 1
    have k2 : W2.cell? ⟨w.heap.size, 2, none⟩ = some (.bool false) := by rw [Lib.cell_of_heap hg]; rfl
    have f2 : W2.frozen? ⟨w.heap.size, 2, none⟩ = false := Lib.frozen_of_heap hg 2
    have k3 : W2.cell? ⟨w.heap.size, 3, none⟩ = some (.bool false) := by rw [Lib.cell_of_heap hg]; rfl
    have f3 : W2.frozen? ⟨w.heap.size, 3, none⟩ = false := Lib.frozen_of_heap hg 3
    clear hg
    go_wp2
    exact bodyPost_ret (v := .tuple #[.agg #[.int .i64 2, .int .i64 2, .bool false, .bool true], .bool true]) (by simp [results, Tryz.results38, go_sem, k0, k1, k2, k3]) rfl
      ⟨by rw [HV.out], (((HB.out.setCell (p := ⟨_, _, none⟩) (Nat.le_refl _) _).setCell (p := ⟨_, _, none⟩) (Nat.le_refl _) _).setCell (p := ⟨_, _, none⟩) (Nat.le_refl _) _).setCell (p := ⟨_, _, none⟩) (Nat.le_refl _) _⟩
  rw [decide_eq_false g2]
  go_wp2_with fail
  refine (in_is s _ lThree _ (by kernel_rfl) (by decide) (by decide)).mono ?_
  rintro e W3 ⟨rfl, hb⟩
  have HX3 := Lib.hid (HX2.out.on hb)
  clear hb HX2
  by_cases g3 : s.data.toList ∈ lThree
  · rw [decide_eq_true g3]
    have HV : Hid (refV s = .tuple #[.agg #[.int .i64 3, .int .i64 3, .bool false, .bool true], .bool true]) := by
      show _ = _
      unfold refV refI
      rw [if_neg g0, if_neg g1, if_neg g2, if_pos g3]; rfl
    have hg := HX3.out.cell
    have HB := Lib.hid HX3.out.below
    have k0 : W3.cell? ⟨w.heap.size, 0, none⟩ = some (.int .i64 0) := by rw [Lib.cell_of_heap hg]; rfl
    have f0 : W3.frozen? ⟨w.heap.size, 0, none⟩ = false := Lib.frozen_of_heap hg 0
    have k1 : W3.cell? ⟨w.heap.size, 1, none⟩ = some (.int .i64 0) := by rw [Lib.cell_of_heap hg]; rfl
    have f1 : W3.frozen? ⟨w.heap.size, 1, none⟩ = false := Lib.frozen_of_heap hg 1
    have k2 : W3.cell? ⟨w.heap.size, 2, none⟩ = some (.bool false) := by rw [Lib.cell_of_heap hg]; rfl
    have f2 : W3.frozen? ⟨w.heap.size, 2, none⟩ = false := Lib.frozen_of_heap hg 2
    have k3 : W3.cell? ⟨w.heap.size, 3, none⟩ = some (.bool false) := by rw [Lib.cell_of_heap hg]; rfl
    have f3 : W3.frozen? ⟨w.heap.size, 3, none⟩ = false := Lib.frozen_of_heap hg 3
    clear hg
    go_wp2
    exact bodyPost_ret (v := .tuple #[.agg #[.int .i64 3, .int .i64 3, .bool false, .bool true], .bool true]) (by simp [results, Tryz.results38, go_sem, k0, k1, k2, k3]) rfl
      ⟨by rw [HV.out], (((HB.out.setCell (p := ⟨_, _, none⟩) (Nat.le_refl _) _).setCell (p := ⟨_, _, none⟩) (Nat.le_refl _) _).setCell (p := ⟨_, _, none⟩) (Nat.le_refl _) _).setCell (p := ⟨_, _, none⟩) (Nat.le_refl _) _⟩
  rw [decide_eq_false g3]
  by_cases g4 : s.data.toList = [105, 102]
  · rw [decide_eq_true g4] at eif
    have HV : Hid (refV s = .tuple #[.agg #[.int .i64 2, .int .i64 3, .bool true, .bool false], .bool true]) := by
      show _ = _
      unfold refV refI
      rw [if_neg g0, if_neg g1, if_neg g2, if_neg g3, if_pos g4]; rfl
    have hg := HX3.out.cell
    have HB := Lib.hid HX3.out.below
    have k0 : W3.cell? ⟨w.heap.size, 0, none⟩ = some (.int .i64 0) := by rw [Lib.cell_of_heap hg]; rfl
    have f0 : W3.frozen? ⟨w.heap.size, 0, none⟩ = false := Lib.frozen_of_heap hg 0
    have k1 : W3.cell? ⟨w.heap.size, 1, none⟩ = some (.int .i64 0) := by rw [Lib.cell_of_heap hg]; rfl
    have f1 : W3.frozen? ⟨w.heap.size, 1, none⟩ = false := Lib.frozen_of_heap hg 1
    have k2 : W3.cell? ⟨w.heap.size, 2, none⟩ = some (.bool false) := by rw [Lib.cell_of_heap hg]; rfl
    have f2 : W3.frozen? ⟨w.heap.size, 2, none⟩ = false := Lib.frozen_of_heap hg 2
    have k3 : W3.cell? ⟨w.heap.size, 3, none⟩ = some (.bool false) := by rw [Lib.cell_of_heap hg]; rfl
    have f3 : W3.frozen? ⟨w.heap.size, 3, none⟩ = false := Lib.frozen_of_heap hg 3
    clear hg
    go_wp2
    exact bodyPost_ret (v := .tuple #[.agg #[.int .i64 2, .int .i64 3, .bool true, .bool false], .bool true]) (by simp [results, Tryz.results38, go_sem, k0, k1, k2, k3]) rfl
      ⟨by rw [HV.out], (((HB.out.setCell (p := ⟨_, _, none⟩) (Nat.le_refl _) _).setCell (p := ⟨_, _, none⟩) (Nat.le_refl _) _).setCell (p := ⟨_, _, none⟩) (Nat.le_refl _) _).setCell (p := ⟨_, _, none⟩) (Nat.le_refl _) _⟩
  rw [decide_eq_false g4] at eif
  go_wp2_with fail
  refine (in_is s _ lAny _ (by kernel_rfl) (by decide) (by decide)).mono ?_
  rintro e W5 ⟨rfl, hb⟩
  have HX5 := Lib.hid (HX3.out.on hb)
  clear hb HX3
  by_cases g5 : s.data.toList ∈ lAny
  · rw [decide_eq_true g5]
    have HV : Hid (refV s = .tuple #[.agg #[.int .i64 1, .int .i64 0, .bool true, .bool false], .bool true]) := by
      show _ = _
      unfold refV refI
      rw [if_neg g0, if_neg g1, if_neg g2, if_neg g3, if_neg g4, if_pos g5]; rfl
    have hg := HX5.out.cell
    have HB := Lib.hid HX5.out.below
    have k0 : W5.cell? ⟨w.heap.size, 0, none⟩ = some (.int .i64 0) := by rw [Lib.cell_of_heap hg]; rfl
    have f0 : W5.frozen? ⟨w.heap.size, 0, none⟩ = false := Lib.frozen_of_heap hg 0
    have k1 : W5.cell? ⟨w.heap.size, 1, none⟩ = some (.int .i64 0) := by rw [Lib.cell_of_heap hg]; rfl
    have f1 : W5.frozen? ⟨w.heap.size, 1, none⟩ = false := Lib.frozen_of_heap hg 1
    have k2 : W5.cell? ⟨w.heap.size, 2, none⟩ = some (.bool false) := by rw [Lib.cell_of_heap hg]; rfl
    have f2 : W5.frozen? ⟨w.heap.size, 2, none⟩ = false := Lib.frozen_of_heap hg 2
    have k3 : W5.cell? ⟨w.heap.size, 3, none⟩ = some (.bool false) := by rw [Lib.cell_of_heap hg]; rfl
    have f3 : W5.frozen? ⟨w.heap.size, 3, none⟩ = false := Lib.frozen_of_heap hg 3
    clear hg
    go_wp2
    exact bodyPost_ret (v := .tuple #[.agg #[.int .i64 1, .int .i64 0, .bool true, .bool false], .bool true]) (by simp [results, Tryz.results38, go_sem, k0, k1, k2, k3]) rfl
      ⟨by rw [HV.out], (((HB.out.setCell (p := ⟨_, _, none⟩) (Nat.le_refl _) _).setCell (p := ⟨_, _, none⟩) (Nat.le_refl _) _).setCell (p := ⟨_, _, none⟩) (Nat.le_refl _) _).setCell (p := ⟨_, _, none⟩) (Nat.le_refl _) _⟩
  rw [decide_eq_false g5]
  by_cases g6 : s.data.toList = [105, 110, 116, 99, 109, 112]
  · rw [decide_eq_true g6] at eintcmp
    have HV : Hid (refV s = .tuple #[.agg #[.int .i64 2, .int .i64 5, .bool true, .bool false], .bool true]) := by
      show _ = _
      unfold refV refI
      rw [if_neg g0, if_neg g1, if_neg g2, if_neg g3, if_neg g4, if_neg g5, if_pos g6]; rfl
    have hg := HX5.out.cell
    have HB := Lib.hid HX5.out.below
    have k0 : W5.cell? ⟨w.heap.size, 0, none⟩ = some (.int .i64 0) := by rw [Lib.cell_of_heap hg]; rfl
    have f0 : W5.frozen? ⟨w.heap.size, 0, none⟩ = false := Lib.frozen_of_heap hg 0
    have k1 : W5.cell? ⟨w.heap.size, 1, none⟩ = some (.int .i64 0) := by rw [Lib.cell_of_heap hg]; rfl
    have f1 : W5.frozen? ⟨w.heap.size, 1, none⟩ = false := Lib.frozen_of_heap hg 1
    have k2 : W5.cell? ⟨w.heap.size, 2, none⟩ = some (.bool false) := by rw [Lib.cell_of_heap hg]; rfl
    have f2 : W5.frozen? ⟨w.heap.size, 2, none⟩ = false := Lib.frozen_of_heap hg 2
    have k3 : W5.cell? ⟨w.heap.size, 3, none⟩ = some (.bool false) := by rw [Lib.cell_of_heap hg]; rfl
    have f3 : W5.frozen? ⟨w.heap.size, 3, none⟩ = false := Lib.frozen_of_heap hg 3
    clear hg
    go_wp2
    exact bodyPost_ret (v := .tuple #[.agg #[.int .i64 2, .int .i64 5, .bool true, .bool false], .bool true]) (by simp [results, Tryz.results38, go_sem, k0, k1, k2, k3]) rfl
      ⟨by rw [HV.out], (((HB.out.setCell (p := ⟨_, _, none⟩) (Nat.le_refl _) _).setCell (p := ⟨_, _, none⟩) (Nat.le_refl _) _).setCell (p := ⟨_, _, none⟩) (Nat.le_refl _) _).setCell (p := ⟨_, _, none⟩) (Nat.le_refl _) _⟩
  rw [decide_eq_false g6] at eintcmp
  go_wp2_with fail
  refine (in_is s _ lLazy _ (by kernel_rfl) (by decide) (by decide)).mono ?_
  rintro e W7 ⟨rfl, hb⟩
  have HX7 := Lib.hid (HX5.out.on hb)
  clear hb HX5
  by_cases g7 : s.data.toList ∈ lLazy
  · rw [decide_eq_true g7]
    have HV : Hid (refV s = .tuple #[.agg #[.int .i64 3, .int .i64 3, .bool true, .bool false], .bool true]) := by
      show _ = _
      unfold refV refI
      rw [if_neg g0, if_neg g1, if_neg g2, if_neg g3, if_neg g4, if_neg g5, if_neg g6, if_pos g7]; rfl
    have hg := HX7.out.cell
    have HB := Lib.hid HX7.out.below
    have k0 : W7.cell? ⟨w.heap.size, 0, none⟩ = some (.int .i64 0) := by rw [Lib.cell_of_heap hg]; rfl
    have f0 : W7.frozen? ⟨w.heap.size, 0, none⟩ = false := Lib.frozen_of_heap hg 0
    have k1 : W7.cell? ⟨w.heap.size, 1, none⟩ = some (.int .i64 0) := by rw [Lib.cell_of_heap hg]; rfl
    have f1 : W7.frozen? ⟨w.heap.size, 1, none⟩ = false := Lib.frozen_of_heap hg 1
    have k2 : W7.cell? ⟨w.heap.size, 2, none⟩ = some (.bool false) := by rw [Lib.cell_of_heap hg]; rfl
    have f2 : W7.frozen? ⟨w.heap.size, 2, none⟩ = false := Lib.frozen_of_heap hg 2
    have k3 : W7.cell? ⟨w.heap.size, 3, none⟩ = some (.bool false) := by rw [Lib.cell_of_heap hg]; rfl
    have f3 : W7.frozen? ⟨w.heap.size, 3, none⟩ = false := Lib.frozen_of_heap hg 3
    clear hg
    go_wp2
    exact bodyPost_ret (v := .tuple #[.agg #[.int .i64 3, .int .i64 3, .bool true, .bool false], .bool true]) (by simp [results, Tryz.results38, go_sem, k0, k1, k2, k3]) rfl
      ⟨by rw [HV.out], (((HB.out.setCell (p := ⟨_, _, none⟩) (Nat.le_refl _) _).setCell (p := ⟨_, _, none⟩) (Nat.le_refl _) _).setCell (p := ⟨_, _, none⟩) (Nat.le_refl _) _).setCell (p := ⟨_, _, none⟩) (Nat.le_refl _) _⟩
  rw [decide_eq_false g7]
  by_cases g8 : s.data.toList = [99, 97, 108, 108]
  · rw [decide_eq_true g8] at ecall
    have HV : Hid (refV s = .tuple #[.agg #[.int .i64 1, .int .i64 0, .bool false, .bool false], .bool true]) := by
      show _ = _
      unfold refV refI
      rw [if_neg g0, if_neg g1, if_neg g2, if_neg g3, if_neg g4, if_neg g5, if_neg g6, if_neg g7, if_pos g8]; rfl
    have hg := HX7.out.cell
    have HB := Lib.hid HX7.out.below
    have k0 : W7.cell? ⟨w.heap.size, 0, none⟩ = some (.int .i64 0) := by rw [Lib.cell_of_heap hg]; rfl
    have f0 : W7.frozen? ⟨w.heap.size, 0, none⟩ = false := Lib.frozen_of_heap hg 0
    have k1 : W7.cell? ⟨w.heap.size, 1, none⟩ = some (.int .i64 0) := by rw [Lib.cell_of_heap hg]; rfl
    have f1 : W7.frozen? ⟨w.heap.size, 1, none⟩ = false := Lib.frozen_of_heap hg 1
    have k2 : W7.cell? ⟨w.heap.size, 2, none⟩ = some (.bool false) := by rw [Lib.cell_of_heap hg]; rfl
    have f2 : W7.frozen? ⟨w.heap.size, 2, none⟩ = false := Lib.frozen_of_heap hg 2
    have k3 : W7.cell? ⟨w.heap.size, 3, none⟩ = some (.bool false) := by rw [Lib.cell_of_heap hg]; rfl
    have f3 : W7.frozen? ⟨w.heap.size, 3, none⟩ = false := Lib.frozen_of_heap hg 3
    clear hg
    go_wp2
    exact bodyPost_ret (v := .tuple #[.agg #[.int .i64 1, .int .i64 0, .bool false, .bool false], .bool true]) (by simp [results, Tryz.results38, go_sem, k0, k1, k2, k3]) rfl
      ⟨by rw [HV.out], (((HB.out.setCell (p := ⟨_, _, none⟩) (Nat.le_refl _) _).setCell (p := ⟨_, _, none⟩) (Nat.le_refl _) _).setCell (p := ⟨_, _, none⟩) (Nat.le_refl _) _).setCell (p := ⟨_, _, none⟩) (Nat.le_refl _) _⟩
  rw [decide_eq_false g8] at ecall
  go_wp2_with fail
  refine (in_is s _ lRest _ (by kernel_rfl) (by decide) (by decide)).mono ?_
  rintro e W9 ⟨rfl, hb⟩
  have HX9 := Lib.hid (HX7.out.on hb)
  clear hb HX7
  by_cases g9 : s.data.toList ∈ lRest
  · rw [decide_eq_true g9]
    have HV : Hid (refV s = .tuple #[.agg #[.int .i64 1, .int .i64 1, .bool false, .bool false], .bool true]) := by
      show _ = _
      unfold refV refI
      rw [if_neg g0, if_neg g1, if_neg g2, if_neg g3, if_neg g4, if_neg g5, if_neg g6, if_neg g7, if_neg g8, if_pos g9]; rfl
    have hg := HX9.out.cell
    have HB := Lib.hid HX9.out.below
    have k0 : W9.cell? ⟨w.heap.size, 0, none⟩ = some (.int .i64 0) := by rw [Lib.cell_of_heap hg]; rfl
    have f0 : W9.frozen? ⟨w.heap.size, 0, none⟩ = false := Lib.frozen_of_heap hg 0
    have k1 : W9.cell? ⟨w.heap.size, 1, none⟩ = some (.int .i64 0) := by rw [Lib.cell_of_heap hg]; rfl
    have f1 : W9.frozen? ⟨w.heap.size, 1, none⟩ = false := Lib.frozen_of_heap hg 1
    have k2 : W9.cell? ⟨w.heap.size, 2, none⟩ = some (.bool false) := by rw [Lib.cell_of_heap hg]; rfl
    have f2 : W9.frozen? ⟨w.heap.size, 2, none⟩ = false := Lib.frozen_of_heap hg 2
    have k3 : W9.cell? ⟨w.heap.size, 3, none⟩ = some (.bool false) := by rw [Lib.cell_of_heap hg]; rfl
    have f3 : W9.frozen? ⟨w.heap.size, 3, none⟩ = false := Lib.frozen_of_heap hg 3
    clear hg
    go_wp2
    exact bodyPost_ret (v := .tuple #[.agg #[.int .i64 1, .int .i64 1, .bool false, .bool false], .bool true]) (by simp [results, Tryz.results38, go_sem, k0, k1, k2, k3]) rfl
      ⟨by rw [HV.out], (((HB.out.setCell (p := ⟨_, _, none⟩) (Nat.le_refl _) _).setCell (p := ⟨_, _, none⟩) (Nat.le_refl _) _).setCell (p := ⟨_, _, none⟩) (Nat.le_refl _) _).setCell (p := ⟨_, _, none⟩) (Nat.le_refl _) _⟩
  rw [decide_eq_false g9]
  have HV : Hid (refV s = .tuple #[.agg #[.int .i64 0, .int .i64 0, .bool false, .bool false], .bool false]) := by
    show _ = _
    unfold refV refI
    rw [if_neg g0, if_neg g1, if_neg g2, if_neg g3, if_neg g4, if_neg g5, if_neg g6, if_neg g7, if_neg g8, if_neg g9]; rfl
  have hg := HX9.out.cell
  have HB := Lib.hid HX9.out.below
  have k0 : W9.cell? ⟨w.heap.size, 0, none⟩ = some (.int .i64 0) := by rw [Lib.cell_of_heap hg]; rfl
  have f0 : W9.frozen? ⟨w.heap.size, 0, none⟩ = false := Lib.frozen_of_heap hg 0
  have k1 : W9.cell? ⟨w.heap.size, 1, none⟩ = some (.int .i64 0) := by rw [Lib.cell_of_heap hg]; rfl
  have f1 : W9.frozen? ⟨w.heap.size, 1, none⟩ = false := Lib.frozen_of_heap hg 1
  have k2 : W9.cell? ⟨w.heap.size, 2, none⟩ = some (.bool false) := by rw [Lib.cell_of_heap hg]; rfl
  have f2 : W9.frozen? ⟨w.heap.size, 2, none⟩ = false := Lib.frozen_of_heap hg 2
  have k3 : W9.cell? ⟨w.heap.size, 3, none⟩ = some (.bool false) := by rw [Lib.cell_of_heap hg]; rfl
  have f3 : W9.frozen? ⟨w.heap.size, 3, none⟩ = false := Lib.frozen_of_heap hg 3
  clear hg
  go_wp2
  exact bodyPost_ret (v := .tuple #[.agg #[.int .i64 0, .int .i64 0, .bool false, .bool false], .bool false]) (by simp [results, Tryz.results38, go_sem, k0, k1, k2, k3]) rfl
    ⟨by rw [HV.out], (((HB.out.setCell (p := ⟨_, _, none⟩) (Nat.le_refl _) _).setCell (p := ⟨_, _, none⟩) (Nat.le_refl _) _).setCell (p := ⟨_, _, none⟩) (Nat.le_refl _) _).setCell (p := ⟨_, _, none⟩) (Nat.le_refl _) _⟩


end Go.Proofs.YtmcdefkpkpaceaaGreatDoor.Frd

/- The document's name: the function that a text begins a call of. -/
namespace Go.Proofs.YtmcdefkpkpaceaaGreatDoor.Qname
open Go.RowKit Go.Proofs.YtmcdefkpkpaceaaGreatDoor.Spl Go.Proofs.YtmcdefkpkpaceaaGreatDoor.Qends Go.Proofs.YtmcdefkpkpaceaaGreatDoor.Frd
open Go.Proofs.YtmcdefkpkpaceaaGreatDoor.Pure (bs isBl)
open Go.Proofs.YtmcdefkpkpaceaaGreatDoor.Fpl (lookI tab zero)

def nameT (s : T) : T := match nameP s with
  | some x => x.1
  | none => []
def lead (s : T) : T := s.takeWhile letB
theorem lead_take {s : T} {k : Nat} (h : ∀ x ∈ s.take k, letB x = true) (hk : k ≤ s.length) (hn : ∀ h : k < s.length, letB s[k] = false) : lead s = s.take k ∧ s.dropWhile letB = s.drop k := by
  have e : s = s.take k ++ s.drop k := (List.take_append_drop k s).symm
  have h1 : (s.drop k).takeWhile letB = [] ∧ (s.drop k).dropWhile letB = s.drop k := by
    by_cases hl : k < s.length
    · rw [List.drop_eq_getElem_cons hl, List.takeWhile_cons_of_neg (by rw [hn hl]; exact Bool.false_ne_true), List.dropWhile_cons_of_neg (by rw [hn hl]; exact Bool.false_ne_true)]
      exact ⟨rfl, rfl⟩
    · rw [List.drop_of_length_le (by omega)]; exact ⟨rfl, rfl⟩
  have h2 := List.takeWhile_append_of_pos (l₁ := s.take k) (l₂ := s.drop k) h
  have h3 := List.dropWhile_append_of_pos (l₁ := s.take k) (l₂ := s.drop k) h
  rw [← e, h1.1, List.append_nil] at h2
  rw [← e, h1.2] at h3
  exact ⟨h2, h3⟩
theorem letB_cases (x : UInt8) : (letB x = true ∧ ((97 ≤ x.toNat ∧ x.toNat ≤ 122 ∧ x.toNat ≠ 45) ∨ x.toNat = 45)) ∨ (letB x = false ∧ (x.toNat < 97 ∨ 122 < x.toNat) ∧ x.toNat ≠ 45) := by
  have e1 : (97 ≤ x) ↔ 97 ≤ x.toNat := by rw [UInt8.le_iff_toNat_le]; exact Iff.rfl
  have e2 : (x ≤ 122) ↔ x.toNat ≤ 122 := by rw [UInt8.le_iff_toNat_le]; exact Iff.rfl
  have e3 : (x == 45) = decide (x.toNat = 45) := by
    rw [Bool.eq_iff_iff, beq_iff_eq, decide_eq_true_iff, ← UInt8.toNat_inj]; exact Iff.rfl
  unfold letB
  rw [e3]
  simp only [e1, e2]
  by_cases h1 : 97 ≤ x.toNat <;> by_cases h2 : x.toNat ≤ 122 <;> by_cases h3 : x.toNat = 45 <;> simp [h1, h2, h3] <;> omega
theorem extract_take (s : T) (k : Nat) : (bs s).extract 0 k = bs (s.take k) := Pure.ext_data (by rw [Lib.extract_from_zero]; rfl)

set_option maxRecDepth 100000 in
set_option maxHeartbeats 4000000 in
theorem name_is (s : T) (w : World) (hs : s.length ≤ 1000000) :
    Calls Tryz.prog 37 #[.string (bs s)] w fun e w' => e = .returned (.string (bs (nameT s))) ∧ Below w.heap.size w w' := by
  have hsz : (bs s).size = s.length := Pure.size_bs s
  have HNm : Hid (nameT s = match s.dropWhile letB, lookI tab (lead s) with
    | b :: _, some _ => if isBl b then lead s else []
    | _, _ => []) := by
    show _ = _
    unfold nameT nameP lead
    cases s.dropWhile letB with
    | nil => rfl
    | cons b r =>
      cases lookI tab (s.takeWhile letB) with
      | none => rfl
      | some i =>
        show (match (if isBl b then some (s.takeWhile letB, b :: r, i) else none) with
          | some x => x.1
          | none => []) = if isBl b then s.takeWhile letB else []
        cases isBl b <;> rfl
  go_enter Tryz.func37, Tryz.ntmps37
  go_wp2_with fail
  go_loop [3] (fun i => ∃ k : Nat, k ≤ s.length ∧ i = .int .i64 k ∧ Hid (∀ x ∈ s.take k, letB x = true)) (fun i => s.length - (intOf i).toNat)
  case atStart => exact ⟨0, Nat.zero_le _, rfl, fun x hx => by cases hx⟩
  case round =>
    obtain ⟨k, hk, rfl, HA⟩ := hrel
    by_cases hgo : ∃ h : k < s.length, letB s[k] = true
    · obtain ⟨hlt, hl⟩ := hgo
      have hb : ((((bs s)[k]'(by rw [hsz]; exact hlt)).toNat : Nat) : Int) = (((s[k]).toNat : Nat) : Int) := rfl
      have HN : Hid (∀ x ∈ s.take (k + 1), letB x = true) := fun x hx => by
        rw [List.take_succ_eq_append_getElem hlt] at hx
        rcases List.mem_append.1 hx with h | h
        · exact HA.out x h
        · rw [List.mem_singleton.1 h]; exact hl
      rcases letB_cases s[k] with ⟨_, hc⟩ | ⟨h0, _⟩
      · clear hl
        generalize s[k] = x at *
        rcases hc with ⟨c1, c2, c3⟩ | c1
        · have t1 : (97 : Int) ≤ ((x.toNat : Nat) : Int) := by omega
          have t2 : ((x.toNat : Nat) : Int) ≤ 122 := by omega
          go_wp2_with fail
          go_round
          case rel => exact ⟨k + 1, by omega, by go_num, HN⟩
          case measure => simp [intOf]; omega
        · have t1 : ((x.toNat : Nat) : Int) = 45 := by omega
          rw [t1] at hb
          go_wp2_with fail
          go_round
          case rel => exact ⟨k + 1, by omega, by go_num, HN⟩
          case measure => simp [intOf]; omega
      · rw [hl] at h0; cases h0
    · have hn : ∀ h : k < s.length, letB s[k] = false := fun h => by
        cases hx : letB s[k] with
        | false => rfl
        | true => exact absurd ⟨h, hx⟩ hgo
      obtain ⟨hlead, hdrop⟩ := lead_take HA.out hk hn
      have HFi := Lib.hid (fun W => refFind_is (bs (s.take k)) W)
      have hfv : refV (bs (s.take k)) = .tuple #[.agg #[.int .i64 ((lookI tab (s.take k)).getD zero).mn, .int .i64 ((lookI tab (s.take k)).getD zero).mx, .bool ((lookI tab (s.take k)).getD zero).lz, .bool ((lookI tab (s.take k)).getD zero).pu], .bool (lookI tab (s.take k)).isSome] := by
        unfold refV
        rw [show (bs (s.take k)).data.toList = s.take k from rfl, refI_eq]; rfl
      rw [hfv] at HFi
      have HR := HNm.out
      rw [hlead, hdrop] at HR
      have HR := Lib.hid HR
      have hex := extract_take s k
      have HR0 : Hid ((lookI tab (s.take k)).isSome = false → nameT s = []) := fun h => by
        rw [HR.out]
        cases hl : lookI tab (s.take k) with
        | none => cases s.drop k <;> rfl
        | some i => rw [hl] at h; cases h
      generalize hq : (lookI tab (s.take k)).getD zero = q at HFi
      clear hq hfv HA HNm hlead hdrop
      by_cases hlt : k < s.length
      · have hb : ((((bs s)[k]'(by rw [hsz]; exact hlt)).toNat : Nat) : Int) = (((s[k]).toNat : Nat) : Int) := rfl
        have HR1 : Hid ((lookI tab (s.take k)).isSome = true → nameT s = if isBl s[k] then s.take k else []) := fun h => by
          rw [HR.out, List.drop_eq_getElem_cons hlt]
          cases hl : lookI tab (s.take k) with
          | none => rw [hl] at h; cases h
          | some i => rfl
        rcases letB_cases s[k] with ⟨h0, _⟩ | ⟨_, hc, h45⟩
        · rw [hn hlt] at h0; cases h0
        · clear HR hn hgo
          generalize (lookI tab (s.take k)).isSome = r at *
          generalize s[k] = x at *
          have t3 : (((x.toNat : Nat) : Int) == 45) = false := by rw [beq_eq_false_iff_ne]; omega
          have t4 : ¬ ((x.toNat : Nat) : Int) = 45 := by omega
          rcases hc with hc | hc
          · have t1 : ¬ (97 : Int) ≤ ((x.toNat : Nat) : Int) := by omega
            go_wp2_with fail
            refine (HFi.out _).mono ?_
            rintro e W2 ⟨rfl, hb2⟩
            have HB2 := Lib.hid (hb2.alloc hb2.size (.cells #[.int .i64 q.mn, .int .i64 q.mx, .bool q.lz, .bool q.pu] 93))
            clear hb2 HFi
            cases r with
            | false =>
              have HE := Lib.hid (HR0.out rfl)
              go_wp2
              go_ret
              rw [HE.out]
              exact ⟨rfl, HB2.out⟩
            | true =>
              have HE := Lib.hid (HR1.out rfl)
              obtain ⟨bl, hbl⟩ : ∃ bl, bl = isBl x := ⟨_, rfl⟩
              rw [← hbl] at HE
              have HBk := Lib.hid (fun W => Frs.refBlank_num ((x.toNat : Nat) : Int) bl W (Frs.isBl_mk hbl.symm))
              clear hbl
              go_wp2_with fail
              refine (HBk.out _).mono ?_
              rintro e W3 ⟨rfl, rfl⟩
              cases bl with
              | false =>
                go_wp2
                go_ret
                rw [HE.out]
                exact ⟨rfl, HB2.out⟩
              | true =>
                go_wp2
                go_ret
                rw [HE.out]
                exact ⟨rfl, HB2.out⟩
          · have t1 : (97 : Int) ≤ ((x.toNat : Nat) : Int) := by omega
            have t2 : ¬ ((x.toNat : Nat) : Int) ≤ 122 := by omega
            go_wp2_with fail
            refine (HFi.out _).mono ?_
            rintro e W2 ⟨rfl, hb2⟩
            have HB2 := Lib.hid (hb2.alloc hb2.size (.cells #[.int .i64 q.mn, .int .i64 q.mx, .bool q.lz, .bool q.pu] 93))
            clear hb2 HFi
            cases r with
            | false =>
              have HE := Lib.hid (HR0.out rfl)
              go_wp2
              go_ret
              rw [HE.out]
              exact ⟨rfl, HB2.out⟩
            | true =>
              have HE := Lib.hid (HR1.out rfl)
              obtain ⟨bl, hbl⟩ : ∃ bl, bl = isBl x := ⟨_, rfl⟩
              rw [← hbl] at HE
              have HBk := Lib.hid (fun W => Frs.refBlank_num ((x.toNat : Nat) : Int) bl W (Frs.isBl_mk hbl.symm))
              clear hbl
              go_wp2_with fail
              refine (HBk.out _).mono ?_
              rintro e W3 ⟨rfl, rfl⟩
              cases bl with
              | false =>
                go_wp2
                go_ret
                rw [HE.out]
                exact ⟨rfl, HB2.out⟩
              | true =>
                go_wp2
                go_ret
                rw [HE.out]
                exact ⟨rfl, HB2.out⟩
      · have HR1 : Hid ((lookI tab (s.take k)).isSome = true → nameT s = []) := fun h => by
          rw [HR.out, List.drop_of_length_le (by omega)]
        clear HR hn hgo
        generalize (lookI tab (s.take k)).isSome = r at *
        go_wp2_with fail
        refine (HFi.out _).mono ?_
        rintro e W2 ⟨rfl, hb2⟩
        have HB2 := Lib.hid (hb2.alloc hb2.size (.cells #[.int .i64 q.mn, .int .i64 q.mx, .bool q.lz, .bool q.pu] 93))
        clear hb2 HFi
        cases r with
        | false =>
          have HE := Lib.hid (HR0.out rfl)
          go_wp2
          go_ret
          rw [HE.out]
          exact ⟨rfl, HB2.out⟩
        | true =>
          have HE := Lib.hid (HR1.out rfl)
          go_wp2
          go_ret
          rw [HE.out]
          exact ⟨rfl, HB2.out⟩

end Go.Proofs.YtmcdefkpkpaceaaGreatDoor.Qname
