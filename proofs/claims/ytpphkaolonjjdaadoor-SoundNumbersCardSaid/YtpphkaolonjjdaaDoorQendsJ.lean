/- The document's ends: where a bracket is closed. -/
import Derived.WalkKit
import Derived.WalkSpells
import Derived.IntWalk
import Derived.Lib.Hide
import Derived.Deep.DeepCutAuto
import Derived.Test.YtpphkaolonjjdaaDoorProg
import Derived.Test.YtpphkaolonjjdaaDoorStrsJ
import Derived.OwnWalk
import Derived.Lib.SplitLaws
namespace Go.Proofs.YtpphkaolonjjdaaDoor.Qends
open Go.RowKit Go.Proofs.YtpphkaolonjjdaaDoor.Spl
open Go.Proofs.YtpphkaolonjjdaaDoor.Pure (bs)

theorem u8_eq (c d : UInt8) : (((c.toNat : Nat) : Int) == ((d.toNat : Nat) : Int)) = decide (c = d) := by
  rw [Bool.eq_iff_iff, beq_iff_eq, decide_eq_true_iff, ← UInt8.toNat_inj]; omega
/-- from here on, as far as here -/
def endI (o c : UInt8) (d : Nat) (s : T) (k : Nat) : Int := match endsP o c d (s.drop k) with
  | none => -1
  | some e => ((k + e : Nat) : Int)
theorem endI_end {o c : UInt8} {d : Nat} {s : T} {k : Nat} (h : s.length ≤ k) : endI o c d s k = -1 := by
  unfold endI; rw [List.drop_of_length_le h]; rfl
theorem endI_step {o c : UInt8} {d d' : Nat} {s : T} {k : Nat} (h : endsP o c d (s.drop k) = (endsP o c d' (s.drop (k + 1))).map (· + 1)) : endI o c d s k = endI o c d' s (k + 1) := by
  unfold endI
  rw [h]
  cases endsP o c d' (s.drop (k + 1)) with
  | none => rfl
  | some e =>
    show ((k + (e + 1) : Nat) : Int) = ((k + 1 + e : Nat) : Int)
    omega
theorem drop_at {s : T} {k : Nat} (h : k < s.length) : s.drop k = s[k] :: s.drop (k + 1) := List.drop_eq_getElem_cons h

set_option maxHeartbeats 2000000 in
theorem ends_is (s : T) (at0 : Nat) (o c : UInt8) (w : World) (hne : c ≠ o) (hs : s.length ≤ 1000000) (ha : at0 ≤ s.length) :
    Calls Tryd.prog 30 #[.string (bs s), .int .i64 at0, .int .u8 ((o.toNat : Nat) : Int), .int .u8 ((c.toNat : Nat) : Int)] w fun e w' => e = .returned (.int .i64 (endI o c 1 s at0)) ∧ w = w' := by
  have hsz : (bs s).size = s.length := Pure.size_bs s
  have HS := Lib.hid hsz
  go_enter Tryd.func30, Tryd.ntmps30
  go_wp2_with fail
  go_loop [9, 10] (fun dv i => ∃ d k : Nat, 1 ≤ d ∧ d ≤ k + 1 ∧ k ≤ s.length ∧ dv = .int .i64 d ∧ i = .int .i64 k ∧ Hid (endI o c d s k = endI o c 1 s at0)) (fun _ i => s.length - (intOf i).toNat)
  case atStart => exact ⟨1, at0, Nat.le_refl _, by omega, ha, rfl, rfl, rfl⟩
  case round =>
    obtain ⟨d, k, hd, hdk, hk, rfl, rfl, HE⟩ := hrel
    by_cases hlt : k < s.length
    · have hb : ((((bs s)[k]'(by rw [hsz]; exact hlt)).toNat : Nat) : Int) = (((s[k]).toNat : Nat) : Int) := rfl
      have e1 := u8_eq s[k] o
      have e2 := u8_eq s[k] c
      have hdr := drop_at hlt
      by_cases h1 : s[k] = o
      · rw [decide_eq_true h1] at e1
        have HN : Hid (endI o c (d + 1) s (k + 1) = endI o c 1 s at0) := by
          show _ = _
          rw [← HE.out]
          exact (endI_step (by rw [hdr, endsP, if_pos h1])).symm
        generalize s[k] = x at *
        clear hdr h1
        go_wp2_with fail
        go_round
        case rel => exact ⟨d + 1, k + 1, by omega, by omega, by omega, by go_num, by go_num, HN⟩
        case measure => simp [intOf]; omega
      · rw [decide_eq_false h1] at e1
        by_cases h2 : s[k] = c
        · rw [decide_eq_true h2] at e2
          by_cases h3 : d = 1
          · subst h3
            have HN : Hid (endI o c 1 s at0 = (k : Int)) := by
              show _ = _
              rw [← HE.out]
              unfold endI
              rw [hdr, h2, endsP, if_neg hne, if_pos rfl, if_pos (Nat.le_refl _)]
              rfl
            generalize s[k] = x at *
            clear hdr h1 h2
            go_wp2
            go_ret
            rw [HN.out]
            exact ⟨rfl, rfl⟩
          · have HN : Hid (endI o c (d - 1) s (k + 1) = endI o c 1 s at0) := by
              show _ = _
              rw [← HE.out]
              exact (endI_step (by rw [hdr, h2, endsP, if_neg hne, if_pos rfl, if_neg (by omega)])).symm
            have hd1 : (((d : Nat) : Int) - 1 == 0) = false := by rw [beq_eq_false_iff_ne]; omega
            have hd2 : ((d : Nat) : Int) - 1 = ((d - 1 : Nat) : Int) := by omega
            generalize s[k] = x at *
            clear hdr h1 h2
            go_wp2_with fail
            go_round
            case rel => exact ⟨d - 1, k + 1, by omega, by omega, by omega, by first | rfl | (rw [hd2]) | go_num, by go_num, HN⟩
            case measure => simp [intOf]; omega
        · rw [decide_eq_false h2] at e2
          have HN : Hid (endI o c d s (k + 1) = endI o c 1 s at0) := by
            show _ = _
            rw [← HE.out]
            exact (endI_step (by rw [hdr, endsP, if_neg h1, if_neg h2])).symm
          generalize s[k] = x at *
          clear hdr h1 h2
          go_wp2_with fail
          go_round
          case rel => exact ⟨d, k + 1, hd, by omega, by omega, rfl, by go_num, HN⟩
          case measure => simp [intOf]; omega
    · have HN : Hid (endI o c 1 s at0 = -1) := by
        show _ = _
        rw [← HE.out, endI_end (by omega)]
      go_wp2
      go_ret
      rw [HN.out]
      exact ⟨rfl, rfl⟩

end Go.Proofs.YtpphkaolonjjdaaDoor.Qends

/- The document's Args: a call's arguments. -/
namespace Go.Proofs.YtpphkaolonjjdaaDoor.Qargs
open Go.RowKit Go.Proofs.YtpphkaolonjjdaaDoor.Strs Go.Proofs.YtpphkaolonjjdaaDoor.Spl Go.Proofs.YtpphkaolonjjdaaDoor.Qends
open Go.Proofs.YtpphkaolonjjdaaDoor.Pure (bs)

def vals (zs : List T) : List Value := (zs.map bs).map Value.string
theorem vals_snoc (zs : List T) (y : T) : vals (zs ++ [y]) = vals zs ++ [.string (bs y)] := by unfold vals; rw [List.map_append, List.map_append]; rfl
/-- so many may be cut off yet -/
def more (most n : Nat) : Option Nat := if most = 0 then none else some (most - 1 - n)
def midT (s : T) (f k : Nat) : T := (s.take k).drop f
theorem mid_same (s : T) (f : Nat) : midT s f f = [] := by
  unfold midT
  rw [List.drop_eq_nil_iff, List.length_take]; omega
theorem mid_next {s : T} {f k : Nat} (hf : f ≤ k) (hk : k < s.length) : midT s f (k + 1) = midT s f k ++ [s[k]] := by
  unfold midT
  rw [List.take_succ_eq_append_getElem hk, List.drop_append_of_le_length (by rw [List.length_take]; omega)]
theorem mid_extract (s : T) (f k : Nat) : (bs s).extract f k = bs (midT s f k) := Pure.ext_data (by
  have h := Lib.extract_toList (bs s) f k
  rw [Lib.toList_data] at h
  rw [h]
  show (s.drop f).take (k - f) = (s.take k).drop f
  rw [List.drop_take])
theorem mid_len (s : T) (f k : Nat) : (midT s f k).length ≤ s.length := by
  unfold midT
  rw [List.length_drop, List.length_take]; omega
/-- how far: d open, cut last at f, acc cut off -/
def At (o c : UInt8) (most : Nat) (s : T) (d f k : Nat) (acc : List T) : Prop :=
  argsP o c 0 (more most 0) [] s = acc ++ argsP o c d (more most acc.length) (midT s f k) (s.drop k) ∧ (most ≠ 0 → acc.length < most)
theorem at_start (o c : UInt8) (most : Nat) (s : T) : At o c most s 0 0 0 [] := ⟨rfl, fun h => by show 0 < most; omega⟩
theorem at_next {o c : UInt8} {most : Nat} {s : T} {d d' f k : Nat} {acc : List T} (hf : f ≤ k) (hk : k < s.length) (h : At o c most s d f k acc) (h1 : ∀ m cur r, m = more most acc.length → argsP o c d m cur (s[k] :: r) = argsP o c d' m (cur ++ [s[k]]) r) : At o c most s d' f (k + 1) acc := by
  refine ⟨?_, h.2⟩
  rw [h.1, List.drop_eq_getElem_cons hk, h1 _ _ _ rfl, mid_next hf hk]
theorem at_cut {o c : UInt8} {most : Nat} {s : T} {f k : Nat} {acc : List T} (hk : k < s.length) (h : At o c most s 0 f k acc) (h1 : s[k] ≠ o) (h2 : s[k] ≠ c) (h3 : s[k] = 44) (hm : most = 0 ∨ acc.length + 1 < most) : At o c most s 0 (k + 1) (k + 1) (acc ++ [midT s f k]) := by
  have hmm : more most acc.length ≠ some 0 := by
    unfold more
    split
    · exact fun e => by cases e
    · exact fun e => by have := Option.some.inj e; omega
  have hmn : (more most acc.length).map (· - 1) = more most (acc ++ [midT s f k]).length := by
    unfold more
    rw [List.length_append, List.length_singleton]
    split
    · rfl
    · show some (most - 1 - acc.length - 1) = some (most - 1 - (acc.length + 1))
      rw [Nat.sub_sub]
  refine ⟨?_, fun h0 => by rw [List.length_append, List.length_singleton]; omega⟩
  rw [h.1, List.drop_eq_getElem_cons hk, argsP, if_neg h1, if_neg h2, if_pos ⟨h3, rfl, hmm⟩, hmn, mid_same, List.append_assoc]
  rfl
theorem at_end {o c : UInt8} {most : Nat} {s : T} {d f k : Nat} {acc : List T} (hk : s.length ≤ k) (h : At o c most s d f k acc) : argsP o c 0 (more most 0) [] s = acc ++ [s.drop f] := by
  rw [h.1, List.drop_of_length_le hk]
  unfold midT
  rw [List.take_of_length_le hk]
  rfl
theorem drop_extract (s : T) (f : Nat) : (bs s).extract f (bs s).size = bs (s.drop f) := Pure.ext_data (by rw [Lib.extract_to_end]; rfl)

set_option maxRecDepth 100000 in
set_option maxHeartbeats 8000000 in
theorem args_is (s : T) (most : Nat) (o c : UInt8) (w : World) (hs : s.length ≤ 1000000) (hm : most ≤ 100) :
    Calls Tryd.prog 41 #[.string (bs s), .int .i64 most, .int .u8 ((o.toNat : Nat) : Int), .int .u8 ((c.toNat : Nat) : Int)] w fun e w' => ∃ v, e = .returned v ∧ w'.ownsRow w.heap.size 9 1 v (argsP o c 0 (more most 0) [] s).length (vals (argsP o c 0 (more most 0) [] s)) ∧ Below w.heap.size w w' := by
  obtain ⟨i0, hi, hz0, hz1, hz2⟩ := info_parts infoString
  have hsz : (bs s).size = s.length := Pure.size_bs s
  go_enter Tryd.func41, Tryd.ntmps41
  go_wp2_with fail
  go_loopw [9, 10, 11, 12] (fun v dv fv i wr => ∃ (d f k : Nat) (acc : List T), d ≤ k ∧ f ≤ k ∧ k ≤ s.length ∧ acc.length ≤ k ∧ dv = .int .i64 d ∧ fv = .int .i64 f ∧ i = .int .i64 k ∧ wr.ownsRow w.heap.size 9 1 v acc.length (vals acc) ∧ Hid (Below w.heap.size w wr) ∧ Hid (At o c most s d f k acc)) (fun _ _ _ i _ => s.length - (intOf i).toNat)
  case atStart => exact ⟨0, 0, 0, [], Nat.le_refl _, Nat.le_refl _, Nat.zero_le _, Nat.le_refl _, rfl, rfl, rfl, World.ownsRow_nil _ _ _ _, Below.refl _ _, at_start _ _ _ _⟩
  case round =>
    obtain ⟨d, f, k, acc, hdk, hfk, hk, hacc, rfl, rfl, rfl, hown, HB, HA⟩ := hrel
    obtain ⟨A9, c9, rfl, _⟩ := slIs_of_own (w := wr) (xs := acc.map bs) (n := acc.length) (List.length_map _) hown
    by_cases hlt : k < s.length
    · have hb : ((((bs s)[k]'(by rw [hsz]; exact hlt)).toNat : Nat) : Int) = (((s[k]).toNat : Nat) : Int) := rfl
      have e1 := u8_eq s[k] o
      have e2 := u8_eq s[k] c
      have e3 := u8_eq s[k] 44
      rw [show (((44 : UInt8).toNat : Nat) : Int) = 44 from rfl] at e3
      by_cases h1 : s[k] = o
      · rw [decide_eq_true h1] at e1
        have HN : Hid (At o c most s (d + 1) f (k + 1) acc) := at_next hfk hlt HA.out fun m cur r _ => by rw [argsP, if_pos h1]
        have HO := Lib.hid hown
        clear h1 e2 e3 hown
        generalize s[k] = x at *
        go_wp2_with fail
        go_roundw
        case rel => exact ⟨d + 1, f, k + 1, acc, by omega, by omega, by omega, by omega, by go_num, rfl, by go_num, HO.out, HB.out, HN⟩
        case measure => simp [intOf]; omega
      · rw [decide_eq_false h1] at e1
        by_cases h2 : s[k] = c
        · rw [decide_eq_true h2] at e2
          have HN : Hid (At o c most s (d - 1) f (k + 1) acc) := at_next hfk hlt HA.out fun m cur r _ => by rw [argsP, if_neg h1, if_pos h2]
          have hmax : max (((d : Nat) : Int) - 1) 0 = ((d - 1 : Nat) : Int) := by omega
          have HO := Lib.hid hown
          clear h1 h2 e3 hown
          generalize s[k] = x at *
          go_wp2_with fail
          go_roundw
          case rel => exact ⟨d - 1, f, k + 1, acc, by omega, by omega, by omega, by omega, by first | rfl | (rw [hmax]) | go_num, rfl, by go_num, HO.out, HB.out, HN⟩
          case measure => simp [intOf]; omega
        · rw [decide_eq_false h2] at e2
          by_cases h3 : s[k] = 44 ∧ d = 0 ∧ (most = 0 ∨ acc.length + 1 < most)
          · obtain ⟨h3, rfl, h4⟩ := h3
            rw [decide_eq_true h3] at e3
            have HN : Hid (At o c most s 0 (k + 1) (k + 1) (acc ++ [midT s f k])) := at_cut hlt HA.out h1 h2 h3 h4
            have hex := mid_extract s f k
            have hfk2 : (f : Int) ≤ (k : Int) := by omega
            clear h1 h2 h3
            generalize s[k] = x at *
            rcases h4 with h4 | h4
            · have hm0 : (((most : Nat) : Int) == 0) = true := by rw [h4]; rfl
              clear h4
              go_wp2_with (at_builtin; refine wpList_append_own _ rfl _ _ 83 rfl w.heap.size 9 i0 (.string .empty) 1 16 Tryd.underlying83 hi hz0 hz1 hz2 rfl (by decide) _ _ _ rfl (hown.alloc _) ⟨wr.heap.size, 0, none⟩ 1 1 [.string (bs (midT s f k))] rfl rfl (cell_one_new _ _ _) (by simp [Value.oneCell']) (by unfold maxLen; omega) (by omega) (by have := HB.out.size; simp; omega) ?_; intro v' wA hown' hgrow _; have HOA := Lib.hid hown'; have HGA := Lib.hid (below_append HB.out HB.out.size hown hgrow); clear hown' hgrow)
              have HOB : Hid (wA.ownsRow w.heap.size 9 1 v' (acc ++ [midT s f k]).length (vals (acc ++ [midT s f k]))) := by
                rw [List.length_append, List.length_singleton, vals_snoc]; exact HOA.out
              go_roundw
              case rel => exact ⟨0, k + 1, k + 1, acc ++ [midT s f k], by omega, by omega, by omega, by rw [List.length_append, List.length_singleton]; omega, rfl, by go_num, by go_num, HOB.out, HGA.out, HN⟩
              case measure => simp [intOf]; omega
            · have hm0 : (((most : Nat) : Int) == 0) = false := by rw [beq_eq_false_iff_ne]; omega
              have hm1 : ((acc.length : Nat) : Int) + 1 < (most : Int) := by omega
              go_wp2_with (at_builtin; refine wpList_append_own _ rfl _ _ 83 rfl w.heap.size 9 i0 (.string .empty) 1 16 Tryd.underlying83 hi hz0 hz1 hz2 rfl (by decide) _ _ _ rfl (hown.alloc _) ⟨wr.heap.size, 0, none⟩ 1 1 [.string (bs (midT s f k))] rfl rfl (cell_one_new _ _ _) (by simp [Value.oneCell']) (by unfold maxLen; omega) (by omega) (by have := HB.out.size; simp; omega) ?_; intro v' wA hown' hgrow _; have HOA := Lib.hid hown'; have HGA := Lib.hid (below_append HB.out HB.out.size hown hgrow); clear hown' hgrow)
              have HOB : Hid (wA.ownsRow w.heap.size 9 1 v' (acc ++ [midT s f k]).length (vals (acc ++ [midT s f k]))) := by
                rw [List.length_append, List.length_singleton, vals_snoc]; exact HOA.out
              go_roundw
              case rel => exact ⟨0, k + 1, k + 1, acc ++ [midT s f k], by omega, by omega, by omega, by rw [List.length_append, List.length_singleton]; omega, rfl, by go_num, by go_num, HOB.out, HGA.out, HN⟩
              case measure => simp [intOf]; omega
          · have HN : Hid (At o c most s d f (k + 1) acc) := at_next hfk hlt HA.out fun m cur r hmo => by
              rw [argsP, if_neg h1, if_neg h2, if_neg]
              rintro ⟨g1, g2, g3⟩
              refine h3 ⟨g1, g2, ?_⟩
              rw [hmo] at g3
              unfold more at g3
              by_cases hm0 : most = 0
              · exact .inl hm0
              · rw [if_neg hm0] at g3
                right
                have : most - 1 - acc.length ≠ 0 := fun e => g3 (by rw [e])
                omega
            have HO := Lib.hid hown
            clear hown
            by_cases g1 : s[k] = 44
            · rw [decide_eq_true g1] at e3
              by_cases g2 : d = 0
              · have g3 : ¬ most = 0 := fun e => h3 ⟨g1, g2, .inl e⟩
                have g4 : ¬ acc.length + 1 < most := fun e => h3 ⟨g1, g2, .inr e⟩
                subst g2
                have hm0 : (((most : Nat) : Int) == 0) = false := by rw [beq_eq_false_iff_ne]; omega
                have hm1 : ¬ ((acc.length : Nat) : Int) + 1 < (most : Int) := by omega
                clear h1 h2 h3 g1
                generalize s[k] = x at *
                go_wp2_with fail
                go_roundw
                case rel => exact ⟨0, f, k + 1, acc, by omega, by omega, by omega, by omega, rfl, rfl, by go_num, HO.out, HB.out, HN⟩
                case measure => simp [intOf]; omega
              · have hd0 : (((d : Nat) : Int) == 0) = false := by rw [beq_eq_false_iff_ne]; omega
                clear h1 h2 h3 g1
                generalize s[k] = x at *
                go_wp2_with fail
                go_roundw
                case rel => exact ⟨d, f, k + 1, acc, by omega, by omega, by omega, by omega, rfl, rfl, by go_num, HO.out, HB.out, HN⟩
                case measure => simp [intOf]; omega
            · rw [decide_eq_false g1] at e3
              clear h1 h2 h3 g1
              generalize s[k] = x at *
              go_wp2_with fail
              go_roundw
              case rel => exact ⟨d, f, k + 1, acc, by omega, by omega, by omega, by omega, rfl, rfl, by go_num, HO.out, HB.out, HN⟩
              case measure => simp [intOf]; omega
    · have HE := Lib.hid (at_end (by omega) HA.out)
      have hex := drop_extract s f
      rw [hsz] at hex
      have hfs : (f : Int) ≤ (s.length : Int) := by omega
      go_wp2_with (at_builtin; refine wpList_append_own _ rfl _ _ 83 rfl w.heap.size 9 i0 (.string .empty) 1 16 Tryd.underlying83 hi hz0 hz1 hz2 rfl (by decide) _ _ _ rfl (hown.alloc _) ⟨wr.heap.size, 0, none⟩ 1 1 [.string (bs (s.drop f))] rfl rfl (cell_one_new _ _ _) (by simp [Value.oneCell']) (by unfold maxLen; omega) (by omega) (by have := HB.out.size; simp; omega) ?_; intro v' wA hown' hgrow _; have HOA := Lib.hid hown'; have HGA := Lib.hid (below_append HB.out HB.out.size hown hgrow); clear hown' hgrow)
      go_ret
      rw [HE.out]
      refine ⟨_, rfl, ?_, HGA.out⟩
      rw [List.length_append, List.length_singleton, vals_snoc]; exact HOA.out

end Go.Proofs.YtpphkaolonjjdaaDoor.Qargs

/- The document's cuts: the places of a substitution's colon and equals sign. -/
namespace Go.Proofs.YtpphkaolonjjdaaDoor.Qcuts
open Go.RowKit Go.Proofs.YtpphkaolonjjdaaDoor.Spl Go.Proofs.YtpphkaolonjjdaaDoor.Qends
open Go.Proofs.YtpphkaolonjjdaaDoor.Pure (bs)

theorem colon_split : ∀ (s : T) (d : Nat) (cur a r : T), colonP d cur s = some (a, r) → cur ++ s = a ++ 58 :: r
  | [], _, _, _, _, h => by cases h
  | b :: s, d, cur, a, r, h => by
    have hi : ∀ d', colonP d' (cur ++ [b]) s = some (a, r) → cur ++ b :: s = a ++ 58 :: r := fun d' h' => by
      have := colon_split s d' _ a r h'
      rw [List.append_assoc] at this
      exact this
    rw [colonP] at h
    split at h
    · exact hi _ h
    · split at h
      · exact hi _ h
      · split at h
        · rename_i hb
          cases h
          rw [hb.1]
        · exact hi _ h
theorem equal_split : ∀ (s : T) (d : Nat) (cur a r : T), equalP d cur s = some (a, r) → cur ++ s = a ++ 61 :: r
  | [], _, _, _, _, h => by cases h
  | b :: s, d, cur, a, r, h => by
    have hi : ∀ d', equalP d' (cur ++ [b]) s = some (a, r) → cur ++ b :: s = a ++ 61 :: r := fun d' h' => by
      have := equal_split s d' _ a r h'
      rw [List.append_assoc] at this
      exact this
    rw [equalP] at h
    split at h
    · exact hi _ h
    · split at h
      · exact hi _ h
      · split at h
        · rename_i hb
          cases h
          rw [hb.1]
        · exact hi _ h
theorem cuts_split {s a b c : T} (h : cutsP s = some (a, b, c)) : s = a ++ 58 :: (b ++ 61 :: c) := by
  unfold cutsP at h
  cases h1 : colonP 0 [] s with
  | none => simp only [h1] at h; cases h
  | some x =>
    obtain ⟨a', r⟩ := x
    simp only [h1] at h
    cases h2 : equalP 0 [] r with
    | none => simp only [h2] at h; cases h
    | some y =>
      obtain ⟨b', c'⟩ := y
      simp only [h2] at h
      cases h
      have e1 := colon_split _ _ _ _ _ h1
      have e2 := equal_split _ _ _ _ _ h2
      rw [List.nil_append] at e1 e2
      rw [e1, e2]
/-- where they stand -/
def cutI (s : T) : Int × Int := match cutsP s with
  | none => (-1, -1)
  | some (a, b, _) => ((a.length : Nat), ((a.length + 1 + b.length : Nat) : Int))
/-- how far the search has come: d brackets open, the colon at m (none as yet: below 0) -/
def Cut (s : T) (d k : Nat) (m : Int) : Prop :=
  (m = -1 ∧ colonP 0 [] s = colonP d (s.take k) (s.drop k)) ∨
  ∃ c : Nat, m = c ∧ c < k ∧ colonP 0 [] s = some (s.take c, s.drop (c + 1)) ∧ equalP 0 [] (s.drop (c + 1)) = equalP d ((s.drop (c + 1)).take (k - (c + 1))) (s.drop k)
theorem take_next {s : T} {c k : Nat} (hc : c < k) (hk : k < s.length) : (s.drop (c + 1)).take (k + 1 - (c + 1)) = (s.drop (c + 1)).take (k - (c + 1)) ++ [s[k]] := by
  have e : k + 1 - (c + 1) = (k - (c + 1)) + 1 := by omega
  have hl : k - (c + 1) < (s.drop (c + 1)).length := by rw [List.length_drop]; omega
  rw [e, List.take_succ_eq_append_getElem hl, List.getElem_drop]
  congr 3
  omega
theorem cut_same {s : T} {d d' k : Nat} {m : Int} (hk : k < s.length) (h : Cut s d k m) (h1 : m = -1 → ∀ cur r, colonP d cur (s[k] :: r) = colonP d' (cur ++ [s[k]]) r) (h2 : 0 ≤ m → ∀ cur r, equalP d cur (s[k] :: r) = equalP d' (cur ++ [s[k]]) r) : Cut s d' (k + 1) m := by
  have hd : s.drop k = s[k] :: s.drop (k + 1) := List.drop_eq_getElem_cons hk
  rcases h with ⟨e, h⟩ | ⟨c, e, hc, h3, h4⟩
  · refine .inl ⟨e, ?_⟩
    rw [h, hd, h1 e, List.take_succ_eq_append_getElem hk]
  · refine .inr ⟨c, e, by omega, h3, ?_⟩
    rw [h4, hd, h2 (by omega), take_next hc hk]
theorem cut_colon {s : T} {k : Nat} (hk : k < s.length) (h : Cut s 0 k (-1)) (hb : s[k] = 58) : Cut s 0 (k + 1) (k : Int) := by
  have hd : s.drop k = s[k] :: s.drop (k + 1) := List.drop_eq_getElem_cons hk
  rcases h with ⟨_, h⟩ | ⟨c, e, _⟩
  · refine .inr ⟨k, rfl, by omega, ?_, ?_⟩
    · rw [h, hd, hb]; rfl
    · rw [Nat.sub_self, List.take_zero]
  · omega
theorem cut_found {s : T} {k : Nat} {m : Int} (hk : k < s.length) (h : Cut s 0 k m) (hm : 0 ≤ m) (hb : s[k] = 61) : cutI s = (m, (k : Int)) := by
  have hd : s.drop k = s[k] :: s.drop (k + 1) := List.drop_eq_getElem_cons hk
  rcases h with ⟨e, _⟩ | ⟨c, e, hc, h3, h4⟩
  · omega
  · rw [hd, hb] at h4
    have h5 : equalP 0 [] (s.drop (c + 1)) = some ((s.drop (c + 1)).take (k - (c + 1)), s.drop (k + 1)) := by rw [h4]; rfl
    unfold cutI cutsP
    rw [h3]
    show (match (match equalP 0 [] (s.drop (c + 1)) with | none => none | some (b, x) => some (s.take c, b, x) : Option (T × T × T)) with
      | none => ((-1 : Int), (-1 : Int))
      | some (a, b, _) => (((a.length : Nat) : Int), ((a.length + 1 + b.length : Nat) : Int))) = _
    rw [h5]
    show ((((s.take c).length : Nat) : Int), (((s.take c).length + 1 + ((s.drop (c + 1)).take (k - (c + 1))).length : Nat) : Int)) = _
    rw [List.length_take, List.length_take, List.length_drop, e]
    refine Prod.ext ?_ ?_
    · show ((min c s.length : Nat) : Int) = _
      omega
    · show ((min c s.length + 1 + min (k - (c + 1)) (s.length - (c + 1)) : Nat) : Int) = _
      omega
theorem cut_end {s : T} {d k : Nat} {m : Int} (hk : s.length ≤ k) (h : Cut s d k m) : cutI s = (-1, -1) := by
  unfold cutI cutsP
  rcases h with ⟨_, h⟩ | ⟨c, _, _, h3, h4⟩
  · rw [h, List.drop_of_length_le hk]; rfl
  · rw [List.drop_of_length_le hk] at h4
    rw [h3]
    show (match (match equalP 0 [] (s.drop (c + 1)) with | none => none | some (b, x) => some (s.take c, b, x) : Option (T × T × T)) with
      | none => ((-1 : Int), (-1 : Int))
      | some (a, b, _) => (((a.length : Nat) : Int), ((a.length + 1 + b.length : Nat) : Int))) = _
    rw [h4]; rfl
theorem col_in {d : Nat} {b : UInt8} (hb : b = 40 ∨ b = 123) (cur r : T) : colonP d cur (b :: r) = colonP (d + 1) (cur ++ [b]) r ∧ equalP d cur (b :: r) = equalP (d + 1) (cur ++ [b]) r := by
  rw [colonP, equalP, if_pos hb, if_pos hb]; exact ⟨rfl, rfl⟩
theorem col_out {d : Nat} {b : UInt8} (hb : b = 41 ∨ b = 125) (cur r : T) : colonP d cur (b :: r) = colonP (d - 1) (cur ++ [b]) r ∧ equalP d cur (b :: r) = equalP (d - 1) (cur ++ [b]) r := by
  have hn : ¬ (b = 40 ∨ b = 123) := by rcases hb with rfl | rfl <;> decide
  rw [colonP, equalP, if_neg hn, if_neg hn, if_pos hb, if_pos hb]; exact ⟨rfl, rfl⟩
theorem col_other {d : Nat} {b : UInt8} (h1 : ¬ (b = 40 ∨ b = 123)) (h2 : ¬ (b = 41 ∨ b = 125)) (cur r : T) : (¬ (b = 58 ∧ d = 0) → colonP d cur (b :: r) = colonP d (cur ++ [b]) r) ∧ (¬ (b = 61 ∧ d = 0) → equalP d cur (b :: r) = equalP d (cur ++ [b]) r) := by
  refine ⟨fun h => ?_, fun h => ?_⟩
  · rw [colonP, if_neg h1, if_neg h2, if_neg h]
  · rw [equalP, if_neg h1, if_neg h2, if_neg h]

set_option maxRecDepth 100000 in
set_option maxHeartbeats 4000000 in
theorem cuts_is (s : T) (w : World) (hs : s.length ≤ 1000000) :
    Calls Tryd.prog 44 #[.string (bs s)] w fun e w' => e = .returned (.tuple #[.int .i64 (cutI s).1, .int .i64 (cutI s).2]) ∧ w = w' := by
  have hsz : (bs s).size = s.length := Pure.size_bs s
  go_enter Tryd.func44, Tryd.ntmps44
  go_wp2_with fail
  go_loop [4, 5, 6] (fun dv mv i => ∃ (d k : Nat) (m : Int), d ≤ k ∧ k ≤ s.length ∧ (-1 ≤ m ∧ m ≤ (k : Int)) ∧ dv = .int .i64 d ∧ mv = .int .i64 m ∧ i = .int .i64 k ∧ Hid (Cut s d k m)) (fun _ _ i => s.length - (intOf i).toNat)
  case atStart => exact ⟨0, 0, -1, Nat.le_refl _, Nat.zero_le _, ⟨by omega, by omega⟩, rfl, rfl, rfl, .inl ⟨rfl, rfl⟩⟩
  case round =>
    obtain ⟨d, k, m, hdk, hk, ⟨hm1, hm2⟩, rfl, rfl, rfl, HC⟩ := hrel
    by_cases hlt : k < s.length
    · have hb : ((((bs s)[k]'(by rw [hsz]; exact hlt)).toNat : Nat) : Int) = (((s[k]).toNat : Nat) : Int) := rfl
      by_cases h1 : s[k] = 40 ∨ s[k] = 123
      · have HN : Hid (Cut s (d + 1) (k + 1) m) := cut_same hlt HC.out (fun _ cur r => (col_in h1 cur r).1) (fun _ cur r => (col_in h1 cur r).2)
        rcases h1 with h1 | h1
        · have hx : ((((bs s)[k]'(by rw [hsz]; exact hlt)).toNat : Nat) : Int) = 40 := by rw [hb, h1]; rfl
          clear hb h1
          go_wp2_with fail
          go_round
          case rel => exact ⟨d + 1, k + 1, m, by omega, by omega, ⟨by omega, by omega⟩, by go_num, rfl, by go_num, HN⟩
          case measure => simp [intOf]; omega
        · have hx : ((((bs s)[k]'(by rw [hsz]; exact hlt)).toNat : Nat) : Int) = 123 := by rw [hb, h1]; rfl
          clear hb h1
          go_wp2_with fail
          go_round
          case rel => exact ⟨d + 1, k + 1, m, by omega, by omega, ⟨by omega, by omega⟩, by go_num, rfl, by go_num, HN⟩
          case measure => simp [intOf]; omega
      · by_cases h2 : s[k] = 41 ∨ s[k] = 125
        · have HN : Hid (Cut s (d - 1) (k + 1) m) := cut_same hlt HC.out (fun _ cur r => (col_out h2 cur r).1) (fun _ cur r => (col_out h2 cur r).2)
          have hmax : max (((d : Nat) : Int) - 1) 0 = ((d - 1 : Nat) : Int) := by omega
          rcases h2 with h2 | h2
          · have hx : ((((bs s)[k]'(by rw [hsz]; exact hlt)).toNat : Nat) : Int) = 41 := by rw [hb, h2]; rfl
            clear hb h1 h2
            go_wp2_with fail
            go_round
            case rel => exact ⟨d - 1, k + 1, m, by omega, by omega, ⟨by omega, by omega⟩, by first | rfl | (rw [hmax]) | go_num, rfl, by go_num, HN⟩
            case measure => simp [intOf]; omega
          · have hx : ((((bs s)[k]'(by rw [hsz]; exact hlt)).toNat : Nat) : Int) = 125 := by rw [hb, h2]; rfl
            clear hb h1 h2
            go_wp2_with fail
            go_round
            case rel => exact ⟨d - 1, k + 1, m, by omega, by omega, ⟨by omega, by omega⟩, by first | rfl | (rw [hmax]) | go_num, rfl, by go_num, HN⟩
            case measure => simp [intOf]; omega
        · have hx1 : ((((bs s)[k]'(by rw [hsz]; exact hlt)).toNat : Nat) : Int) = (((s[k]).toNat : Nat) : Int) := hb
          have nat : ∀ c : UInt8, s[k] ≠ c → ((((s[k]).toNat : Nat) : Int) == ((c.toNat : Nat) : Int)) = false := fun c hc => by rw [u8_eq, decide_eq_false hc]
          have n1 := nat 40 (fun e => h1 (.inl e))
          have n2 := nat 123 (fun e => h1 (.inr e))
          have n3 := nat 41 (fun e => h2 (.inl e))
          have n4 := nat 125 (fun e => h2 (.inr e))
          rw [show (((40 : UInt8).toNat : Nat) : Int) = 40 from rfl] at n1
          rw [show (((123 : UInt8).toNat : Nat) : Int) = 123 from rfl] at n2
          rw [show (((41 : UInt8).toNat : Nat) : Int) = 41 from rfl] at n3
          rw [show (((125 : UInt8).toNat : Nat) : Int) = 125 from rfl] at n4
          have hother := col_other (d := d) h1 h2
          by_cases h3 : s[k] = 58
          · have hx : ((((bs s)[k]'(by rw [hsz]; exact hlt)).toNat : Nat) : Int) = 58 := by rw [hb, h3]; rfl
            by_cases h4 : d = 0 ∧ m = -1
            · obtain ⟨rfl, rfl⟩ := h4
              have HN : Hid (Cut s 0 (k + 1) (k : Int)) := cut_colon hlt HC.out h3
              clear hb h1 h2 hx1 n1 n2 n3 n4 nat hother h3
              go_wp2_with fail
              go_round
              case rel => exact ⟨0, k + 1, (k : Int), by omega, by omega, ⟨by omega, by omega⟩, rfl, rfl, by go_num, HN⟩
              case measure => simp [intOf]; omega
            · have HN : Hid (Cut s d (k + 1) m) := cut_same hlt HC.out (fun e cur r => (hother cur r).1 (fun e2 => h4 ⟨e2.2, e⟩)) (fun _ cur r => (hother cur r).2 (fun e => by rw [h3] at e; exact absurd e.1 (by decide)))
              clear hb h1 h2 hx1 n1 n2 n3 n4 nat hother h3
              by_cases h5 : d = 0
              · subst h5
                have h6 : ¬ m < 0 := fun h => h4 ⟨rfl, by omega⟩
                go_wp2_with fail
                go_round
                case rel => exact ⟨0, k + 1, m, by omega, by omega, ⟨by omega, by omega⟩, rfl, rfl, by go_num, HN⟩
                case measure => simp [intOf]; omega
              · have h7 : (((d : Nat) : Int) == 0) = false := by rw [beq_eq_false_iff_ne]; omega
                go_wp2_with fail
                go_round
                case rel => exact ⟨d, k + 1, m, by omega, by omega, ⟨by omega, by omega⟩, rfl, rfl, by go_num, HN⟩
                case measure => simp [intOf]; omega
          · have n5 := nat 58 h3
            rw [show (((58 : UInt8).toNat : Nat) : Int) = 58 from rfl] at n5
            by_cases h6 : s[k] = 61
            · have hx : ((((bs s)[k]'(by rw [hsz]; exact hlt)).toNat : Nat) : Int) = 61 := by rw [hb, h6]; rfl
              by_cases h4 : d = 0 ∧ 0 ≤ m
              · obtain ⟨rfl, hm0⟩ := h4
                have HE := Lib.hid (cut_found hlt HC.out hm0 h6)
                clear hb h1 h2 hx1 n1 n2 n3 n4 n5 nat hother h3 h6
                go_wp2
                go_ret2
                rw [HE.out]
                exact ⟨rfl, rfl⟩
              · have HN : Hid (Cut s d (k + 1) m) := cut_same hlt HC.out (fun _ cur r => (hother cur r).1 (fun e => h3 e.1)) (fun e cur r => (hother cur r).2 (fun e2 => h4 ⟨e2.2, e⟩))
                clear hb h1 h2 hx1 n1 n2 n3 n4 n5 nat hother h3 h6
                by_cases h5 : d = 0
                · subst h5
                  have h6 : ¬ (0 : Int) ≤ m := fun h => h4 ⟨rfl, h⟩
                  go_wp2_with fail
                  go_round
                  case rel => exact ⟨0, k + 1, m, by omega, by omega, ⟨by omega, by omega⟩, rfl, rfl, by go_num, HN⟩
                  case measure => simp [intOf]; omega
                · have h7 : (((d : Nat) : Int) == 0) = false := by rw [beq_eq_false_iff_ne]; omega
                  go_wp2_with fail
                  go_round
                  case rel => exact ⟨d, k + 1, m, by omega, by omega, ⟨by omega, by omega⟩, rfl, rfl, by go_num, HN⟩
                  case measure => simp [intOf]; omega
            · have n6 := nat 61 h6
              rw [show (((61 : UInt8).toNat : Nat) : Int) = 61 from rfl] at n6
              have HN : Hid (Cut s d (k + 1) m) := cut_same hlt HC.out (fun _ cur r => (hother cur r).1 (fun e => h3 e.1)) (fun _ cur r => (hother cur r).2 (fun e => h6 e.1))
              clear h1 h2 hx1 nat hother h3 h6
              generalize s[k] = x at *
              go_wp2_with fail
              go_round
              case rel => exact ⟨d, k + 1, m, by omega, by omega, ⟨by omega, by omega⟩, rfl, rfl, by go_num, HN⟩
              case measure => simp [intOf]; omega
    · have HE := Lib.hid (cut_end (by omega) HC.out)
      go_wp2
      go_ret2
      rw [HE.out]
      exact ⟨rfl, rfl⟩

end Go.Proofs.YtpphkaolonjjdaaDoor.Qcuts
