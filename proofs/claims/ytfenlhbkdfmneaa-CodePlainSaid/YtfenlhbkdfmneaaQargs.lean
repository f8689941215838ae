/- The document's Args: a call's arguments. -/
import Derived.OwnWalk
import Derived.Lib.SplitLaws
import Derived.Test.YtfenlhbkdfmneaaQends
import Derived.Test.YtfenlhbkdfmneaaStrs
namespace Go.Proofs.Ytfenlhbkdfmneaa.Qargs
open Go.RowKit Go.Proofs.Ytfenlhbkdfmneaa.Strs Go.Proofs.Ytfenlhbkdfmneaa.Spl Go.Proofs.Ytfenlhbkdfmneaa.Qends
open Go.Proofs.Ytfenlhbkdfmneaa.Pure (bs)

def vals (zs : List T) : List Value := (zs.map bs).map Value.string
theorem vals_snoc (zs : List T) (y : T) : vals (zs ++ [y]) = vals zs ++ [.string (bs y)] := by unfold vals; rw [List.map_append, List.map_append]; rfl
/-- so many may be cut off yet -/
def more (most n : Nat) : Option Nat := if most = 0 then none else some (most - 1 - n)
def midT (s : T) (f k : Nat) : T := (s.take k).drop f
theorem mid_same (s : T) (f : Nat) : midT s f f = [] := by
  unfold midT
  rw [List.drop_eq_nil_iff, List.length_take]; omega
theorem mid_next {s : T} {f k : Nat} (hf : f ≤ k) (hk : k < s.length) : midT s f (k + 1) = midT s f k ++ [s[k]] := by
  unfold midT
  rw [List.take_succ_eq_append_getElem hk, List.drop_append_of_le_length (by rw [List.length_take]; omega)]
theorem mid_extract (s : T) (f k : Nat) : (bs s).extract f k = bs (midT s f k) := Pure.ext_data (by
  have h := Lib.extract_toList (bs s) f k
  rw [Lib.toList_data] at h
  rw [h]
  show (s.drop f).take (k - f) = (s.take k).drop f
  rw [List.drop_take])
theorem mid_len (s : T) (f k : Nat) : (midT s f k).length ≤ s.length := by
  unfold midT
  rw [List.length_drop, List.length_take]; omega
/-- how far: d open, cut last at f, acc cut off -/
def At (o c : UInt8) (most : Nat) (s : T) (d f k : Nat) (acc : List T) : Prop :=
  argsP o c 0 (more most 0) [] s = acc ++ argsP o c d (more most acc.length) (midT s f k) (s.drop k) ∧ (most ≠ 0 → acc.length < most)
theorem at_start (o c : UInt8) (most : Nat) (s : T) : At o c most s 0 0 0 [] := ⟨rfl, fun h => by show 0 < most; omega⟩
theorem at_next {o c : UInt8} {most : Nat} {s : T} {d d' f k : Nat} {acc : List T} (hf : f ≤ k) (hk : k < s.length) (h : At o c most s d f k acc) (h1 : ∀ m cur r, m = more most acc.length → argsP o c d m cur (s[k] :: r) = argsP o c d' m (cur ++ [s[k]]) r) : At o c most s d' f (k + 1) acc := by
  refine ⟨?_, h.2⟩
  rw [h.1, List.drop_eq_getElem_cons hk, h1 _ _ _ rfl, mid_next hf hk]
theorem at_cut {o c : UInt8} {most : Nat} {s : T} {f k : Nat} {acc : List T} (hk : k < s.length) (h : At o c most s 0 f k acc) (h1 : s[k] ≠ o) (h2 : s[k] ≠ c) (h3 : s[k] = 44) (hm : most = 0 ∨ acc.length + 1 < most) : At o c most s 0 (k + 1) (k + 1) (acc ++ [midT s f k]) := by
  have hmm : more most acc.length ≠ some 0 := by
    unfold more
    split
    · exact fun e => by cases e
    · exact fun e => by have := Option.some.inj e; omega
  have hmn : (more most acc.length).map (· - 1) = more most (acc ++ [midT s f k]).length := by
    unfold more
    rw [List.length_append, List.length_singleton]
    split
    · rfl
    · show some (most - 1 - acc.length - 1) = some (most - 1 - (acc.length + 1))
      rw [Nat.sub_sub]
  refine ⟨?_, fun h0 => by rw [List.length_append, List.length_singleton]; omega⟩
  rw [h.1, List.drop_eq_getElem_cons hk, argsP, if_neg h1, if_neg h2, if_pos ⟨h3, rfl, hmm⟩, hmn, mid_same, List.append_assoc]
  rfl
theorem at_end {o c : UInt8} {most : Nat} {s : T} {d f k : Nat} {acc : List T} (hk : s.length ≤ k) (h : At o c most s d f k acc) : argsP o c 0 (more most 0) [] s = acc ++ [s.drop f] := by
  rw [h.1, List.drop_of_length_le hk]
  unfold midT
  rw [List.take_of_length_le hk]
  rfl
theorem drop_extract (s : T) (f : Nat) : (bs s).extract f (bs s).size = bs (s.drop f) := Pure.ext_data (by rw [Lib.extract_to_end]; rfl)

set_option maxRecDepth 100000 in
set_option maxHeartbeats 8000000 in
theorem args_is (s : T) (most : Nat) (o c : UInt8) (w : World) (hs : s.length ≤ 1000000) (hm : most ≤ 100) :
    Calls Try.prog 49 #[.string (bs s), .int .i64 most, .int .u8 ((o.toNat : Nat) : Int), .int .u8 ((c.toNat : Nat) : Int)] w fun e w' => ∃ v, e = .returned v ∧ w'.ownsRow w.heap.size 9 1 v (argsP o c 0 (more most 0) [] s).length (vals (argsP o c 0 (more most 0) [] s)) ∧ Below w.heap.size w w' := by
  obtain ⟨i0, hi, hz0, hz1, hz2⟩ := info_parts infoString
  have hsz : (bs s).size = s.length := Pure.size_bs s
  go_enter Try.func49, Try.ntmps49
  go_wp2_with fail
  go_loopw [9, 10, 11, 12] (fun v dv fv i wr => ∃ (d f k : Nat) (acc : List T), d ≤ k ∧ f ≤ k ∧ k ≤ s.length ∧ acc.length ≤ k ∧ dv = .int .i64 d ∧ fv = .int .i64 f ∧ i = .int .i64 k ∧ wr.ownsRow w.heap.size 9 1 v acc.length (vals acc) ∧ Hid (Below w.heap.size w wr) ∧ Hid (At o c most s d f k acc)) (fun _ _ _ i _ => s.length - (intOf i).toNat)
  case atStart => exact ⟨0, 0, 0, [], Nat.le_refl _, Nat.le_refl _, Nat.zero_le _, Nat.le_refl _, rfl, rfl, rfl, World.ownsRow_nil _ _ _ _, Below.refl _ _, at_start _ _ _ _⟩
  case round =>
    obtain ⟨d, f, k, acc, hdk, hfk, hk, hacc, rfl, rfl, rfl, hown, HB, HA⟩ := hrel
    obtain ⟨A9, c9, rfl, _⟩ := slIs_of_own (w := wr) (xs := acc.map bs) (n := acc.length) (List.length_map _) hown
    by_cases hlt : k < s.length
    · have hb : ((((bs s)[k]'(by rw [hsz]; exact hlt)).toNat : Nat) : Int) = (((s[k]).toNat : Nat) : Int) := rfl
      have e1 := u8_eq s[k] o
      have e2 := u8_eq s[k] c
      have e3 := u8_eq s[k] 44
      rw [show (((44 : UInt8).toNat : Nat) : Int) = 44 from rfl] at e3
      by_cases h1 : s[k] = o
      · rw [decide_eq_true h1] at e1
        have HN : Hid (At o c most s (d + 1) f (k + 1) acc) := at_next hfk hlt HA.out fun m cur r _ => by rw [argsP, if_pos h1]
        have HO := Lib.hid hown
        clear h1 e2 e3 hown
        generalize s[k] = x at *
        go_wp2_with fail
        go_roundw
        case rel => exact ⟨d + 1, f, k + 1, acc, by omega, by omega, by omega, by omega, by go_num, rfl, by go_num, HO.out, HB.out, HN⟩
        case measure => simp [intOf]; omega
      · rw [decide_eq_false h1] at e1
        by_cases h2 : s[k] = c
        · rw [decide_eq_true h2] at e2
          have HN : Hid (At o c most s (d - 1) f (k + 1) acc) := at_next hfk hlt HA.out fun m cur r _ => by rw [argsP, if_neg h1, if_pos h2]
          have hmax : max (((d : Nat) : Int) - 1) 0 = ((d - 1 : Nat) : Int) := by omega
          have HO := Lib.hid hown
          clear h1 h2 e3 hown
          generalize s[k] = x at *
          go_wp2_with fail
          go_roundw
          case rel => exact ⟨d - 1, f, k + 1, acc, by omega, by omega, by omega, by omega, by first | rfl | (rw [hmax]) | go_num, rfl, by go_num, HO.out, HB.out, HN⟩
          case measure => simp [intOf]; omega
        · rw [decide_eq_false h2] at e2
          by_cases h3 : s[k] = 44 ∧ d = 0 ∧ (most = 0 ∨ acc.length + 1 < most)
          · obtain ⟨h3, rfl, h4⟩ := h3
            rw [decide_eq_true h3] at e3
            have HN : Hid (At o c most s 0 (k + 1) (k + 1) (acc ++ [midT s f k])) := at_cut hlt HA.out h1 h2 h3 h4
            have hex := mid_extract s f k
            have hfk2 : (f : Int) ≤ (k : Int) := by omega
            clear h1 h2 h3
            generalize s[k] = x at *
            rcases h4 with h4 | h4
            · have hm0 : (((most : Nat) : Int) == 0) = true := by rw [h4]; rfl
              clear h4
              go_wp2_with (at_builtin; refine wpList_append_own _ rfl _ _ 94 rfl w.heap.size 9 i0 (.string .empty) 1 16 Try.underlying94 hi hz0 hz1 hz2 rfl (by decide) _ _ _ rfl (hown.alloc _) ⟨wr.heap.size, 0, none⟩ 1 1 [.string (bs (midT s f k))] rfl rfl (cell_one_new _ _ _) (by simp [Value.oneCell']) (by unfold maxLen; omega) (by omega) (by have := HB.out.size; simp; omega) ?_; intro v' wA hown' hgrow _; have HOA := Lib.hid hown'; have HGA := Lib.hid (below_append HB.out HB.out.size hown hgrow); clear hown' hgrow)
              have HOB : Hid (wA.ownsRow w.heap.size 9 1 v' (acc ++ [midT s f k]).length (vals (acc ++ [midT s f k]))) := by
                rw [List.length_append, List.length_singleton, vals_snoc]; exact HOA.out
              go_roundw
              case rel => exact ⟨0, k + 1, k + 1, acc ++ [midT s f k], by omega, by omega, by omega, by rw [List.length_append, List.length_singleton]; omega, rfl, by go_num, by go_num, HOB.out, HGA.out, HN⟩
              case measure => simp [intOf]; omega
            · have hm0 : (((most : Nat) : Int) == 0) = false := by rw [beq_eq_false_iff_ne]; omega
              have hm1 : ((acc.length : Nat) : Int) + 1 < (most : Int) := by omega
              go_wp2_with (at_builtin; refine wpList_append_own _ rfl _ _ 94 rfl w.heap.size 9 i0 (.string .empty) 1 16 Try.underlying94 hi hz0 hz1 hz2 rfl (by decide) _ _ _ rfl (hown.alloc _) ⟨wr.heap.size, 0, none⟩ 1 1 [.string (bs (midT s f k))] rfl rfl (cell_one_new _ _ _) (by simp [Value.oneCell']) (by unfold maxLen; omega) (by omega) (by have := HB.out.size; simp; omega) ?_; intro v' wA hown' hgrow _; have HOA := Lib.hid hown'; have HGA := Lib.hid (below_append HB.out HB.out.size hown hgrow); clear hown' hgrow)
              have HOB : Hid (wA.ownsRow w.heap.size 9 1 v' (acc ++ [midT s f k]).length (vals (acc ++ [midT s f k]))) := by
                rw [List.length_append, List.length_singleton, vals_snoc]; exact HOA.out
              go_roundw
              case rel => exact ⟨0, k + 1, k + 1, acc ++ [midT s f k], by omega, by omega, by omega, by rw [List.length_append, List.length_singleton]; omega, rfl, by go_num, by go_num, HOB.out, HGA.out, HN⟩
              case measure => simp [intOf]; omega
          · have HN : Hid (At o c most s d f (k + 1) acc) := at_next hfk hlt HA.out fun m cur r hmo => by
              rw [argsP, if_neg h1, if_neg h2, if_neg]
              rintro ⟨g1, g2, g3⟩
              refine h3 ⟨g1, g2, ?_⟩
              rw [hmo] at g3
              unfold more at g3
              by_cases hm0 : most = 0
              · exact .inl hm0
              · rw [if_neg hm0] at g3
                right
                have : most - 1 - acc.length ≠ 0 := fun e => g3 (by rw [e])
                omega
            have HO := Lib.hid hown
            clear hown
            by_cases g1 : s[k] = 44
            · rw [decide_eq_true g1] at e3
              by_cases g2 : d = 0
              · have g3 : ¬ most = 0 := fun e => h3 ⟨g1, g2, .inl e⟩
                have g4 : ¬ acc.length + 1 < most := fun e => h3 ⟨g1, g2, .inr e⟩
                subst g2
                have hm0 : (((most : Nat) : Int) == 0) = false := by rw [beq_eq_false_iff_ne]; omega
                have hm1 : ¬ ((acc.length : Nat) : Int) + 1 < (most : Int) := by omega
                clear h1 h2 h3 g1
                generalize s[k] = x at *
                go_wp2_with fail
                go_roundw
                case rel => exact ⟨0, f, k + 1, acc, by omega, by omega, by omega, by omega, rfl, rfl, by go_num, HO.out, HB.out, HN⟩
                case measure => simp [intOf]; omega
              · have hd0 : (((d : Nat) : Int) == 0) = false := by rw [beq_eq_false_iff_ne]; omega
                clear h1 h2 h3 g1
                generalize s[k] = x at *
                go_wp2_with fail
                go_roundw
                case rel => exact ⟨d, f, k + 1, acc, by omega, by omega, by omega, by omega, rfl, rfl, by go_num, HO.out, HB.out, HN⟩
                case measure => simp [intOf]; omega
            · rw [decide_eq_false g1] at e3
              clear h1 h2 h3 g1
              generalize s[k] = x at *
              go_wp2_with fail
              go_roundw
              case rel => exact ⟨d, f, k + 1, acc, by omega, by omega, by omega, by omega, rfl, rfl, by go_num, HO.out, HB.out, HN⟩
              case measure => simp [intOf]; omega
    · have HE := Lib.hid (at_end (by omega) HA.out)
      have hex := drop_extract s f
      rw [hsz] at hex
      have hfs : (f : Int) ≤ (s.length : Int) := by omega
      go_wp2_with (at_builtin; refine wpList_append_own _ rfl _ _ 94 rfl w.heap.size 9 i0 (.string .empty) 1 16 Try.underlying94 hi hz0 hz1 hz2 rfl (by decide) _ _ _ rfl (hown.alloc _) ⟨wr.heap.size, 0, none⟩ 1 1 [.string (bs (s.drop f))] rfl rfl (cell_one_new _ _ _) (by simp [Value.oneCell']) (by unfold maxLen; omega) (by omega) (by have := HB.out.size; simp; omega) ?_; intro v' wA hown' hgrow _; have HOA := Lib.hid hown'; have HGA := Lib.hid (below_append HB.out HB.out.size hown hgrow); clear hown' hgrow)
      go_ret
      rw [HE.out]
      refine ⟨_, rfl, ?_, HGA.out⟩
      rw [List.length_append, List.length_singleton, vals_snoc]; exact HOA.out

end Go.Proofs.Ytfenlhbkdfmneaa.Qargs
