/- The document's cuts: the places of a substitution's colon and equals sign. -/
import Derived.Test.YtfenlhbkdfmneaaQends
namespace Go.Proofs.Ytfenlhbkdfmneaa.Qcuts
open Go.RowKit Go.Proofs.Ytfenlhbkdfmneaa.Spl Go.Proofs.Ytfenlhbkdfmneaa.Qends
open Go.Proofs.Ytfenlhbkdfmneaa.Pure (bs)

theorem colon_split : ∀ (s : T) (d : Nat) (cur a r : T), colonP d cur s = some (a, r) → cur ++ s = a ++ 58 :: r
  | [], _, _, _, _, h => by cases h
  | b :: s, d, cur, a, r, h => by
    have hi : ∀ d', colonP d' (cur ++ [b]) s = some (a, r) → cur ++ b :: s = a ++ 58 :: r := fun d' h' => by
      have := colon_split s d' _ a r h'
      rw [List.append_assoc] at this
      exact this
    rw [colonP] at h
    split at h
    · exact hi _ h
    · split at h
      · exact hi _ h
      · split at h
        · rename_i hb
          cases h
          rw [hb.1]
        · exact hi _ h
theorem equal_split : ∀ (s : T) (d : Nat) (cur a r : T), equalP d cur s = some (a, r) → cur ++ s = a ++ 61 :: r
  | [], _, _, _, _, h => by cases h
  | b :: s, d, cur, a, r, h => by
    have hi : ∀ d', equalP d' (cur ++ [b]) s = some (a, r) → cur ++ b :: s = a ++ 61 :: r := fun d' h' => by
      have := equal_split s d' _ a r h'
      rw [List.append_assoc] at this
      exact this
    rw [equalP] at h
    split at h
    · exact hi _ h
    · split at h
      · exact hi _ h
      · split at h
        · rename_i hb
          cases h
          rw [hb.1]
        · exact hi _ h
theorem cuts_split {s a b c : T} (h : cutsP s = some (a, b, c)) : s = a ++ 58 :: (b ++ 61 :: c) := by
  unfold cutsP at h
  cases h1 : colonP 0 [] s with
  | none => simp only [h1] at h; cases h
  | some x =>
    obtain ⟨a', r⟩ := x
    simp only [h1] at h
    cases h2 : equalP 0 [] r with
    | none => simp only [h2] at h; cases h
    | some y =>
      obtain ⟨b', c'⟩ := y
      simp only [h2] at h
      cases h
      have e1 := colon_split _ _ _ _ _ h1
      have e2 := equal_split _ _ _ _ _ h2
      rw [List.nil_append] at e1 e2
      rw [e1, e2]
/-- where they stand -/
def cutI (s : T) : Int × Int := match cutsP s with
  | none => (-1, -1)
  | some (a, b, _) => ((a.length : Nat), ((a.length + 1 + b.length : Nat) : Int))
/-- how far the search has come: d brackets open, the colon at m (none as yet: below 0) -/
def Cut (s : T) (d k : Nat) (m : Int) : Prop :=
  (m = -1 ∧ colonP 0 [] s = colonP d (s.take k) (s.drop k)) ∨
  ∃ c : Nat, m = c ∧ c < k ∧ colonP 0 [] s = some (s.take c, s.drop (c + 1)) ∧ equalP 0 [] (s.drop (c + 1)) = equalP d ((s.drop (c + 1)).take (k - (c + 1))) (s.drop k)
theorem take_next {s : T} {c k : Nat} (hc : c < k) (hk : k < s.length) : (s.drop (c + 1)).take (k + 1 - (c + 1)) = (s.drop (c + 1)).take (k - (c + 1)) ++ [s[k]] := by
  have e : k + 1 - (c + 1) = (k - (c + 1)) + 1 := by omega
  have hl : k - (c + 1) < (s.drop (c + 1)).length := by rw [List.length_drop]; omega
  rw [e, List.take_succ_eq_append_getElem hl, List.getElem_drop]
  congr 3
  omega
theorem cut_same {s : T} {d d' k : Nat} {m : Int} (hk : k < s.length) (h : Cut s d k m) (h1 : m = -1 → ∀ cur r, colonP d cur (s[k] :: r) = colonP d' (cur ++ [s[k]]) r) (h2 : 0 ≤ m → ∀ cur r, equalP d cur (s[k] :: r) = equalP d' (cur ++ [s[k]]) r) : Cut s d' (k + 1) m := by
  have hd : s.drop k = s[k] :: s.drop (k + 1) := List.drop_eq_getElem_cons hk
  rcases h with ⟨e, h⟩ | ⟨c, e, hc, h3, h4⟩
  · refine .inl ⟨e, ?_⟩
    rw [h, hd, h1 e, List.take_succ_eq_append_getElem hk]
  · refine .inr ⟨c, e, by omega, h3, ?_⟩
    rw [h4, hd, h2 (by omega), take_next hc hk]
theorem cut_colon {s : T} {k : Nat} (hk : k < s.length) (h : Cut s 0 k (-1)) (hb : s[k] = 58) : Cut s 0 (k + 1) (k : Int) := by
  have hd : s.drop k = s[k] :: s.drop (k + 1) := List.drop_eq_getElem_cons hk
  rcases h with ⟨_, h⟩ | ⟨c, e, _⟩
  · refine .inr ⟨k, rfl, by omega, ?_, ?_⟩
    · rw [h, hd, hb]; rfl
    · rw [Nat.sub_self, List.take_zero]
  · omega
theorem cut_found {s : T} {k : Nat} {m : Int} (hk : k < s.length) (h : Cut s 0 k m) (hm : 0 ≤ m) (hb : s[k] = 61) : cutI s = (m, (k : Int)) := by
  have hd : s.drop k = s[k] :: s.drop (k + 1) := List.drop_eq_getElem_cons hk
  rcases h with ⟨e, _⟩ | ⟨c, e, hc, h3, h4⟩
  · omega
  · rw [hd, hb] at h4
    have h5 : equalP 0 [] (s.drop (c + 1)) = some ((s.drop (c + 1)).take (k - (c + 1)), s.drop (k + 1)) := by rw [h4]; rfl
    unfold cutI cutsP
    rw [h3]
    show (match (match equalP 0 [] (s.drop (c + 1)) with | none => none | some (b, x) => some (s.take c, b, x) : Option (T × T × T)) with
      | none => ((-1 : Int), (-1 : Int))
      | some (a, b, _) => (((a.length : Nat) : Int), ((a.length + 1 + b.length : Nat) : Int))) = _
    rw [h5]
    show ((((s.take c).length : Nat) : Int), (((s.take c).length + 1 + ((s.drop (c + 1)).take (k - (c + 1))).length : Nat) : Int)) = _
    rw [List.length_take, List.length_take, List.length_drop, e]
    refine Prod.ext ?_ ?_
    · show ((min c s.length : Nat) : Int) = _
      omega
    · show ((min c s.length + 1 + min (k - (c + 1)) (s.length - (c + 1)) : Nat) : Int) = _
      omega
theorem cut_end {s : T} {d k : Nat} {m : Int} (hk : s.length ≤ k) (h : Cut s d k m) : cutI s = (-1, -1) := by
  unfold cutI cutsP
  rcases h with ⟨_, h⟩ | ⟨c, _, _, h3, h4⟩
  · rw [h, List.drop_of_length_le hk]; rfl
  · rw [List.drop_of_length_le hk] at h4
    rw [h3]
    show (match (match equalP 0 [] (s.drop (c + 1)) with | none => none | some (b, x) => some (s.take c, b, x) : Option (T × T × T)) with
      | none => ((-1 : Int), (-1 : Int))
      | some (a, b, _) => (((a.length : Nat) : Int), ((a.length + 1 + b.length : Nat) : Int))) = _
    rw [h4]; rfl
theorem col_in {d : Nat} {b : UInt8} (hb : b = 40 ∨ b = 123) (cur r : T) : colonP d cur (b :: r) = colonP (d + 1) (cur ++ [b]) r ∧ equalP d cur (b :: r) = equalP (d + 1) (cur ++ [b]) r := by
  rw [colonP, equalP, if_pos hb, if_pos hb]; exact ⟨rfl, rfl⟩
theorem col_out {d : Nat} {b : UInt8} (hb : b = 41 ∨ b = 125) (cur r : T) : colonP d cur (b :: r) = colonP (d - 1) (cur ++ [b]) r ∧ equalP d cur (b :: r) = equalP (d - 1) (cur ++ [b]) r := by
  have hn : ¬ (b = 40 ∨ b = 123) := by rcases hb with rfl | rfl <;> decide
  rw [colonP, equalP, if_neg hn, if_neg hn, if_pos hb, if_pos hb]; exact ⟨rfl, rfl⟩
theorem col_other {d : Nat} {b : UInt8} (h1 : ¬ (b = 40 ∨ b = 123)) (h2 : ¬ (b = 41 ∨ b = 125)) (cur r : T) : (¬ (b = 58 ∧ d = 0) → colonP d cur (b :: r) = colonP d (cur ++ [b]) r) ∧ (¬ (b = 61 ∧ d = 0) → equalP d cur (b :: r) = equalP d (cur ++ [b]) r) := by
  refine ⟨fun h => ?_, fun h => ?_⟩
  · rw [colonP, if_neg h1, if_neg h2, if_neg h]
  · rw [equalP, if_neg h1, if_neg h2, if_neg h]

set_option maxRecDepth 100000 in
set_option maxHeartbeats 4000000 in
theorem cuts_is (s : T) (w : World) (hs : s.length ≤ 1000000) :
    Calls Try.prog 52 #[.string (bs s)] w fun e w' => e = .returned (.tuple #[.int .i64 (cutI s).1, .int .i64 (cutI s).2]) ∧ w = w' := by
  have hsz : (bs s).size = s.length := Pure.size_bs s
  go_enter Try.func52, Try.ntmps52
  go_wp2_with fail
  go_loop [4, 5, 6] (fun dv mv i => ∃ (d k : Nat) (m : Int), d ≤ k ∧ k ≤ s.length ∧ (-1 ≤ m ∧ m ≤ (k : Int)) ∧ dv = .int .i64 d ∧ mv = .int .i64 m ∧ i = .int .i64 k ∧ Hid (Cut s d k m)) (fun _ _ i => s.length - (intOf i).toNat)
  case atStart => exact ⟨0, 0, -1, Nat.le_refl _, Nat.zero_le _, ⟨by omega, by omega⟩, rfl, rfl, rfl, .inl ⟨rfl, rfl⟩⟩
  case round =>
    obtain ⟨d, k, m, hdk, hk, ⟨hm1, hm2⟩, rfl, rfl, rfl, HC⟩ := hrel
    by_cases hlt : k < s.length
    · have hb : ((((bs s)[k]'(by rw [hsz]; exact hlt)).toNat : Nat) : Int) = (((s[k]).toNat : Nat) : Int) := rfl
      by_cases h1 : s[k] = 40 ∨ s[k] = 123
      · have HN : Hid (Cut s (d + 1) (k + 1) m) := cut_same hlt HC.out (fun _ cur r => (col_in h1 cur r).1) (fun _ cur r => (col_in h1 cur r).2)
        rcases h1 with h1 | h1
        · have hx : ((((bs s)[k]'(by rw [hsz]; exact hlt)).toNat : Nat) : Int) = 40 := by rw [hb, h1]; rfl
          clear hb h1
          go_wp2_with fail
          go_round
          case rel => exact ⟨d + 1, k + 1, m, by omega, by omega, ⟨by omega, by omega⟩, by go_num, rfl, by go_num, HN⟩
          case measure => simp [intOf]; omega
        · have hx : ((((bs s)[k]'(by rw [hsz]; exact hlt)).toNat : Nat) : Int) = 123 := by rw [hb, h1]; rfl
          clear hb h1
          go_wp2_with fail
          go_round
          case rel => exact ⟨d + 1, k + 1, m, by omega, by omega, ⟨by omega, by omega⟩, by go_num, rfl, by go_num, HN⟩
          case measure => simp [intOf]; omega
      · by_cases h2 : s[k] = 41 ∨ s[k] = 125
        · have HN : Hid (Cut s (d - 1) (k + 1) m) := cut_same hlt HC.out (fun _ cur r => (col_out h2 cur r).1) (fun _ cur r => (col_out h2 cur r).2)
          have hmax : max (((d : Nat) : Int) - 1) 0 = ((d - 1 : Nat) : Int) := by omega
          rcases h2 with h2 | h2
          · have hx : ((((bs s)[k]'(by rw [hsz]; exact hlt)).toNat : Nat) : Int) = 41 := by rw [hb, h2]; rfl
            clear hb h1 h2
            go_wp2_with fail
            go_round
            case rel => exact ⟨d - 1, k + 1, m, by omega, by omega, ⟨by omega, by omega⟩, by first | rfl | (rw [hmax]) | go_num, rfl, by go_num, HN⟩
            case measure => simp [intOf]; omega
          · have hx : ((((bs s)[k]'(by rw [hsz]; exact hlt)).toNat : Nat) : Int) = 125 := by rw [hb, h2]; rfl
            clear hb h1 h2
            go_wp2_with fail
            go_round
            case rel => exact ⟨d - 1, k + 1, m, by omega, by omega, ⟨by omega, by omega⟩, by first | rfl | (rw [hmax]) | go_num, rfl, by go_num, HN⟩
            case measure => simp [intOf]; omega
        · have hx1 : ((((bs s)[k]'(by rw [hsz]; exact hlt)).toNat : Nat) : Int) = (((s[k]).toNat : Nat) : Int) := hb
          have nat : ∀ c : UInt8, s[k] ≠ c → ((((s[k]).toNat : Nat) : Int) == ((c.toNat : Nat) : Int)) = false := fun c hc => by rw [u8_eq, decide_eq_false hc]
          have n1 := nat 40 (fun e => h1 (.inl e))
          have n2 := nat 123 (fun e => h1 (.inr e))
          have n3 := nat 41 (fun e => h2 (.inl e))
          have n4 := nat 125 (fun e => h2 (.inr e))
          rw [show (((40 : UInt8).toNat : Nat) : Int) = 40 from rfl] at n1
          rw [show (((123 : UInt8).toNat : Nat) : Int) = 123 from rfl] at n2
          rw [show (((41 : UInt8).toNat : Nat) : Int) = 41 from rfl] at n3
          rw [show (((125 : UInt8).toNat : Nat) : Int) = 125 from rfl] at n4
          have hother := col_other (d := d) h1 h2
          by_cases h3 : s[k] = 58
          · have hx : ((((bs s)[k]'(by rw [hsz]; exact hlt)).toNat : Nat) : Int) = 58 := by rw [hb, h3]; rfl
            by_cases h4 : d = 0 ∧ m = -1
            · obtain ⟨rfl, rfl⟩ := h4
              have HN : Hid (Cut s 0 (k + 1) (k : Int)) := cut_colon hlt HC.out h3
              clear hb h1 h2 hx1 n1 n2 n3 n4 nat hother h3
              go_wp2_with fail
              go_round
              case rel => exact ⟨0, k + 1, (k : Int), by omega, by omega, ⟨by omega, by omega⟩, rfl, rfl, by go_num, HN⟩
              case measure => simp [intOf]; omega
            · have HN : Hid (Cut s d (k + 1) m) := cut_same hlt HC.out (fun e cur r => (hother cur r).1 (fun e2 => h4 ⟨e2.2, e⟩)) (fun _ cur r => (hother cur r).2 (fun e => by rw [h3] at e; exact absurd e.1 (by decide)))
              clear hb h1 h2 hx1 n1 n2 n3 n4 nat hother h3
              by_cases h5 : d = 0
              · subst h5
                have h6 : ¬ m < 0 := fun h => h4 ⟨rfl, by omega⟩
                go_wp2_with fail
                go_round
                case rel => exact ⟨0, k + 1, m, by omega, by omega, ⟨by omega, by omega⟩, rfl, rfl, by go_num, HN⟩
                case measure => simp [intOf]; omega
              · have h7 : (((d : Nat) : Int) == 0) = false := by rw [beq_eq_false_iff_ne]; omega
                go_wp2_with fail
                go_round
                case rel => exact ⟨d, k + 1, m, by omega, by omega, ⟨by omega, by omega⟩, rfl, rfl, by go_num, HN⟩
                case measure => simp [intOf]; omega
          · have n5 := nat 58 h3
            rw [show (((58 : UInt8).toNat : Nat) : Int) = 58 from rfl] at n5
            by_cases h6 : s[k] = 61
            · have hx : ((((bs s)[k]'(by rw [hsz]; exact hlt)).toNat : Nat) : Int) = 61 := by rw [hb, h6]; rfl
              by_cases h4 : d = 0 ∧ 0 ≤ m
              · obtain ⟨rfl, hm0⟩ := h4
                have HE := Lib.hid (cut_found hlt HC.out hm0 h6)
                clear hb h1 h2 hx1 n1 n2 n3 n4 n5 nat hother h3 h6
                go_wp2
                go_ret2
                rw [HE.out]
                exact ⟨rfl, rfl⟩
              · have HN : Hid (Cut s d (k + 1) m) := cut_same hlt HC.out (fun _ cur r => (hother cur r).1 (fun e => h3 e.1)) (fun e cur r => (hother cur r).2 (fun e2 => h4 ⟨e2.2, e⟩))
                clear hb h1 h2 hx1 n1 n2 n3 n4 n5 nat hother h3 h6
                by_cases h5 : d = 0
                · subst h5
                  have h6 : ¬ (0 : Int) ≤ m := fun h => h4 ⟨rfl, h⟩
                  go_wp2_with fail
                  go_round
                  case rel => exact ⟨0, k + 1, m, by omega, by omega, ⟨by omega, by omega⟩, rfl, rfl, by go_num, HN⟩
                  case measure => simp [intOf]; omega
                · have h7 : (((d : Nat) : Int) == 0) = false := by rw [beq_eq_false_iff_ne]; omega
                  go_wp2_with fail
                  go_round
                  case rel => exact ⟨d, k + 1, m, by omega, by omega, ⟨by omega, by omega⟩, rfl, rfl, by go_num, HN⟩
                  case measure => simp [intOf]; omega
            · have n6 := nat 61 h6
              rw [show (((61 : UInt8).toNat : Nat) : Int) = 61 from rfl] at n6
              have HN : Hid (Cut s d (k + 1) m) := cut_same hlt HC.out (fun _ cur r => (hother cur r).1 (fun e => h3 e.1)) (fun _ cur r => (hother cur r).2 (fun e => h6 e.1))
              clear h1 h2 hx1 nat hother h3 h6
              generalize s[k] = x at *
              go_wp2_with fail
              go_round
              case rel => exact ⟨d, k + 1, m, by omega, by omega, ⟨by omega, by omega⟩, rfl, rfl, by go_num, HN⟩
              case measure => simp [intOf]; omega
    · have HE := Lib.hid (cut_end (by omega) HC.out)
      go_wp2
      go_ret2
      rw [HE.out]
      exact ⟨rfl, rfl⟩

end Go.Proofs.Ytfenlhbkdfmneaa.Qcuts
