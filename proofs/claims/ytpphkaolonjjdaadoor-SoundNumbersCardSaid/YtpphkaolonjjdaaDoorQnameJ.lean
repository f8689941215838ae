/- The document's name: the function that a text begins a call of. -/
import Derived.Lib.SplitLaws
import Derived.Test.YtpphkaolonjjdaaDoorQendsJ
import Derived.Test.YtpphkaolonjjdaaDoorFrsJ
namespace Go.Proofs.YtpphkaolonjjdaaDoor.Qname
open Go.RowKit Go.Proofs.YtpphkaolonjjdaaDoor.Spl Go.Proofs.YtpphkaolonjjdaaDoor.Qends Go.Proofs.YtpphkaolonjjdaaDoor.Frd
open Go.Proofs.YtpphkaolonjjdaaDoor.Pure (bs isBl)
open Go.Proofs.YtpphkaolonjjdaaDoor.Fpl (lookI tab zero)

def nameT (s : T) : T := match nameP s with
  | some x => x.1
  | none => []
def lead (s : T) : T := s.takeWhile letB
theorem lead_take {s : T} {k : Nat} (h : ∀ x ∈ s.take k, letB x = true) (hk : k ≤ s.length) (hn : ∀ h : k < s.length, letB s[k] = false) : lead s = s.take k ∧ s.dropWhile letB = s.drop k := by
  have e : s = s.take k ++ s.drop k := (List.take_append_drop k s).symm
  have h1 : (s.drop k).takeWhile letB = [] ∧ (s.drop k).dropWhile letB = s.drop k := by
    by_cases hl : k < s.length
    · rw [List.drop_eq_getElem_cons hl, List.takeWhile_cons_of_neg (by rw [hn hl]; exact Bool.false_ne_true), List.dropWhile_cons_of_neg (by rw [hn hl]; exact Bool.false_ne_true)]
      exact ⟨rfl, rfl⟩
    · rw [List.drop_of_length_le (by omega)]; exact ⟨rfl, rfl⟩
  have h2 := List.takeWhile_append_of_pos (l₁ := s.take k) (l₂ := s.drop k) h
  have h3 := List.dropWhile_append_of_pos (l₁ := s.take k) (l₂ := s.drop k) h
  rw [← e, h1.1, List.append_nil] at h2
  rw [← e, h1.2] at h3
  exact ⟨h2, h3⟩
theorem letB_cases (x : UInt8) : (letB x = true ∧ ((97 ≤ x.toNat ∧ x.toNat ≤ 122 ∧ x.toNat ≠ 45) ∨ x.toNat = 45)) ∨ (letB x = false ∧ (x.toNat < 97 ∨ 122 < x.toNat) ∧ x.toNat ≠ 45) := by
  have e1 : (97 ≤ x) ↔ 97 ≤ x.toNat := by rw [UInt8.le_iff_toNat_le]; exact Iff.rfl
  have e2 : (x ≤ 122) ↔ x.toNat ≤ 122 := by rw [UInt8.le_iff_toNat_le]; exact Iff.rfl
  have e3 : (x == 45) = decide (x.toNat = 45) := by
    rw [Bool.eq_iff_iff, beq_iff_eq, decide_eq_true_iff, ← UInt8.toNat_inj]; exact Iff.rfl
  unfold letB
  rw [e3]
  simp only [e1, e2]
  by_cases h1 : 97 ≤ x.toNat <;> by_cases h2 : x.toNat ≤ 122 <;> by_cases h3 : x.toNat = 45 <;> simp [h1, h2, h3] <;> omega
theorem extract_take (s : T) (k : Nat) : (bs s).extract 0 k = bs (s.take k) := Pure.ext_data (by rw [Lib.extract_from_zero]; rfl)

set_option maxRecDepth 100000 in
set_option maxHeartbeats 4000000 in
theorem name_is (s : T) (w : World) (hs : s.length ≤ 1000000) :
    Calls Tryd.prog 40 #[.string (bs s)] w fun e w' => e = .returned (.string (bs (nameT s))) ∧ Below w.heap.size w w' := by
  have hsz : (bs s).size = s.length := Pure.size_bs s
  have HNm : Hid (nameT s = match s.dropWhile letB, lookI tab (lead s) with
    | b :: _, some _ => if isBl b then lead s else []
    | _, _ => []) := by
    show _ = _
    unfold nameT nameP lead
    cases s.dropWhile letB with
    | nil => rfl
    | cons b r =>
      cases lookI tab (s.takeWhile letB) with
      | none => rfl
      | some i =>
        show (match (if isBl b then some (s.takeWhile letB, b :: r, i) else none) with
          | some x => x.1
          | none => []) = if isBl b then s.takeWhile letB else []
        cases isBl b <;> rfl
  go_enter Tryd.func40, Tryd.ntmps40
  go_wp2_with fail
  go_loop [3] (fun i => ∃ k : Nat, k ≤ s.length ∧ i = .int .i64 k ∧ Hid (∀ x ∈ s.take k, letB x = true)) (fun i => s.length - (intOf i).toNat)
  case atStart => exact ⟨0, Nat.zero_le _, rfl, fun x hx => by cases hx⟩
  case round =>
    obtain ⟨k, hk, rfl, HA⟩ := hrel
    by_cases hgo : ∃ h : k < s.length, letB s[k] = true
    · obtain ⟨hlt, hl⟩ := hgo
      have hb : ((((bs s)[k]'(by rw [hsz]; exact hlt)).toNat : Nat) : Int) = (((s[k]).toNat : Nat) : Int) := rfl
      have HN : Hid (∀ x ∈ s.take (k + 1), letB x = true) := fun x hx => by
        rw [List.take_succ_eq_append_getElem hlt] at hx
        rcases List.mem_append.1 hx with h | h
        · exact HA.out x h
        · rw [List.mem_singleton.1 h]; exact hl
      rcases letB_cases s[k] with ⟨_, hc⟩ | ⟨h0, _⟩
      · clear hl
        generalize s[k] = x at *
        rcases hc with ⟨c1, c2, c3⟩ | c1
        · have t1 : (97 : Int) ≤ ((x.toNat : Nat) : Int) := by omega
          have t2 : ((x.toNat : Nat) : Int) ≤ 122 := by omega
          go_wp2_with fail
          go_round
          case rel => exact ⟨k + 1, by omega, by go_num, HN⟩
          case measure => simp [intOf]; omega
        · have t1 : ((x.toNat : Nat) : Int) = 45 := by omega
          rw [t1] at hb
          go_wp2_with fail
          go_round
          case rel => exact ⟨k + 1, by omega, by go_num, HN⟩
          case measure => simp [intOf]; omega
      · rw [hl] at h0; cases h0
    · have hn : ∀ h : k < s.length, letB s[k] = false := fun h => by
        cases hx : letB s[k] with
        | false => rfl
        | true => exact absurd ⟨h, hx⟩ hgo
      obtain ⟨hlead, hdrop⟩ := lead_take HA.out hk hn
      have HFi := Lib.hid (fun W => refFind_is (bs (s.take k)) W)
      have hfv : refV (bs (s.take k)) = .tuple #[.agg #[.int .i64 ((lookI tab (s.take k)).getD zero).mn, .int .i64 ((lookI tab (s.take k)).getD zero).mx, .bool ((lookI tab (s.take k)).getD zero).lz, .bool ((lookI tab (s.take k)).getD zero).pu], .bool (lookI tab (s.take k)).isSome] := by
        unfold refV
        rw [show (bs (s.take k)).data.toList = s.take k from rfl, refI_eq]; rfl
      rw [hfv] at HFi
      have HR := HNm.out
      rw [hlead, hdrop] at HR
      have HR := Lib.hid HR
      have hex := extract_take s k
      have HR0 : Hid ((lookI tab (s.take k)).isSome = false → nameT s = []) := fun h => by
        rw [HR.out]
        cases hl : lookI tab (s.take k) with
        | none => cases s.drop k <;> rfl
        | some i => rw [hl] at h; cases h
      generalize hq : (lookI tab (s.take k)).getD zero = q at HFi
      clear hq hfv HA HNm hlead hdrop
      by_cases hlt : k < s.length
      · have hb : ((((bs s)[k]'(by rw [hsz]; exact hlt)).toNat : Nat) : Int) = (((s[k]).toNat : Nat) : Int) := rfl
        have HR1 : Hid ((lookI tab (s.take k)).isSome = true → nameT s = if isBl s[k] then s.take k else []) := fun h => by
          rw [HR.out, List.drop_eq_getElem_cons hlt]
          cases hl : lookI tab (s.take k) with
          | none => rw [hl] at h; cases h
          | some i => rfl
        rcases letB_cases s[k] with ⟨h0, _⟩ | ⟨_, hc, h45⟩
        · rw [hn hlt] at h0; cases h0
        · clear HR hn hgo
          generalize (lookI tab (s.take k)).isSome = r at *
          generalize s[k] = x at *
          have t3 : (((x.toNat : Nat) : Int) == 45) = false := by rw [beq_eq_false_iff_ne]; omega
          have t4 : ¬ ((x.toNat : Nat) : Int) = 45 := by omega
          rcases hc with hc | hc
          · have t1 : ¬ (97 : Int) ≤ ((x.toNat : Nat) : Int) := by omega
            go_wp2_with fail
            refine (HFi.out _).mono ?_
            rintro e W2 ⟨rfl, hb2⟩
            have HB2 := Lib.hid (hb2.alloc hb2.size (.cells #[.int .i64 q.mn, .int .i64 q.mx, .bool q.lz, .bool q.pu] 73))
            clear hb2 HFi
            cases r with
            | false =>
              have HE := Lib.hid (HR0.out rfl)
              go_wp2
              go_ret
              rw [HE.out]
              exact ⟨rfl, HB2.out⟩
            | true =>
              have HE := Lib.hid (HR1.out rfl)
              obtain ⟨bl, hbl⟩ : ∃ bl, bl = isBl x := ⟨_, rfl⟩
              rw [← hbl] at HE
              have HBk := Lib.hid (fun W => Frs.refBlank_num ((x.toNat : Nat) : Int) bl W (Frs.isBl_mk hbl.symm))
              clear hbl
              go_wp2_with fail
              refine (HBk.out _).mono ?_
              rintro e W3 ⟨rfl, rfl⟩
              cases bl with
              | false =>
                go_wp2
                go_ret
                rw [HE.out]
                exact ⟨rfl, HB2.out⟩
              | true =>
                go_wp2
                go_ret
                rw [HE.out]
                exact ⟨rfl, HB2.out⟩
          · have t1 : (97 : Int) ≤ ((x.toNat : Nat) : Int) := by omega
            have t2 : ¬ ((x.toNat : Nat) : Int) ≤ 122 := by omega
            go_wp2_with fail
            refine (HFi.out _).mono ?_
            rintro e W2 ⟨rfl, hb2⟩
            have HB2 := Lib.hid (hb2.alloc hb2.size (.cells #[.int .i64 q.mn, .int .i64 q.mx, .bool q.lz, .bool q.pu] 73))
            clear hb2 HFi
            cases r with
            | false =>
              have HE := Lib.hid (HR0.out rfl)
              go_wp2
              go_ret
              rw [HE.out]
              exact ⟨rfl, HB2.out⟩
            | true =>
              have HE := Lib.hid (HR1.out rfl)
              obtain ⟨bl, hbl⟩ : ∃ bl, bl = isBl x := ⟨_, rfl⟩
              rw [← hbl] at HE
              have HBk := Lib.hid (fun W => Frs.refBlank_num ((x.toNat : Nat) : Int) bl W (Frs.isBl_mk hbl.symm))
              clear hbl
              go_wp2_with fail
              refine (HBk.out _).mono ?_
              rintro e W3 ⟨rfl, rfl⟩
              cases bl with
              | false =>
                go_wp2
                go_ret
                rw [HE.out]
                exact ⟨rfl, HB2.out⟩
              | true =>
                go_wp2
                go_ret
                rw [HE.out]
                exact ⟨rfl, HB2.out⟩
      · have HR1 : Hid ((lookI tab (s.take k)).isSome = true → nameT s = []) := fun h => by
          rw [HR.out, List.drop_of_length_le (by omega)]
        clear HR hn hgo
        generalize (lookI tab (s.take k)).isSome = r at *
        go_wp2_with fail
        refine (HFi.out _).mono ?_
        rintro e W2 ⟨rfl, hb2⟩
        have HB2 := Lib.hid (hb2.alloc hb2.size (.cells #[.int .i64 q.mn, .int .i64 q.mx, .bool q.lz, .bool q.pu] 73))
        clear hb2 HFi
        cases r with
        | false =>
          have HE := Lib.hid (HR0.out rfl)
          go_wp2
          go_ret
          rw [HE.out]
          exact ⟨rfl, HB2.out⟩
        | true =>
          have HE := Lib.hid (HR1.out rfl)
          go_wp2
          go_ret
          rw [HE.out]
          exact ⟨rfl, HB2.out⟩

end Go.Proofs.YtpphkaolonjjdaaDoor.Qname
