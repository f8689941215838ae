/- What the document's Raw, odd and Bare answer. -/
import Derived.Test.YtcopddepnphfmaaDoorLmem
namespace Go.Proofs.YtcopddepnphfmaaDoor.Lref
open Go.RowKit Go.Proofs.YtcopddepnphfmaaDoor.Pure Go.Proofs.YtcopddepnphfmaaDoor.Ends Go.Proofs.YtcopddepnphfmaaDoor.Ln Go.Proofs.YtcopddepnphfmaaDoor.Lfn Go.Proofs.YtcopddepnphfmaaDoor.Lraw Go.Proofs.YtcopddepnphfmaaDoor.Leach

theorem u8_ten (c : UInt8) : (((c.toNat : Nat) : Int) == 10) = (c == 10) := u8_eq c 10
theorem u8_back (c : UInt8) : (((c.toNat : Nat) : Int) == 92) = (c == 92) := u8_eq c 92
theorem u8_mark (c : UInt8) : (((c.toNat : Nat) : Int) == 35) = (c == 35) := u8_eq c 35
theorem dropT_cons (s : ByteArray) (j : Nat) (h : j < s.size) : dropT s j = s[j] :: dropT s (j + 1) := drop_cons s j h
theorem dropT_end (s : ByteArray) (j : Nat) (h : s.size ≤ j) : dropT s j = [] := drop_size s j h

set_option maxHeartbeats 1000000 in
theorem raw_core (s : ByteArray) (z : Int) (k : Nat) (w : World) (hs : s.size ≤ 1099511627776) (hz : min (max z 0) (s.size : Int) = (k : Int)) (hk : k ≤ s.size) :
    Calls Tryd.prog 10 #[.string s, .int .i64 z] w fun e W' => e = .returned (.tuple #[.string (bs (lineOf (dropT s k))), .int .i64 ((s.size - (restOf (dropT s k)).length : Nat) : Int)]) ∧ Below w.heap.size w W' := by
  go_enter Tryd.func10, Tryd.ntmps10
  go_wp2_with fail
  go_loopw [6] (fun i wr => ∃ j : Nat, k ≤ j ∧ j ≤ s.size ∧ i = .int .i64 (j : Int) ∧ w = wr ∧ Hid (lineOf (dropT s k) = (dropT s k).take (j - k) ++ lineOf (dropT s j) ∧ restOf (dropT s k) = restOf (dropT s j))) (fun i _ => s.size - (intOf i).toNat)
  case atStart => exact ⟨k, Nat.le_refl _, hk, rfl, rfl, by show _ ∧ _; simp⟩
  case round =>
    obtain ⟨j, hkj, hj, rfl, rfl, H⟩ := hrel
    by_cases hlt : j < s.size
    · have hd := dropT_cons s j hlt
      by_cases hc : s[j] = 10
      · have HE1 : Hid (s.extract k j = bs (lineOf (dropT s k))) := by
          show _ = _
          have h := H.out.1
          rw [hd, line_cons, if_pos hc, List.append_nil] at h
          rw [h]; exact Lib.extract_eq s k j
        have HE2 : Hid (s.size - (restOf (dropT s k)).length = j + 1) := by
          show _ = _
          have h := H.out.2
          rw [hd, rest_cons, if_pos hc] at h
          rw [h, dropT_len]; omega
        have hb : (((s[j].toNat : Nat) : Int) == 10) = true := by rw [u8_ten, hc]; rfl
        clear hc hd H
        go_wp2
        go_ret2
        exact ⟨ret_si HE1.out (by rw [HE2.out]; rfl), Below.refl _ _⟩
      · have HI : Hid (lineOf (dropT s k) = (dropT s k).take (j + 1 - k) ++ lineOf (dropT s (j + 1)) ∧ restOf (dropT s k) = restOf (dropT s (j + 1))) := by
          obtain ⟨h1, h2⟩ := H.out
          rw [hd, line_cons, if_neg hc] at h1
          rw [hd, rest_cons, if_neg hc] at h2
          refine ⟨?_, h2⟩
          have := take_more s k j hkj hlt
          unfold dropT at h1 ⊢
          rw [this, h1, List.append_assoc]; rfl
        have hb : (((s[j].toNat : Nat) : Int) == 10) = false := by rw [u8_ten]; simpa using hc
        clear hc hd H
        go_wp2
        go_roundw
        case rel => exact ⟨j + 1, by omega, by omega, by go_num, trivial, HI⟩
        case measure => simp [intOf]; omega
    · obtain rfl : j = s.size := by omega
      have HE1 : Hid (s.extract k s.size = bs (lineOf (dropT s k))) := by
        show _ = _
        have h := H.out.1
        rw [dropT_end s _ (Nat.le_refl _)] at h
        rw [h]
        have e : lineOf ([] : List UInt8) = [] := rfl
        rw [e, List.append_nil]
        exact Lib.extract_eq s k s.size
      have HE2 : Hid (s.size - (restOf (dropT s k)).length = s.size) := by
        show _ = _
        rw [H.out.2, dropT_end s _ (Nat.le_refl _)]; rfl
      clear H
      go_wp2
      go_ret2
      exact ⟨ret_si HE1.out (by rw [HE2.out]), Below.refl _ _⟩
/-- the document's Raw -/
theorem raw_is (s : ByteArray) (z : Int) (w : World) (hs : s.size ≤ 1099511627776) :
    Calls Tryd.prog 10 #[.string s, .int .i64 z] w fun e W' => e = .returned (.tuple #[.string (bs (lineOf (dropT s (clamp z s.size)))), .int .i64 ((s.size - (restOf (dropT s (clamp z s.size))).length : Nat) : Int)]) ∧ Below w.heap.size w W' :=
  raw_core s z _ w hs (clamp_int z s.size) (clamp_le z s.size)
theorem rawR_at (s : ByteArray) (k : Nat) (w : World) (hs : s.size ≤ 1099511627776) (hk : k ≤ s.size) :
    Calls Tryd.prog 10 #[.string s, .int .i64 (k : Int)] w fun e W' => e = .returned (.tuple #[.string (bs (lineOf (dropT s k))), .int .i64 ((s.size - (restOf (dropT s k)).length : Nat) : Int)]) ∧ Below w.heap.size w W' := by
  have := raw_is s (k : Int) w hs
  rw [clamp_nat k s.size hk] at this
  exact this

set_option maxHeartbeats 1000000 in
/-- the document's odd -/
theorem odd_is (s : ByteArray) (w : World) (hs : s.size ≤ 1099511627776) :
    Calls Tryd.prog 30 #[.string s] w fun e W' => e = .returned (.bool (odd s.data.toList)) ∧ Below w.heap.size w W' := by
  go_enter Tryd.func30, Tryd.ntmps30
  go_wp2_with fail
  go_loopw [3] (fun i wr => ∃ m : Nat, m ≤ s.size ∧ i = .int .i64 (m : Int) ∧ w = wr ∧ Hid (tb s.data.toList = m + tb (s.data.toList.take (s.size - m)))) (fun i _ => s.size - (intOf i).toNat)
  case atStart => exact ⟨0, Nat.zero_le _, rfl, rfl, by show _ = _; rw [Nat.sub_zero, take_size s _ (Nat.le_refl _), Nat.zero_add]⟩
  case round =>
    obtain ⟨m, hm, rfl, rfl, H⟩ := hrel
    have HF : ∀ (_ : tb s.data.toList = m), Hid ((((m % 2 : Nat) : Int) == 1) = odd s.data.toList) := fun h => by
      show _ = _
      unfold odd
      rw [h, Bool.eq_iff_iff]
      simp
      omega
    by_cases hlt : m < s.size
    · obtain ⟨t, ht⟩ : ∃ t, s.size - m = t + 1 := ⟨s.size - m - 1, by omega⟩
      have htl : t < s.size := by omega
      have hstep : tb (s.data.toList.take (t + 1)) = if s[t] = 92 then tb (s.data.toList.take t) + 1 else 0 := by
        rw [take_snoc s t htl, tb_snoc]
      have H2 : tb s.data.toList = m + (if s[t] = 92 then tb (s.data.toList.take t) + 1 else 0) := by rw [← hstep, ← ht]; exact H.out
      have q1 : IntKind.i64.wrap ((s.size : Int) - 1) = (s.size : Int) - 1 := IntWalk.i64_in _ (by omega)
      have q2 : (s.size : Int) - 1 - (m : Int) = (t : Int) := by omega
      have q3 : IntKind.i64.wrap (t : Int) = (t : Int) := IntWalk.i64_in _ (by omega)
      have HT : Hid (s.size - (m + 1) = t) := by show _ = _; omega
      by_cases hc : s[t] = 92
      · rw [if_pos hc] at H2
        have HI : Hid (tb s.data.toList = (m + 1) + tb (s.data.toList.take (s.size - (m + 1)))) := by show _ = _; rw [HT.out, H2]; omega
        have hb : (((s[t].toNat : Nat) : Int) == 92) = true := by rw [u8_back, hc]; rfl
        clear hc H2 hstep ht HF
        go_wp2
        go_roundw
        case rel => exact ⟨m + 1, by omega, by go_num, trivial, HI⟩
        case measure => simp [intOf]; omega
      · rw [if_neg hc] at H2
        have HF2 := HF H2
        have hb : (((s[t].toNat : Nat) : Int) == 92) = false := by rw [u8_back]; simpa using hc
        clear hc H2 hstep ht HF
        go_wp2
        go_ret
        exact ⟨ret_bool (by rw [← HF2.out]; simp), Below.refl _ _⟩
    · obtain rfl : m = s.size := by omega
      have HF2 := HF (by have := H.out; rw [Nat.sub_self, List.take_zero, tb_nil] at this; exact this)
      clear HF
      go_wp2
      go_ret
      exact ⟨ret_bool (by rw [← HF2.out]; simp), Below.refl _ _⟩

end Go.Proofs.YtcopddepnphfmaaDoor.Lref
