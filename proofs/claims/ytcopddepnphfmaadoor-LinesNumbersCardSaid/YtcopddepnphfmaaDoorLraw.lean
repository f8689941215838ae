/- What the program's Raw and right answer. -/

import Derived.Test.YtcopddepnphfmaaDoorLfn
namespace Go.Proofs.YtcopddepnphfmaaDoor.Lraw
open Go.RowKit Go.Proofs.YtcopddepnphfmaaDoor.Pure Go.Proofs.YtcopddepnphfmaaDoor.Ends Go.Proofs.YtcopddepnphfmaaDoor.Ln Go.Proofs.YtcopddepnphfmaaDoor.Lcut Go.Proofs.YtcopddepnphfmaaDoor.Lfn

/-- a place, cut to from 0 to n -/
def clamp (at_ : Int) (n : Nat) : Nat := min at_.toNat n
theorem clamp_le (z : Int) (n : Nat) : clamp z n ≤ n := Nat.min_le_right _ _
theorem clamp_nat (k n : Nat) (h : k ≤ n) : clamp (k : Int) n = k := by unfold clamp; rw [Int.toNat_natCast]; omega

theorem ret_si {a b : ByteArray} {i j : Int} (h1 : a = b) (h2 : i = j) : Ending.returned (.tuple #[.string a, .int .i64 i]) = .returned (.tuple #[.string b, .int .i64 j]) := by rw [h1, h2]

set_option maxHeartbeats 1000000 in
theorem raw_core (s : ByteArray) (z : Int) (k : Nat) (w : World) (hs : s.size ≤ 1099511627776) (hz : min (max z 0) (s.size : Int) = (k : Int)) (hk : k ≤ s.size) :
    Calls Tryd.prog 9 #[.string s, .int .i64 z] w fun e W' => e = .returned (.tuple #[.string (bs (lineOf (s.data.toList.drop k))), .int .i64 ((s.size - (restOf (s.data.toList.drop k)).length : Nat) : Int)]) ∧ Below w.heap.size w W' := by
  have hd : (s.extract k s.size).data.toList = s.data.toList.drop k := Lib.extract_to_end s k
  have hx : (s.extract k s.size).size = s.size - k := by rw [ByteArray.size_extract]; omega
  have hk0 : (0 : Int) ≤ (k : Int) := by omega
  have hk1 : (k : Int) ≤ (s.size : Int) := by omega
  rcases split_at (s.extract k s.size).data.toList 10 with hm | ⟨a, r, hm, ha⟩
  · obtain ⟨e1, e2⟩ := rest_none _ hm
    rw [hd] at e1 e2
    have HE1 : Hid (s.extract k s.size = bs (lineOf (s.data.toList.drop k))) := by show _ = _; rw [e1]; exact ext_data hd
    have HE2 : Hid (s.size - (restOf (s.data.toList.drop k)).length = s.size) := by show _ = _; rw [e2]; rfl
    have HC := Lib.hid (fun W => cut_miss (s.extract k s.size) 10 W hm)
    clear hm e1 e2 hd
    go_enter Tryd.func9, Tryd.ntmps9
    go_wp2_with fail
    refine (HC.out _).mono ?_
    rintro e w' ⟨rfl, rfl⟩
    clear HC
    generalize s.extract k s.size = u at HE1 hx ⊢
    have w1 : IntKind.i64.wrap ((k : Int) + (u.size : Int)) = (s.size : Int) := by rw [show (k : Int) + (u.size : Int) = (s.size : Int) by omega]; exact IntWalk.i64_in _ (by omega)
    clear hx
    go_wp2
    go_ret2
    exact ⟨ret_si HE1.out (by rw [HE2.out]), Below.refl _ _⟩
  · obtain ⟨e1, e2⟩ := rest_cut a r ha
    rw [← hm, hd] at e1 e2
    have hz' : (s.extract k s.size).size = a.length + 1 + r.length := by rw [Lib.size_eq, hm]; simp; omega
    have HE1 : Hid (bs a = bs (lineOf (s.data.toList.drop k))) := by show _ = _; rw [e1]
    have HE2 : Hid (s.size - (restOf (s.data.toList.drop k)).length = k + a.length + 1) := by show _ = _; rw [e2]; omega
    have HC := Lib.hid (fun W => cut_hit (s.extract k s.size) 10 a r W (by unfold maxLen; omega) hm ha)
    have hal : (bs a).size = a.length := size_bs a
    have hall : k + a.length + 1 ≤ s.size := by omega
    clear hm e1 e2 hd ha hz'
    generalize bs a = A at HE1 HC hal
    generalize bs r = R at HC
    generalize a.length = n at hal hall HE2
    subst hal
    have w1 : IntKind.i64.wrap ((k : Int) + (A.size : Int)) = (k : Int) + (A.size : Int) := IntWalk.i64_in _ (by omega)
    have w2 : IntKind.i64.wrap ((k : Int) + (A.size : Int) + 1) = (k : Int) + (A.size : Int) + 1 := IntWalk.i64_in _ (by omega)
    go_enter Tryd.func9, Tryd.ntmps9
    go_wp2_with fail
    refine (HC.out _).mono ?_
    rintro e w' ⟨rfl, rfl⟩
    go_wp2
    go_ret2
    exact ⟨ret_si HE1.out (by rw [HE2.out]; simp), (Below.refl _ _).drew⟩
theorem clamp_int (z : Int) (n : Nat) : min (max z 0) (n : Int) = (clamp z n : Int) := by
  unfold clamp
  omega
/-- the program's Raw -/
theorem raw_is (s : ByteArray) (z : Int) (w : World) (hs : s.size ≤ 1099511627776) :
    Calls Tryd.prog 9 #[.string s, .int .i64 z] w fun e W' => e = .returned (.tuple #[.string (bs (lineOf (s.data.toList.drop (clamp z s.size)))), .int .i64 ((s.size - (restOf (s.data.toList.drop (clamp z s.size))).length : Nat) : Int)]) ∧ Below w.heap.size w W' :=
  raw_core s z _ w hs (clamp_int z s.size) (clamp_le z s.size)

/-! ### right -/
theorem right_parts (l : List UInt8) : right (left l) ≠ [] → right l = l.take (l.length - (left l).length) ++ right (left l) := by
  intro h
  have e : l = l.take (l.length - (left l).length) ++ left l := by
    have h1 : left l <:+ l := List.dropWhile_suffix _
    conv => lhs; rw [← List.take_append_drop (l.length - (left l).length) l]
    rw [suffix_drop h1]
  conv => lhs; rw [e, right_app, if_neg h]
theorem right_none (l : List UInt8) (h : right (left l) = []) : right l = [] := by
  have h1 : left l = [] := (trim_nil l).1 h
  induction l with
  | nil => rfl
  | cons c r ih =>
    rw [left_cons] at h1
    split at h1
    · next hc =>
      have := ih (by rw [h1]; rfl) h1
      rw [show c :: r = [c] ++ r from rfl, right_app, if_pos this, right_bl hc]
    · exact absurd h1 (by simp)

set_option maxHeartbeats 1000000 in
/-- the program's right -/
theorem right_is (s : ByteArray) (w : World) (hs : s.size ≤ 1099511627776) :
    Calls Tryd.prog 44 #[.string s] w fun e W' => e = .returned (.string (rightB s)) ∧ w = W' := by
  have hm : s.size ≤ maxLen := by unfold maxLen; omega
  have HT := Lib.hid (fun W => trim_any s W hm)
  have HL := Lib.hid (fun W => left_any s W hm)
  have hl := leftB_size s
  have htd : (trimB s).data.toList = right (left s.data.toList) := rfl
  have htl : (trimB s).size ≤ (leftB s).size := rightB_size _
  clear hm
  by_cases h0 : right (left s.data.toList) = []
  · have HR : Hid (ByteArray.empty = rightB s) := by show _ = _; rw [rightB, right_none _ h0]; rfl
    have he : trimB s = ByteArray.empty := ext_data (by rw [htd, h0]; rfl)
    rw [he] at HT
    clear he htd htl h0 hl HL
    go_enter Tryd.func44, Tryd.ntmps44
    go_wp2_with fail
    refine (HT.out _).mono ?_
    rintro e w' ⟨rfl, rfl⟩
    go_wp2
    go_ret
    exact ⟨ret_str HR.out, rfl⟩
  · have HR : Hid (s.extract 0 (s.size - (leftB s).size) ++ trimB s = rightB s) := by
      refine ext_data ?_
      rw [ByteArray.data_append, Array.toList_append, Lib.extract_upto, htd, rightB, bs_data, right_parts _ h0, Lib.size_eq, Lib.size_eq]
      rfl
    have hne : ((trimB s).toList == []) = false := by
      rw [Lib.toList_data, htd]
      cases hh : right (left s.data.toList) with
      | nil => exact absurd hh h0
      | cons a b => rfl
    have hne2 : (trimB s).toList.isEmpty = false := by
      rw [Lib.toList_data, htd]
      cases hh : right (left s.data.toList) with
      | nil => exact absurd hh h0
      | cons a b => rfl
    clear htd h0
    generalize trimB s = T at HT HR hne hne2 htl
    generalize leftB s = L at HL HR hl htl
    have hxz : (s.extract 0 (s.size - L.size)).size ≤ s.size - L.size := by rw [ByteArray.size_extract]; omega
    go_enter Tryd.func44, Tryd.ntmps44
    go_wp2_with fail
    refine (HT.out _).mono ?_
    rintro e w' ⟨rfl, rfl⟩
    go_wp2_with fail
    refine (HL.out _).mono ?_
    rintro e w' ⟨rfl, rfl⟩
    go_wp2
    go_ret
    exact ⟨ret_str HR.out, rfl⟩

end Go.Proofs.YtcopddepnphfmaaDoor.Lraw
