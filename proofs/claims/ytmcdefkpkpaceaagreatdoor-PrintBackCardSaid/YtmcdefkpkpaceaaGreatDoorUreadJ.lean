/- The program's read: a text, so many references deep; at each depth. -/
import Derived.Test.YtmcdefkpkpaceaaGreatDoorUcutJ
import Derived.Test.YtmcdefkpkpaceaaGreatDoorUnodeJ
namespace Go.Proofs.YtmcdefkpkpaceaaGreatDoor.Uread
open Go.RowKit Go.Proofs.YtmcdefkpkpaceaaGreatDoor.Spl Go.Proofs.YtmcdefkpkpaceaaGreatDoor.Upl Go.Proofs.YtmcdefkpkpaceaaGreatDoor.Nodm Go.Proofs.YtmcdefkpkpaceaaGreatDoor.Unod Go.Proofs.YtmcdefkpkpaceaaGreatDoor.Uargs Go.Proofs.YtmcdefkpkpaceaaGreatDoor.Ucall Go.Proofs.YtmcdefkpkpaceaaGreatDoor.Uref Go.Proofs.YtmcdefkpkpaceaaGreatDoor.Urow Go.Proofs.YtmcdefkpkpaceaaGreatDoor.Ubld Go.Proofs.YtmcdefkpkpaceaaGreatDoor.Uall Go.Proofs.YtmcdefkpkpaceaaGreatDoor.Uput Go.Proofs.YtmcdefkpkpaceaaGreatDoor.Uset Go.Proofs.YtmcdefkpkpaceaaGreatDoor.Unode Go.Proofs.YtmcdefkpkpaceaaGreatDoor.Ubrk Go.Proofs.YtmcdefkpkpaceaaGreatDoor.Udol
open Go.Proofs.YtmcdefkpkpaceaaGreatDoor.Pure (bs)

set_option maxRecDepth 100000 in
set_option maxHeartbeats 1000000 in
theorem read_step (N : Nat) (hN : N ≤ 40) (p : UInt8 → T → Rd Nod) (H40 : N = 40 → ∀ o t, p o t = .bad .deep) (HRf : N < 40 → RefIs N p) (s : T) (w : World) (hs : s.length ≤ 999999) :
    Calls Tryz.prog 33 #[.string (bs s), .int .i64 (N : Int)] w fun e W' => ReadOut w.heap.size W' e ((scanP p (s.length + 1) [] [] s).map wholeP) ∧ Below w.heap.size w W' := by
  obtain ⟨R, hR⟩ : ∃ R, R = scan p [] [] s := ⟨_, rfl⟩
  have HR0 := Lib.hid hR
  show Calls _ _ _ _ fun e W' => ReadOut w.heap.size W' e ((scan p [] [] s).map wholeP) ∧ _
  rw [← hR]
  clear hR
  have HDl := Lib.hid (fun B b H u acc cur t W h => dollar_is N hN p H40 HRf B b H u acc cur t W h)
  obtain ⟨w2, hw2⟩ : ∃ w2, w2 = (w.alloc (.cells #[.int .i64 0, .string ⟨#[]⟩, .slice none 0 0] 25)).alloc (.cells #[.slice none 0 0, .pointer none, .slice none 0 0] 114) := ⟨_, rfl⟩
  have hz2 : w2.heap.size = w.heap.size + 2 := by rw [hw2, World.size_alloc, World.size_alloc]
  have hb2 : Below w.heap.size w w2 := by rw [hw2]; exact ((Below.refl _ _).alloc (Nat.le_refl _) _).alloc (by rw [World.size_alloc]; omega) _
  have hx2 : w2.heap[w.heap.size]? = some (.cells #[.int .i64 0, .string .empty, .slice none 0 0] 25) := by
    rw [hw2, Lib.alloc_old _ _ _ (by rw [World.size_alloc]; omega)]
    exact heap_alloc_new w _
  have hr2 : w2.heap[w.heap.size + 1]? = some (.cells #[.slice none 0 0, .pointer none, .slice none 0 0] 114) := by
    rw [hw2]
    have := heap_alloc_new (w.alloc (.cells #[.int .i64 0, .string ⟨#[]⟩, .slice none 0 0] 25)) (.cells #[.slice none 0 0, .pointer none, .slice none 0 0] 114)
    rw [World.size_alloc] at this
    exact this
  have HRow : Hid (RowAt Tr (w.heap.size + 1) (w.heap.size + 1) w2.heap.size (.slice none 0 0) [] [] w2) :=
    ⟨Nat.le_refl _, by omega, Nat.le_refl _, fun k e => (by cases e), .pointer none, .slice none 0 0, [], hr2, .inl rfl, World.ownsRow_nil _ _ _ _, rfl, fun j x m h => (by cases h), World.ownsRow_nil _ _ _ _, fun k e => (by cases e)⟩
  have HB2 := Lib.hid hb2
  have HX2 := Lib.hid hx2
  have HW2 := Lib.hid hw2
  clear hw2 hb2 hx2 hr2 H40 HRf
  go_enter Tryz.func33, Tryz.ntmps33
  go_wp2_with fail
  rw [← HW2.out]
  go_loopw [0] (fun sv wr => ∃ (rest : T) (acc : List Nod) (cur : T), acc.length + cur.length + rest.length ≤ s.length ∧ sv = .string (bs rest) ∧ Hid (∃ u, RowAt Tr (w.heap.size + 1) (w.heap.size + 1) wr.heap.size u acc cur wr) ∧ Hid (Below (w.heap.size + 1) w2 wr) ∧ Hid (R = scan p acc cur rest)) (fun sv _ => strLen sv)
  case atStart => exact ⟨s, [], [], by show 0 + 0 + _ ≤ _; omega, rfl, ⟨_, HRow.out⟩, Below.refl _ _, HR0.out⟩
  case round =>
    obtain ⟨rest, acc, cur, hac, rfl, HR, HB, HE⟩ := hrel
    obtain ⟨u, hrow⟩ := HR.out
    rcases Ucut.split_at rest 36 with hno | ⟨a, r, hre, ha⟩
    · have HC := Lib.hid (fun W => Ucut.cut_miss (bs rest) 36 W hno)
      have HWt := Lib.hid (write_text Tr _ _ _ u acc cur rest wr hrow (by omega))
      have hsc := scan_plain p rest acc cur [] hno
      rw [List.append_nil, scan_nil] at hsc
      have HF : Hid (R = .ok (flushP acc (cur ++ rest))) := HE.out.trans hsc
      have HNd := Lib.hid (fun H W h => node_is (w.heap.size + 1) (w.heap.size + 1) H u acc (cur ++ rest) W h (by omega))
      clear hsc hrow hno HR
      go_wp2_with (first | (go_at_call 53; refine (HC.out _).mono ?_; rintro e W3 ⟨rfl, hh⟩; have hh2 := hh.symm; clear hh; subst hh2) | (go_at_call 29; refine HWt.out.mono ?_; rintro e W4 ⟨rfl, hr4, hb4⟩; have HB4 := Lib.hid (HB.out.trans hb4); have HN4 := Lib.hid (HNd.out _ W4 hr4); clear hr4 hb4) | (go_at_call 54; refine HN4.out.mono ?_; rintro e W5 ⟨⟨v, rfl, hv⟩, hb5⟩; obtain ⟨mk, ms, ml, hw⟩ : ∃ mk ms ml, wholeP (flushP acc (cur ++ rest)) = .mk mk ms ml := (by cases wholeP (flushP acc (cur ++ rest)) with | mk a b c => exact ⟨a, b, c, rfl⟩); rw [hw] at hv; obtain ⟨A5, c5, rfl, hns⟩ := hv.inv; have hb25 := HB4.out.trans hb5; have hg5 := (hb25.block w.heap.size (by omega)).trans HX2.out; obtain ⟨e0, e1, e2⟩ := cells_three hg5; have f0 := frozen_of_row W5 w.heap.size 0 _ _ hg5; have f1 := frozen_of_row W5 w.heap.size 1 _ _ hg5; have f2 := frozen_of_row W5 w.heap.size 2 _ _ hg5; have HG5 := Lib.hid hg5; have HB5 := Lib.hid hb25; have HN5 := Lib.hid hns; have HWh := Lib.hid hw; clear hv hns hb5 hg5 hb25 hw))
      obtain ⟨W6, hW6⟩ : ∃ W6, ((W5.setCell ⟨w.heap.size, 0, none⟩ (.int .i64 (mk : Int))).setCell ⟨w.heap.size, 1, none⟩ (.string (bs ms))).setCell ⟨w.heap.size, 2, none⟩ (.slice A5 ml.length c5) = W6 := ⟨_, rfl⟩
      obtain ⟨z1, z2, z3, z4⟩ := three_far W5 W6 _ _ _ _ _ _ _ _ HG5.out hW6
      obtain ⟨y0, y1, y2⟩ := cells_three z1
      rw [hW6]
      refine bodyPost_ret (v := .agg #[.int .i64 (mk : Int), .string (bs ms), .slice A5 ml.length c5]) (by simp [results, Tryz.results33, go_sem, y0, y1, y2]) rfl ?_
      rw [HF.out]
      refine ⟨⟨_, rfl, ?_⟩, (HB2.out.trans (HB5.out.mono (by omega))).trans z4⟩
      rw [HWh.out]
      exact (HN5.out.move (S' := SF w.heap.size W6) (fun b hb _ => by
        have hb1 := hb.1
        exact ⟨⟨by omega, hb.2.of (z3 b (by omega))⟩, z3 b (by omega)⟩) z2).node mk ms
    · have hrl : rest.length = a.length + 1 + r.length := by rw [hre, List.length_append, List.length_cons]; omega
      have HC := Lib.hid (fun W => Ucut.cut_hit (bs rest) 36 a r W (by rw [Pure.size_bs]; unfold maxLen; omega) hre ha)
      have hbd : Below wr.heap.size wr wr.drew := (Below.refl _ _).drew
      have HWt := Lib.hid (write_text Tr _ _ _ u acc cur a wr.drew (hrow.on hbd) (by omega))
      have hsc := scan_plain p a acc cur (36 :: r) ha
      rw [← hre, scan_dol] at hsc
      have HS := HE.out.trans hsc
      have HS := Lib.hid HS
      have HBd := Lib.hid (HB.out.drew)
      have HDo := Lib.hid (fun H W h => HDl.out (w.heap.size + 1) (w.heap.size + 1) H u acc (cur ++ a) r W h (by omega) (by rw [List.length_append]; omega) (by omega))
      clear hsc hrow hre ha HR hbd HE HB
      cases hx : dolP p acc (cur ++ a) r with
      | bad x =>
        rw [hx] at HDo HS
        unfold DolOut errPan at HDo
        clear hx
        go_wp2_with (first | (go_at_call 53; refine (HC.out _).mono ?_; rintro e W3 ⟨rfl, rfl⟩) | (go_at_call 29; refine HWt.out.mono ?_; rintro e W4 ⟨rfl, hr4, hb4⟩; have HB4 := Lib.hid (HBd.out.trans hb4); have HD4 := Lib.hid (HDo.out _ W4 hr4); clear hr4 hb4) | (go_at_call 55; refine HD4.out.mono ?_; rintro e W5 ⟨rfl, hb5⟩; have HB5 := Lib.hid (HB4.out.trans hb5); clear hb5))
        exact ⟨rfl, by rw [HS.out]; rfl, HB2.out.trans (HB5.out.mono (by omega))⟩
      | ok m =>
        obtain ⟨a1, c1, r1⟩ := m
        obtain ⟨l1, l2, l3⟩ := dol_len hx
        rw [List.length_append] at l2 l3
        rw [hx] at HDo HS
        unfold DolOut at HDo
        clear hx
        go_wp2_with (first | (go_at_call 53; refine (HC.out _).mono ?_; rintro e W3 ⟨rfl, rfl⟩) | (go_at_call 29; refine HWt.out.mono ?_; rintro e W4 ⟨rfl, hr4, hb4⟩; have HB4 := Lib.hid (HBd.out.trans hb4); have HD4 := Lib.hid (HDo.out _ W4 hr4); clear hr4 hb4) | (go_at_call 55; refine HD4.out.mono ?_; rintro e W5 ⟨⟨rfl, hr5⟩, hb5⟩; have HB5 := Lib.hid (HB4.out.trans hb5); have HR5 := Lib.hid hr5; clear hb5 hr5))
        go_roundw
        case rel => exact ⟨r1, a1, c1, by omega, rfl, HR5.out, HB5.out, HS.out⟩
        case measure => simp [strLen, Pure.size_bs]; omega

end Go.Proofs.YtmcdefkpkpaceaaGreatDoor.Uread
