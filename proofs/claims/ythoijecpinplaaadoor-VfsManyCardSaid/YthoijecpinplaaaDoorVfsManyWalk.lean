/- The law VfsMany, walked. -/
import Derived.Deep.DeepCutAuto
import Derived.Test.YthoijecpinplaaaDoorVawake
import Derived.Test.YthoijecpinplaaaDoorVmany
namespace Go.Proofs.YthoijecpinplaaaDoor.VfsMany
open Go.RowKit Go.Proofs.YthoijecpinplaaaDoor.Pth Go.Proofs.YthoijecpinplaaaDoor.Strs Go.Proofs.YthoijecpinplaaaDoor.Vfs Go.Proofs.YthoijecpinplaaaDoor.Vmap Go.Proofs.YthoijecpinplaaaDoor.Vnames Go.Proofs.YthoijecpinplaaaDoor.Vnew Go.Proofs.YthoijecpinplaaaDoor.Vfind Go.Proofs.YthoijecpinplaaaDoor.Vlook Go.Proofs.YthoijecpinplaaaDoor.Vsort Go.Proofs.YthoijecpinplaaaDoor.Vall Go.Proofs.YthoijecpinplaaaDoor.Vawake Go.Proofs.YthoijecpinplaaaDoor.Vdig Go.Proofs.YthoijecpinplaaaDoor.Vmany
open Go.Proofs.YthoijecpinplaaaDoor.Place (place place_lt place_is)

theorem raws_small (k : Nat) (hk : k ≤ 300) : ∀ x ∈ raws k, RawSmall x := fun x hx => by
  obtain ⟨i, hi, rfl⟩ := List.mem_map.1 hx
  have := List.mem_range.1 hi
  refine ⟨by show (bs (nm i)).size ≤ _; rw [size_bs]; simp [nm], ?_⟩
  show (bs (digN i)).size ≤ _
  rw [size_bs]
  have := digN_len i
  omega

set_option maxRecDepth 100000 in
set_option maxHeartbeats 8000000 in
theorem walk_k (a0 : Int) (k : Nat) (w : World) (hk : k < 300)
    (hP : ∀ W : World, Calls Tryd.prog 20 #[.int .i64 a0, .int .i64 300] W fun e w' => e = .returned (.int .i64 (k : Int)) ∧ W = w') :
    Calls Tryd.prog 6 #[.int .i64 a0] w fun e W' => e = .returned (.bool true) ∧ Below w.heap.size w W' := by
  obtain ⟨i0, hi0, hz0, hz1, hz2⟩ := info_parts infoEnt
  have HP := Lib.hid hP
  clear hP
  go_enter Tryd.func6, Tryd.ntmps6
  go_wp2_with fail
  refine (HP.out _).mono ?_
  rintro e w' ⟨rfl, rfl⟩
  clear HP
  go_wp2_with fail
  go_loopw [4, 5] (fun v i wr => ∃ n : Nat, n ≤ k ∧ i = .int .i64 n ∧ wr.ownsRow w.heap.size 30 3 v n (cells (raws n)) ∧ Hid (Below w.heap.size w wr)) (fun _ i _ => k - (intOf i).toNat)
  case atStart => exact ⟨0, Nat.zero_le _, rfl, World.ownsRow_nil _ _ _ _, Below.refl _ _⟩
  case round =>
    obtain ⟨n, hn, rfl, hown, H⟩ := hrel
    by_cases hlt : n < k
    · have HD1 := Lib.hid (fun W => dig_is (1000 + n) (by omega) W)
      have HD2 := Lib.hid (fun W => dig_is n (by omega) W)
      have e1 : (⟨#[102]⟩ : ByteArray) ++ bs (digN (1000 + n)) = bs (nm n) := by rw [← nm_dig n (by omega)]; exact (bs_app [102] _).symm
      have hsz : (bs (digN (1000 + n))).size ≤ 2000 := by rw [size_bs]; have := digN_len (1000 + n); omega
      have a1 : ∀ W, (Op.stringOp .add ⟨#[102]⟩ (bs (digN (1000 + n)))).run Tryd.prog W = .ok (.string (bs (nm n))) W := fun W => by rw [← e1]; exact run_string_add_sum W _ _ (by show 1 + _ ≤ _; omega)
      have HNS : Hid (cells (raws n) ++ encR (rawI n) = cells (raws (n + 1))) := by
        show _ = _
        rw [raws_succ, cells_app]; rfl
      have HBs := H.out.size
      have HNW := Lib.hid (fun W => news3 W (rawI n) 30)
      have hz3 : (encR (rawI n)).length = 1 * 3 := rfl
      have hq : ((1000 + n : Nat) : Int) = 1000 + (n : Int) := by omega
      rw [hq] at HD1
      clear e1 hq
      obtain ⟨d1, hd1⟩ : ∃ d1, d1 = bs (digN (1000 + n)) := ⟨_, rfl⟩
      rw [← hd1] at HD1 hsz a1
      clear hd1
      have q1 : IntKind.i64.wrap (1000 + (n : Int)) = 1000 + (n : Int) := IntWalk.i64_in _ (by omega)
      go_wp2_with fail
      refine (HD1.out _).mono ?_
      rintro e w1 ⟨rfl, m1, rfl⟩
      clear HD1
      go_wp2_with fail
      refine (HD2.out _).mono ?_
      rintro e w1 ⟨rfl, m2, rfl⟩
      clear HD2
      obtain ⟨w3, hw3⟩ : ∃ w3, w3 = (wr.drewN m1).drewN m2 := ⟨_, rfl⟩
      have hown3 := rows_below (W := w3) hown (fun g _ => by rw [hw3]; rfl)
      have HB3 : Hid (Below w.heap.size w w3) := by
        show Below _ _ _
        rw [hw3]; exact below_drewN (below_drewN H.out m1) m2
      have hs3 : w.heap.size ≤ w3.heap.size := HB3.out.size
      rw [← hw3]
      clear hw3 hown HBs H
      go_wp2_with (at_builtin; refine wpList_append_own _ rfl _ _ 22 rfl w.heap.size 30 i0 (.agg #[.string .empty, .bool false, .string .empty]) 3 40 Tryd.underlying22 hi0 hz0 hz1 hz2 rfl (by decide) _ _ _ rfl (hown3.alloc _) ⟨w3.heap.size, 0, none⟩ 1 1 (encR (rawI n)) rfl hz3 (HNW.out w3) (encR_one _) (by unfold maxLen; omega) (by omega) (by simp; omega) ?_; intro v' w4 hown' hgrow _; have HO := Lib.hid hown'; have HG : Hid (Below w.heap.size w w4) := (HB3.out.alloc hs3 _).grown hgrow (by simp; omega) (fun k e => (hown3.lt k e).1); clear hown' hgrow)
      go_roundw
      case rel => exact ⟨n + 1, by omega, by go_num, by rw [← HNS.out]; exact HO.out, HG.out⟩
      case measure => simp [intOf]; omega
    · obtain rfl : k = n := by omega
      obtain ⟨A, c, rfl, hE, _⟩ := enIs_of_own (raws_len k) hown
      have hnew := new_is A k c (raws k) wr (raws_len k) hE (raws_small k (by omega)) (by unfold maxLen; omega)
      rw [new_many k (by omega)] at hnew
      have HNew := Lib.hid hnew
      have HB := Lib.hid H.out
      obtain ⟨m, hm⟩ : ∃ m : Nat, m = min k 200 := ⟨_, rfl⟩
      rw [← hm] at HNew
      have hm2 : m ≤ 200 := by omega
      have hmin : min (k : Int) 200 = (m : Int) := by omega
      have HInv : Hid (Vfs.Inv (ents m)) := by
        show Vfs.Inv _
        rw [hm, ← new_many k (by omega)]; exact newL_inv _
      clear hown hE hnew H hm hn hlt
      go_wp2_with fail
      refine HNew.out.mono ?_
      rintro e w1 ⟨fa, B, bl, rfl, hF, hb1⟩
      have HF := Lib.hid hF
      have HB1 := Lib.hid (HB.out.trans (hb1.mono HB.out.size))
      have hls := list_is fa B bl (ents m) ⟨#[47]⟩ w1 hF HInv.out (by decide) (by rw [ents_len]; omega)
      rw [list_many m (by omega)] at hls
      have HLs := Lib.hid hls
      clear hF hb1 HNew HB hls
      go_wp2_with fail
      refine HLs.out.mono ?_
      rintro e w2 ⟨NA, cn, rfl, hsl, hb2⟩
      have hnl : ((List.range m).map nm).length = m := by rw [List.length_map, List.length_range]
      rw [hnl]
      have HSL := Lib.hid hsl
      have HF2 := Lib.hid (HF.out.below hb2)
      have HB2 := Lib.hid (HB1.out.trans (hb2.mono HB1.out.size))
      clear hsl hb2 HLs HF HB1 hnl
      go_wp2_with fail
      go_loopw [8] (fun i wr => ∃ n : Nat, n ≤ m ∧ i = .int .i64 n ∧ Hid (Below w2.heap.size w2 wr)) (fun i _ => m - (intOf i).toNat)
      case atStart => exact ⟨0, Nat.zero_le _, rfl, Below.refl _ _⟩
      case round =>
        obtain ⟨n, hn, rfl, H⟩ := hrel
        by_cases hlt : n < m
        · have hx : (((List.range m).map nm).map bs)[n]? = some (bs (nm n)) := by rw [List.getElem?_map, List.getElem?_map, List.getElem?_range hlt]; rfl
          obtain ⟨bA, oA, rfl, hbA, hcA⟩ := HSL.out.at_ hx
          have c1 := hcA wr H.out
          have hlk := look_is fa B bl (ents m) (bs (nm n)) wr (HF2.out.below H.out) HInv.out (by rw [size_bs]; simp [nm]) (by rw [ents_len]; omega)
          rw [look_many m n (by omega) hlt] at hlk
          have HLk := Lib.hid hlk
          have HB3 := H.out
          have HBw := Lib.hid HB3
          have e1 : (⟨#[102]⟩ : ByteArray) ++ bs (digN (1000 + n)) = bs (nm n) := by rw [← nm_dig n (by omega)]; exact (bs_app [102] _).symm
          have hsz : (bs (digN (1000 + n))).size ≤ 2000 := by rw [size_bs]; have := digN_len (1000 + n); omega
          have a1 : ∀ W, (Op.stringOp .add ⟨#[102]⟩ (digI (1000 + (n : Int)))).run Tryd.prog W = .ok (.string (bs (nm n))) W := fun W => by
            have e2 : digI (1000 + (n : Int)) = bs (digN (1000 + n)) := by
              unfold digI
              rw [show (1000 + (n : Int)).toNat = 1000 + n by omega]
            rw [e2, ← e1]; exact run_string_add_sum W _ _ (by show 1 + _ ≤ _; omega)
          have ht : bs (digN n) = digI (n : Int) := by
            unfold digI
            rw [show ((n : Int)).toNat = n by omega]
          rw [ht] at HLk
          have HDg := Lib.hid digI_is
          have q1 : IntKind.i64.wrap (1000 + (n : Int)) = 1000 + (n : Int) := IntWalk.i64_in _ (by omega)
          have hn3 : (n : Int) ≤ 300 := by omega
          have HcA := Lib.hid hcA
          clear hx hbA hcA e1 hsz ht hlk HB3 H
          generalize bs (nm n) = nb at *
          generalize digI = dg at *
          generalize pathB [nm n] = pb at *
          go_wp2_with fail
          refine HLk.out.mono ?_
          rintro e w4 ⟨rfl, hb4⟩
          unfold Nd.e
          have hW4 := HBw.out.trans (hb4.mono HBw.out.size)
          have HB4 := Lib.hid (hW4.alloc hW4.size (.cells #[.string pb, .bool false, .string (dg (n : Int))] 30))
          have c2 := HcA.out _ HB4.out
          have hbe : (nb.toList == nb.toList) = true := by simp
          have hbe2 : ((dg (n : Int)).toList == (dg (n : Int)).toList) = true := by simp
          clear c1 hb4 hW4 HLk HBw HcA
          go_wp2_with fail
          go_quiet (first | (go_at_call 22; refine Calls.quiet_of (HDg.out _ (by omega) (by omega) _)))
          go_wp2_with fail
          go_roundw
          case rel => exact ⟨n + 1, by omega, by go_num, below_drewN HB4.out _⟩
          case measure => simp [intOf]; omega
        · have HBe := Lib.hid (HB2.out.trans (H.out.mono HB2.out.size))
          clear H HSL HF2 HB2
          go_wp2_with fail
          refine (awake_is _).mono ?_
          rintro e w5 ⟨rfl, hb5⟩
          have HB5 := Lib.hid (HBe.out.trans (hb5.mono HBe.out.size))
          clear hb5 HBe
          go_wp2
          go_ret
          exact ⟨rfl, HB5.out⟩

theorem walk (a0 : Int) (w : World) (w0 : (Lit.int .i64 a0).wf = true) :
    Calls Tryd.prog 6 #[.int .i64 a0] w fun e W' => e = .returned (.bool true) ∧ Below w.heap.size w W' :=
  walk_k a0 (place a0 300) w (place_lt a0 300 (by omega)) (fun W => place_is a0 300 W (by omega) (by omega) w0)

end Go.Proofs.YthoijecpinplaaaDoor.VfsMany
