/- The walk of the law WildNumbers. -/
import Derived.Deep.QuietTactic
import Derived.BigQuiet
import Derived.BigRegion
import Derived.Test.YtghfmbmdfojapaaGreatDoorWbdJ
import Derived.Test.YtghfmbmdfojapaaGreatDoorWexJ
import Derived.Test.YtghfmbmdfojapaaGreatDoorWputJ
namespace Go.Proofs.YtghfmbmdfojapaaGreatDoor.WildNumbers
open Go.RowKit Go.Proofs.YtghfmbmdfojapaaGreatDoor.Nums Go.Proofs.YtghfmbmdfojapaaGreatDoor.Place Go.Proofs.YtghfmbmdfojapaaGreatDoor.Pth Go.Proofs.YtghfmbmdfojapaaGreatDoor.Strs Go.Proofs.YtghfmbmdfojapaaGreatDoor.Vfs Go.Proofs.YtghfmbmdfojapaaGreatDoor.Vmap Go.Proofs.YtghfmbmdfojapaaGreatDoor.Vnames Go.Proofs.YtghfmbmdfojapaaGreatDoor.Vnew Go.Proofs.YtghfmbmdfojapaaGreatDoor.Vfind Go.Proofs.YtghfmbmdfojapaaGreatDoor.Vlook Go.Proofs.YtghfmbmdfojapaaGreatDoor.Wfind Go.Proofs.YtghfmbmdfojapaaGreatDoor.Wfs Go.Proofs.YtghfmbmdfojapaaGreatDoor.Wdp Go.Proofs.YtghfmbmdfojapaaGreatDoor.Wex Go.Proofs.YtghfmbmdfojapaaGreatDoor.Wbb Go.Proofs.YtghfmbmdfojapaaGreatDoor.Wdo Go.Proofs.YtghfmbmdfojapaaGreatDoor.Wdx Go.Proofs.YtghfmbmdfojapaaGreatDoor.Wbd
open Go.Proofs.YtghfmbmdfojapaaGreatDoor.Srt (Up up_get)

theorem nums_below {w W : World} {A : Option Addr} {n c : Nat} {zs : List Int} (h : IntIs w A n c zs) (hb : Below w.heap.size w W) : IntIs W A n c zs := by
  refine ⟨h.1, h.2.1, h.2.2.1, ?_⟩
  rcases h.2.2.2 with h0 | ⟨b, o, e, hl, hc⟩
  · exact .inl h0
  · exact .inr ⟨b, o, e, Nat.lt_of_lt_of_le hl hb.size, fun j z hz => (hb.cell (p := ⟨b, o + j, none⟩) hl).trans (hc j z hz)⟩
theorem binOp_geq (t : TypeId) (a b : ByteArray) (h : Op.bytesLess a.toList b.toList = true) (W : World) : (binOp .geq t (.string a) (.string b)).run Tryz.prog W = .ok (.bool false) W := by
  simp [binOp, Op.stringOp, h]
theorem less_up {ys : List T} (h : Up ys) {k : Nat} (hk : k + 1 < ys.length) : Op.bytesLess (bs ys[k]).toList (bs ys[k + 1]).toList = true := by
  rw [Wsort.less_is]
  exact decide_eq_true (up_get h (Nat.lt_succ_self k) (List.getElem?_eq_getElem (Nat.lt_of_succ_lt hk)) (List.getElem?_eq_getElem hk))

set_option maxRecDepth 100000 in
set_option maxHeartbeats 8000000 in
theorem walk (A0 : Option Addr) (n0 c0 : Nat) (zs0 : List Int) (A1 : Option Addr) (n1 c1 : Nat) (zs1 : List Int) (w : World) (hl0 : IntIs w A0 n0 c0 zs0) (hm0 : n0 ≤ maxLen) (hl1 : IntIs w A1 n1 c1 zs1) (hm1 : n1 ≤ maxLen) :
    Calls Tryz.prog 3 #[.slice A0 n0 c0, .slice A1 n1 c1] w fun e W' => e = .returned (.bool true) ∧ Below w.heap.size w W' := by
  have HFi := Lib.hid (Wfiles.files_is A0 n0 c0 zs0 w hl0 hm0)
  have HWo := Lib.hid (fun W (hW : Below w.heap.size w W) => Wwo.word_is A1 n1 c1 zs1 W (nums_below hl1 hW) hm1)
  clear hl0 hl1 hm0 hm1
  go_enter Tryz.func3, Tryz.ntmps3
  go_wp2_with fail
  refine HFi.out.mono ?_
  rintro e W1 ⟨A', c', k, l, hk, rfl, hE, hk12, hT, hb1⟩
  have HB1 := Lib.hid hb1
  have HInv := Lib.hid (newL_inv l)
  have HSm := Lib.hid (newL_sml (by omega) hT)
  have HFo := Lib.hid (fs_ok (newL_inv l) HSm.out)
  have HN1 := Lib.hid (Vnew.new_is A' k c' l W1 hk hE (fun x hx => tiny_raw (hT x hx)) (by unfold maxLen; omega))
  have HN2 := Lib.hid (fun W (hW : Below W1.heap.size W1 W) => Wnew.new_is A' k c' l W hk (hE.below hW) (fun x hx => tiny_raw (hT x hx)))
  obtain ⟨L, hL⟩ : ∃ L, L = newL l := ⟨_, rfl⟩
  rw [← hL] at HInv HSm HFo HN1 HN2
  clear hk hE hT hb1 hL HFi
  go_wp2_with fail
  refine HN1.out.mono ?_
  rintro e W2 ⟨fa, B, bl, rfl, hF2, hb2⟩
  have HF2 := Lib.hid hF2
  have HB2 := Lib.hid hb2
  clear hF2 hb2 HN1
  go_wp2_with fail
  refine (HN2.out _ HB2.out).mono ?_
  rintro e W3 ⟨f2, rfl, hF3, hb3⟩
  have HF3 := Lib.hid (HF2.out.below hb3)
  have HG3 := Lib.hid hF3.fat
  have HB3 := Lib.hid (HB1.out.trans ((HB2.out.trans (hb3.mono HB2.out.size)).mono HB1.out.size))
  clear hF3 hb3 HN2 HF2 HB2 HB1
  go_wp2_with fail
  refine (HWo.out _ HB3.out).mono ?_
  rintro e W4 ⟨s, rfl, hin, hb4⟩
  have HIn := Lib.hid hin
  have HF4 := Lib.hid (HF3.out.below hb4)
  have HD4 := Lib.hid (doc_of (HG3.out.below hb4) HInv.out HSm.out)
  have HB4 := Lib.hid (HB3.out.trans (hb4.mono HB3.out.size))
  obtain ⟨N, hN⟩ : ∃ N, N = (expandP L s).length := ⟨_, rfl⟩
  have HEx := Lib.hid (Wawk.exp_is fa B bl L s (bs s) (expandP L s) N W4 HF4.out HFo.out (word_ok HFo.out HSm.out hin) rfl rfl hN.symm)
  have HUp := Lib.hid (expand_up HFo.out (in_fine hin))
  have HTh := Lib.hid (expand_there HFo.out (in_fine hin) (in_plain hin))
  have HLe := Lib.hid (expand_small HSm.out HFo.out hin)
  have HEq := Lib.hid (expand_eq HFo.out (in_fine hin))
  have HDw := Lib.hid (doc_word HSm.out hin)
  have HN := Lib.hid hN
  have hNb : N ≤ 1000000000 := by rw [hN]; exact HLe.out.1
  clear hin hb4 hN HF3 HG3 HB3 HWo
  go_wp2_with fail
  refine HEx.out.mono ?_
  rintro e W5 ⟨A5, c5, rfl, hs5, hb5⟩
  have HS5 := Lib.hid hs5
  have HF5 := Lib.hid (HF4.out.below hb5)
  have HD5 := Lib.hid (HD4.out.below hb5)
  have HB5 := Lib.hid (HB4.out.trans (hb5.mono HB4.out.size))
  clear hs5 hb5 HEx HF4 HD4 HB4
  obtain ⟨ys, hys⟩ : ∃ ys, ys = expandP L s := ⟨_, rfl⟩
  rw [← hys] at HUp HTh HLe HEq HN HS5
  clear hys
  go_wp2_with fail
  go_loopw [10] (fun i wr => ∃ k : Nat, k ≤ N ∧ i = .int .i64 k ∧ Hid (Below W5.heap.size W5 wr)) (fun i _ => N - (intOf i).toNat)
  case atStart => exact ⟨0, Nat.zero_le _, rfl, Below.refl _ _⟩
  case round =>
    obtain ⟨k, hk, rfl, HB⟩ := hrel
    by_cases hlt : k < N
    · have hkl : k < ys.length := by rw [← HN.out]; exact hlt
      have hx : (ys.map bs)[k]? = some (bs ys[k]) := by rw [List.getElem?_map, List.getElem?_eq_getElem hkl]; rfl
      obtain ⟨b, o, rfl, hbl, hcs⟩ := HS5.out.at_ hx
      obtain ⟨nd, hnd⟩ := HTh.out _ (List.getElem_mem hkl)
      have HSz := Lib.hid (HLe.out.2 _ (List.getElem_mem hkl))
      have hlo := look_is fa B bl L (bs (47 :: ys[k])) wr (HF5.out.below HB.out) HInv.out (by rw [size_bs, List.length_cons]; have := HSz.out; omega) (by have := HSm.out.1; omega)
      rw [hnd] at hlo
      have HLo := Lib.hid (show Calls Tryz.prog 9 #[.pointer (some fa), .string (bs (47 :: ys[k]))] wr fun e W' => e = .returned (.tuple #[.agg #[.string nd.p, .bool nd.d, .string nd.t], .bool true]) ∧ Below wr.heap.size wr W' from hlo)
      have c1 := hcs wr HB.out
      have HC1 := Lib.hid hcs
      by_cases hk0 : k = 0
      · subst hk0
        rw [Nat.add_zero] at c1
        clear hx hcs hbl hnd hlo
        generalize ys[0] = y at *
        have a1 : ∀ Wd, (Op.stringOp .add ⟨#[47]⟩ (bs y)).run Tryz.prog Wd = .ok (.string (bs (47 :: y))) Wd := fun Wd => add_bs [47] y _ Wd rfl (by have := HSz.out; show 1 + _ ≤ _; omega)
        go_wp2_with fail
        refine HLo.out.mono ?_
        rintro e W6 ⟨rfl, hb6⟩
        have HB6 := Lib.hid ((HB.out.trans (hb6.mono HB.out.size)).alloc (Nat.le_trans HB.out.size hb6.size) (.cells #[.string nd.p, .bool nd.d, .string nd.t] 33))
        have c2 := HC1.out _ HB6.out
        rw [Nat.add_zero] at c2
        clear hb6 HLo c1 HC1 HB
        go_wp2_with fail
        go_quiet (fail)
        go_wp2_with fail
        go_roundw
        case rel => exact ⟨0 + 1, by omega, by go_num, below_drewN HB6.out _⟩
        case measure => simp [intOf] <;> omega
      · obtain ⟨j, rfl⟩ : ∃ j, k = j + 1 := ⟨k - 1, by omega⟩
        have hjl : j < ys.length := Nat.lt_of_succ_lt hkl
        have hy : (ys.map bs)[j]? = some (bs ys[j]) := by rw [List.getElem?_map, List.getElem?_eq_getElem hjl]; rfl
        obtain ⟨b', o', hbo, hbl', hcs'⟩ := HS5.out.at_ hy
        obtain ⟨rfl, rfl⟩ : b = b' ∧ o = o' := by simpa using hbo
        have hge := fun t W => binOp_geq t _ _ (less_up HUp.out hkl) W
        have HC2 := Lib.hid hcs'
        have q1 : IntKind.i64.wrap (((j + 1 : Nat) : Int) - 1) = (j : Int) := by
          rw [show (((j + 1 : Nat) : Int) - 1) = (j : Int) by omega]; exact IntWalk.i64_in _ (by omega)
        clear hx hy hcs hcs' hbo hbl hbl' hnd hlo
        generalize ys[j] = x at *
        generalize ys[j + 1] = y at *
        have a1 : ∀ Wd, (Op.stringOp .add ⟨#[47]⟩ (bs y)).run Tryz.prog Wd = .ok (.string (bs (47 :: y))) Wd := fun Wd => add_bs [47] y _ Wd rfl (by have := HSz.out; show 1 + _ ≤ _; omega)
        go_wp2_with fail
        refine HLo.out.mono ?_
        rintro e W6 ⟨rfl, hb6⟩
        have HB6 := Lib.hid ((HB.out.trans (hb6.mono HB.out.size)).alloc (Nat.le_trans HB.out.size hb6.size) (.cells #[.string nd.p, .bool nd.d, .string nd.t] 33))
        have c2 := HC1.out _ HB6.out
        have c3 := HC2.out _ HB6.out
        clear hb6 HLo c1 HC1 HC2 HB
        go_wp2_with fail
        go_quiet (fail)
        go_wp2_with fail
        go_roundw
        case rel => exact ⟨j + 1 + 1, by omega, by go_num, below_drewN HB6.out _⟩
        case measure => simp [intOf]; omega
    · obtain rfl : k = N := by omega
      have hr := expandR_is f2 L s wr (HD5.out.below HB.out) HDw.out
      rw [← HEq.out, ← HN.out] at hr
      have HR := Lib.hid hr
      have HB9 := Lib.hid (HB5.out.trans (HB.out.mono HB5.out.size))
      have HS9 := Lib.hid (HS5.out.below HB.out)
      clear hr
      go_wp2_with fail
      refine HR.out.mono ?_
      rintro e W6 ⟨A6, m6, c6, rfl, rfl, hs6, hb6⟩
      have HSame := Lib.hid (same_is A5 A6 m6 c5 c6 (ys.map bs) W6 (by rw [List.length_map]; exact HN.out.symm) (HS9.out.below hb6) hs6 (by unfold maxLen; omega))
      have HB6 := Lib.hid (HB9.out.trans (hb6.mono HB9.out.size))
      clear hs6 hb6 HR
      go_wp2_with fail
      refine HSame.out.mono ?_
      rintro e W7 ⟨rfl, hb7⟩
      have HB7 := Lib.hid (HB6.out.trans (hb7.mono HB6.out.size))
      clear hb7 HSame
      go_wp2_with fail
      refine (Wawk.awake_is _).mono ?_
      rintro e W8 ⟨rfl, hb8⟩
      have HB8 := Lib.hid (HB7.out.trans (hb8.mono HB7.out.size))
      clear hb8
      go_wp2
      go_ret
      exact ⟨rfl, HB8.out⟩

end Go.Proofs.YtghfmbmdfojapaaGreatDoor.WildNumbers
