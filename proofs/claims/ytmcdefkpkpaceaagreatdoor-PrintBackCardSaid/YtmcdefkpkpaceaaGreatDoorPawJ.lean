/- law11's awake: the document's example. -/
import Derived.Test.YtmcdefkpkpaceaaGreatDoorKprintJ
import Derived.Test.YtmcdefkpkpaceaaGreatDoorNzJ
namespace Go.Proofs.YtmcdefkpkpaceaaGreatDoor.Paw
open Go.RowKit Go.Proofs.YtmcdefkpkpaceaaGreatDoor.Spl Go.Proofs.YtmcdefkpkpaceaaGreatDoor.Nodm Go.Proofs.YtmcdefkpkpaceaaGreatDoor.Nz Go.Proofs.YtmcdefkpkpaceaaGreatDoor.Qtp Go.Proofs.YtmcdefkpkpaceaaGreatDoor.Qprt Go.Proofs.YtmcdefkpkpaceaaGreatDoor.Qsame
open Go.Proofs.YtmcdefkpkpaceaaGreatDoor.Pure (bs)

theorem text_dollar : textZ (.mk 1 [36] []) = [36, 36] := by rw [textZ]; rfl
theorem text_none : textZ (.mk 9 [] []) = [] := by rw [textZ]; rfl
theorem parse_two : parse [36, 36] = .ok (.mk 1 [36] []) := by kernel_rfl
theorem parse_nil : parse [] = .ok (.mk 1 [] []) := by kernel_rfl
theorem pr_dollar : prB (.mk 1 [36] []) = true := by
  unfold prB
  rw [text_dollar, parse_two]
  exact same_yes (by rw [toZ, toZs]; rfl)
theorem prT_dollar : prT (.mk 1 [36] []) = [36, 36] := by rw [prT, pr_dollar, if_pos rfl, text_dollar]
theorem pr_none : prB (.mk 9 [] []) = false := by
  unfold prB
  rw [text_none, parse_nil]
  exact same_no fun e => by
    rw [toZ] at e
    injection e with e _ _
    exact absurd e (by decide)

set_option maxRecDepth 100000 in
set_option maxHeartbeats 1000000 in
theorem awake_is (w : World) : Calls Tryz.prog 6 #[] w fun e W' => e = .returned (.bool true) ∧ Below w.heap.size w W' := by
  have H1 := Lib.hid (fun W => Kprint.print_is (.mk 1 [36] []) (fun _ => False) (fun h => h) _ W (NzIn.leaf (fun _ => False) W 1 [36] none 0) (by simp [wt, wts]) (by simp [siz, sizs]) (by rw [text_dollar]; decide))
  have H2 := Lib.hid (fun W => Kprint.print_is (.mk 9 [] []) (fun _ => False) (fun h => h) _ W (NzIn.leaf (fun _ => False) W 9 [] none 0) (by simp [wt, wts]) (by simp [siz, sizs]) (by rw [text_none]; decide))
  rw [prT_dollar, pr_dollar] at H1
  rw [pr_none] at H2
  generalize prT (.mk 9 [] []) = t at H2
  have hq : ((bs [36, 36]).toList == [36, 36]) = true := by rw [Lib.toList_data]; rfl
  go_enter Tryz.func6, Tryz.ntmps6
  go_upto_region 2 with (go_at_call 7; refine (H1.out _).mono ?_; rintro e W1 ⟨rfl, hb1⟩; have HB1 := Lib.hid hb1; clear hb1)
  go_wp2_with (go_at_call 7; refine (H2.out _).mono ?_; rintro e W2 ⟨rfl, hb2⟩; have HB2 := Lib.hid hb2; clear hb2)
  go_ret
  exact ⟨rfl, HB1.out.trans (HB2.out.mono HB1.out.size)⟩

end Go.Proofs.YtmcdefkpkpaceaaGreatDoor.Paw
