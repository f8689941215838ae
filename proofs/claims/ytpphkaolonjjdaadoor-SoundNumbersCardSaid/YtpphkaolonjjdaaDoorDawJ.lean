/- law13's awake, from what package sound is to be shown to answer. -/
import Derived.Test.YtpphkaolonjjdaaDoorDprJ
namespace Go.Proofs.YtpphkaolonjjdaaDoor.Daw
open Go Go.RowKit Go.Proofs.YtpphkaolonjjdaaDoor.Spl Go.Proofs.YtpphkaolonjjdaaDoor.Cpl Go.Proofs.YtpphkaolonjjdaaDoor.Cin Go.Proofs.YtpphkaolonjjdaaDoor.Cops Go.Proofs.YtpphkaolonjjdaaDoor.Dpl Go.Proofs.YtpphkaolonjjdaaDoor.Dpr Go.Proofs.YtpphkaolonjjdaaDoor.Nodm Go.Proofs.YtpphkaolonjjdaaDoor.Jkd Go.Proofs.YtpphkaolonjjdaaDoor.Jbk Go.Proofs.YtpphkaolonjjdaaDoor.Jdp
open Go.Proofs.YtpphkaolonjjdaaDoor.Pure (bs)

def awB : List (List Opp) := [[⟨1, 0, [97], []⟩, ⟨1, 0, [], []⟩, ⟨4, 2, [], []⟩]]
theorem aw_check : checkP awB = true := by kernel_rfl
theorem aw_depth : depthP awB = 2 := by kernel_rfl
theorem no_check : checkP [] = false := by kernel_rfl
theorem no_depth : depthP [] = 0 := by kernel_rfl
theorem aw_ok : Okd awB := ⟨by decide, by decide, fun l hl o ho => oko_of (List.all_eq_true.1 (List.all_eq_true.1 (show awB.all (fun l => l.all okoB) = true by decide) l hl) o ho)⟩
theorem no_ok : Okd [] := ⟨by decide, by decide, fun l h => by cases h⟩
theorem no_in {w : World} (hk : Knd w) : CodeU w (.agg #[.slice none 0 0]) [] := ⟨hk, none, 0, rfl, Nat.le_refl _, .inl rfl⟩

theorem aw_in (w W : World) (hk : Knd W) (h0 : W.heap[w.heap.size]? = some (.cells #[.int .i64 1, .int .i64 0, .string ⟨#[97]⟩, .slice none 0 0, .int .i64 1, .int .i64 0, .string ⟨#[]⟩, .slice none 0 0, .int .i64 4, .int .i64 2, .string ⟨#[]⟩, .slice none 0 0] 40)) (h1 : W.heap[w.heap.size + 1]? = some (.cells #[.slice (some ⟨w.heap.size, 0, none⟩) 3 3] 38)) :
    CodeU W (.agg #[.slice (some ⟨w.heap.size + 1, 0, none⟩) 1 1]) awB := by
  refine ⟨hk, _, _, rfl, Nat.le_refl _, .inr ⟨w.heap.size + 1, 0, rfl, (Array.getElem?_eq_some_iff.1 h1).1, ⟨_, _, h1⟩, fun j l hj => ?_⟩⟩
  have hjl := (List.getElem?_eq_some_iff.1 hj).1
  obtain rfl : j = 0 := by have hjl : j < 1 := hjl; omega
  cases hj
  exact ⟨_, 3, Nat.le_refl _, ops_lit h0 rfl (by decide) ⟨_, _, h0⟩, (Lib.cell_of_heap h1 0).trans rfl⟩

set_option maxRecDepth 100000 in
set_option maxHeartbeats 4000000 in
theorem awake_is (w : World) (hK : Knd w) : Calls Tryd.prog 9 #[] w fun e W' => e = .returned (.bool true) ∧ Below w.heap.size w W' := by
  obtain ⟨W1, hW1, hb1, h0, h1, h2, hz⟩ := three_boxes w (.cells #[.int .i64 1, .int .i64 0, .string ⟨#[97]⟩, .slice none 0 0, .int .i64 1, .int .i64 0, .string ⟨#[]⟩, .slice none 0 0, .int .i64 4, .int .i64 2, .string ⟨#[]⟩, .slice none 0 0] 40) (.cells #[.slice (some ⟨w.heap.size, 0, none⟩) 3 3] 38) (.cells #[.slice (some ⟨w.heap.size + 1, 0, none⟩) 1 1] 24)
  have hk1 := hK.on hb1
  have hin := aw_in w W1 hk1 h0 h1
  have hc0 := fun W (hW : Below W1.heap.size W1 W) => check_ok [] _ W (no_in (hk1.on hW)) no_ok
  have hd0 := fun W (hW : Below W1.heap.size W1 W) => depth_ok [] _ W (no_in (hk1.on hW)) no_ok
  have hc1 := fun W (hW : Below W1.heap.size W1 W) => check_ok awB _ W (hin.on hW) aw_ok
  have hd1 := fun W (hW : Below W1.heap.size W1 W) => depth_ok awB _ W (hin.on hW) aw_ok
  rw [no_check] at hc0
  rw [no_depth] at hd0
  rw [aw_check] at hc1
  rw [aw_depth] at hd1
  have HC0 := Lib.hid hc0
  have HD0 := Lib.hid hd0
  have HC1 := Lib.hid hc1
  have HD1 := Lib.hid hd1
  have HW1 := Lib.hid hW1
  have HB1 := Lib.hid hb1
  have HX2 := Lib.hid h2
  have HZ := Lib.hid hz
  have e1 := one_cell h2
  clear hW1 hb1 h0 h1 h2 hin hc0 hd0 hc1 hd1 hz hk1 hK
  go_enter Tryd.func9, Tryd.ntmps9
  go_upto_region 2 with fail
  rw [HW1.out]
  go_wp2_with (first
    | (go_at_call 10; refine (HC0.out _ (Below.refl _ _)).mono ?_; rintro e W2 ⟨rfl, hb2⟩; have HB2 := Lib.hid hb2; have e2 := one_cell ((hb2.block _ (by have := HZ.out; omega)).trans HX2.out); clear hb2 HC0)
    | (go_at_call 10; refine (HC1.out _ HB2.out).mono ?_; rintro e W3 ⟨rfl, hb3⟩; have HB3 := Lib.hid (HB2.out.trans (hb3.mono HB2.out.size)); have e3 := one_cell ((HB3.out.block _ (by have := HZ.out; omega)).trans HX2.out); clear hb3)
    | (go_at_call 12; refine (HD1.out _ HB3.out).mono ?_; rintro e W4 ⟨rfl, hb4⟩; have HB4 := Lib.hid (HB3.out.trans (hb4.mono HB3.out.size)); clear hb4 HD1)
    | (go_at_call 12; refine (HD0.out _ HB4.out).mono ?_; rintro e W5 ⟨rfl, hb5⟩; have HB5 := Lib.hid (HB4.out.trans (hb5.mono HB4.out.size)); clear hb5))
  go_ret
  exact ⟨rfl, HB1.out.trans (HB5.out.mono HB1.out.size)⟩

end Go.Proofs.YtpphkaolonjjdaaDoor.Daw
