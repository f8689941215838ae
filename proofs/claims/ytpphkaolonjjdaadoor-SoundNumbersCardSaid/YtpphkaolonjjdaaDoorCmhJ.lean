/- The document's node: a lazy call. -/
import Derived.Test.YtpphkaolonjjdaaDoorCmlJ
namespace Go.Proofs.YtpphkaolonjjdaaDoor.Cmh
open Go Go.RowKit Go.Proofs.YtpphkaolonjjdaaDoor.Spl Go.Proofs.YtpphkaolonjjdaaDoor.Nodm Go.Proofs.YtpphkaolonjjdaaDoor.Nz Go.Proofs.YtpphkaolonjjdaaDoor.Cpl Go.Proofs.YtpphkaolonjjdaaDoor.Cin Go.Proofs.YtpphkaolonjjdaaDoor.Cops Go.Proofs.YtpphkaolonjjdaaDoor.Cmc Go.Proofs.YtpphkaolonjjdaaDoor.Cmm Go.Proofs.YtpphkaolonjjdaaDoor.Cnm Go.Proofs.YtpphkaolonjjdaaDoor.Cpu Go.Proofs.YtpphkaolonjjdaaDoor.Cmr Go.Proofs.YtpphkaolonjjdaaDoor.Cmn
open Go.Proofs.YtpphkaolonjjdaaDoor.Pure (bs)

set_option maxRecDepth 100000 in
set_option maxHeartbeats 16000000 in
theorem node_lazy (S : Nat → Prop) (w0 : World) (h cb b : Nat) (Y : Nat → Prop) (B : List (List Opp)) (s : T) (l : List Nz) (A : Option Addr) (c : Nat) (w : World) (HI : ∀ f, KidsR S w0 h cb f l) (hst : StR S w0 h cb Y w B) (hn : NzsIn S w0 A c l) (hb : b < B.length) (ho : opsP B + sizs l < 400000) (hB : B.length + sizs l ≤ 400000) (hz : lazyB s = true) :
    Calls Tryd.prog 24 #[.pointer (some ⟨cb, 0, none⟩), .int .i64 (b : Int), .agg #[.int .i64 4, .string (bs s), .slice A l.length c]] w fun e W' => e = .returned (.tuple #[]) ∧ StR S w0 h cb Y W' (Cpl.put (lazyP l B.length (B ++ List.replicate l.length [])) b ⟨6, 0, s, (List.range' B.length l.length).map Int.ofNat⟩) ∧ Kp h (XR cb) w W' ∧ Stay Y w W' := by
  obtain ⟨m, hm⟩ : ∃ m, m = l.length := ⟨_, rfl⟩
  obtain ⟨w1, hw1⟩ : ∃ w1, w.alloc (.cells #[.int .i64 4, .string (bs s), .slice A m c] 31) = w1 := ⟨_, rfl⟩
  have hb1 : Below w.heap.size w w1 := by rw [← hw1]; exact (Below.refl _ _).alloc (Nat.le_refl _) _
  have hx1 : w1.heap[w.heap.size]? = some (.cells #[.int .i64 4, .string (bs s), .slice A m c] 31) := by rw [← hw1]; exact heap_alloc_new w _
  have HW1 := Lib.hid hw1
  have HS1 := Lib.hid (hst.on hb1)
  have HK1 : Hid (Kp h (XR cb) w w1) := Kp.of hb1 hst.1.size _
  have HY1 : Hid (Stay Y w w1) := hst.stay hb1
  have HX1 := Lib.hid hx1
  have HL : Hid (∀ W, StR S w0 h cb Y W B → Calls Tryd.prog 36 #[.pointer (some ⟨cb, 0, none⟩), .int .i64 (b : Int), .agg #[.int .i64 4, .string (bs s), .slice A m c]] W fun e W' => e = .returned (.tuple #[]) ∧ StR S w0 h cb Y W' (Cpl.put (lazyP l B.length (B ++ List.replicate l.length [])) b ⟨6, 0, s, (List.range' B.length l.length).map Int.ofNat⟩) ∧ Kp h (XR cb) W W' ∧ Stay Y W W') := fun W hW => by
    rw [hm]
    exact Cml.lazy_is S w0 h cb b Y B s l A c W HI hW hn hb ho hB
  obtain ⟨R, hR⟩ : ∃ R, R = Cpl.put (lazyP l B.length (B ++ List.replicate l.length [])) b ⟨6, 0, s, (List.range' B.length l.length).map Int.ofNat⟩ := ⟨_, rfl⟩
  rw [← hR] at HL ⊢
  rw [← hm]
  obtain ⟨n0, n1, n2⟩ := cells_3 hx1
  have HFd : Hid (∀ W, Calls Tryd.prog 35 #[.string (bs s)] W fun e W' => ∃ mn mx pu ok, e = .returned (.tuple #[.agg #[.int .i64 mn, .int .i64 mx, .bool true, .bool pu], .bool ok]) ∧ Below W.heap.size W W') := fun W => by
    have h1 := Frd.refFind_is (bs s) W
    unfold Frd.refV Frd.infV at h1
    have e0 : (bs s).data.toList = s := by simp [bs]
    rw [e0, Frd.refI_eq] at h1
    have e1 : ((Fpl.lookI Fpl.tab s).getD Fpl.zero).lz = true := (lazy_get s).trans hz
    rw [e1] at h1
    exact h1.mono fun e W' ⟨h2, h3⟩ => ⟨_, _, _, _, h2, h3⟩
  clear hw1 hb1 hst hx1 HI hn hm hR ho hB hb hz
  go_enter Tryd.func24, Tryd.ntmps24
  go_upto_region 1 with fail
  rw [HW1.out]
  go_upto_region 6 with (go_at_call 35; refine (HFd.out _).mono ?_; rintro e w2 ⟨mn, mx, pu, ok, rfl, hb2⟩; have HB2 := Lib.hid hb2; clear hb2)
  obtain ⟨w3, hw3⟩ : ∃ w3, w2.alloc (.cells #[.int .i64 mn, .int .i64 mx, .bool true, .bool pu] 73) = w3 := ⟨_, rfl⟩
  rw [hw3]
  have hb3 : Below w1.heap.size w1 w3 := by rw [← hw3]; exact HB2.out.alloc HB2.out.size _
  have hx3 : w3.heap[w2.heap.size]? = some (.cells #[.int .i64 mn, .int .i64 mx, .bool true, .bool pu] 73) := by rw [← hw3]; exact heap_alloc_new w2 _
  obtain ⟨f0, f1, f2, f3⟩ := cells_four hx3
  have hs3 := HS1.out.on hb3
  have hk3 : Kp h (XR cb) w1 w3 := Kp.of hb3 HS1.out.1.size _
  have HC := Lib.hid (HL.out w3 hs3)
  have HK3 : Hid (Kp h (XR cb) w w3) := HK1.out.trans hk3
  have HY3 : Hid (Stay Y w w3) := HY1.out.trans (HS1.out.stay hb3)
  clear n0 n1 n2
  obtain ⟨n0, n1, n2⟩ := cells_3 (hk3.keep _ _ HX1.out xr_not)
  clear hw3 hb3 hx3 hs3 hk3 HL
  go_wp2_with (go_at_call 36; refine HC.out.mono ?_; rintro e w4 ⟨rfl, hs4, hk4, hy4⟩; have HS4 := Lib.hid hs4; have HK4 := Lib.hid (HK3.out.trans hk4); have HY4 := Lib.hid (HY3.out.trans hy4); clear hs4 hk4 hy4)
  all_goals exact bodyPost_ret (v := .tuple #[]) (by simp [results, Tryd.results24, go_sem]) rfl ⟨rfl, HS4.out, HK4.out, HY4.out⟩

end Go.Proofs.YtpphkaolonjjdaaDoor.Cmh
