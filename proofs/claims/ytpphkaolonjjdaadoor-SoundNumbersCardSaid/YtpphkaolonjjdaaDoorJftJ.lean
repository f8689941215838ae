/- The program's fits: may what a formed instruction has be in its block? -/
import Derived.Test.YtpphkaolonjjdaaDoorJbhJ
namespace Go.Proofs.YtpphkaolonjjdaaDoor.Jft
open Go Go.RowKit Go.Proofs.YtpphkaolonjjdaaDoor.Spl Go.Proofs.YtpphkaolonjjdaaDoor.Nodm Go.Proofs.YtpphkaolonjjdaaDoor.Fpl Go.Proofs.YtpphkaolonjjdaaDoor.Fmp Go.Proofs.YtpphkaolonjjdaaDoor.Cpl Go.Proofs.YtpphkaolonjjdaaDoor.Cin Go.Proofs.YtpphkaolonjjdaaDoor.Cops Go.Proofs.YtpphkaolonjjdaaDoor.Dpl Go.Proofs.YtpphkaolonjjdaaDoor.Jkd Go.Proofs.YtpphkaolonjjdaaDoor.Jmp Go.Proofs.YtpphkaolonjjdaaDoor.Jbh
open Go.Proofs.YtpphkaolonjjdaaDoor.Jfn (cells_3 two_new)
open Go.Proofs.YtpphkaolonjjdaaDoor.Pure (bs)

set_option maxRecDepth 100000 in
set_option maxHeartbeats 4000000 in
theorem fits_is (w0 : World) (own q f r : Nat) (o : Opp) (A : Option Addr) (c : Nat) (w : World) (h : St w0 own q f r w) (hs : o.s.length ≤ maxLen) (hr : NumRow (Unm w0) w0 A o.l) (hl : o.l.length ≤ 1000000000000000) :
    Calls Tryd.prog 26 #[walkV q f r, .agg #[.int .i64 o.k, .int .i64 o.n, .string (bs o.s), .slice A o.l.length c], .int .i64 (own : Int)] w (Said w0 own q f r w (fitO own q o)) := by
  obtain ⟨k, n, s, l⟩ := o
  dsimp only at hs hr hl ⊢
  obtain ⟨w2, hw2, hb2, hx1, hx2, hz2⟩ := two_new w (.cells #[.int .i64 (q : Int), .map (some f), .map (some r)] 51) (.cells #[.int .i64 k, .int .i64 n, .string (bs s), .slice A l.length c] 40)
  obtain ⟨g, hg⟩ : ∃ g, g = w.heap.size := ⟨_, rfl⟩
  rw [← hg] at hx1 hx2 hz2
  have hfg : f < g := by rw [hg]; exact h.lt.1
  have hrg : r < g := by rw [hg]; exact h.lt.2
  have h2 := h.on hb2
  have HFn := Lib.hid (fun (W : World) (n : Int) (lz : Bool) (hW : St w0 own q f r W) => Jfn.function_is w0 own q f r s n lz W hW hs)
  have HBh := Lib.hid (fun (W : World) (hW : St w0 own q f r W) => behind_is w0 own q f r A c l W hW hr hl)
  obtain ⟨z, hz⟩ : ∃ z, z = fitO own q ⟨k, n, s, l⟩ := ⟨_, rfl⟩
  rw [← hz]
  unfold fitO at hz
  dsimp only at hz
  have HFin : Hid (∀ W, Fr f r w2 W → FTab f W → (z = true → St w0 own q f r W) → Said w0 own q f r w z (.returned (.bool z)) W) := fun W h1 h2 h3 => ⟨rfl, (Fr.of hb2).trans h1, h2, h3⟩
  obtain ⟨p0, p1, p2⟩ := cells_3 hx1
  obtain ⟨a0, a1, a2, a3⟩ := cells_four hx2
  have HW2 := Lib.hid hw2
  have HH := Lib.hid h2
  have HG := Lib.hid hg
  have HX1 := Lib.hid hx1
  have HX2 := Lib.hid hx2
  unfold walkV at HFn HBh ⊢
  generalize farB own q l = fb at *
  generalize l.length = m at *
  clear hw2 hb2 hx1 hx2 h h2 hs hr hg
  go_enter Tryd.func26, Tryd.ntmps26
  go_upto_region 1 with fail
  rw [HW2.out, ← HG.out]
  by_cases k4 : k = 4
  · subst k4
    rw [if_pos rfl] at hz
    have HS := Lib.hid (HFin.out w2 (Fr.refl _ _ _) HH.out.F fun _ => HH.out)
    by_cases hn : 0 ≤ n
    · obtain rfl : z = true := by rw [hz]; exact decide_eq_true hn
      clear hz
      go_wp2
      go_ret
      exact HS.out
    · obtain rfl : z = false := by rw [hz]; exact decide_eq_false hn
      clear hz
      go_wp2
      go_ret
      exact HS.out
  rw [if_neg k4] at hz
  have k4b : (k == 4) = false := by rw [beq_eq_false_iff_ne]; exact k4
  by_cases k5 : k = 5
  · subst k5
    rw [if_pos rfl] at hz
    have h5 := HFn.out w2 n false HH.out
    rw [← hz] at h5
    have HF5 := Lib.hid h5
    clear hz h5 HFn HBh
    go_wp2_with (go_at_call 37; refine HF5.out.mono ?_; rintro e w3 ⟨rfl, hs3, hf3⟩; have HS := Lib.hid (HFin.out w3 hf3 hs3.F fun _ => hs3); clear hs3 hf3)
    go_ret
    exact HS.out
  rw [if_neg k5] at hz
  have k5b : (k == 5) = false := by rw [beq_eq_false_iff_ne]; exact k5
  by_cases k6 : k = 6
  · subst k6
    rw [if_pos rfl] at hz
    clear k4 k4b k5 k5b
    have h6 := HFn.out w2 (m : Int) true HH.out
    cases hfs : fitsB s (m : Int) true
    · rw [hfs] at h6 hz
      replace hz : z = false := hz
      subst hz
      have HF6 := Lib.hid h6
      clear h6 HFn HBh hfs
      go_wp2_with (go_at_call 37; refine HF6.out.mono ?_; rintro e w3 ⟨rfl, hs3, hf3⟩; have HS := Lib.hid (HFin.out w3 hf3 hs3.F fun _ => hs3); clear hs3 hf3)
      go_ret
      exact HS.out
    · rw [hfs] at h6 hz
      replace hz : z = !fb := hz
      subst hz
      have HF6 := Lib.hid h6
      have HX : Hid (∀ W, Fr f r w2 W → (W.cell? ⟨g, 0, none⟩ = some (.int .i64 (q : Int)) ∧ W.cell? ⟨g, 1, none⟩ = some (.map (some f)) ∧ W.cell? ⟨g, 2, none⟩ = some (.map (some r))) ∧ W.cell? ⟨g + 1, 3, none⟩ = some (.slice A m c)) := fun W hW =>
        ⟨cells_3 ((hW.block g (by omega) (by omega) (by omega)).trans HX1.out), (cells_four ((hW.block (g + 1) (by omega) (by omega) (by omega)).trans HX2.out)).2.2.2⟩
      clear h6 HFn hfs
      go_wp2_with (first
        | (go_at_call 37; refine HF6.out.mono ?_; rintro e w3 ⟨rfl, hs3, hf3⟩; have HS3 := Lib.hid hs3; have HF3 := Lib.hid hf3; obtain ⟨⟨y0, y1, y2⟩, y3⟩ := HX.out w3 hf3; clear hs3 hf3 HF6)
        | (go_at_call 38; refine (HBh.out w3 HS3.out).mono ?_; rintro e w4 ⟨rfl, hf4, ht4, hs4⟩; have HS := Lib.hid (HFin.out w4 (HF3.out.trans hf4) ht4 hs4); clear hf4 ht4 hs4))
      go_ret
      exact HS.out
  rw [if_neg k6] at hz
  subst hz
  have k6b : (k == 6) = false := by rw [beq_eq_false_iff_ne]; exact k6
  have HS := Lib.hid (HFin.out w2 (Fr.refl _ _ _) HH.out.F fun _ => HH.out)
  go_wp2
  go_ret
  exact HS.out

end Go.Proofs.YtpphkaolonjjdaaDoor.Jft
