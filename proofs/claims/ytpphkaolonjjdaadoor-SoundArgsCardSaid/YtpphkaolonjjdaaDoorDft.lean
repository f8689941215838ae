/- The document's fits: may a function have so many arguments? -/
import Derived.StillTailTactics
import Derived.Test.YtpphkaolonjjdaaDoorFrd
import Derived.Test.YtpphkaolonjjdaaDoorCops
import Derived.Test.YtpphkaolonjjdaaDoorDpl
namespace Go.Proofs.YtpphkaolonjjdaaDoor.Dft
open Go Go.RowKit Go.Proofs.YtpphkaolonjjdaaDoor.Spl Go.Proofs.YtpphkaolonjjdaaDoor.Cpl Go.Proofs.YtpphkaolonjjdaaDoor.Cin Go.Proofs.YtpphkaolonjjdaaDoor.Cops Go.Proofs.YtpphkaolonjjdaaDoor.Dpl
open Go.Proofs.YtpphkaolonjjdaaDoor.Pure (bs)

theorem cells_four {W : World} {H : Nat} {x y z u : Value} {ty : TypeId} (h : W.heap[H]? = some (.cells #[x, y, z, u] ty)) : W.cell? ⟨H, 0, none⟩ = some x ∧ W.cell? ⟨H, 1, none⟩ = some y ∧ W.cell? ⟨H, 2, none⟩ = some z ∧ W.cell? ⟨H, 3, none⟩ = some u :=
  ⟨by rw [Lib.cell_of_heap h]; rfl, by rw [Lib.cell_of_heap h]; rfl, by rw [Lib.cell_of_heap h]; rfl, by rw [Lib.cell_of_heap h]; rfl⟩
theorem find_fit (s : T) (n : Int) (lz : Bool) (W : World) : Calls Tryd.prog 35 #[.string (bs s)] W fun e W' => ∃ mn mx l pu ok, e = .returned (.tuple #[.agg #[.int .i64 mn, .int .i64 mx, .bool l, .bool pu], .bool ok]) ∧ Below W.heap.size W W' ∧ fitsB s n lz = (ok && ((l == lz) && (decide (mn ≤ n) && (decide (mx = 0) || decide (n ≤ mx))))) := by
  have h1 := Frd.refFind_is (bs s) W
  unfold Frd.refV Frd.infV at h1
  have e0 : (bs s).data.toList = s := by simp [bs]
  rw [e0, Frd.refI_eq] at h1
  refine h1.mono fun e W' ⟨h2, h3⟩ => ⟨_, _, _, _, _, h2, h3, ?_⟩
  unfold fitsB
  cases h : Fpl.lookI Fpl.tab s with
  | none => rfl
  | some i => rfl

set_option maxRecDepth 100000 in
set_option maxHeartbeats 4000000 in
theorem fits_is (s : T) (n : Int) (lz : Bool) (w : World) :
    Calls Tryd.prog 39 #[.string (bs s), .int .i64 n, .bool lz] w fun e W' => e = .returned (.bool (fitsB s n lz)) ∧ Below w.heap.size w W' := by
  have HF := Lib.hid (find_fit s n lz)
  obtain ⟨R, hR⟩ : ∃ R, R = fitsB s n lz := ⟨_, rfl⟩
  rw [← hR] at HF ⊢
  clear hR
  go_enter Tryd.func39, Tryd.ntmps39
  go_upto_region 2 with (go_at_call 35; refine (HF.out _).mono ?_; rintro e w2 ⟨mn, mx, l, pu, ok, rfl, hb2, hr⟩; have HB2 := Lib.hid hb2; have HR := Lib.hid hr; clear hb2 hr)
  obtain ⟨w3, hw3⟩ : ∃ w3, w2.alloc (.cells #[.int .i64 mn, .int .i64 mx, .bool l, .bool pu] 73) = w3 := ⟨_, rfl⟩
  rw [hw3]
  have HB3 : Hid (Below w.heap.size w w3) := by rw [← hw3]; exact HB2.out.alloc HB2.out.size _
  have hx3 : w3.heap[w2.heap.size]? = some (.cells #[.int .i64 mn, .int .i64 mx, .bool l, .bool pu] 73) := by rw [← hw3]; exact heap_alloc_new w2 _
  obtain ⟨f0, f1, f2, f3⟩ := cells_four hx3
  clear hw3 hx3
  have hr := HR.out
  cases ok
  · have HE : Hid (R = false) := hr
    clear hr
    go_wp2
    go_ret
    exact ⟨by rw [HE.out]; rfl, HB3.out⟩
  · by_cases hl : l = lz
    · subst hl
      by_cases h1 : mn ≤ n
      · by_cases h2 : mx = 0
        · subst h2
          have he : R = true := by rw [hr]; simp [h1]
          have HE := Lib.hid he
          clear he
          clear hr
          go_wp2
          go_ret
          exact ⟨by rw [HE.out]; rfl, HB3.out⟩
        · have h2b : (mx == 0) = false := by simpa using h2
          by_cases h3 : n ≤ mx
          · have he : R = true := by rw [hr]; simp [h1, h3]
            have HE := Lib.hid he
            clear he
            clear hr
            go_wp2
            go_ret
            exact ⟨by rw [HE.out]; rfl, HB3.out⟩
          · have he : R = false := by rw [hr]; simp [h2, h3]
            have HE := Lib.hid he
            clear he
            clear hr
            go_wp2
            go_ret
            exact ⟨by rw [HE.out]; rfl, HB3.out⟩
      · have he : R = false := by rw [hr]; simp [h1]
        have HE := Lib.hid he
        clear he
        clear hr
        go_wp2
        go_ret
        exact ⟨by rw [HE.out]; rfl, HB3.out⟩
    · have he : R = false := by rw [hr]; simp [hl]
      have HE := Lib.hid he
      clear he
      have hll : (l == lz) = false := by simpa using hl
      clear hr
      go_wp2
      go_ret
      exact ⟨by rw [HE.out]; rfl, HB3.out⟩

end Go.Proofs.YtpphkaolonjjdaaDoor.Dft
