/- The program's Find. -/
import Derived.Lib.Builder
import Derived.Test.YtpphkaolonjjdaaDoorFmp
namespace Go.Proofs.YtpphkaolonjjdaaDoor.Ufind
open Go Go.RowKit Go.Maps Go.Sort Go.Proofs.YtpphkaolonjjdaaDoor.Strs Go.Proofs.YtpphkaolonjjdaaDoor.Srt Go.Proofs.YtpphkaolonjjdaaDoor.Fpl Go.Proofs.YtpphkaolonjjdaaDoor.Fmp
open Go.Proofs.YtpphkaolonjjdaaDoor.Pure (bs)

/-- what Find answers -/
def findV (x : ByteArray) : Value := .tuple #[infV ((lookI tab x.data.toList).getD zero), .bool (lookI tab x.data.toList).isSome]

set_option maxRecDepth 100000 in
set_option maxHeartbeats 4000000 in
theorem find_is (s : ByteArray) (w : World) (hs : s.size ≤ maxLen) :
    Calls Tryd.prog 50 #[.string s] w fun e W' => e = .returned (findV s) ∧ Below w.heap.size w W' := by
  have HF := functions_is (w.alloc (.cells #[.int .i64 0, .int .i64 0, .bool false, .bool false] 92))
  have HL := Lib.hid (fun W (h : Made (w.alloc (.cells #[.int .i64 0, .int .i64 0, .bool false, .bool false] 92)) W tab) => h.lookup s hs)
  unfold findV
  unfold infV at HL ⊢
  generalize (lookI tab s.data.toList).getD zero = q at *
  generalize (lookI tab s.data.toList).isSome = r at *
  have HF := Lib.hid HF
  go_enter Tryd.func50, Tryd.ntmps50
  go_wp2_with fail
  refine HF.out.mono ?_
  rintro e W2 ⟨rfl, hm2⟩
  have hl := HL.out W2 hm2
  have hb2 := hm2.1
  have hg : W2.heap[w.heap.size]? = some (.cells #[.int .i64 0, .int .i64 0, .bool false, .bool false] 92 (0, 0)) := (hb2.block _ (by simp)).trans (heap_alloc_new w _)
  have hs2 := hb2.size
  rw [World.size_alloc] at hs2
  have hgo := (Lib.alloc_old W2 (.cells #[.int .i64 q.mn, .int .i64 q.mx, .bool q.lz, .bool q.pu] 92) w.heap.size (by omega)).trans hg
  have k0 : (W2.alloc (.cells #[.int .i64 q.mn, .int .i64 q.mx, .bool q.lz, .bool q.pu] 92)).cell? ⟨w.heap.size, 0, none⟩ = some (.int .i64 0) := by rw [Lib.cell_of_heap hgo]; rfl
  have k1 : (W2.alloc (.cells #[.int .i64 q.mn, .int .i64 q.mx, .bool q.lz, .bool q.pu] 92)).cell? ⟨w.heap.size, 1, none⟩ = some (.int .i64 0) := by rw [Lib.cell_of_heap hgo]; rfl
  have k2 : (W2.alloc (.cells #[.int .i64 q.mn, .int .i64 q.mx, .bool q.lz, .bool q.pu] 92)).cell? ⟨w.heap.size, 2, none⟩ = some (.bool false) := by rw [Lib.cell_of_heap hgo]; rfl
  have k3 : (W2.alloc (.cells #[.int .i64 q.mn, .int .i64 q.mx, .bool q.lz, .bool q.pu] 92)).cell? ⟨w.heap.size, 3, none⟩ = some (.bool false) := by rw [Lib.cell_of_heap hgo]; rfl
  have f0 : (W2.alloc (.cells #[.int .i64 q.mn, .int .i64 q.mx, .bool q.lz, .bool q.pu] 92)).frozen? ⟨w.heap.size, 0, none⟩ = false := Lib.frozen_of_heap hgo 0
  have f1 : (W2.alloc (.cells #[.int .i64 q.mn, .int .i64 q.mx, .bool q.lz, .bool q.pu] 92)).frozen? ⟨w.heap.size, 1, none⟩ = false := Lib.frozen_of_heap hgo 1
  have f2 : (W2.alloc (.cells #[.int .i64 q.mn, .int .i64 q.mx, .bool q.lz, .bool q.pu] 92)).frozen? ⟨w.heap.size, 2, none⟩ = false := Lib.frozen_of_heap hgo 2
  have f3 : (W2.alloc (.cells #[.int .i64 q.mn, .int .i64 q.mx, .bool q.lz, .bool q.pu] 92)).frozen? ⟨w.heap.size, 3, none⟩ = false := Lib.frozen_of_heap hgo 3
  have HB := Lib.hid ((alloc_below w (.cells #[.int .i64 0, .int .i64 0, .bool false, .bool false] 92)).trans (hb2.mono (by simp)))
  clear hb2 HF hg hgo HL hm2 hs
  rw [World.size_alloc] at hl
  go_wp2
  exact bodyPost_ret (v := .tuple #[.agg #[.int .i64 q.mn, .int .i64 q.mx, .bool q.lz, .bool q.pu], .bool r]) (by simp [results, Tryd.results50, go_sem, k0, k1, k2, k3]) rfl
    ⟨rfl, ((((HB.out.alloc (by omega) _).setCell (p := ⟨_, _, none⟩) (Nat.le_refl _) _).setCell (p := ⟨_, _, none⟩) (Nat.le_refl _) _).setCell (p := ⟨_, _, none⟩) (Nat.le_refl _) _).setCell (p := ⟨_, _, none⟩) (Nat.le_refl _) _⟩

end Go.Proofs.YtpphkaolonjjdaaDoor.Ufind
