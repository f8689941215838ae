/- walker: where a walk begins. -/
import Derived.Test.YtgfpdaaofhanoaaGreatDoorWwt
namespace Go.Proofs.YtgfpdaaofhanoaaGreatDoor.Wwa
open Go.RowKit Go.Maps Go.Proofs.YtgfpdaaofhanoaaGreatDoor.Pth Go.Proofs.YtgfpdaaofhanoaaGreatDoor.Strs Go.Proofs.YtgfpdaaofhanoaaGreatDoor.Vfs Go.Proofs.YtgfpdaaofhanoaaGreatDoor.Vmap Go.Proofs.YtgfpdaaofhanoaaGreatDoor.Vfind Go.Proofs.YtgfpdaaofhanoaaGreatDoor.Vlook Go.Proofs.YtgfpdaaofhanoaaGreatDoor.Vperm Go.Proofs.YtgfpdaaofhanoaaGreatDoor.Wdp Go.Proofs.YtgfpdaaofhanoaaGreatDoor.Wnm Go.Proofs.YtgfpdaaofhanoaaGreatDoor.Wno Go.Proofs.YtgfpdaaofhanoaaGreatDoor.Wnn Go.Proofs.YtgfpdaaofhanoaaGreatDoor.Wlv Go.Proofs.YtgfpdaaofhanoaaGreatDoor.Wrc Go.Proofs.YtgfpdaaofhanoaaGreatDoor.Wwk Go.Proofs.YtgfpdaaofhanoaaGreatDoor.Wwt

def walkF (ab fb : Nat) : Value := .func (.func 67) #[] #[.pointer (some ⟨ab, 0, none⟩), .pointer (some ⟨fb, 0, none⟩)]
/-- the place / -/
def top (b : Nat) : Pl := ⟨[47], b, true, .slice none 0 0, []⟩
theorem run_top (w : World) : ∃ W, (Instr.mapUpdate 88 (.map (some w.heap.size)) (.string ⟨#[47]⟩) (.pointer (some ⟨w.heap.size + 1, 0, none⟩))).run Tryz.prog ((w.alloc (.map #[] 0)).alloc (.cells #[.bool true, .slice none 0 0] 125)) = .ok () W ∧
    LevIs W w.heap.size w.heap.size [top (w.heap.size + 1)] ∧ Below w.heap.size w W ∧ w.heap.size + 2 ≤ W.heap.size := by
  have h1 : LevIs (w.alloc (.map #[] 0)) w.heap.size w.heap.size [] := lev_start w _
  have h2 : LevIs ((w.alloc (.map #[] 0)).alloc (.cells #[.bool true, .slice none 0 0] 125)) w.heap.size w.heap.size [] := h1.below ((Below.refl _ _).alloc (Nat.le_refl _) _)
  have h3 := heap_alloc_new (w.alloc (.map #[] 0)) (.cells #[.bool true, .slice none 0 0] 125)
  rw [World.size_alloc] at h3
  obtain ⟨W, hrun, hL, hg⟩ := h2.add (k := [47]) (by decide) rfl h3 (by omega) (fun e he => absurd he List.not_mem_nil) (by decide)
  refine ⟨W, hrun, hL, ?_, ?_⟩
  · have h4 : Below w.heap.size w ((w.alloc (.map #[] 0)).alloc (.cells #[.bool true, .slice none 0 0] 125)) := ((Below.refl _ _).alloc (Nat.le_refl _) _).alloc (by simp) _
    exact h4.grown hg (by simp; omega) (fun k e => by rw [← Option.some.inj e]; exact Nat.le_refl _)
  · have := hg.size
    simp only [World.size_alloc] at this
    omega

set_option maxRecDepth 100000 in
set_option maxHeartbeats 4000000 in
theorem walker_is (fa : Addr) (w : World) :
    Calls Tryz.prog 51 #[.pointer (some fa)] w fun e W' => ∃ fb ab m0 b0 lo, e = .returned (walkF ab fb) ∧ W'.cell? ⟨fb, 0, none⟩ = some (.pointer (some fa)) ∧ fb < W'.heap.size ∧ W'.heap[ab]? = some (.cells #[.map (some m0)] 88 (0, 0)) ∧ LevIs W' lo m0 [top b0] ∧ w.heap.size ≤ lo ∧ Below w.heap.size w W' ∧ w.heap.size ≤ ab ∧ w.heap.size ≤ fb ∧ fb ≠ ab := by
  obtain ⟨w1, hw1⟩ : ∃ w1, w1 = w.alloc (.cells #[.pointer (some fa)] 26) := ⟨_, rfl⟩
  obtain ⟨W, hrun, hL, hB, hz⟩ := run_top w1
  have hmm := @run_makeMap Tryz.prog
  have HL := Lib.hid hL
  have HB := Lib.hid hB
  have HZ := Lib.hid hz
  have H1 : Hid (w1.heap.size = w.heap.size + 1 ∧ w1.heap[w.heap.size]? = some (.cells #[.pointer (some fa)] 26 (0, 0)) ∧ Below w.heap.size w w1) := by rw [hw1]; exact ⟨World.size_alloc .., heap_alloc_new _ _, (Below.refl _ _).alloc (Nat.le_refl _) _⟩
  clear hL hB hz
  go_enter Tryz.func51, Tryz.ntmps51
  go_upto_region 1 with fail
  rw [← hw1]
  clear hw1
  go_wp2_with fail
  go_ret
  have h1 := H1.out
  have hz := HZ.out
  have hB : Below W.heap.size W (W.alloc (.cells #[.map (some w1.heap.size)] 88)) := (Below.refl _ _).alloc (Nat.le_refl _) _
  have hf : (W.alloc (.cells #[.map (some w1.heap.size)] 88)).heap[w.heap.size]? = some (.cells #[.pointer (some fa)] 26 (0, 0)) := (hB.block _ (by omega)).trans ((HB.out.block _ (by omega)).trans h1.2.1)
  refine ⟨w.heap.size, W.heap.size, w1.heap.size, w1.heap.size + 1, w1.heap.size, rfl, by rw [Lib.cell_of_heap hf]; rfl, by rw [World.size_alloc]; omega, heap_alloc_new _ _, HL.out.below hB, by omega, h1.2.2.trans ((HB.out.trans (hB.mono (by omega))).mono (by omega)), by omega, Nat.le_refl _, by omega⟩

end Go.Proofs.YtgfpdaaofhanoaaGreatDoor.Wwa
