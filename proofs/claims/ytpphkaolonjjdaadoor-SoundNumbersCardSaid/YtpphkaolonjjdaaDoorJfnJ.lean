/- The program's function: is there a function, lazy or not, that takes so many arguments? (written by wip/tools/mkfunction.py) -/
import Derived.Test.YtpphkaolonjjdaaDoorFmpJ
import Derived.Test.YtpphkaolonjjdaaDoorCopsJ
import Derived.Test.YtpphkaolonjjdaaDoorJmpJ
namespace Go.Proofs.YtpphkaolonjjdaaDoor.Jfn
open Go Go.RowKit Go.Proofs.YtpphkaolonjjdaaDoor.Spl Go.Proofs.YtpphkaolonjjdaaDoor.Fpl Go.Proofs.YtpphkaolonjjdaaDoor.Fmp Go.Proofs.YtpphkaolonjjdaaDoor.Cpl Go.Proofs.YtpphkaolonjjdaaDoor.Cin Go.Proofs.YtpphkaolonjjdaaDoor.Cops Go.Proofs.YtpphkaolonjjdaaDoor.Dpl Go.Proofs.YtpphkaolonjjdaaDoor.Jkd Go.Proofs.YtpphkaolonjjdaaDoor.Jmp
open Go.Proofs.YtpphkaolonjjdaaDoor.Pure (bs)

theorem data_bs (s : T) : (bs s).data.toList = s := by simp [bs]
theorem size_bs (s : T) : (bs s).size = s.length := by rw [Lib.size_eq, data_bs]
theorem cells_3 {W : World} {H : Nat} {x y z : Value} {ty : TypeId} (h : W.heap[H]? = some (.cells #[x, y, z] ty)) : W.cell? ⟨H, 0, none⟩ = some x ∧ W.cell? ⟨H, 1, none⟩ = some y ∧ W.cell? ⟨H, 2, none⟩ = some z :=
  ⟨by rw [Lib.cell_of_heap h]; rfl, by rw [Lib.cell_of_heap h]; rfl, by rw [Lib.cell_of_heap h]; rfl⟩
/-- two new blocks behind one another -/
theorem two_new (w : World) (a b : Obj) : ∃ W, (w.alloc a).alloc b = W ∧ Below w.heap.size w W ∧ W.heap[w.heap.size]? = some a ∧ W.heap[w.heap.size + 1]? = some b ∧ W.heap.size = w.heap.size + 2 := by
  refine ⟨_, rfl, ((Below.refl _ _).alloc (Nat.le_refl _) _).alloc (by simp) _, ?_, ?_, by simp⟩
  · rw [Lib.alloc_old (w.alloc a) b _ (by rw [World.size_alloc]; omega)]
    exact heap_alloc_new w a
  · have := heap_alloc_new (w.alloc a) b
    rw [World.size_alloc] at this
    exact this
/-- four stores into one block -/
theorem four_set {W : World} {b : Nat} {x y z u x' y' z' u' : Value} {t : TypeId} (h : W.heap[b]? = some (.cells #[x', y', z', u'] t (0, 0))) :
    ∃ V, (((W.setCell ⟨b, 0, none⟩ x).setCell ⟨b, 1, none⟩ y).setCell ⟨b, 2, none⟩ z).setCell ⟨b, 3, none⟩ u = V ∧ V.heap[b]? = some (.cells #[x, y, z, u] t (0, 0)) ∧ V.heap.size = W.heap.size ∧ Below b W V ∧ ∀ k, k ≠ b → V.heap[k]? = W.heap[k]? := by
  have h1 := heap_setCell_same W b 0 _ _ x h
  have h2 := heap_setCell_same _ b 1 _ _ y h1
  have h3 := heap_setCell_same _ b 2 _ _ z h2
  have h4 := heap_setCell_same _ b 3 _ _ u h3
  refine ⟨_, rfl, h4, by simp, ((((Below.refl b W).setCell (p := ⟨b, 0, none⟩) (Nat.le_refl _) _).setCell (p := ⟨b, 1, none⟩) (Nat.le_refl _) _).setCell (p := ⟨b, 2, none⟩) (Nat.le_refl _) _).setCell (p := ⟨b, 3, none⟩) (Nat.le_refl _) _, fun k hk => ?_⟩
  rw [heap_setCell_other _ ⟨b, 3, none⟩ k _ hk, heap_setCell_other _ ⟨b, 2, none⟩ k _ hk, heap_setCell_other _ ⟨b, 1, none⟩ k _ hk, heap_setCell_other _ ⟨b, 0, none⟩ k _ hk]
theorem fin_new {w0 : World} {own q f r g : Nat} {w w2 w3 V : World} (h : St w0 own q f r w) (hb2 : Below w.heap.size w w2) (hb3 : Below w2.heap.size w2 w3) (hv3 : Below (g + 1) w3 V) (hv4 : ∀ k, k ≠ g + 1 → V.heap[k]? = w3.heap[k]?) (hg : g = w.heap.size) (hf : f < g) (hr : r < g) : St w0 own q f r V ∧ Fr f r w V := by
  have hb : Below w.heap.size w V := (hb2.trans (hb3.mono hb2.size)).trans (hv3.mono (by omega))
  exact ⟨((h.on hb2).on hb3).of (hv3.mono (by have := h.bel.size; omega)) (hv4 f (by omega)) (hv4 r (by omega)), Fr.of hb⟩

set_option maxRecDepth 100000 in
set_option maxHeartbeats 4000000 in
/-- what is asked of the map is there -/
theorem function_old (w0 : World) (own q f r : Nat) (s : T) (n : Int) (lz : Bool) (w : World) (h : St w0 own q f r w) (i : Inf) (hi : lookI tab s = some i)
    (hl : ∀ W, W.heap[f]? = w.heap[f]? → (Instr.lookup 48 (.map (some f)) (.string (bs s)) true).run Tryd.prog W = .ok (.tuple #[infV i, .bool true]) W) :
    Calls Tryd.prog 37 #[walkV q f r, .string (bs s), .bool lz, .int .i64 n] w fun e W' => e = .returned (.bool (fitsB s n lz)) ∧ St w0 own q f r W' ∧ Fr f r w W' := by
  obtain ⟨mn, mx, l, pu⟩ := i
  obtain ⟨R, hR⟩ : ∃ R, R = fitsB s n lz := ⟨_, rfl⟩
  rw [← hR]
  unfold fitsB at hR
  rw [hi] at hR
  unfold fitI at hR
  dsimp only at hR
  unfold infV at hl
  dsimp only at hl
  obtain ⟨w2, hw2, hb2, hx1, hx2, hz2⟩ := two_new w (.cells #[.int .i64 (q : Int), .map (some f), .map (some r)] 51) (.cells #[.int .i64 mn, .int .i64 mx, .bool l, .bool pu] 92)
  have hb1 : Below w.heap.size w (w.alloc (.cells #[.int .i64 (q : Int), .map (some f), .map (some r)] 51)) := (Below.refl _ _).alloc (Nat.le_refl _) _
  have l1 := hl (w.alloc (.cells #[.int .i64 (q : Int), .map (some f), .map (some r)] 51)) (hb1.block f h.lt.1)
  obtain ⟨f0, f1, f2, f3⟩ := cells_four hx2
  have HW2 := Lib.hid hw2
  have HFin : Hid (St w0 own q f r w2 ∧ Fr f r w w2) := ⟨h.on hb2, Fr.of hb2⟩
  unfold walkV
  clear hl hw2 hb2 hx1 hx2 hz2 hb1 h hi
  go_enter Tryd.func37, Tryd.ntmps37
  go_upto_region 2 with fail
  rw [HW2.out]
  clear HW2 l1
  by_cases hll : l = lz
  · subst hll
    by_cases h1 : mn ≤ n
    · by_cases h2 : mx = 0
      · subst h2
        have HE : Hid (R = true) := by show _ = _; rw [hR]; simp [h1]
        clear hR
        go_wp2
        go_ret
        exact ⟨by rw [HE.out]; rfl, HFin.out⟩
      · have h2b : (mx == 0) = false := by simpa using h2
        by_cases h3 : n ≤ mx
        · skip
          have HE : Hid (R = true) := by show _ = _; rw [hR]; simp [h1, h3]
          clear hR
          go_wp2
          go_ret
          exact ⟨by rw [HE.out]; rfl, HFin.out⟩
        · skip
          have HE : Hid (R = false) := by show _ = _; rw [hR]; simp [h2, h3]
          clear hR
          go_wp2
          go_ret
          exact ⟨by rw [HE.out]; rfl, HFin.out⟩
    · skip
      have HE : Hid (R = false) := by show _ = _; rw [hR]; simp [h1]
      clear hR
      go_wp2
      go_ret
      exact ⟨by rw [HE.out]; rfl, HFin.out⟩
  · have hlb : (l == lz) = false := by simpa using hll
    have HE : Hid (R = false) := by show _ = _; rw [hR]; simp [hll]
    clear hR
    go_wp2
    go_ret
    exact ⟨by rw [HE.out]; rfl, HFin.out⟩

set_option maxRecDepth 100000 in
set_option maxHeartbeats 4000000 in
/-- what is asked of the map is not there: it is asked of the table -/
theorem function_new (w0 : World) (own q f r : Nat) (s : T) (n : Int) (lz : Bool) (w : World) (h : St w0 own q f r w) (hs : s.length ≤ maxLen)
    (hl : ∀ W, W.heap[f]? = w.heap[f]? → (Instr.lookup 48 (.map (some f)) (.string (bs s)) true).run Tryd.prog W = .ok (.tuple #[infV zero, .bool false]) W) :
    Calls Tryd.prog 37 #[walkV q f r, .string (bs s), .bool lz, .int .i64 n] w fun e W' => e = .returned (.bool (fitsB s n lz)) ∧ St w0 own q f r W' ∧ Fr f r w W' := by
  have hl : ∀ W, W.heap[f]? = w.heap[f]? → (Instr.lookup 48 (.map (some f)) (.string (bs s)) true).run Tryd.prog W = .ok (.tuple #[.agg #[.int .i64 0, .int .i64 0, .bool false, .bool false], .bool false]) W := hl
  obtain ⟨R, hR⟩ : ∃ R, R = fitsB s n lz := ⟨_, rfl⟩
  rw [← hR]
  unfold fitsB at hR
  obtain ⟨w2, hw2, hb2, hx1, hx2, hz2⟩ := two_new w (.cells #[.int .i64 (q : Int), .map (some f), .map (some r)] 51) (.cells #[.int .i64 0, .int .i64 0, .bool false, .bool false] 92)
  have hb1 : Below w.heap.size w (w.alloc (.cells #[.int .i64 (q : Int), .map (some f), .map (some r)] 51)) := (Below.refl _ _).alloc (Nat.le_refl _) _
  have l1 := hl (w.alloc (.cells #[.int .i64 (q : Int), .map (some f), .map (some r)] 51)) (hb1.block f h.lt.1)
  have HW2 := Lib.hid hw2
  have HFd := Lib.hid (Ufind.find_is (bs s) w2 (by rw [size_bs]; exact hs))
  obtain ⟨g, hg⟩ : ∃ g, g = w.heap.size := ⟨_, rfl⟩
  rw [← hg] at hx1 hx2 hz2
  have hfg : f < g := by rw [hg]; exact h.lt.1
  have hrg : r < g := by rw [hg]; exact h.lt.2
  have HB2 := Lib.hid hb2
  have HH := Lib.hid h
  have HX1 := Lib.hid hx1
  have HX2 := Lib.hid hx2
  have HG := Lib.hid hg
  have HZ := Lib.hid hz2
  have g0 : ∀ {W : World}, W.heap[g + 1]? = w2.heap[g + 1]? → (W.cell? ⟨g + 1, 0, none⟩ = some (.int .i64 0) ∧ W.cell? ⟨g + 1, 1, none⟩ = some (.int .i64 0) ∧ W.cell? ⟨g + 1, 2, none⟩ = some (.bool false) ∧ W.cell? ⟨g + 1, 3, none⟩ = some (.bool false) ∧ W.frozen? ⟨g + 1, 0, none⟩ = false ∧ W.frozen? ⟨g + 1, 1, none⟩ = false ∧ W.frozen? ⟨g + 1, 2, none⟩ = false ∧ W.frozen? ⟨g + 1, 3, none⟩ = false) := fun {W} e => by
    have e := e.trans HX2.out
    obtain ⟨u0, u1, u2, u3⟩ := cells_four e
    exact ⟨u0, u1, u2, u3, Lib.frozen_of_heap e 0, Lib.frozen_of_heap e 1, Lib.frozen_of_heap e 2, Lib.frozen_of_heap e 3⟩
  unfold walkV
  clear hl hw2 hb2 hx1 hx2 hz2 hb1 h hs
  go_enter Tryd.func37, Tryd.ntmps37
  go_upto_region 2 with fail
  rw [HW2.out, ← hg]
  clear HW2 l1 hg
  cases hk : lookI tab s with
  | none =>
    rw [hk] at hR
    have hfd := HFd.out
    unfold Ufind.findV at hfd
    rw [data_bs, hk] at hfd
    have HFd := Lib.hid (show Calls Tryd.prog 50 #[.string (bs s)] w2 fun e W' => e = .returned (.tuple #[.agg #[.int .i64 0, .int .i64 0, .bool false, .bool false], .bool false]) ∧ Below w2.heap.size w2 W' from hfd)
    have HE : Hid (R = false) := hR
    clear hfd hR hk
    go_upto_region 4 with (go_at_call 50; refine HFd.out.mono ?_; rintro e w3 ⟨rfl, hb3⟩; have HB3 := Lib.hid hb3; have n0 := Lib.hid (g0 (HB3.out.block _ (by have := HZ.out; omega))); obtain ⟨c0, c1, c2, c3, z0, z1, z2, z3⟩ := n0.out; clear hb3 HFd)
    obtain ⟨V, hV, hv1, hv2, hv3, hv4⟩ := four_set (x := .int .i64 0) (y := .int .i64 0) (z := .bool false) (u := .bool false) ((HB3.out.block (g + 1) (by have := HZ.out; omega)).trans HX2.out)
    rw [hV]
    have HFin : Hid (St w0 own q f r V ∧ Fr f r w V) := fin_new HH.out HB2.out HB3.out hv3 hv4 HG.out hfg hrg
    clear c0 c1 c2 c3 z0 z1 z2 z3 hV hv1 hv2 hv3 hv4
    go_wp2
    go_ret
    exact ⟨by rw [HE.out]; rfl, HFin.out⟩
  | some i =>
    rw [hk] at hR
    obtain ⟨mn, mx, l, pu⟩ := i
    unfold fitI at hR
    dsimp only at hR
    have hfd := HFd.out
    unfold Ufind.findV at hfd
    rw [data_bs, hk] at hfd
    have HFd := Lib.hid (show Calls Tryd.prog 50 #[.string (bs s)] w2 fun e W' => e = .returned (.tuple #[.agg #[.int .i64 mn, .int .i64 mx, .bool l, .bool pu], .bool true]) ∧ Below w2.heap.size w2 W' from hfd)
    have HK := Lib.hid hk
    clear hfd hk
    go_upto_region 4 with (go_at_call 50; refine HFd.out.mono ?_; rintro e w3 ⟨rfl, hb3⟩; have HB3 := Lib.hid hb3; have n0 := Lib.hid (g0 (HB3.out.block _ (by have := HZ.out; omega))); obtain ⟨c0, c1, c2, c3, z0, z1, z2, z3⟩ := n0.out; clear hb3 HFd)
    obtain ⟨V, hV, hv1, hv2, hv3, hv4⟩ := four_set (x := .int .i64 mn) (y := .int .i64 mx) (z := .bool l) (u := .bool pu) ((HB3.out.block (g + 1) (by have := HZ.out; omega)).trans HX2.out)
    rw [hV]
    have HFin0 : Hid (St w0 own q f r V ∧ Fr f r w V) := fin_new HH.out HB2.out HB3.out hv3 hv4 HG.out hfg hrg
    obtain ⟨V2, hu, hF, hfr, hz⟩ := HFin0.out.1.F.put f (bs s) (i := ⟨mn, mx, l, pu⟩) (by rw [data_bs]; exact HK.out)
    have HFin : Hid (St w0 own q f r V2 ∧ Fr f r w V2) := ⟨HFin0.out.1.asked hF hfr, HFin0.out.2.trans hfr.left⟩
    have hg1 : V.heap[g]? = some (.cells #[.int .i64 (q : Int), .map (some f), .map (some r)] 51) := (hv4 g (by omega)).trans ((HB3.out.block g (by have := HZ.out; omega)).trans HX1.out)
    obtain ⟨p0, p1, p2⟩ := cells_3 hg1
    obtain ⟨y0, y1, y2, y3⟩ := cells_four hv1
    obtain ⟨f0, f1, f2, f3⟩ := cells_four ((hfr.block (g + 1) (Array.getElem?_eq_some_iff.1 hv1).1 (by omega) (by omega)).trans hv1)
    unfold infV at hu
    dsimp only at hu
    clear c0 c1 c2 c3 z0 z1 z2 z3 hV hv1 hv2 hv3 hv4 hF hfr hz hg1 HFin0
    go_upto_region 7 with fail
    clear hu p0 p1 p2 y0 y1 y2 y3
    by_cases hll : l = lz
    · subst hll
      by_cases h1 : mn ≤ n
      · by_cases h2 : mx = 0
        · subst h2
          have HE : Hid (R = true) := by show _ = _; rw [hR]; simp [h1]
          clear hR
          go_wp2
          go_ret
          exact ⟨by rw [HE.out]; rfl, HFin.out⟩
        · have h2b : (mx == 0) = false := by simpa using h2
          by_cases h3 : n ≤ mx
          · skip
            have HE : Hid (R = true) := by show _ = _; rw [hR]; simp [h1, h3]
            clear hR
            go_wp2
            go_ret
            exact ⟨by rw [HE.out]; rfl, HFin.out⟩
          · skip
            have HE : Hid (R = false) := by show _ = _; rw [hR]; simp [h2, h3]
            clear hR
            go_wp2
            go_ret
            exact ⟨by rw [HE.out]; rfl, HFin.out⟩
      · skip
        have HE : Hid (R = false) := by show _ = _; rw [hR]; simp [h1]
        clear hR
        go_wp2
        go_ret
        exact ⟨by rw [HE.out]; rfl, HFin.out⟩
    · have hlb : (l == lz) = false := by simpa using hll
      have HE : Hid (R = false) := by show _ = _; rw [hR]; simp [hll]
      clear hR
      go_wp2
      go_ret
      exact ⟨by rw [HE.out]; rfl, HFin.out⟩

theorem function_is (w0 : World) (own q f r : Nat) (s : T) (n : Int) (lz : Bool) (w : World) (h : St w0 own q f r w) (hs : s.length ≤ maxLen) :
    Calls Tryd.prog 37 #[walkV q f r, .string (bs s), .bool lz, .int .i64 n] w fun e W' => e = .returned (.bool (fitsB s n lz)) ∧ St w0 own q f r W' ∧ Fr f r w W' := by
  obtain ⟨b, hb⟩ : ∃ b : Option Inf, (b = none ∧ ∀ W, W.heap[f]? = w.heap[f]? → (Instr.lookup 48 (.map (some f)) (.string (bs s)) true).run Tryd.prog W = .ok (.tuple #[infV zero, .bool false]) W) ∨ (∃ i, b = some i ∧ lookI tab s = some i ∧ ∀ W, W.heap[f]? = w.heap[f]? → (Instr.lookup 48 (.map (some f)) (.string (bs s)) true).run Tryd.prog W = .ok (.tuple #[infV i, .bool true]) W) := by
    have h1 := h.F.look_all (bs s)
    rw [data_bs] at h1
    rcases h1 with ⟨i, h2, h3⟩ | h3
    · exact ⟨some i, .inr ⟨i, rfl, h2, h3⟩⟩
    · exact ⟨none, .inl ⟨rfl, h3⟩⟩
  rcases hb with ⟨_, h3⟩ | ⟨i, _, h2, h3⟩
  · exact function_new w0 own q f r s n lz w h hs h3
  · exact function_old w0 own q f r s n lz w h i h2 h3

end Go.Proofs.YtpphkaolonjjdaaDoor.Jfn
