/- The document's Compile, out of its node. -/
import Derived.Test.YtpphkaolonjjdaaDoorCmmJ
import Derived.Test.YtpphkaolonjjdaaDoorCmnJ
namespace Go.Proofs.YtpphkaolonjjdaaDoor.Cmo
open Go Go.RowKit Go.Proofs.YtpphkaolonjjdaaDoor.Spl Go.Proofs.YtpphkaolonjjdaaDoor.Nodm Go.Proofs.YtpphkaolonjjdaaDoor.Nz Go.Proofs.YtpphkaolonjjdaaDoor.Cpl Go.Proofs.YtpphkaolonjjdaaDoor.Cin Go.Proofs.YtpphkaolonjjdaaDoor.Cops Go.Proofs.YtpphkaolonjjdaaDoor.Cmc Go.Proofs.YtpphkaolonjjdaaDoor.Cmm Go.Proofs.YtpphkaolonjjdaaDoor.Cnm Go.Proofs.YtpphkaolonjjdaaDoor.Cpu Go.Proofs.YtpphkaolonjjdaaDoor.Cmr Go.Proofs.YtpphkaolonjjdaaDoor.Cmn
open Go.Proofs.YtpphkaolonjjdaaDoor.Cpo (two_boxes)
open Go.Proofs.YtpphkaolonjjdaaDoor.Pure (bs)

theorem make_row (W : World) : (Instr.makeSlice 22 (.int .i64 1) (.int .i64 1)).run Tryd.prog W = .ok (.slice (some ⟨W.heap.size, 0, none⟩) 1 1) (W.alloc (.cells #[.slice none 0 0] 38)) := by kernel_rfl
set_option maxRecDepth 100000 in
set_option maxHeartbeats 4000000 in
theorem refCompile_of (HN : ∀ (S : Nat → Prop) (w0 : World) (h cb : Nat) (x : Nz), frmZ x = true → KidR S w0 h cb 0 x) (S : Nat → Prop) (v : Value) (x : Nz) (w : World) (h : NzIn S w v x) (hf : frmZ x = true) (hx : siz x ≤ 400000) :
    Calls Tryd.prog 16 #[v] w fun e W' => ∃ vB G, e = .returned (.agg #[vB]) ∧ Jcd.RowsG w.heap.size W' vB G ∧ blk G = compP x ∧ Below w.heap.size w W' := by
  have HN0 := fun w0 cb => HN (fun b => b < w.heap.size ∧ S b) w0 w.heap.size cb x hf (fun _ => False) [[]]
  obtain ⟨X, hX⟩ : ∃ X, X = compP x := ⟨_, rfl⟩
  obtain ⟨k, s, l⟩ := x
  obtain ⟨A, c, rfl, hn⟩ := h.inv
  obtain ⟨w1, hw1, hb1, hx1, hx2⟩ := two_boxes w (.cells #[.int .i64 k, .string (bs s), .slice A l.length c] 31) (.cells #[.slice none 0 0] 24)
  have hz1 : w1.heap.size = w.heap.size + 1 + 1 := by rw [← hw1]; simp
  obtain ⟨w2, hw2, hb2, hx3, hx4⟩ := two_boxes w1 (.cells #[.slice none 0 0] 38) (.cells #[.slice (some ⟨w1.heap.size, 0, none⟩) 1 1] 60)
  obtain ⟨cb, hcb⟩ : ∃ cb, cb = w1.heap.size + 1 := ⟨_, rfl⟩
  rw [← hcb] at hx4
  have hB2 : Below w.heap.size w w2 := hb1.trans (hb2.mono hb1.size)
  have hst : StR (fun b => b < w.heap.size ∧ S b) w2 w.heap.size cb (fun _ => False) w2 [[]] := by
    refine ⟨⟨Kp.refl _ _ _, hB2.size, fun b hSb _ => .inl hSb.1⟩, .slice (some ⟨w1.heap.size, 0, none⟩) 1 1, [(.slice none 0 0, [])], ⟨by omega, hx4, ⟨rfl, .inr ⟨w1.heap.size, 1, #[.slice none 0 0], rfl, by omega, hx3, Nat.le_refl _, by decide, rfl, rfl⟩⟩, fun g hg => ?_, fun g hg y hy => ?_, fun i j a b hij ha hb => ?_⟩, rfl, fun k hk => hk.elim⟩
    · rw [List.mem_singleton] at hg
      subst hg
      exact World.ownsRow_nil ..
    · rw [List.mem_singleton] at hg
      subst hg
      cases hy
    · have h1 := (List.getElem?_eq_some_iff.1 ha).1
      have h2 := (List.getElem?_eq_some_iff.1 hb).1
      rw [List.length_singleton] at h1 h2
      omega
  have hnx : NzIn (fun b => b < w.heap.size ∧ S b) w2 (.agg #[.int .i64 k, .string (bs s), .slice A l.length c]) (.mk k s l) := h.move (fun b hSb hlt => ⟨⟨hlt, hSb⟩, hB2.block b hlt⟩) hB2.size
  have hcall := HN0 w2 cb _ w2 (by show 0 + siz _ ≤ _; omega) (by show 1 + siz _ ≤ _; omega) (by decide) hnx hst
  obtain ⟨q, hq⟩ : ∃ q, q = l.length := ⟨_, rfl⟩
  have hxn : w2.heap[w.heap.size]? = some (.cells #[.int .i64 k, .string (bs s), .slice A q c] 31) := by rw [hq]; exact (hb2.block _ (by omega)).trans hx1
  have hxr : w2.heap[w.heap.size + 1]? = some (.cells #[.slice none 0 0] 24) := (hb2.block _ (by omega)).trans hx2
  rw [← hq] at hcall hw1
  rw [← hq]
  have HC := Lib.hid hcall
  have HW1 := Lib.hid hw1
  have HW2 := Lib.hid hw2
  have HB2 := Lib.hid hB2
  have HXr := Lib.hid hxr
  have HCb := Lib.hid hcb
  have HZ1 := Lib.hid hz1
  have HX := Lib.hid hX
  rw [← hX]
  obtain ⟨n0, n1, n2⟩ := cells_3 hxn
  have mk := make_row
  have hcr : cb ≠ w.heap.size + 1 := by omega
  have HCr := Lib.hid hcr
  clear HN HN0 h hf hx hn hw1 hb1 hx1 hx2 hw2 hb2 hx3 hx4 hB2 hst hnx hcall hq hxn hxr hz1 hX hcr hcb
  go_enter Tryd.func16, Tryd.ntmps16
  go_upto_region 1 with fail
  rw [HW1.out]
  go_upto_region 2 with fail
  rw [HW2.out, ← HCb.out]
  go_upto_region 3 with (go_at_call 24; refine HC.out.mono ?_; rintro e w3 ⟨rfl, hs3, hk3, hy3⟩; have HS3 := Lib.hid hs3; have HK3 := Lib.hid hk3; clear hs3 hk3 hy3)
  clear n0 n1 n2 mk
  obtain ⟨hwr, vB, G, hco, hG, _⟩ := HS3.out
  obtain ⟨Ab, cbp, rfl⟩ := own_slice hco.row
  have b0 := one_cell hco.box
  have hxr := HK3.out.keep _ _ HXr.out (fun h => h.elim (xnr_not (by decide) (by decide)) (xo_not (by decide) (by decide)))
  have r0 := one_cell hxr
  have r1 := Lib.frozen_of_heap hxr 0
  have hkr : Kp w.heap.size (fun k o => k = w.heap.size + 1 ∧ isT 24 o) w3 (w3.setCell ⟨w.heap.size + 1, 0, none⟩ (.slice Ab G.length cbp)) := Kp.set _ 0 _ (by omega) fun o ho => by
    rw [hxr] at ho
    cases ho
    exact ⟨rfl, _, _, rfl⟩
  have hck := (hco.kept hkr ⟨fun cs h => HCr.out h.1, fun k cs h => isT_ne (by decide) h.2, fun k cs h => isT_ne (by decide) h.2, fun k cs h => isT_ne (by decide) h.2⟩)
  have hBc : blk G = X := hG.trans HX.out.symm
  have hres := heap_setCell_same w3 (w.heap.size + 1) 0 _ _ (.slice Ab G.length cbp) hxr
  have d0 := one_cell hres
  obtain ⟨g, hg⟩ : ∃ g, g = G.length := ⟨_, rfl⟩
  rw [← hg] at hkr hck hres
  have HFin : Hid (∃ vB G, Ending.returned (.agg #[.slice Ab g cbp]) = .returned (.agg #[vB]) ∧ Jcd.RowsG w.heap.size (w3.setCell ⟨w.heap.size + 1, 0, none⟩ (.slice Ab g cbp)) vB G ∧ blk G = X ∧ Below w.heap.size w (w3.setCell ⟨w.heap.size + 1, 0, none⟩ (.slice Ab g cbp))) :=
    ⟨_, G, rfl, ⟨hck.row, hck.ops, hck.nums⟩, hBc, (HB2.out.trans HK3.out.below).trans hkr.below⟩
  rw [← hg] at b0 d0
  clear hwr hco hG hxr hkr hck hBc hres hg
  go_wp2
  exact bodyPost_ret (v := .agg #[.slice Ab g cbp]) (by simp [results, Tryd.results16, go_sem, d0]) rfl HFin.out

end Go.Proofs.YtpphkaolonjjdaaDoor.Cmo
