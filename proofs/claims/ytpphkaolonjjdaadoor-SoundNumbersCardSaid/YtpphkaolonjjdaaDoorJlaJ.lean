/- The listed table of kinds, as the program's text lays it, in memory. -/
import Derived.ProofKit
import Derived.OpenShut
import Derived.LaidMore
import Derived.Test.YtpphkaolonjjdaaDoorRows
import Derived.Test.YtpphkaolonjjdaaDoorJkdJ
namespace Go.Proofs.YtpphkaolonjjdaaDoor.Jla
open Go Go.RowKit Go.Proofs.YtpphkaolonjjdaaDoor.Jkd

section
variable {H : Type} {enc : TypeId × Value → H} {w : World} {base : Nat} {spare : Nat → Bool} {held : Bool} {fuel : Nat} {cs : List Value} {x : DataW H × List MemPlace}
theorem lit_int {a : Int} (h : DataW.trod enc Tryd.prog w base spare held fuel 3 cs = some x) (hx : x.1 = .lit (.int .i64 a)) : cs = [.int .i64 a] := by
  obtain ⟨n, rfl, rfl, _⟩ := DataW.trod_int Tryd.underlying3 h
  simp at hx
  rw [hx]
theorem lit_bool {b : Bool} (h : DataW.trod enc Tryd.prog w base spare held fuel 4 cs = some x) (hx : x.1 = .lit (.bool b)) : cs = [.bool b] := by
  obtain ⟨n, rfl, rfl⟩ := DataW.trod_bool Tryd.underlying4 h
  simp at hx
  rw [hx]
theorem at_of {cs : List Value} {i : Nat} {v : Value} (h : (cs.drop i).take 1 = [v]) : cs[i]? = some v := by
  have h1 : ((cs.drop i).take 1)[0]? = some v := by rw [h]; rfl
  rw [List.getElem?_take, if_pos (by decide), List.getElem?_drop] at h1
  exact h1
theorem cells_int : Tryd.prog.cellsOf 3 = 1 := by kernel_rfl
theorem cells_bool : Tryd.prog.cellsOf 4 = 1 := by kernel_rfl
theorem cells_kind : Tryd.prog.cellsOf 77 = 4 := by kernel_rfl
theorem kind_at {a : Int} {b c d : Bool} (h : DataW.trod enc Tryd.prog w base spare held fuel 77 cs = some x) (hx : x.1 = .agg [.lit (.int .i64 a), .lit (.bool b), .lit (.bool c), .lit (.bool d)]) :
    cs[0]? = some (.int .i64 a) ∧ cs[1]? = some (.bool b) ∧ cs[2]? = some (.bool c) ∧ cs[3]? = some (.bool d) := by
  obtain ⟨xs, n, rfl, rfl, _, hlen, hf⟩ := DataW.trod_struct Tryd.underlying77 h
  have h0 := hf 0 _ rfl
  have h1 := hf 1 _ rfl
  have h2 := hf 2 _ rfl
  have h3 := hf 3 _ rfl
  simp only [DataW.agg.injEq] at hx
  match xs, hx with
  | [x0, x1, x2, x3], hx =>
    simp only [List.map_cons, List.map_nil, List.cons.injEq, and_true] at hx
    exact ⟨at_of (lit_int h0 hx.1), at_of (lit_bool h1 hx.2.1), at_of (lit_bool h2 hx.2.2.1), at_of (lit_bool h3 hx.2.2.2)⟩
end

/-- what a law's row lists -/
theorem knd_of {W : World} (h : laidMetH Tryd.prog [("wainwright/sound.kinds", Rows.laid_wainwright_sound_kinds)] W) : Knd W := by
  rw [MakeChecks.laidMetH_plain _ _ _ (by kernel_rfl)] at h
  obtain ⟨ps, ⟨g0, t0, cs0, f0, p0, q0, hg0, ht0, hv0, hd0, _, _⟩, _, _⟩ := h
  obtain rfl := Option.some.inj ((show Tryd.prog.globalNamed "wainwright/sound.kinds" = some 0 by kernel_rfl).symm.trans hg0)
  obtain rfl := Option.some.inj ((show (Tryd.prog.globals[0]?).map (·.type) = some 78 by kernel_rfl).symm.trans ht0)
  have hcell := fun i => World.var?_cell hg0 hv0 i
  obtain ⟨xs, m, rfl, hx, hlen, hn, hel⟩ := DataW.trod_array Tryd.underlying78 hd0
  rw [cells_kind] at hel
  simp only [Rows.laid_wainwright_sound_kinds, Prod.mk.injEq, DataW.agg.injEq] at hx
  match xs, hx, hel with
  | [x0, x1, x2, x3, x4, x5, x6], hx, hel =>
    simp only [List.map_cons, List.map_nil, List.cons.injEq, and_true] at hx
    obtain ⟨⟨e0, e1, e2, e3, e4, e5, e6⟩, _⟩ := hx
    have at4 : ∀ {i j : Nat} {v : Value}, j < 4 → ((cs0.toList.drop (i * 4)).take 4)[j]? = some v → W.cell? ⟨0, i * 4 + j, none⟩ = some v := fun {i j v} hj he => by
      rw [List.getElem?_take, if_pos hj, List.getElem?_drop, Array.getElem?_toList] at he
      exact (hcell (i * 4 + j)).trans he
    obtain ⟨a00, a01, a02, a03⟩ := kind_at (hel 0 (by decide)) e0.symm
    obtain ⟨a10, a11, a12, a13⟩ := kind_at (hel 1 (by decide)) e1.symm
    obtain ⟨a20, a21, a22, a23⟩ := kind_at (hel 2 (by decide)) e2.symm
    obtain ⟨a30, a31, a32, a33⟩ := kind_at (hel 3 (by decide)) e3.symm
    obtain ⟨a40, a41, a42, a43⟩ := kind_at (hel 4 (by decide)) e4.symm
    obtain ⟨a50, a51, a52, a53⟩ := kind_at (hel 5 (by decide)) e5.symm
    obtain ⟨a60, a61, a62, a63⟩ := kind_at (hel 6 (by decide)) e6.symm
    have hall : ∀ j, j < 28 → W.cell? ⟨0, j, none⟩ = kindL[j]? := fun j hj => by
      have hq : j / 4 * 4 + j % 4 = j := by omega
      have hr : j % 4 < 4 := Nat.mod_lt _ (by decide)
      have hd : j / 4 < 7 := by omega
      rw [← hq]
      generalize j / 4 = i at *
      generalize j % 4 = r at *
      match i, r, hd, hr with
      | 0, 0, _, _ => exact at4 (by decide) a00
      | 0, 1, _, _ => exact at4 (by decide) a01
      | 0, 2, _, _ => exact at4 (by decide) a02
      | 0, 3, _, _ => exact at4 (by decide) a03
      | 1, 0, _, _ => exact at4 (by decide) a10
      | 1, 1, _, _ => exact at4 (by decide) a11
      | 1, 2, _, _ => exact at4 (by decide) a12
      | 1, 3, _, _ => exact at4 (by decide) a13
      | 2, 0, _, _ => exact at4 (by decide) a20
      | 2, 1, _, _ => exact at4 (by decide) a21
      | 2, 2, _, _ => exact at4 (by decide) a22
      | 2, 3, _, _ => exact at4 (by decide) a23
      | 3, 0, _, _ => exact at4 (by decide) a30
      | 3, 1, _, _ => exact at4 (by decide) a31
      | 3, 2, _, _ => exact at4 (by decide) a32
      | 3, 3, _, _ => exact at4 (by decide) a33
      | 4, 0, _, _ => exact at4 (by decide) a40
      | 4, 1, _, _ => exact at4 (by decide) a41
      | 4, 2, _, _ => exact at4 (by decide) a42
      | 4, 3, _, _ => exact at4 (by decide) a43
      | 5, 0, _, _ => exact at4 (by decide) a50
      | 5, 1, _, _ => exact at4 (by decide) a51
      | 5, 2, _, _ => exact at4 (by decide) a52
      | 5, 3, _, _ => exact at4 (by decide) a53
      | 6, 0, _, _ => exact at4 (by decide) a60
      | 6, 1, _, _ => exact at4 (by decide) a61
      | 6, 2, _, _ => exact at4 (by decide) a62
      | 6, 3, _, _ => exact at4 (by decide) a63
    refine ⟨?_, hall⟩
    have h0 := hall 0 (by decide)
    by_cases hz : 0 < W.heap.size
    · exact hz
    · rw [World.cell?, show W.heap[(⟨0, 0, none⟩ : Addr).block]? = none from Array.getElem?_eq_none (by show W.heap.size ≤ 0; omega)] at h0
      cases h0

end Go.Proofs.YtpphkaolonjjdaaDoor.Jla
