/- A code whose rows are the call's own: a code in memory, in blocks without a mark. -/
import Derived.Laws.OwnMore
import Derived.Test.YtpphkaolonjjdaaDoorCmm
namespace Go.Proofs.YtpphkaolonjjdaaDoor.Jcd
open Go Go.RowKit Go.Proofs.YtpphkaolonjjdaaDoor.Spl Go.Proofs.YtpphkaolonjjdaaDoor.Nodm Go.Proofs.YtpphkaolonjjdaaDoor.Nz Go.Proofs.YtpphkaolonjjdaaDoor.Cpl Go.Proofs.YtpphkaolonjjdaaDoor.Cin Go.Proofs.YtpphkaolonjjdaaDoor.Cmc Go.Proofs.YtpphkaolonjjdaaDoor.Cmm Go.Proofs.YtpphkaolonjjdaaDoor.Fpl
open Go.Proofs.YtpphkaolonjjdaaDoor.Pure (bs)

/-- done: a code in memory -/
theorem rows_code {h : Nat} {w : World} {vB : Value} {G : List Rw} (crow : w.ownsRow h 38 1 vB G.length (G.map (·.1))) (cops : ∀ g ∈ G, w.ownsRow h 40 4 g.1 g.2.length (flat4 g.2))
    (cnums : ∀ g ∈ G, ∀ y ∈ g.2, w.ownsRow h 3 1 y.2 y.1.l.length (y.1.l.map (Value.int .i64))) : ∃ A cap, vB = .slice A (blk G).length cap ∧ CodeIn (Unm w) w (.agg #[.slice A (blk G).length cap]) (blk G) := by
  have form : ∀ {e size n : Nat} {v : Value} {xs : List Value}, w.ownsRow h e size v n xs → ∃ A cap, v = .slice A n cap ∧ n ≤ cap ∧ (n = 0 ∨ ∃ g, A = some ⟨g, 0, none⟩ ∧ g < w.heap.size ∧ Unm w g ∧ ∀ j, j < n * size → w.cell? ⟨g, j, none⟩ = xs[j]?) := by
    intro e size n v xs ho
    rcases ho.2 with ⟨h1, h2⟩ | ⟨g, cap, cur, h1, _, h3, h4, _⟩
    · exact ⟨none, 0, by rw [h1, h2], by omega, .inl h2⟩
    · refine ⟨_, cap, h1, h4, .inr ⟨g, rfl, heap_lt h3, ⟨_, _, h3⟩, fun j hj => ?_⟩⟩
      rw [h1] at ho
      exact ho.cellAt j hj
  obtain ⟨A, cap, hv, hc, hr⟩ := form crow
  rw [blk_len]
  refine ⟨A, cap, hv, A, cap, by rw [blk_len], by rw [blk_len]; exact hc, ?_⟩
  rcases hr with h0 | ⟨g, rfl, hg, hh, hcells⟩
  · left
    unfold blk
    rw [List.eq_nil_of_length_eq_zero h0]; rfl
  · refine .inr ⟨g, 0, rfl, hg, hh, fun j l hj => ?_⟩
    unfold blk at hj
    rw [List.getElem?_map] at hj
    obtain ⟨r, hr, rfl⟩ := Option.map_eq_some_iff.1 hj
    have hm := List.mem_of_getElem? hr
    have hjl := (List.getElem?_eq_some_iff.1 hr).1
    obtain ⟨A1, c1, hv1, hc1, hr1⟩ := form (cops r hm)
    refine ⟨A1, c1, by rw [List.length_map]; exact hc1, ?_, ?_⟩
    · rcases hr1 with h0 | ⟨g1, rfl, hg1, hh1, hcells1⟩
      · left
        rw [List.eq_nil_of_length_eq_zero h0]; rfl
      · refine .inr ⟨g1, 0, rfl, hg1, hh1, fun i x hx => ?_⟩
        rw [List.getElem?_map] at hx
        obtain ⟨y, hy, rfl⟩ := Option.map_eq_some_iff.1 hx
        have hil := (List.getElem?_eq_some_iff.1 hy).1
        obtain ⟨A2, c2, hv2, hc2, hr2⟩ := form (cnums r hm y (List.mem_of_getElem? hy))
        have hat : ∀ q, q < 4 → w.cell? ⟨g1, i * 4 + q, none⟩ = (cell4 y)[q]? := fun q hq => (hcells1 (i * 4 + q) (by omega)).trans (flat4_at r.2 i y hy q hq)
        refine ⟨A2, c2, hc2, ?_, by rw [Nat.zero_add]; exact hat 0 (by decide), by rw [Nat.zero_add]; exact hat 1 (by decide), by rw [Nat.zero_add]; exact hat 2 (by decide), by rw [Nat.zero_add]; exact (hat 3 (by decide)).trans (by rw [← hv2]; rfl)⟩
        rcases hr2 with h0 | ⟨g2, rfl, hg2, hh2, hcells2⟩
        · left
          exact List.eq_nil_of_length_eq_zero h0
        · refine .inr ⟨g2, 0, rfl, hg2, hh2, fun q z hz => ?_⟩
          have hql := (List.getElem?_eq_some_iff.1 hz).1
          rw [Nat.zero_add]
          exact (hcells2 q (by omega)).trans (by rw [List.getElem?_map, hz]; rfl)
    · rw [Nat.zero_add, List.length_map]
      exact (hcells j (by omega)).trans (by rw [List.getElem?_map, hr, ← hv1]; rfl)

end Go.Proofs.YtpphkaolonjjdaaDoor.Jcd
