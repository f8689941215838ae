/- The document's All. -/
import Derived.Deep.DeepCutAuto
import Derived.Deep.AppendLies
import Derived.Deep.RegionLaw
import Derived.Test.YtgfpdaaofhanoaaDoorWfs
import Derived.Test.YtgfpdaaofhanoaaDoorWsort
namespace Go.Proofs.YtgfpdaaofhanoaaDoor.Wall
open Go.RowKit Go.Proofs.YtgfpdaaofhanoaaDoor.Pth Go.Proofs.YtgfpdaaofhanoaaDoor.Strs Go.Proofs.YtgfpdaaofhanoaaDoor.Srt Go.Proofs.YtgfpdaaofhanoaaDoor.Vfs Go.Proofs.YtgfpdaaofhanoaaDoor.Vmap Go.Proofs.YtgfpdaaofhanoaaDoor.Vnew Go.Proofs.YtgfpdaaofhanoaaDoor.Vsort Go.Proofs.YtgfpdaaofhanoaaDoor.Vall Go.Proofs.YtgfpdaaofhanoaaDoor.Wfind Go.Proofs.YtgfpdaaofhanoaaDoor.Wfs Go.Proofs.YtgfpdaaofhanoaaDoor.Wsort

def flats (L : List Ent) : List T := L.map fun e => flatL e.pt
def pick (L : List Ent) (t : T) : Ent := (L.find? fun e => decide (flatL e.pt = t)).getD ⟨[], false, ⟨#[]⟩⟩
theorem pick_is {L : List Ent} {t : T} (h : t ∈ flats L) : pick L t ∈ L ∧ flatL (pick L t).pt = t := by
  obtain ⟨e, he, ht⟩ := List.mem_map.1 h
  unfold pick
  cases hf : L.find? fun e => decide (flatL e.pt = t) with
  | none =>
    have := List.find?_eq_none.1 hf e he
    exact absurd ht (by simpa using this)
  | some d => exact ⟨List.mem_of_find?_eq_some hf, by simpa using List.find?_some hf⟩
/-- all, in the order of their paths -/
def sorted (L : List Ent) : List Ent := (sortT (flats L)).map (pick L)
theorem sorted_flats (L : List Ent) : flats (sorted L) = sortT (flats L) := by
  unfold sorted
  rw [flats, List.map_map]
  conv => rhs; rw [← List.map_id (sortT (flats L))]
  exact List.map_congr_left fun t ht => (pick_is ((sortT_mem _ _).1 ht)).2
theorem sorted_up (L : List Ent) : Up (flats (sorted L)) := by rw [sorted_flats]; exact sortT_up _
theorem sorted_sub {L : List Ent} {e : Ent} (h : e ∈ sorted L) : e ∈ L := by
  obtain ⟨t, ht, rfl⟩ := List.mem_map.1 h
  exact (pick_is ((sortT_mem _ _).1 ht)).1
theorem up_nodup {l : List T} (h : Up l) : l.Nodup := List.Pairwise.imp (fun h1 e => by subst e; exact lt_irrefl' _ h1) h
theorem nodup_of_map {α β : Type} (f : α → β) : ∀ {l : List α}, (l.map f).Nodup → l.Nodup
  | [], _ => List.nodup_nil
  | a :: l, h => by
    rw [List.map_cons, List.nodup_cons] at h
    exact List.nodup_cons.2 ⟨fun h1 => h.1 (List.mem_map_of_mem h1), nodup_of_map f h.2⟩
theorem sorted_perm {L : List Ent} (hi : Vfs.Inv L) : (sorted L).Perm L := by
  have h1 : (sorted L).Nodup := nodup_of_map _ (up_nodup (sorted_up L))
  have h2 : L.Nodup := nodup_of_map _ hi.nodup
  rw [List.perm_ext_iff_of_nodup h1 h2]
  intro e
  refine ⟨sorted_sub, fun he => ?_⟩
  have ht : flatL e.pt ∈ sortT (flats L) := (sortT_mem _ _).2 (List.mem_map_of_mem (f := fun e => flatL e.pt) he)
  have hp := pick_is ((sortT_mem _ _).1 ht)
  have : pick L (flatL e.pt) = e := eq_of_pt hi.nodup hp.1 he (flat_inj (hi.good _ hp.1) (hi.good _ he) hp.2)
  rw [← this]
  exact List.mem_map_of_mem ht
def paths (L : List Ent) : List ByteArray := L.map fun e => pathB e.pt
theorem sorted_paths (L : List Ent) : sortB (paths L) = paths (sorted L) := by
  have e1 : (paths L).map (·.data.toList) = flats L := by
    unfold paths flats
    rw [List.map_map]
    exact List.map_congr_left fun e _ => data_bs _
  unfold sortB
  rw [e1, ← sorted_flats]
  unfold paths flats
  rw [List.map_map]; rfl

set_option maxRecDepth 100000 in
set_option maxHeartbeats 8000000 in
theorem all_is (f : Nat) (L : List Ent) (w : World) (h : FAt w f (rows L)) (hi : Vfs.Inv L) (hL : L.length ≤ 1000000) :
    Calls Tryd.prog 16 #[.pointer (some ⟨f, 0, none⟩)] w fun e W' => ∃ A c, e = .returned (.slice A L.length c) ∧ EnIs W' A c ((sorted L).map rawOf) ∧ Below w.heap.size w W' := by
  obtain ⟨i0, hi0, hz0, hz1, hz2⟩ := info_parts infoString
  have HI := Lib.hid hi
  have HH := Lib.hid h
  have HFind := Lib.hid (fun W (hW : Below w.heap.size w W) t => find_is f (rows L) t W (h.below hW) (by rw [rows_len]; omega))
  obtain ⟨hf, A0, c0, hc0, hE0⟩ := h
  rw [rows_len] at hc0
  have HE0 := Lib.hid hE0
  obtain ⟨n, hn⟩ : ∃ n, n = L.length := ⟨_, rfl⟩
  have HN := Lib.hid hn
  rw [← hn] at hc0 hL ⊢
  clear hn hi hE0
  obtain ⟨n1, hn1⟩ : ∃ n1, n1 = n + 1 := ⟨_, rfl⟩
  rw [← hn1] at hc0
  have HN1 := Lib.hid hn1
  have hnb : n1 ≤ 1000001 := by omega
  clear hn1
  go_enter Tryd.func16, Tryd.ntmps16
  go_wp2
  go_loopw [3, 4] (fun v i wr => ∃ k m : Nat, m ≤ n1 ∧ Hid (m = k + 1) ∧ i = .int .i64 m ∧ wr.ownsRow w.heap.size 9 1 v k ((paths (L.take k)).map Value.string) ∧ Hid (Below w.heap.size w wr)) (fun _ i _ => n1 - (intOf i).toNat)
  case atStart => exact ⟨0, 1, by have := HN1.out; omega, rfl, rfl, World.ownsRow_nil _ _ _ _, Below.refl _ _⟩
  case round =>
    obtain ⟨k, m, hk, HM, rfl, hown, HB⟩ := hrel
    have hBs := HB.out.size
    have c1 : wr.cell? ⟨f, 0, none⟩ = some (.slice A0 n1 c0) := (HB.out.cell (p := ⟨f, 0, none⟩) hf).trans hc0
    have hkb : k ≤ 1000000 := by have := HM.out; omega
    by_cases hlt : m < n1
    · have hl : k < L.length := by have := HN.out; have := HM.out; have := HN1.out; omega
      have hx : (rows L)[m]? = some (rawOf L[k]) := by rw [HM.out]; unfold rows; rw [List.getElem?_cons_succ, List.getElem?_map, List.getElem?_eq_getElem hl]; rfl
      obtain ⟨b, o, rfl, hb, hcc⟩ := HE0.out.at_ hx
      obtain ⟨c2, _, _⟩ := hcc wr HB.out
      have HS : Hid ((paths (L.take k)).map Value.string ++ [.string (pathB L[k].pt)] = (paths (L.take (k + 1))).map Value.string) := by
        show _ = _
        rw [List.take_succ_eq_append_getElem hl, paths, paths, List.map_append, List.map_append]; rfl
      have c3 : wr.cell? ⟨b, o + m * 3, none⟩ = some (.string (pathB L[k].pt)) := c2
      clear hx hcc hb c2
      generalize pathB L[k].pt = p at *
      go_wp2_with (at_builtin; refine wpList_append_own _ rfl _ _ 34 rfl w.heap.size 9 i0 (.string .empty) 1 16 Tryd.underlying34 hi0 hz0 hz1 hz2 rfl (by decide) _ _ _ rfl (hown.alloc _) ⟨wr.heap.size, 0, none⟩ 1 1 [.string p] rfl rfl (cell_one_new _ _ _) (by simp [Value.oneCell']) (by unfold maxLen; omega) (by omega) (by simp; omega) ?_; intro v' w4 hown' hgrow _; have HO := Lib.hid hown'; have HG := Lib.hid (below_append HB.out hBs hown hgrow); clear hown' hgrow)
      go_roundw
      case rel => exact ⟨k + 1, m + 1, by omega, by have := HM.out; show _ = _; omega, by go_num, by rw [← HS.out]; exact HO.out, HG.out⟩
      case measure => simp [intOf]; omega
    · have hk2 : k = n := by have := HM.out; have := HN1.out; omega
      have hpl : (paths (L.take k)).length = k := by rw [paths, List.length_map, List.length_take]; have := HN.out; omega
      obtain ⟨A3, c3, rfl, hs3⟩ := slIs_of_own hpl hown
      have HSort := Lib.hid (refSort_is A3 k c3 (paths (L.take k)) wr hpl hs3 (by omega))
      have hall : L.take k = L := List.take_of_length_le (by have := HN.out; omega)
      rw [hall, sorted_paths] at HSort
      have hsl : (paths (sorted L)).length = n := by rw [paths, List.length_map, (sorted_perm HI.out).length_eq]; exact HN.out.symm
      rw [hsl] at HSort
      clear hown hs3 hpl hall hk2 hsl
      go_wp2_with fail
      refine HSort.out.mono ?_
      rintro e w3 ⟨A4, c4, rfl, hs4, hb4⟩
      have HS4 := Lib.hid hs4
      have HB4 := Lib.hid (HB.out.trans (hb4.mono HB.out.size))
      clear hs4 hb4 HSort HB c1 hBs
      go_wp2_with fail
      obtain ⟨j0, hj0, kz0, kz1, kz2⟩ := info_parts infoEnt
      go_loopw [5, 6] (fun v i wr => ∃ k : Nat, k ≤ n ∧ i = .int .i64 k ∧ wr.ownsRow w3.heap.size 30 3 v k (cells (((sorted L).take k).map rawOf)) ∧ Hid (Below w3.heap.size w3 wr)) (fun _ i _ => n - (intOf i).toNat)
      case atStart => exact ⟨0, Nat.zero_le _, rfl, World.ownsRow_nil _ _ _ _, Below.refl _ _⟩
      case round =>
        obtain ⟨k, hk, rfl, hown, HB⟩ := hrel
        by_cases hlt : k < n
        · have hl : k < (sorted L).length := by rw [(sorted_perm HI.out).length_eq]; have := HN.out; omega
          have hx : (paths (sorted L))[k]? = some (pathB (sorted L)[k].pt) := by rw [paths, List.getElem?_map, List.getElem?_eq_getElem hl]; rfl
          obtain ⟨bA, oA, rfl, hbA, hcA⟩ := HS4.out.at_ hx
          have c1 := hcA wr HB.out
          have HBw := Lib.hid (HB4.out.trans (HB.out.mono HB4.out.size))
          have hmem := sorted_sub (List.getElem_mem hl)
          obtain ⟨j, hj, hjx, hix⟩ := ix_yes HI.out (HI.out.good _ hmem) (HI.out.at_of hmem)
          have hfi := HFind.out wr.drew HBw.out.drew (pathB (sorted L)[k].pt)
          rw [hix] at hfi
          obtain ⟨b, o, rfl, hb, hcc⟩ := HE0.out.at_ hjx
          obtain ⟨c2, c3, c4⟩ := hcc wr HBw.out
          have c5 : wr.cell? ⟨f, 0, none⟩ = some (.slice (some ⟨b, o, none⟩) n1 c0) := (HBw.out.cell (p := ⟨f, 0, none⟩) hf).trans hc0
          obtain ⟨j1, hj1⟩ : ∃ j1, j1 = j + 1 := ⟨_, rfl⟩
          rw [← hj1] at hfi c2 c3 c4
          have hj1n : j1 < n1 := by have := HN.out; have := HN1.out; omega
          have HFi := Lib.hid hfi
          have HS : Hid (cells (((sorted L).take k).map rawOf) ++ encR (rawOf (sorted L)[k]) = cells (((sorted L).take (k + 1)).map rawOf)) := by
            show _ = _
            rw [List.take_succ_eq_append_getElem hl, List.map_append, cells_app]; rfl
          have hown2 : wr.drew.ownsRow w3.heap.size 30 3 u5 k (cells (((sorted L).take k).map rawOf)) := rows_below hown fun g _ => rfl
          have HOW := Lib.hid hown2
          have HBd : Hid (Below w3.heap.size w3 wr.drew) := HB.out.drew
          have hsz : w3.heap.size ≤ wr.heap.size := HB.out.size
          have HNW := Lib.hid (news3 wr.drew (rawOf (sorted L)[k]) 30)
          have hz3 : (encR (rawOf (sorted L)[k])).length = 1 * 3 := rfl
          have HE1 := Lib.hid (encR_one (rawOf (sorted L)[k]))
          clear hown hown2 hx hcA hmem hjx hix hfi hcc hj1 hj hb hbA
          have e1 : (rawOf (sorted L)[k]).path = pathB (sorted L)[k].pt := rfl
          rw [← e1] at c1 HFi
          clear e1
          generalize rawOf (sorted L)[k] = x at *
          clear hl
          obtain ⟨px, dx, tx⟩ := x
          go_upto_region 11 with fail
          go_region_law (first
            | (refine step_append_lies _ rfl _ _ 22 rfl w3.heap.size 30 j0 (.agg #[.string .empty, .bool false, .string .empty]) 3 40 Tryd.underlying22 hj0 kz0 kz1 kz2 rfl (by decide) u5 k _ (by simp [Act.eval]) (HOW.out.alloc _) ⟨wr.heap.size, 0, none⟩ 1 1 (encR ⟨px, dx, tx⟩) (by simp [Act.eval]) hz3 HNW.out HE1.out (by decide) (by unfold maxLen; omega) (by omega) (by simp; omega) (wr.heap.size + 1) (World.size_alloc ..) ?_; intro g cap w5 hown5 hgrow hat5 hlt5; have HO5 := Lib.hid hown5; have HG5 : Hid (Below w3.heap.size w3 w5) := (HBd.out.alloc hsz _).grown hgrow (by rw [World.size_alloc]; exact Nat.le_succ_of_le hsz) (fun q e => (HOW.out.lt q e).1); clear hown5 hgrow hat5 hlt5)
            | (go_simp; go_at_call 24; refine HFi.out.mono ?_; rintro e wb ⟨rfl, rfl⟩))
          all_goals go_wp2
          all_goals go_roundw
          all_goals first
            | exact ⟨k + 1, by omega, by go_num, by rw [← HS.out]; exact HO5.out, HG5.out⟩
            | (simp [intOf]; omega)
        · have hk2 : k = n := by omega
          have hsl : (sorted L).length = n := by rw [(sorted_perm HI.out).length_eq]; exact HN.out.symm
          subst hk2
          obtain ⟨A5, c5, rfl, hE5, _⟩ := enIs_of_own (by rw [List.length_map, List.length_take]; omega) hown
          rw [List.take_of_length_le (by omega)] at hE5
          have HE5 := Lib.hid hE5
          have HBe := Lib.hid (HB4.out.trans (HB.out.mono HB4.out.size))
          clear hown hE5 HB HB4
          go_wp2
          go_ret
          exact ⟨A5, c5, rfl, HE5.out, HBe.out⟩

end Go.Proofs.YtgfpdaaofhanoaaDoor.Wall
