/- The program's behind: are a list's numbers of blocks that stand behind their own one? What was right is remembered here and there. -/
import Derived.Deep.QuietTactic
import Derived.BigQuiet
import Derived.BigRegion
import Derived.Deep.DeepCutAuto
import Derived.Test.YtpphkaolonjjdaaDoorCopsJ
import Derived.Test.YtpphkaolonjjdaaDoorJfnJ
namespace Go.Proofs.YtpphkaolonjjdaaDoor.Jbh
open Go Go.RowKit Go.Proofs.YtpphkaolonjjdaaDoor.Spl Go.Proofs.YtpphkaolonjjdaaDoor.Nodm Go.Proofs.YtpphkaolonjjdaaDoor.Fpl Go.Proofs.YtpphkaolonjjdaaDoor.Fmp Go.Proofs.YtpphkaolonjjdaaDoor.Cpl Go.Proofs.YtpphkaolonjjdaaDoor.Cin Go.Proofs.YtpphkaolonjjdaaDoor.Cops Go.Proofs.YtpphkaolonjjdaaDoor.Dpl Go.Proofs.YtpphkaolonjjdaaDoor.Jkd Go.Proofs.YtpphkaolonjjdaaDoor.Jmp
open Go.Proofs.YtpphkaolonjjdaaDoor.Jfn (cells_3)
open Go.Proofs.YtpphkaolonjjdaaDoor.Pure (bs)

/-- a list of n numbers at a place, gone through up to the i-th -/
structure At (w0 : World) (own q f r b0 o0 n i : Nat) (w1 wr : World) : Prop where
  bel : Below w0.heap.size w0 wr
  gf : w0.heap.size ≤ f
  gr : w0.heap.size ≤ r
  ne : f ≠ r
  F : FTab f wr
  R : RTab w0 (Ea w0 own q b0 o0 n i) r wr
  fr : Fr f r w1 wr
  gd : ∀ j, j < i → j < n → Gd w0 own q b0 (o0 + j)
section
variable {w0 : World} {own q f r b0 o0 n i k : Nat} {w1 wr W : World}
theorem At.start (h : St w0 own q f r wr) : At w0 own q f r b0 o0 n 0 wr wr := ⟨h.bel, h.gf, h.gr, h.ne, h.F, h.R.mono fun _ _ _ e => ea_start e, Fr.refl _ _ _, fun _ hj => absurd hj (Nat.not_lt_zero _)⟩
theorem At.done (h : At w0 own q f r b0 o0 n i w1 wr) (hi : n ≤ i) : St w0 own q f r wr := ⟨h.bel, h.gf, h.gr, h.ne, h.F, h.R.mono fun _ _ _ e => ea_done e hi⟩
theorem At.on (h : At w0 own q f r b0 o0 n i w1 wr) (hb : Below wr.heap.size wr W) : At w0 own q f r b0 o0 n i w1 W :=
  ⟨h.bel.trans (hb.mono h.bel.size), h.gf, h.gr, h.ne, h.F.move (hb.block f h.F.lt), h.R.move (hb.block r h.R.lt), h.fr.then hb, h.gd⟩
theorem At.drewN (h : At w0 own q f r b0 o0 n i w1 wr) (m : Nat) : At w0 own q f r b0 o0 n i w1 (wr.drewN m) := h.on (below_drewN (Below.refl _ _) m)
theorem At.drew (h : At w0 own q f r b0 o0 n i w1 wr) : At w0 own q f r b0 o0 n i w1 wr.drew := h.on (Below.refl _ _).drew
theorem At.look (h : At w0 own q f r b0 o0 n i w1 wr) (hu : Unm w0 b0) : ∃ k : Nat, (Instr.lookup 49 (.map (some r)) (.pointer (some ⟨b0, o0 + i, none⟩)) false).run Tryd.prog wr = .ok (.int .i64 (k : Int)) wr ∧ (k = 0 ∨ Ea w0 own q b0 o0 n i b0 (o0 + i) k) := h.R.look h.bel b0 (o0 + i) hu
/-- one number more that is right -/
theorem At.step (h : At w0 own q f r b0 o0 n i w1 wr) (hg : Gd w0 own q b0 (o0 + i)) : At w0 own q f r b0 o0 n (i + 1) w1 wr :=
  ⟨h.bel, h.gf, h.gr, h.ne, h.F, h.R.mono fun _ _ _ e => ea_on (m := 1) e fun j hj => (show j = 0 by omega) ▸ hg, h.fr, fun j hj hn => by
    by_cases e : j = i
    · rw [e]; exact hg
    · exact h.gd j (by omega) hn⟩
theorem kept (h : At w0 own q f r b0 o0 n i w1 wr) (hf : Fr r r wr W) : Below w0.heap.size w0 W ∧ FTab f W ∧ Fr f r w1 W :=
  ⟨h.bel.trans (hf.below h.gr h.gr h.bel.size), h.F.move (hf.block f h.F.lt h.ne h.ne), h.fr.trans hf.right⟩
/-- the list's rest is written down, and so many of it are known -/
theorem At.jump (h : At w0 own q f r b0 o0 n i w1 wr) (hu : Unm w0 b0) (hk : ∀ j, j < k → Gd w0 own q b0 (o0 + i + j)) (hk0 : 0 < k) {m : Nat} (hm : m ≤ max k (n - i)) (hm0 : 0 < m) (hmb : m ≤ 1000000000000000) :
    ∃ W, (Instr.mapUpdate 49 (.map (some r)) (.pointer (some ⟨b0, o0 + i, none⟩)) (.int .i64 (m : Int))).run Tryd.prog wr = .ok () W ∧ At w0 own q f r b0 o0 n (i + k) w1 W := by
  obtain ⟨W, h1, h2, h3, _⟩ := (h.R.mono fun b o x e => ea_on (m := k) e hk).put h.bel r b0 (o0 + i) hu (ea_new hk hk0 hm hm0 hmb)
  obtain ⟨h4, h5, h6⟩ := kept h h3
  refine ⟨W, h1, h4, h.gf, h.gr, h.ne, h5, h2, h6, fun j hj hn => ?_⟩
  by_cases e : j < i
  · exact h.gd j e hn
  · have := hk (j - i) (by omega)
    rwa [show o0 + i + (j - i) = o0 + j by omega] at this
theorem At.bad (h : At w0 own q f r b0 o0 n i w1 wr) (hu : Unm w0 b0) (m : Nat) :
    ∃ W, (Instr.mapUpdate 49 (.map (some r)) (.pointer (some ⟨b0, o0 + i, none⟩)) (.int .i64 (m : Int))).run Tryd.prog wr = .ok () W ∧ Below w0.heap.size w0 W ∧ FTab f W ∧ Fr f r w1 W := by
  obtain ⟨W, h1, _, h3, _⟩ := (h.R.mono (E' := fun _ _ _ => True) fun _ _ _ _ => trivial).put h.bel r b0 (o0 + i) hu (k := m) trivial
  exact ⟨W, h1, kept h h3⟩
end

/-- what behind answers -/
def Said (w0 : World) (own q f r : Nat) (w : World) (z : Bool) (e : Ending) (W : World) : Prop := e = .returned (.bool z) ∧ Fr f r w W ∧ FTab f W ∧ (z = true → St w0 own q f r W)

set_option maxRecDepth 100000 in
set_option maxHeartbeats 4000000 in
theorem behind_nil (w0 : World) (own q f r : Nat) (A : Option Addr) (c : Nat) (w : World) (h : St w0 own q f r w) :
    Calls Tryd.prog 38 #[walkV q f r, .slice A 0 c, .int .i64 (own : Int)] w (Said w0 own q f r w true) := by
  obtain ⟨w1, hw1⟩ : ∃ w1, w.alloc (.cells #[.int .i64 (q : Int), .map (some f), .map (some r)] 51) = w1 := ⟨_, rfl⟩
  have hb1 : Below w.heap.size w w1 := by rw [← hw1]; exact (Below.refl _ _).alloc (Nat.le_refl _) _
  have HW1 := Lib.hid hw1
  have HFin : Hid (Said w0 own q f r w true (.returned (.bool true)) w1) := ⟨rfl, Fr.of hb1, (h.on hb1).F, fun _ => h.on hb1⟩
  unfold walkV
  clear hw1 hb1 h
  go_enter Tryd.func38, Tryd.ntmps38
  go_upto_region 1 with fail
  rw [HW1.out]
  go_upto_region 2 with fail
  go_loopw [7] (fun a wr => a = .int .i64 0 ∧ wr = w1) (fun _ _ => 0)
  case atStart => exact ⟨rfl, rfl⟩
  case round =>
    obtain ⟨rfl, rfl⟩ := hrel
    go_wp2
    go_ret
    exact HFin.out

set_option maxRecDepth 100000 in
set_option maxHeartbeats 8000000 in
theorem behind_cons (w0 : World) (own q f r b0 o0 n c : Nat) (l : List Int) (w : World) (h : St w0 own q f r w) (hu : Unm w0 b0) (hn : n = l.length) (hn0 : 0 < n) (hn1 : n ≤ 1000000000000000)
    (hcell : ∀ j z, l[j]? = some z → w0.cell? ⟨b0, o0 + j, none⟩ = some (.int .i64 z)) :
    Calls Tryd.prog 38 #[walkV q f r, .slice (some ⟨b0, o0, none⟩) n c, .int .i64 (own : Int)] w (Said w0 own q f r w (!farB own q l)) := by
  obtain ⟨w1, hw1⟩ : ∃ w1, w.alloc (.cells #[.int .i64 (q : Int), .map (some f), .map (some r)] 51) = w1 := ⟨_, rfl⟩
  have hb1 : Below w.heap.size w w1 := by rw [← hw1]; exact (Below.refl _ _).alloc (Nat.le_refl _) _
  have hx1 : w1.heap[w.heap.size]? = some (.cells #[.int .i64 (q : Int), .map (some f), .map (some r)] 51) := by rw [← hw1]; exact heap_alloc_new w _
  have hz1 : w1.heap.size = w.heap.size + 1 := by rw [← hw1]; exact World.size_alloc _ _
  have hA : At w0 own q f r b0 o0 n 0 w1 w1 := At.start (h.on hb1)
  have hub := unm_lt hu
  obtain ⟨g, hg⟩ : ∃ g, g = w.heap.size := ⟨_, rfl⟩
  rw [← hg] at hx1 hz1
  have hfg : f < g := by rw [hg]; exact h.lt.1
  have hrg : r < g := by rw [hg]; exact h.lt.2
  have HX : Hid (∀ W, Fr f r w1 W → W.cell? ⟨g, 0, none⟩ = some (.int .i64 (q : Int)) ∧ W.cell? ⟨g, 1, none⟩ = some (.map (some f)) ∧ W.cell? ⟨g, 2, none⟩ = some (.map (some r))) := fun W hW => cells_3 ((hW.block g (by omega) (by omega) (by omega)).trans hx1)
  have HC : Hid (∀ (i : Nat) (W : World), i < n → Below w0.heap.size w0 W → ∃ y, l[i]? = some y ∧ W.cell? ⟨b0, o0 + i, none⟩ = some (.int .i64 y)) := fun i W hi hW => by
    have hy : l[i]? = some l[i] := List.getElem?_eq_getElem (by omega)
    exact ⟨_, hy, (hW.cell (p := ⟨b0, o0 + i, none⟩) hub).trans (hcell i _ hy)⟩
  have HW1 := Lib.hid hw1
  have HA := Lib.hid hA
  have HU := Lib.hid hu
  have HG := Lib.hid hg
  have HB1 : Hid (Fr f r w w1) := Fr.of hb1
  have HYes : Hid (∀ W i, n ≤ i → At w0 own q f r b0 o0 n i w1 W → Said w0 own q f r w (!farB own q l) (.returned (.bool true)) W) := fun W i hi hW => by
    have h1 : farB own q l = false := gd_far hcell fun j hj => hW.gd j (by omega) (by omega)
    exact ⟨by rw [h1]; rfl, HB1.out.trans hW.fr, hW.F, fun _ => hW.done hi⟩
  have HNo : Hid (∀ W i y, l[i]? = some y → (y ≤ (own : Int) ∨ (q : Int) ≤ y) → Below w0.heap.size w0 W ∧ FTab f W ∧ Fr f r w1 W → Said w0 own q f r w (!farB own q l) (.returned (.bool false)) W) := fun W i y hy hbad hW => by
    have h1 : farB own q l = true := by
      unfold farB
      rw [List.any_eq_true]
      exact ⟨y, List.mem_of_getElem? hy, by simpa using hbad⟩
    refine ⟨by rw [h1]; rfl, HB1.out.trans hW.2.2, hW.2.1, fun h => by rw [h1] at h; cases h⟩
  have HGd : Hid (∀ i y, l[i]? = some y → ¬ (y ≤ (own : Int)) → ¬ ((q : Int) ≤ y) → Gd w0 own q b0 (o0 + i)) := fun i y hy h1 h2 => ⟨y, hcell i y hy, by omega, by omega⟩
  unfold walkV
  generalize farB own q l = z at *
  clear hw1 hb1 h hA hx1 hu hub hg hcell hn hz1
  go_enter Tryd.func38, Tryd.ntmps38
  go_upto_region 1 with fail
  rw [HW1.out, ← HG.out]
  go_upto_region 2 with fail
  go_loopw [7] (fun a wr => ∃ i : Nat, i ≤ 3000000000000000 ∧ a = .int .i64 (i : Int) ∧ Hid (At w0 own q f r b0 o0 n i w1 wr)) (fun a _ => n - (intOf a).toNat)
  case atStart => exact ⟨0, by omega, rfl, HA⟩
  case round =>
    obtain ⟨i, hi3, rfl, HR⟩ := hrel
    by_cases hlt : i < n
    · have hin : (i : Int) < (n : Int) := by omega
      obtain ⟨x0, x1, x2⟩ := HX.out wr HR.out.fr
      obtain ⟨k, hk1, hk2⟩ := HR.out.drew.look HU.out
      have HK := Lib.hid hk2
      clear hk2
      go_upto_region 3 with fail
      go_region
      by_cases hk0 : k = 0
      · subst hk0
        clear HK
        obtain ⟨y, hy, d0⟩ := HC.out i wr hlt HR.out.bel
        have HY := Lib.hid hy
        clear hy
        obtain ⟨m, hm⟩ : ∃ m, m = n - i := ⟨_, rfl⟩
        have hmi : ((m : Nat) : Int) = (n : Int) - (i : Int) := by omega
        by_cases hst : i % 1024 = 0
        · have hs1 : ((i : Int).tmod 1024 == 0) = true := by rw [beq_iff_eq, show (i : Int).tmod 1024 = ((i % 1024 : Nat) : Int) from (Int.ofNat_tmod i 1024).symm]; omega
          by_cases h1 : y ≤ (own : Int)
          · skip
            obtain ⟨W2, hu2, hW2⟩ := HR.out.drew.drew.bad HU.out m
            obtain ⟨x0', x1', x2'⟩ := HX.out W2 hW2.2.2
            obtain ⟨y', hy', d0'⟩ := HC.out i W2 hlt hW2.1
            obtain rfl : y = y' := Option.some.inj (HY.out.symm.trans hy')
            have HS := Lib.hid (fun j => HNo.out (W2.drewN j) i y HY.out (.inl h1) ⟨below_drewN hW2.1 j, hW2.2.1.move rfl, hW2.2.2.then (below_drewN (Below.refl _ _) j)⟩)
            rw [hmi] at hu2
            clear hW2 hy' hm hmi d0 x0 x1 x2
            obtain ⟨x0, x1, x2⟩ := HX.out wr HR.out.fr
            go_upto_region 5 with fail
            go_region
            go_upto_region 8 with fail
            go_quiet (fail)
            go_wp2
            go_ret
            first | exact HS.out _ | (rw [World.drewN_drew]; exact HS.out _)
          · by_cases h2 : (q : Int) ≤ y
            · skip
              obtain ⟨W2, hu2, hW2⟩ := HR.out.drew.drew.bad HU.out m
              obtain ⟨x0', x1', x2'⟩ := HX.out W2 hW2.2.2
              obtain ⟨y', hy', d0'⟩ := HC.out i W2 hlt hW2.1
              obtain rfl : y = y' := Option.some.inj (HY.out.symm.trans hy')
              have HS := Lib.hid (fun j => HNo.out (W2.drewN j) i y HY.out (.inr h2) ⟨below_drewN hW2.1 j, hW2.2.1.move rfl, hW2.2.2.then (below_drewN (Below.refl _ _) j)⟩)
              rw [hmi] at hu2
              clear hW2 hy' hm hmi d0 x0 x1 x2
              obtain ⟨x0, x1, x2⟩ := HX.out wr HR.out.fr
              go_upto_region 5 with fail
              go_region
              go_upto_region 8 with fail
              go_quiet (fail)
              go_wp2
              go_ret
              first | exact HS.out _ | (rw [World.drewN_drew]; exact HS.out _)
            · skip
              have hgd := HGd.out i y HY.out (by omega) (by omega)
              obtain ⟨W2, hu2, hA2⟩ := HR.out.drew.drew.jump HU.out (k := 1) (fun j hj => (show j = 0 by omega) ▸ hgd) (by omega) (m := m) (by omega) (by omega) (by omega)
              obtain ⟨x0', x1', x2'⟩ := HX.out W2 hA2.fr
              obtain ⟨y', hy', d0'⟩ := HC.out i W2 hlt hA2.bel
              obtain rfl : y = y' := Option.some.inj (HY.out.symm.trans hy')
              have HS := Lib.hid (fun j => hA2.drewN j)
              rw [hmi] at hu2
              clear hA2 hy' hm hmi hgd
              go_upto_region 5 with fail
              go_region
              go_upto_region 8 with fail
              go_quiet (fail)
              go_wp2
              go_roundw
              case rel => exact ⟨i + 1, by omega, by go_num, by first | exact HS.out _ | (rw [World.drewN_drew]; exact HS.out _)⟩
              case measure => simp [intOf]; omega
        · have hs1 : ((i : Int).tmod 1024 == 0) = false := by rw [beq_eq_false_iff_ne, show (i : Int).tmod 1024 = ((i % 1024 : Nat) : Int) from (Int.ofNat_tmod i 1024).symm]; omega
          by_cases h1 : y ≤ (own : Int)
          · skip
            have HS := Lib.hid (fun j => HNo.out (wr.drewN j) i y HY.out (.inl h1) ⟨(HR.out.drewN j).bel, (HR.out.drewN j).F, (HR.out.drewN j).fr⟩)
            clear hm hmi
            go_upto_region 8 with fail
            go_quiet (fail)
            go_wp2
            go_ret
            first | exact HS.out _ | (rw [World.drewN_drew]; exact HS.out _)
          · by_cases h2 : (q : Int) ≤ y
            · skip
              have HS := Lib.hid (fun j => HNo.out (wr.drewN j) i y HY.out (.inr h2) ⟨(HR.out.drewN j).bel, (HR.out.drewN j).F, (HR.out.drewN j).fr⟩)
              clear hm hmi
              go_upto_region 8 with fail
              go_quiet (fail)
              go_wp2
              go_ret
              first | exact HS.out _ | (rw [World.drewN_drew]; exact HS.out _)
            · skip
              have hgd := HGd.out i y HY.out (by omega) (by omega)
              have HS := Lib.hid (fun j => (HR.out.step hgd).drewN j)
              clear hm hmi hgd
              go_upto_region 8 with fail
              go_quiet (fail)
              go_wp2
              go_roundw
              case rel => exact ⟨i + 1, by omega, by go_num, by first | exact HS.out _ | (rw [World.drewN_drew]; exact HS.out _)⟩
              case measure => simp [intOf]; omega
      · have hea := HK.out.resolve_left hk0
        have hgd := ea_here hea
        have hkb := hea.2.1
        have hkp : (0 : Int) < (k : Int) := by omega
        clear HK hea
        by_cases hlk : k < n - i
        · have hlk2 : (k : Int) < (n : Int) - (i : Int) := by omega
          obtain ⟨m, hm⟩ : ∃ m, m = n - i := ⟨_, rfl⟩
          have hmi : ((m : Nat) : Int) = (n : Int) - (i : Int) := by omega
          obtain ⟨W2, hu2, hA2⟩ := HR.out.drew.drew.jump HU.out hgd (by omega) (m := m) (by omega) (by omega) (by omega)
          have HS := Lib.hid hA2
          rw [hmi] at hu2
          clear hA2 hm hmi hgd
          go_upto_region 5 with fail
          go_region
          go_wp2
          go_roundw
          case rel => exact ⟨i + k, by omega, by go_num, HS.out⟩
          case measure => simp [intOf]; omega
        · have hlk2 : ¬ (k : Int) < (n : Int) - (i : Int) := by omega
          obtain ⟨m, hm⟩ : ∃ m, m = k := ⟨_, rfl⟩
          have hmi : ((m : Nat) : Int) = (k : Int) := by omega
          obtain ⟨W2, hu2, hA2⟩ := HR.out.drew.drew.jump HU.out hgd (by omega) (m := m) (by omega) (by omega) (by omega)
          have HS := Lib.hid hA2
          rw [hmi] at hu2
          clear hA2 hm hmi hgd
          go_upto_region 5 with fail
          go_region
          go_wp2
          go_roundw
          case rel => exact ⟨i + k, by omega, by go_num, HS.out⟩
          case measure => simp [intOf]; omega
    · have hin : ¬ (i : Int) < (n : Int) := by omega
      have HS := Lib.hid (HYes.out wr i (by omega) HR.out)
      go_wp2
      go_ret
      exact HS.out

theorem behind_is (w0 : World) (own q f r : Nat) (A : Option Addr) (c : Nat) (l : List Int) (w : World) (h : St w0 own q f r w) (hr : NumRow (Unm w0) w0 A l) (hn1 : l.length ≤ 1000000000000000) :
    Calls Tryd.prog 38 #[walkV q f r, .slice A l.length c, .int .i64 (own : Int)] w (Said w0 own q f r w (!farB own q l)) := by
  rcases hr with rfl | ⟨b0, o0, rfl, _, hu, hcell⟩
  · exact behind_nil w0 own q f r A c w h
  · by_cases h0 : l = []
    · subst h0
      exact behind_nil w0 own q f r _ c w h
    · exact behind_cons w0 own q f r b0 o0 l.length c l w h hu rfl (List.length_pos_iff.2 h0) hn1 hcell

end Go.Proofs.YtpphkaolonjjdaaDoor.Jbh
