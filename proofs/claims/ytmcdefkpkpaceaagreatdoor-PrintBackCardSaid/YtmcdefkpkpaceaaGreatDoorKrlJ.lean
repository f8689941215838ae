/- The program's ruler at a list. -/
import Derived.Handy
import Derived.Deep.DeepCutAuto
import Derived.Test.YtmcdefkpkpaceaaGreatDoorKknJ
namespace Go.Proofs.YtmcdefkpkpaceaaGreatDoor.Krl
open Go Go.RowKit Go.Proofs.YtmcdefkpkpaceaaGreatDoor.Spl Go.Proofs.YtmcdefkpkpaceaaGreatDoor.Nodm Go.Proofs.YtmcdefkpkpaceaaGreatDoor.Nz Go.Proofs.YtmcdefkpkpaceaaGreatDoor.Qwhole Go.Proofs.YtmcdefkpkpaceaaGreatDoor.Kpl Go.Proofs.YtmcdefkpkpaceaaGreatDoor.Kkd Go.Proofs.YtmcdefkpkpaceaaGreatDoor.Kkn Go.Proofs.YtmcdefkpkpaceaaGreatDoor.Kfr Go.Proofs.YtmcdefkpkpaceaaGreatDoor.Kmp Go.Proofs.YtmcdefkpkpaceaaGreatDoor.Kru
open Go.Proofs.YtmcdefkpkpaceaaGreatDoor.Pure (bs)

theorem three (W : World) (o0 o1 o2 : Obj) : ∃ w, w = ((W.alloc o0).alloc o1).alloc o2 ∧ Below W.heap.size W w ∧ w.heap.size = W.heap.size + 3 ∧ w.heap[W.heap.size]? = some o0 ∧ w.heap[W.heap.size + 1]? = some o1 ∧ w.heap[W.heap.size + 1 + 1]? = some o2 := by
  have z1 := World.size_alloc W o0
  have z2 := World.size_alloc (W.alloc o0) o1
  have z3 := World.size_alloc ((W.alloc o0).alloc o1) o2
  exact ⟨_, rfl, ((alloc_below W o0).alloc (by omega) o1).alloc (by omega) o2, by omega,
    kept _ (kept _ (newAt o0 rfl)), kept _ (newAt o1 (by omega)), newAt o2 (by omega)⟩

set_option maxRecDepth 100000 in
set_option maxHeartbeats 4000000 in
/-- nothing in it -/
theorem list_none (S : Nat → Prop) (w0 : World) (mb : Nat) : ListIs S w0 mb [] := by
  intro A c W R L hl hRs hR hLv
  have hf : fits [] R L = true := by unfold fits; rw [okZs, levsZ, lensZ]; simp
  rw [hf]
  have hmg := hRs.lt
  have HR0 := Lib.hid hRs
  obtain ⟨w1, hw1, hb1, hz1, g0, g1, g2⟩ := three W (.cells #[.map (some mb)] 45) (.cells #[.int .i64 (R : Int), .int .i64 (L : Int)] 41) (.cells #[.int .i64 0, .int .i64 0] 41)
  obtain ⟨g, hg⟩ : ∃ g, g = W.heap.size := ⟨_, rfl⟩
  rw [← hg] at g0 g1 g2
  have HW1 := Lib.hid hw1
  have HB1 := Lib.hid hb1
  have G2 := Lib.hid g2
  obtain ⟨a0, a1⟩ := two_cells g2
  have fz0 := Lib.frozen_of_heap g2 0
  have fz1 := Lib.frozen_of_heap g2 1
  clear hw1 hb1 g0 g1 g2 hz1 hRs hl
  go_enter Tryz.func26, Tryz.ntmps26
  go_upto_region 1 with fail
  rw [← HW1.out, ← hg]
  have HGE := Lib.hid hg
  clear hg
  go_wp2
  obtain ⟨V, hV⟩ : ∃ V, (w1.setCell ⟨g + 1 + 1, 0, none⟩ (.int .i64 0)).setCell ⟨g + 1 + 1, 1, none⟩ (.int .i64 0) = V := ⟨_, rfl⟩
  rw [hV]
  obtain ⟨z1, z2, z3, _⟩ := two_fin G2.out hV (HR0.out.on HB1.out) (Far.of HB1.out) (by have := HGE.out; omega) hmg
  obtain ⟨y0, y1⟩ := two_cells z1
  refine bodyPost_ret (v := .tuple #[.agg #[.int .i64 0, .int .i64 0], .bool true]) (by simp [results, Tryz.results26, go_sem, y0, y1]) rfl ?_
  exact ⟨⟨0, 0, rfl, fun _ => ⟨by rw [lensZ], by rw [levsZ]⟩⟩, z2, z3⟩

theorem fits_snoc {l : List Nz} {j : Nat} {x : Nz} {R L : Nat} (h : l[j]? = some x) (hf : fits (l.take j) R L = true) : fits (l.take (j + 1)) R L = fit x (R - lensZ (l.take j)) L := by
  unfold fits fit at *
  rw [oks_snoc h, lens_snoc h, levs_snoc h]
  rw [Bool.and_eq_true, Bool.and_eq_true, decide_eq_true_eq, decide_eq_true_eq] at hf
  obtain ⟨h1, h2, h3⟩ := hf
  rw [h1, Bool.true_and, Bool.eq_iff_iff]
  simp only [Bool.and_eq_true, decide_eq_true_eq]
  constructor
  · rintro ⟨a, b, c⟩
    exact ⟨a, by omega, by omega⟩
  · rintro ⟨a, b, c⟩
    exact ⟨a, by omega, by omega⟩
theorem fits_less {l : List Nz} {j : Nat} {R L : Nat} (hf : fits l R L = true) : fits (l.take j) R L = true := by
  unfold fits at *
  rw [Bool.and_eq_true, Bool.and_eq_true, decide_eq_true_eq, decide_eq_true_eq] at *
  have e : l.take j ++ l.drop j = l := List.take_append_drop j l
  have h1 := oks_app (l.take j) (l.drop j)
  have h2 := levs_app (l.take j) (l.drop j)
  have h3 := lens_app (l.take j) (l.drop j)
  rw [e] at h1 h2 h3
  rw [h1, Bool.and_eq_true] at hf
  exact ⟨hf.1.1, by omega, by omega⟩
theorem fits_le {l : List Nz} {R L : Nat} (hf : fits l R L = true) : lensZ l ≤ R ∧ levsZ l ≤ L := by
  unfold fits at hf
  rw [Bool.and_eq_true, Bool.and_eq_true, decide_eq_true_eq, decide_eq_true_eq] at hf
  exact ⟨hf.2.2, hf.2.1⟩

/-- the list's own blocks behind its place and the look-up: the ruler, the room, the answer, the place -/
structure Own (W V w : World) (mb g : Nat) : Prop where
  size : g + 6 ≤ V.heap.size
  up : V.heap.size ≤ w.heap.size
  far : Far mb W w
  own : ∀ k, g ≤ k → k < g + 5 → w.heap[k]? = V.heap[k]?

set_option maxRecDepth 100000 in
set_option maxHeartbeats 4000000 in
/-- something in it -/
theorem list_some (S : Nat → Prop) (hS0 : ¬ S 0) (w0 : World) (mb : Nat) (l : List Nz) (hlen : 0 < l.length) (hll : l.length ≤ 1099511627776) (hN : ∀ x ∈ l, NodeIs S w0 mb x) : ListIs S w0 mb l := by
  intro A c W R L hl hRs hR hLv
  obtain ⟨b, o, rfl, hbl, hSb, hUm⟩ := nzs_at hl hlen hS0
  have hmg := hRs.lt
  have HR0 := Lib.hid hRs
  have HLs := Lib.hid hl
  have HNd := Lib.hid hN
  have hge := hRs.ge
  have hbm : b ≠ mb := by omega
  have HUm : Hid (∀ U, Rs S w0 mb U → Unm U b) := fun U h => hUm.move (h.bel.block b hbl)
  obtain ⟨q, hq⟩ : ∃ q, q = l.length := ⟨_, rfl⟩
  rw [← hq] at hlen hll ⊢
  have HQ := Lib.hid hq
  obtain ⟨y, hy⟩ : ∃ y, y = fits l R L := ⟨_, rfl⟩
  obtain ⟨N, hNN⟩ : ∃ N, N = lensZ l := ⟨_, rfl⟩
  obtain ⟨M, hMM⟩ : ∃ M, M = levsZ l := ⟨_, rfl⟩
  rw [← hy, ← hNN, ← hMM]
  have HY := Lib.hid hy
  have HNM := Lib.hid (And.intro hNN hMM)
  clear hy hNN hMM
  have hq0 : ((q : Int) == 0) = false := by rw [beq_eq_false_iff_ne]; omega
  have hqi : (0 : Int) < (q : Int) := by omega
  obtain ⟨w1, hw1, hb1, hz1, g0, g1, g2⟩ := three W (.cells #[.map (some mb)] 45) (.cells #[.int .i64 (R : Int), .int .i64 (L : Int)] 41) (.cells #[.int .i64 0, .int .i64 0] 41)
  obtain ⟨g, hg⟩ : ∃ g, g = W.heap.size := ⟨_, rfl⟩
  rw [← hg] at g0 g1 g2
  have HW1 := Lib.hid hw1
  have HB1 := Lib.hid hb1
  have HZ1 := Lib.hid hz1
  have HG := Lib.hid (And.intro g0 (And.intro g1 g2))
  have r0 := one_cell g0
  clear hw1 hb1 g0 g1 g2 hz1 hRs hl hN hq hUm hge
  go_enter Tryz.func26, Tryz.ntmps26
  go_upto_region 1 with fail
  rw [← HW1.out, ← hg]
  have HGE := Lib.hid hg
  clear hg
  go_upto_region 4 with fail
  obtain ⟨V4, hV4⟩ : ∃ V4, V4 = w1.alloc (.cells #[.pointer (some ⟨b, o, none⟩), .int .i64 (q : Int)] 108) := ⟨_, rfl⟩
  obtain ⟨p, hp⟩ : ∃ p, p = w1.heap.size := ⟨_, rfl⟩
  rw [← hV4, ← hp]
  have hb4 : Below w1.heap.size w1 V4 := by rw [hV4]; exact alloc_below w1 _
  have gp : V4.heap[p]? = some (.cells #[.pointer (some ⟨b, o, none⟩), .int .i64 (q : Int)] 108) := by rw [hV4, hp]; exact heap_alloc_new w1 _
  obtain ⟨x0, x1, x2⟩ := HG.out
  have hz1 := HZ1.out
  have hge := HGE.out
  have G0 := Lib.hid ((hb4.block g (by omega)).trans x0)
  have G1 := Lib.hid ((hb4.block (g + 1) (by omega)).trans x1)
  have G2 := Lib.hid ((hb4.block (g + 1 + 1) (by omega)).trans x2)
  have hpg : p = g + 3 := by omega
  have hs4 : V4.heap.size = g + 4 := by rw [hV4, World.size_alloc]; omega
  have HP := Lib.hid hpg
  have HS4 := Lib.hid hs4
  have HGP := Lib.hid gp
  have HR4 := Lib.hid ((HR0.out.on HB1.out).on hb4)
  have HF4 := Lib.hid ((Far.of HB1.out : Far mb W w1).trans (Far.of hb4))
  clear hV4 hp hb4 gp x0 x1 x2 hz1 hge hpg hs4 HW1 HZ1 HG r0
  have r0 := one_cell G0.out
  obtain ⟨p0, p1⟩ := two_cells HGP.out
  obtain ⟨m0, m1⟩ := two_cells G1.out
  obtain ⟨a0, a1⟩ := two_cells G2.out
  have fz0 := Lib.frozen_of_heap G2.out 0
  have fz1 := Lib.frozen_of_heap G2.out 1
  obtain ⟨v, z, hlook, hz⟩ := HR4.out.tab.lookup b o q (HUm.out V4 HR4.out)
  unfold keyV at hlook
  rcases hz with ⟨rfl, rfl⟩ | ⟨rfl, hE⟩
  · unfold extV at hlook
    go_upto_region 7 with fail
    obtain ⟨U0, hU0⟩ : ∃ U0, U0 = V4.alloc (.cells #[.int .i64 0, .int .i64 0] 41) := ⟨_, rfl⟩
    rw [← hU0]
    have hb0 : Below V4.heap.size V4 U0 := by rw [hU0]; exact alloc_below V4 _
    have hs0 : U0.heap.size = g + 5 := by rw [hU0, World.size_alloc, HS4.out]
    have HR5 := Lib.hid (HR4.out.on hb0)
    have HF5 := Lib.hid (HF4.out.trans (Far.of hb0))
    have H0 := Lib.hid ((hb0.block g (by have := HS4.out; omega)).trans G0.out)
    have H1 := Lib.hid ((hb0.block (g + 1) (by have := HS4.out; omega)).trans G1.out)
    have H2 := Lib.hid ((hb0.block (g + 1 + 1) (by have := HS4.out; omega)).trans G2.out)
    have H3 := Lib.hid ((hb0.block p (by have := HS4.out; have := HP.out; omega)).trans HGP.out)
    have HS5 := Lib.hid hs0
    clear hU0 hb0 hs0 hlook r0 p0 p1 m0 m1 a0 a1 fz0 fz1
    obtain ⟨a, ha⟩ : ∃ a, a = U0.heap.size := ⟨_, rfl⟩
    have HA := Lib.hid ha
    go_upto_region 8 with fail
    rw [← ha]
    obtain ⟨U1, hU1⟩ : ∃ U1, U1 = U0.alloc (.cells #[.int .i64 0, .int .i64 0] 41) := ⟨_, rfl⟩
    rw [← hU1]
    have hb1 : Below U0.heap.size U0 U1 := by rw [hU1]; exact alloc_below U0 _
    have hga : U1.heap[a]? = some (.cells #[.int .i64 0, .int .i64 0] 41) := by rw [hU1, ha]; exact heap_alloc_new U0 _
    have hs1 : U1.heap.size = g + 6 := by rw [hU1, World.size_alloc, HS5.out]
    have HR6 := Lib.hid (HR5.out.on hb1)
    have HF6 := Lib.hid (HF5.out.trans (Far.of hb1))
    have HOw : Hid (∀ k, g ≤ k → k < g + 5 → U1.heap[k]? = U0.heap[k]?) := fun k h1 h2 => hb1.block k (by have := HS5.out; omega)
    have HGA := Lib.hid hga
    have HS6 := Lib.hid hs1
    clear hU1 ha hb1 hga hs1
    go_wp2_with fail
    go_loopw [48] (fun i wr => ∃ j : Nat, j ≤ q ∧ i = .int .i64 (j : Int) ∧ Hid (Rs S w0 mb wr) ∧ Hid (Far mb W wr) ∧ Hid (g + 6 ≤ wr.heap.size) ∧ Hid (∀ k, g ≤ k → k < g + 5 → wr.heap[k]? = U0.heap[k]?) ∧ Hid (wr.heap[a]? = some (.cells #[.int .i64 (lensZ (l.take j) : Int), .int .i64 (levsZ (l.take j) : Int)] 41)) ∧ Hid (fits (l.take j) R L = true)) (fun i _ => q - (intOf i).toNat)
    case atStart =>
      refine ⟨0, Nat.zero_le _, rfl, HR6, HF6, by have := HS6.out; show _ ≤ _; omega, HOw, ?_, ?_⟩
      · show _ = _
        rw [List.take_zero, lensZ, levsZ]; exact HGA.out
      · show _ = _
        rw [List.take_zero]; unfold fits; rw [okZs, levsZ, lensZ]; simp
    case round =>
      obtain ⟨j, hj, rfl, HRr, HFr, HSr, HOr, HAr, HTr⟩ := hrel
      have G0r := Lib.hid ((HOr.out g (Nat.le_refl _) (by omega)).trans H0.out)
      have G1r := Lib.hid ((HOr.out (g + 1) (by omega) (by omega)).trans H1.out)
      have G2r := Lib.hid ((HOr.out (g + 1 + 1) (by omega) (by omega)).trans H2.out)
      have G3r := Lib.hid ((HOr.out p (by have := HP.out; omega) (by have := HP.out; omega)).trans H3.out)
      by_cases hlt : j < q
      · have hl2 : j < l.length := by have := HQ.out; omega
        obtain ⟨⟨k, s, l'⟩, hx⟩ : ∃ x, l[j]? = some x := ⟨_, List.getElem?_eq_getElem hl2⟩
        obtain ⟨b', o', A', c', e, _, _, hxi, hc⟩ := HLs.out.at_ hx
        cases e
        obtain ⟨n0, n1, n2⟩ := hc wr (HRr.out.bel.block b hbl)
        have HX : Hid (NzIn S w0 (.agg #[.int .i64 k, .string (bs s), .slice A' l'.length c']) (.mk k s l')) := hxi
        have HNx := Lib.hid (HNd.out _ (List.mem_of_getElem? hx))
        have HSn := Lib.hid (fits_snoc hx HTr.out)
        have HLe := Lib.hid (lens_snoc hx)
        have HVe := Lib.hid (levs_snoc hx)
        have HLess : Hid (y = true → fits (l.take (j + 1)) R L = true) := fun h => fits_less (by rw [← HY.out]; exact h)
        have HTl := Lib.hid (fits_le HTr.out)
        obtain ⟨N1, hN1⟩ : ∃ N1, N1 = lensZ (l.take j) := ⟨_, rfl⟩
        obtain ⟨M1, hM1⟩ : ∃ M1, M1 = levsZ (l.take j) := ⟨_, rfl⟩
        rw [← hN1] at HSn HLe HTl HAr
        rw [← hM1] at HVe HTl HAr
        have hN1R : N1 ≤ R := HTl.out.1
        obtain ⟨R1, hR1⟩ : ∃ R1, R1 = R - N1 := ⟨_, rfl⟩
        rw [← hR1] at HSn
        have v1 : IntKind.i64.wrap ((R : Int) - (N1 : Int)) = (R1 : Int) := by rw [show (R1 : Int) = (R : Int) - (N1 : Int) by omega]; exact IntWalk.i64_in _ (by omega)
        have hRb : R1 ≤ 2147483647 := by omega
        have HR1 := Lib.hid hR1
        clear hx hc hxi hl2 hN1 hM1 hR1
        generalize bs s = x at *
        generalize l'.length = m' at *
        go_upto_region 11 with fail
        obtain ⟨wn, hwn⟩ : ∃ wn, wn = wr.alloc (.cells #[.int .i64 k, .string x, .slice A' m' c'] 25) := ⟨_, rfl⟩
        rw [← hwn]
        have hbn : Below wr.heap.size wr wn := by rw [hwn]; exact alloc_below wr _
        have hgn : wn.heap[wr.heap.size]? = some (.cells #[.int .i64 k, .string x, .slice A' m' c'] 25) := by rw [hwn]; exact heap_alloc_new wr _
        have HRn := Lib.hid (HRr.out.on hbn)
        have HFn := Lib.hid (HFr.out.trans (Far.of hbn))
        have HOn : Hid (∀ U : World, (∀ i, i < wr.heap.size → i ≠ mb → U.heap[i]? = wr.heap[i]?) → U.heap[g]? = some (.cells #[.map (some mb)] 45) ∧ U.heap[g + 1]? = some (.cells #[.int .i64 (R : Int), .int .i64 (L : Int)] 41) ∧ U.heap[g + 1 + 1]? = some (.cells #[.int .i64 0, .int .i64 0] 41) ∧ U.heap[a]? = some (.cells #[.int .i64 (N1 : Int), .int .i64 (M1 : Int)] 41) ∧ ∀ i, g ≤ i → i < g + 5 → U.heap[i]? = U0.heap[i]?) := fun U h => by
          have hsr := HSr.out
          have hgm : mb < g := by have := HGE.out; omega
          have hag : a = g + 5 := by have := HA.out; have := HS5.out; omega
          exact ⟨(h g (by omega) (by omega)).trans G0r.out, (h (g + 1) (by omega) (by omega)).trans G1r.out, (h (g + 1 + 1) (by omega) (by omega)).trans G2r.out, (h a (by omega) (by omega)).trans HAr.out, fun i h1 h2 => (h i (by omega) (by omega)).trans (HOr.out i h1 h2)⟩
        obtain ⟨o0, o1, o2, o3, _⟩ := HOn.out wn (fun i h _ => hbn.block i h)
        have r0 := one_cell o0
        obtain ⟨m0, m1⟩ := two_cells o1
        obtain ⟨c0, c1⟩ := two_cells o3
        obtain ⟨n0', n1', n2'⟩ := cells_three hgn
        have hbn2 := Lib.hid hbn
        obtain ⟨z1, hz1⟩ : ∃ z1, z1 = fit (.mk k s l') R1 L := ⟨_, rfl⟩
        have hcn := HNx.out _ wn R1 L HX.out HRn.out hRb hLv
        rw [← hz1] at hcn HSn
        have hCn := Lib.hid hcn
        clear hcn
        have HZ1 := Lib.hid hz1
        clear n0 n1 n2 hwn hbn hgn o0 o1 o2 o3 HNx HX hz1
        go_upto_region 12 with (go_at_call 12; refine hCn.out.mono ?_; rintro e w5 ⟨⟨n, m, rfl, hnm⟩, hr5, hf5⟩; have HNM5 := Lib.hid hnm; have HR5' := Lib.hid hr5; have HF5' := Lib.hid hf5; clear hnm hr5 hf5)
        obtain ⟨w6, hw6⟩ : ∃ w6, w6 = w5.alloc (.cells #[.int .i64 (n : Int), .int .i64 (m : Int)] 41) := ⟨_, rfl⟩
        obtain ⟨ee, hee⟩ : ∃ ee, ee = w5.heap.size := ⟨_, rfl⟩
        rw [← hw6, ← hee]
        have hb6 : Below w5.heap.size w5 w6 := by rw [hw6]; exact alloc_below w5 _
        have he6 : w6.heap[ee]? = some (.cells #[.int .i64 (n : Int), .int .i64 (m : Int)] 41) := by rw [hw6, hee]; exact heap_alloc_new w5 _
        have HR6' := Lib.hid (HR5'.out.on hb6)
        have HF6' := Lib.hid ((HFn.out.trans HF5'.out).trans (Far.of hb6))
        have hsz6 : wr.heap.size ≤ w5.heap.size := Nat.le_trans hbn2.out.size HF5'.out.size
        have HS6' : Hid (wr.heap.size ≤ w6.heap.size) := Nat.le_trans hsz6 hb6.size
        obtain ⟨o0, o1, o2, o3, o4⟩ := HOn.out w6 (fun i h hm => (hb6.block i (by omega)).trans ((HF5'.out.block i (Nat.lt_of_lt_of_le h hbn2.out.size) hm).trans (hbn2.out.block i h)))
        have O2 := Lib.hid o2
        have O3 := Lib.hid o3
        have O4 := Lib.hid o4
        clear hw6 hb6 hsz6 hee r0 m0 m1 c0 c1 n0' n1' n2' v1 hbn2 hCn HOn
        obtain ⟨a0, a1⟩ := two_cells o2
        have fz0 := Lib.frozen_of_heap o2 0
        have fz1 := Lib.frozen_of_heap o2 1
        obtain ⟨c0, c1⟩ := two_cells o3
        have fc0 := Lib.frozen_of_heap o3 0
        have fc1 := Lib.frozen_of_heap o3 1
        obtain ⟨e0, e1⟩ := two_cells he6
        clear o0 o1 o2 o3 o4 he6
        cases z1 with
        | false =>
          have HZ2 : y = false := by
            cases y with
            | false => rfl
            | true => have := HLess.out rfl; rw [HSn.out] at this; cases this
          go_wp2
          obtain ⟨V, hV⟩ : ∃ V, (w6.setCell ⟨g + 1 + 1, 0, none⟩ (.int .i64 0)).setCell ⟨g + 1 + 1, 1, none⟩ (.int .i64 0) = V := ⟨_, rfl⟩
          rw [hV]
          obtain ⟨z1, z2, z3, _⟩ := two_fin O2.out hV HR6'.out HF6'.out (by have := HGE.out; omega) hmg
          obtain ⟨y0, y1⟩ := two_cells z1
          refine bodyPost_ret (v := .tuple #[.agg #[.int .i64 0, .int .i64 0], .bool false]) (by simp [results, Tryz.results26, go_sem, y0, y1]) rfl ?_
          exact ⟨⟨0, 0, by rw [HZ2]; rfl, fun h => by rw [HZ2] at h; cases h⟩, z2, z3⟩
        | true =>
          obtain ⟨hn, hm⟩ := HNM5.out rfl
          have hfx := HZ1.out.symm
          unfold fit at hfx
          rw [Bool.and_eq_true, Bool.and_eq_true, decide_eq_true_eq, decide_eq_true_eq, ← hn, ← hm] at hfx
          obtain ⟨_, hmL, hnR⟩ := hfx
          have hr1 := HR1.out
          obtain ⟨N2, hN2⟩ : ∃ N2, N2 = N1 + n := ⟨_, rfl⟩
          obtain ⟨M2, hM2⟩ : ∃ M2, M2 = max M1 m := ⟨_, rfl⟩
          have v2 : IntKind.i64.wrap ((N1 : Int) + (n : Int)) = (N2 : Int) := by rw [hN2, Int.natCast_add]; exact IntWalk.i64_in _ (by omega)
          have v3 : max (M1 : Int) (m : Int) = (M2 : Int) := by omega
          obtain ⟨j1, hj1⟩ : ∃ j1, j1 = j + 1 := ⟨_, rfl⟩
          have v4 : IntKind.i64.wrap ((j : Int) + 1) = ((j1 : Nat) : Int) := by rw [hj1]; exact IntWalk.i64_in _ (by omega)
          have HN2 : Hid (N2 = lensZ (l.take j1)) := by show _ = _; rw [hj1, HLe.out, hN2, hn]
          have HM2 : Hid (M2 = levsZ (l.take j1)) := by show _ = _; rw [hj1, HVe.out, hM2, hm]
          have HFt : Hid (fits (l.take j1) R L = true) := by show _ = _; rw [hj1]; exact HSn.out
          have HJ := Lib.hid hj1
          clear hn hm hmL hnR hr1 hN2 hM2 hj1
          go_wp2
          obtain ⟨V, hV⟩ : ∃ V, (w6.setCell ⟨a, 0, none⟩ (.int .i64 (N2 : Int))).setCell ⟨a, 1, none⟩ (.int .i64 (M2 : Int)) = V := ⟨_, rfl⟩
          rw [hV]
          obtain ⟨z1, z2, z3, z4⟩ := two_fin O3.out hV HR6'.out HF6'.out (by have := HGE.out; have := HA.out; have := HS5.out; omega) hmg
          have HV1 := Lib.hid z1
          have HV2 := Lib.hid z2
          have HV3 := Lib.hid z3
          have HV4 := Lib.hid z4
          have HVs : Hid (w6.heap.size ≤ V.heap.size) := by show _ ≤ _; rw [← hV]; simp
          clear z1 z2 z3 z4 hV
          go_roundw
          case rel =>
            refine ⟨j1, by have := HJ.out; omega, rfl, HV2, HV3, ?_, fun k h1 h2 => ?_, ?_, HFt⟩
            · have := HVs.out; have := HS6'.out; have := HSr.out; show _ ≤ _; omega
            · exact (HV4.out k (by have := HA.out; have := HS5.out; omega)).trans (O4.out k h1 h2)
            · show _ = _
              rw [← HN2.out, ← HM2.out]; exact HV1.out
          case measure => have := HJ.out; simp only [intOf]; omega
      · obtain rfl : j = q := by omega
        have htk : l.take j = l := by rw [HQ.out, List.take_length]
        rw [htk] at HAr HTr
        rw [← HNM.out.1, ← HNM.out.2] at HAr
        have HZ2 : y = true := HY.out.trans HTr.out
        obtain ⟨hNR, hML⟩ := fits_le HTr.out
        have r0 := one_cell G0r.out
        obtain ⟨p0, p1⟩ := two_cells G3r.out
        obtain ⟨c0, c1⟩ := two_cells HAr.out
        have hE : Ent S w0 b o j (extV N M) := ⟨hbl, c, l, HLs.out, HQ.out.symm, by
          have := HTr.out
          unfold fits at this
          rw [Bool.and_eq_true] at this
          exact this.1, by rw [HNM.out.1, HNM.out.2]⟩
        obtain ⟨W7, hup, htab7, hfar7, hsz7⟩ := HRr.out.tab.update b o j (HUm.out wr HRr.out) hbm (extV N M) hE
        unfold keyV extV at hup
        have hge0 := HRr.out.ge
        have HR7 : Hid (Rs S w0 mb W7) := ⟨HRr.out.bel.trans (hfar7.below hge0 HRr.out.bel.size), hge0, htab7⟩
        have HF7 := Lib.hid (HFr.out.trans hfar7)
        have hsr := HSr.out
        have hgm : mb < g := by have := HGE.out; omega
        have h27 := Lib.hid ((hfar7.block (g + 1 + 1) (by omega) (by omega)).trans G2r.out)
        have hag : a = g + 5 := by have := HA.out; have := HS5.out; omega
        have ha7 := (hfar7.block a (by omega) (by omega)).trans HAr.out
        obtain ⟨d0, d1⟩ := two_cells ha7
        obtain ⟨a0, a1⟩ := two_cells h27.out
        have fz0 := Lib.frozen_of_heap h27.out 0
        have fz1 := Lib.frozen_of_heap h27.out 1
        clear ha7 hag hgm hsr hge0 htab7 hfar7 hsz7 hE hNR hML htk
        go_wp2
        obtain ⟨V, hV⟩ : ∃ V, (W7.setCell ⟨g + 1 + 1, 0, none⟩ (.int .i64 (N : Int))).setCell ⟨g + 1 + 1, 1, none⟩ (.int .i64 (M : Int)) = V := ⟨_, rfl⟩
        rw [hV]
        obtain ⟨z1, z2, z3, _⟩ := two_fin h27.out hV HR7.out HF7.out (by have := HGE.out; omega) hmg
        obtain ⟨y0, y1⟩ := two_cells z1
        refine bodyPost_ret (v := .tuple #[.agg #[.int .i64 (N : Int), .int .i64 (M : Int)], .bool true]) (by simp [results, Tryz.results26, go_sem, y0, y1]) rfl ?_
        exact ⟨⟨N, M, by rw [HZ2], fun _ => ⟨rfl, rfl⟩⟩, z2, z3⟩
  · obtain ⟨_, c', l', hl', hle, hok, rfl⟩ := hE
    obtain rfl : l = l' := nzs_det HLs.out hl' (by rw [hle, ← HQ.out])
    rw [← HNM.out.1, ← HNM.out.2] at hlook
    unfold extV at hlook
    have HZ2 : Hid (y = (decide (N ≤ R) && decide (M ≤ L))) := by
      show _ = _
      rw [HY.out, HNM.out.1, HNM.out.2]; unfold fits; rw [hok, Bool.true_and, Bool.and_comm]
    clear hl' hle hok HUm HNd HLs HQ HY
    go_upto_region 6 with fail
    obtain ⟨U0, hU0⟩ : ∃ U0, U0 = V4.alloc (.cells #[.int .i64 (N : Int), .int .i64 (M : Int)] 41) := ⟨_, rfl⟩
    rw [← hU0]
    have hb0 : Below V4.heap.size V4 U0 := by rw [hU0]; exact alloc_below V4 _
    have hge0 : U0.heap[V4.heap.size]? = some (.cells #[.int .i64 (N : Int), .int .i64 (M : Int)] 41) := by rw [hU0]; exact heap_alloc_new V4 _
    have HR5 := Lib.hid (HR4.out.on hb0)
    have HF5 := Lib.hid (HF4.out.trans (Far.of hb0))
    have h11 := (hb0.block (g + 1) (by have := HS4.out; omega)).trans G1.out
    have H2 := Lib.hid ((hb0.block (g + 1 + 1) (by have := HS4.out; omega)).trans G2.out)
    clear hU0 hb0 hlook r0 p0 p1 m0 m1 a0 a1 fz0 fz1
    obtain ⟨m0, m1⟩ := two_cells h11
    obtain ⟨a0, a1⟩ := two_cells H2.out
    obtain ⟨c0, c1⟩ := two_cells hge0
    have fz0 := Lib.frozen_of_heap H2.out 0
    have fz1 := Lib.frozen_of_heap H2.out 1
    have HE4 : Hid (V4.heap.size ≠ g + 1 + 1) := by have := HS4.out; show _ ≠ _; omega
    clear h11 hge0
    obtain ⟨ee, hee⟩ : ∃ ee, ee = V4.heap.size := ⟨_, rfl⟩
    rw [← hee] at c0 c1 HE4 ⊢
    clear hee
    have hne := HE4.out
    have hne1 : ¬ g + 1 = g + 1 + 1 := by omega
    by_cases h1 : N ≤ R
    · have d1 : decide ((N : Int) ≤ (R : Int)) = true := decide_eq_true (by omega)
      have d2 : decide (N ≤ R) = true := decide_eq_true h1
      by_cases h2 : M ≤ L
      · have d3 : decide ((M : Int) ≤ (L : Int)) = true := decide_eq_true (by omega)
        have d4 : decide (M ≤ L) = true := decide_eq_true h2
        go_region
        go_wp2
        obtain ⟨V, hV⟩ : ∃ V, (U0.setCell ⟨g + 1 + 1, 0, none⟩ (.int .i64 (N : Int))).setCell ⟨g + 1 + 1, 1, none⟩ (.int .i64 (M : Int)) = V := ⟨_, rfl⟩
        rw [hV]
        obtain ⟨z1, z2, z3, _⟩ := two_fin H2.out hV HR5.out HF5.out (by have := HGE.out; omega) hmg
        obtain ⟨y0, y1⟩ := two_cells z1
        refine bodyPost_ret (v := .tuple #[.agg #[.int .i64 (N : Int), .int .i64 (M : Int)], .bool true]) (by simp [results, Tryz.results26, go_sem, y0, y1]) rfl ?_
        exact ⟨⟨N, M, by rw [HZ2.out, d2, d4]; rfl, fun _ => ⟨rfl, rfl⟩⟩, z2.on (Below.drew (Below.refl _ _)), z3.trans (Far.of (Below.drew (Below.refl _ _)))⟩
      · have d3 : decide ((M : Int) ≤ (L : Int)) = false := decide_eq_false (by omega)
        have d4 : decide (M ≤ L) = false := decide_eq_false h2
        go_region
        go_wp2
        obtain ⟨V, hV⟩ : ∃ V, (U0.setCell ⟨g + 1 + 1, 0, none⟩ (.int .i64 (N : Int))).setCell ⟨g + 1 + 1, 1, none⟩ (.int .i64 (M : Int)) = V := ⟨_, rfl⟩
        rw [hV]
        obtain ⟨z1, z2, z3, _⟩ := two_fin H2.out hV HR5.out HF5.out (by have := HGE.out; omega) hmg
        obtain ⟨y0, y1⟩ := two_cells z1
        refine bodyPost_ret (v := .tuple #[.agg #[.int .i64 (N : Int), .int .i64 (M : Int)], .bool false]) (by simp [results, Tryz.results26, go_sem, y0, y1]) rfl ?_
        exact ⟨⟨N, M, by rw [HZ2.out, d2, d4]; rfl, fun _ => ⟨rfl, rfl⟩⟩, z2.on (Below.drew (Below.refl _ _)), z3.trans (Far.of (Below.drew (Below.refl _ _)))⟩
    · have d1 : decide ((N : Int) ≤ (R : Int)) = false := decide_eq_false (by omega)
      have d2 : decide (N ≤ R) = false := decide_eq_false h1
      go_region
      go_wp2
      obtain ⟨V, hV⟩ : ∃ V, (U0.setCell ⟨g + 1 + 1, 0, none⟩ (.int .i64 (N : Int))).setCell ⟨g + 1 + 1, 1, none⟩ (.int .i64 (M : Int)) = V := ⟨_, rfl⟩
      rw [hV]
      obtain ⟨z1, z2, z3, _⟩ := two_fin H2.out hV HR5.out HF5.out (by have := HGE.out; omega) hmg
      obtain ⟨y0, y1⟩ := two_cells z1
      refine bodyPost_ret (v := .tuple #[.agg #[.int .i64 (N : Int), .int .i64 (M : Int)], .bool false]) (by simp [results, Tryz.results26, go_sem, y0, y1]) rfl ?_
      exact ⟨⟨N, M, by rw [HZ2.out, d2]; rfl, fun _ => ⟨rfl, rfl⟩⟩, z2.on (Below.drew (Below.refl _ _)), z3.trans (Far.of (Below.drew (Below.refl _ _)))⟩

end Go.Proofs.YtmcdefkpkpaceaaGreatDoor.Krl
