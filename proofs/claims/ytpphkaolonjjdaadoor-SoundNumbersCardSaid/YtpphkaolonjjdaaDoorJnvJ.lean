/- SoundNumbers: a quotient; the code with a block turned. -/
import Derived.IntWalk
import Derived.OpenShut
import Derived.Test.YtpphkaolonjjdaaDoorJnuJ
namespace Go.Proofs.YtpphkaolonjjdaaDoor.Jnv
open Go Go.RowKit Go.Proofs.YtpphkaolonjjdaaDoor.Spl Go.Proofs.YtpphkaolonjjdaaDoor.Nodm Go.Proofs.YtpphkaolonjjdaaDoor.Nz Go.Proofs.YtpphkaolonjjdaaDoor.Cpl Go.Proofs.YtpphkaolonjjdaaDoor.Cin Go.Proofs.YtpphkaolonjjdaaDoor.Cops Go.Proofs.YtpphkaolonjjdaaDoor.Cmm Go.Proofs.YtpphkaolonjjdaaDoor.Dpl Go.Proofs.YtpphkaolonjjdaaDoor.Dpr Go.Proofs.YtpphkaolonjjdaaDoor.Jkd Go.Proofs.YtpphkaolonjjdaaDoor.Jbk Go.Proofs.YtpphkaolonjjdaaDoor.Jdp Go.Proofs.YtpphkaolonjjdaaDoor.Jcd Go.Proofs.YtpphkaolonjjdaaDoor.Jnu
open Go.Proofs.YtpphkaolonjjdaaDoor.Pure (bs)

theorem wf_le {a : Int} (h : (Lit.int .i64 a).wf = true) : -9223372036854775808 ≤ a ∧ a ≤ 9223372036854775807 := by
  simp [Lit.wf, IntKind.min, IntKind.max, IntKind.signed, IntKind.bits] at h
  omega
theorem tdiv_le {a : Int} (h : (Lit.int .i64 a).wf = true) : -9223372036854775808 ≤ a.tdiv 50 ∧ a.tdiv 50 ≤ 9223372036854775807 := by
  have h1 := wf_le h
  rcases Int.le_total 0 a with h0 | h0
  · rw [Int.tdiv_eq_ediv_of_nonneg h0]; omega
  · have h2 := Int.neg_tdiv (a := a) (b := 50)
    have h3 : (-a).tdiv 50 = (-a) / 50 := Int.tdiv_eq_ediv_of_nonneg (by omega)
    omega
theorem tdiv_wrap {a : Int} (h : (Lit.int .i64 a).wf = true) : IntKind.i64.wrap (a.tdiv 50) = a.tdiv 50 := IntWalk.i64_in _ (tdiv_le h)
theorem tdiv_wf {a : Int} (h : (Lit.int .i64 a).wf = true) : (Lit.int .i64 (a.tdiv 50)).wf = true := by
  have := tdiv_le h
  simp [Lit.wf, IntKind.min, IntKind.max, IntKind.signed, IntKind.bits]
  omega
theorem own_slice {w : World} {B e sz n : Nat} {v : Value} {xs : List Value} (h : w.ownsRow B e sz v n xs) : ∃ A c, v = .slice A n c := by
  rcases h.2 with ⟨h1, h2⟩ | ⟨g, cap, _, h1, _⟩
  · exact ⟨none, 0, by rw [h1, h2]⟩
  · exact ⟨_, cap, h1⟩
theorem own_mono {w : World} {base base' : Nat} {e : TypeId} {size : Nat} {v : Value} {n : Nat} {xs : List Value} (h : w.ownsRow base e size v n xs) (hb : base' ≤ base) : w.ownsRow base' e size v n xs :=
  ⟨h.1, h.2.imp id fun ⟨g, cap, cur, h1, h2, h3⟩ => ⟨g, cap, cur, h1, Nat.le_trans hb h2, h3⟩⟩

theorem one_new (w : World) (x : Value) (t : TypeId) : ∀ (j : Nat) (c : Value), [x][j]? = some c → (w.alloc (.cells #[x] t)).cell? ((⟨w.heap.size, 0, none⟩ : Addr).add j) = some c := by
  intro j c hu
  have h := Lib.cell_of_heap (heap_alloc_new w (.cells #[x] t)) 0
  match j, hu with
  | 0, hu => cases hu; rw [Strs.addr_add]; exact h.trans rfl
theorem two_last (w : World) (o : Obj) (x : Value) (t : TypeId) : ∀ (j : Nat) (c : Value), [x][j]? = some c → ((w.alloc o).alloc (.cells #[x] t)).cell? ((⟨w.heap.size + 1, 0, none⟩ : Addr).add j) = some c := by
  have h := one_new (w.alloc o) x t
  rw [World.size_alloc] at h
  exact h
theorem infoInt_at : ∃ i, Tryd.prog.info? 3 = some i ∧ i.zero = some (.int .i64 0) ∧ i.size = 1 ∧ i.bytes = 8 := by
  obtain ⟨i, hi, he⟩ := Option.map_eq_some_iff.1 (show (Tryd.prog.info? 3).map (fun i => (i.zero, i.size, i.bytes)) = some (some (.int .i64 0), 1, 8) by kernel_rfl)
  injection he with h1 h2
  injection h2 with h2 h3
  exact ⟨i, hi, h1, h2, h3⟩
theorem infoOps_at : ∃ i, Tryd.prog.info? 38 = some i ∧ i.zero = some (.slice none 0 0) ∧ i.size = 1 ∧ i.bytes = 24 := by
  obtain ⟨i, hi, he⟩ := Option.map_eq_some_iff.1 (show (Tryd.prog.info? 38).map (fun i => (i.zero, i.size, i.bytes)) = some (some (.slice none 0 0), 1, 24) by kernel_rfl)
  injection he with h1 h2
  injection h2 with h2 h3
  exact ⟨i, hi, h1, h2, h3⟩

def nameS : Nat → T
  | 0 => [] | 1 => [105, 102] | 2 => [115, 116, 114, 105, 112] | _ => [115, 117, 98, 115, 116]
theorem index_s (p : Nat) (hp : p < 4) (W : World) : (Instr.index 41 (.agg #[.string ⟨#[]⟩, .string ⟨#[105, 102]⟩, .string ⟨#[115, 116, 114, 105, 112]⟩, .string ⟨#[115, 117, 98, 115, 116]⟩]) (.int .i64 (p : Int))).run Tryd.prog W = .ok (.string (bs (nameS p))) W := by
  match p, hp with
  | 0, _ => show _ = _; kernel_rfl
  | 1, _ => show _ = _; kernel_rfl
  | 2, _ => show _ = _; kernel_rfl
  | 3, _ => show _ = _; kernel_rfl
theorem nameS_len (p : Nat) : (nameS p).length ≤ 10 := by
  unfold nameS
  split <;> decide
/-- the beginning of a row -/
theorem cut_front (g n c i : Nat) (hi : i ≤ c) (W : World) : (Instr.slice 38 (.slice (some ⟨g, 0, none⟩) n c) none (some (.int .i64 (i : Int))) none).run Tryd.prog W = .ok (.slice (some ⟨g, 0, none⟩) i c) W := by
  have h1 : (0 : Int) ≤ (i : Int) ∧ (i : Int) ≤ (c : Int) := by omega
  have h2 : i ≤ c := hi
  simp [Instr.slice, run_underlying Tryd.underlying38, Instr.sliceBounds, Instr.sliceBound, asIntOf, h2, Addr.add]
/-- the rest of a row -/
theorem cut_back (g n c i : Nat) (hi : i < n) (hc : n ≤ c) : ∃ A, (∀ W, (Instr.slice 38 (.slice (some ⟨g, 0, none⟩) n c) (some (.int .i64 ((i : Int) + 1))) none none).run Tryd.prog W = .ok (.slice A (n - (i + 1)) (c - (i + 1))) W) ∧ (n - (i + 1) ≠ 0 → A = some ⟨g, (i + 1) * 4, none⟩) ∧ A ≠ none := by
  refine ⟨if c = i + 1 then some ⟨g, 0, none⟩ else some ⟨g, (i + 1) * 4, none⟩, fun W => ?_, fun h => if_neg (by omega), by split <;> simp⟩
  have h1 : (0 : Int) ≤ (i : Int) + 1 ∧ (i : Int) + 1 ≤ (n : Int) := by omega
  have h2 : ((i : Int) + 1).toNat = i + 1 := by omega
  simp [Instr.slice, run_underlying Tryd.underlying38, Instr.sliceBounds, Instr.sliceBound, asIntOf, h1.1, h1.2, h2, Addr.add]
theorem back_news {w : World} {H g c i : Nat} {A : Option Addr} {L : List (Opp × Value)} (ho : w.ownsRow H 40 4 (.slice (some ⟨g, 0, none⟩) L.length c) L.length (flat4 L)) (hi : i < L.length) (hA : L.length - (i + 1) ≠ 0 → A = some ⟨g, (i + 1) * 4, none⟩) :
    ∀ ad, A = some ad → ∀ j u, (flat4 (L.drop (i + 1)))[j]? = some u → w.cell? (ad.add j) = some u := by
  intro ad had j u hu
  have hj := (List.getElem?_eq_some_iff.1 hu).1
  rw [flat4_len, List.length_drop] at hj
  rw [hA (by omega)] at had
  cases had
  rw [Strs.addr_add]
  rw [← flat4_drop L (i + 1) (by omega), List.getElem?_drop] at hu
  exact (ho.cellAt _ (by omega)).trans hu
/-- one cell of one instruction turned, whatever else is new -/
theorem mod_putV {h g c i q : Nat} {w4 W V : World} {L : List (Opp × Value)} {y y' : Opp × Value} {u : Value} (m : ModIs h w4 (.slice (some ⟨g, 0, none⟩) L.length c) L W) (hi : L[i]? = some y) (hq : q < 4) (hc : cell4 y' = (cell4 y).set q u)
    (hos : V.os = W.os) (htp : V.tape = W.tape) (hout : V.output = W.output) (hz : W.heap.size ≤ V.heap.size) (hV : ∀ k, k < W.heap.size → k ≠ g → V.heap[k]? = W.heap[k]?) (hgV : V.heap[g]? = (W.setCell ⟨g, i * 4 + q, none⟩ u).heap[g]?)
    (hn : V.ownsRow h 3 1 y'.2 y'.1.l.length (y'.1.l.map (Value.int .i64))) (ho : Oko y'.1) (hf : y'.1.l.length ≤ 2000000) : ModIs h w4 (.slice (some ⟨g, 0, none⟩) L.length c) (L.set i y') V := by
  obtain ⟨hst, hgr⟩ := m.row.stored (i * 4 + q) u
  have hgl := m.row.lt g rfl
  refine ⟨by rw [List.length_set]; exact m.small, ?_, fun z hz2 => ?_, fun z hz2 => ?_, fun z hz2 => ?_, m.bel.trans ⟨hos, htp, hout, hz, fun k hk => hV k (Nat.lt_of_lt_of_le hk m.bel.size) (by omega)⟩⟩
  · rw [List.length_set, ← flat4_set L i q y y' u hi hq hc]
    exact own_keep hst fun k hk => by obtain rfl : g = k := Option.some.inj hk; exact hgV
  · rcases List.mem_or_eq_of_mem_set hz2 with hz2 | rfl
    · have h0 := m.nums z hz2
      refine own_keep h0 fun k hk => hV k (h0.lt k hk).2 fun e => ?_
      subst e
      rcases own_type h0 m.row (by decide) with h1 | h1
      · rw [h1] at hk; cases hk
      · exact h1 hk
    · exact hn
  · rcases List.mem_or_eq_of_mem_set hz2 with hz2 | rfl
    · exact m.oko z hz2
    · exact ho
  · rcases List.mem_or_eq_of_mem_set hz2 with hz2 | rfl
    · exact m.few z hz2
    · exact hf
/-- a store gives the same block where the block was the same -/
theorem set_same {W V : World} {g j : Nat} {u : Value} (h : V.heap[g]? = W.heap[g]?) {cur : Array Value} {t : TypeId} (hc : W.heap[g]? = some (.cells cur t (0, 0))) : (V.setCell ⟨g, j, none⟩ u).heap[g]? = (W.setCell ⟨g, j, none⟩ u).heap[g]? := by
  rw [heap_setCell_same W g j cur t u hc, heap_setCell_same V g j cur t u (h.trans hc)]
theorem own_cur {w : World} {B e sz n g c : Nat} {xs : List Value} (h : w.ownsRow B e sz (.slice (some ⟨g, 0, none⟩) n c) n xs) : ∃ cur, w.heap[g]? = some (.cells cur e (0, 0)) := by
  rcases h.2 with ⟨h1, _⟩ | ⟨g', cap, cur, h1, _, h3, _⟩
  · cases h1
  · cases h1; exact ⟨cur, h3⟩
/-- a new row of numbers for one instruction -/
theorem mod_nums {h g c i : Nat} {w4 W W' : World} {L : List (Opp × Value)} {k1 n1 : Int} {s1 : T} {l1 l2 : List Int} {v1 v2 : Value} (m : ModIs h w4 (.slice (some ⟨g, 0, none⟩) L.length c) L W) (hi : L[i]? = some (⟨k1, n1, s1, l1⟩, v1)) (hb : Below W.heap.size W W') (hh : h ≤ W.heap.size)
    (hn : W'.ownsRow W.heap.size 3 1 v2 l2.length (l2.map (Value.int .i64))) (hl : l2.length ≤ 2000000) : ModIs h w4 (.slice (some ⟨g, 0, none⟩) L.length c) (L.set i (⟨k1, n1, s1, l2⟩, v2)) (W'.setCell ⟨g, i * 4 + 3, none⟩ v2) := by
  have hgl := m.row.lt g rfl
  obtain ⟨cur, hcur⟩ := own_cur m.row
  have hb0 := (hb.mono (Nat.zero_le _)).setCell (p := ⟨g, i * 4 + 3, none⟩) (Nat.zero_le _) v2
  have ho := m.oko _ (List.mem_of_getElem? hi)
  refine mod_putV m hi (q := 3) (by decide) rfl hb0.os hb0.tape hb0.output hb0.size (fun k hk hne => (heap_setCell_other W' ⟨g, i * 4 + 3, none⟩ k v2 hne).trans (hb.block k hk)) (set_same (hb.block g hgl.2) hcur) ?_ ⟨by show l2.length ≤ _; omega, ho.2⟩ hl
  refine own_mono (own_keep hn fun k hk => heap_setCell_other W' ⟨g, i * 4 + 3, none⟩ k v2 ?_) hh
  have := hn.lt k hk
  show k ≠ g
  omega
/-- a new row of numbers for one instruction, its first number turned -/
theorem mod_first {h g g2 c c2 i n2 : Nat} {z : Int} {w4 W W' : World} {L : List (Opp × Value)} {k1 n1 : Int} {s1 : T} {l1 : List Int} {v1 : Value} (m : ModIs h w4 (.slice (some ⟨g, 0, none⟩) L.length c) L W) (hi : L[i]? = some (⟨k1, n1, s1, l1⟩, v1)) (hb : Below W.heap.size W W') (hh : h ≤ W.heap.size)
    (hn2 : n2 = l1.length) (hn : W'.ownsRow W.heap.size 3 1 (.slice (some ⟨g2, 0, none⟩) n2 c2) n2 (l1.map (Value.int .i64))) (hl : l1.length ≤ 2000000) :
    ModIs h w4 (.slice (some ⟨g, 0, none⟩) L.length c) (L.set i (⟨k1, n1, s1, l1.set 0 z⟩, .slice (some ⟨g2, 0, none⟩) n2 c2)) ((W'.setCell ⟨g, i * 4 + 3, none⟩ (.slice (some ⟨g2, 0, none⟩) n2 c2)).setCell ⟨g2, 0, none⟩ (.int .i64 z)) := by
  have hgl := m.row.lt g rfl
  have hg2 := hn.lt g2 rfl
  obtain ⟨cur, hcur⟩ := own_cur m.row
  have hb0 := ((hb.mono (Nat.zero_le _)).setCell (p := ⟨g, i * 4 + 3, none⟩) (Nat.zero_le _) (.slice (some ⟨g2, 0, none⟩) n2 c2)).setCell (p := ⟨g2, 0, none⟩) (Nat.zero_le _) (.int .i64 z)
  have ho := m.oko _ (List.mem_of_getElem? hi)
  have hn3 : (W'.setCell ⟨g, i * 4 + 3, none⟩ (.slice (some ⟨g2, 0, none⟩) n2 c2)).ownsRow W.heap.size 3 1 (.slice (some ⟨g2, 0, none⟩) n2 c2) n2 (l1.map (Value.int .i64)) := own_keep hn fun k hk => by
    obtain rfl : g2 = k := Option.some.inj hk
    exact heap_setCell_other W' ⟨g, i * 4 + 3, none⟩ g2 _ (by show g2 ≠ g; omega)
  refine mod_putV m hi (q := 3) (by decide) rfl hb0.os hb0.tape hb0.output hb0.size (fun k hk hne => ?_) ?_ ?_ ⟨by show (l1.set 0 z).length ≤ _; rw [List.length_set]; omega, ho.2⟩ (by show (l1.set 0 z).length ≤ _; rw [List.length_set]; omega)
  · exact (heap_setCell_other _ ⟨g2, 0, none⟩ k _ (by show k ≠ g2; omega)).trans ((heap_setCell_other W' ⟨g, i * 4 + 3, none⟩ k _ hne).trans (hb.block k hk))
  · exact (heap_setCell_other _ ⟨g2, 0, none⟩ g _ (by show g ≠ g2; omega)).trans (set_same (hb.block g hgl.2) hcur)
  · have h4 := (hn3.stored 0 (.int .i64 z)).1
    show World.ownsRow _ _ _ _ _ (l1.set 0 z).length ((l1.set 0 z).map (Value.int .i64))
    rw [List.length_set, ← hn2, List.map_set]
    exact own_mono h4 hh
/-- the code with block b turned -/
theorem turned {h b gD cD : Nat} {w4 W V : World} {vB vM : Value} {G : List Rw} {L : List (Opp × Value)} (hh : h ≤ w4.heap.size) (r : RowsG h W vB G) (m : ModIs h w4 vM L W)
    (hown : V.ownsRow W.heap.size 38 1 (.slice (some ⟨gD, 0, none⟩) G.length cD) G.length (G.map (·.1))) (hg : W.grownBy V none) :
    RowsG h ((V.alloc (.cells #[.slice (some ⟨gD, 0, none⟩) G.length cD] 24)).setCell ⟨gD, b, none⟩ vM) (.slice (some ⟨gD, 0, none⟩) G.length cD) (G.set b (vM, L)) ∧
    ((V.alloc (.cells #[.slice (some ⟨gD, 0, none⟩) G.length cD] 24)).setCell ⟨gD, b, none⟩ vM).heap[V.heap.size]? = some (.cells #[.slice (some ⟨gD, 0, none⟩) G.length cD] 24) ∧
    Below W.heap.size W ((V.alloc (.cells #[.slice (some ⟨gD, 0, none⟩) G.length cD] 24)).setCell ⟨gD, b, none⟩ vM) := by
  have hgl := hown.lt gD rfl
  have hbW := grown_below hg
  have hzm := m.bel.size
  obtain ⟨hst, hgr⟩ := (hown.alloc (.cells #[.slice (some ⟨gD, 0, none⟩) G.length cD] 24)).stored b vM
  obtain ⟨U, hU⟩ : ∃ U, (V.alloc (.cells #[.slice (some ⟨gD, 0, none⟩) G.length cD] 24)).setCell ⟨gD, b, none⟩ vM = U := ⟨_, rfl⟩
  rw [hU] at hst hgr ⊢
  have kU : ∀ k, k < V.heap.size + 1 → k ≠ gD → U.heap[k]? = (V.alloc (.cells #[.slice (some ⟨gD, 0, none⟩) G.length cD] 24)).heap[k]? := fun k hk hne => hgr.block k (by rw [World.size_alloc]; exact hk) (fun e => hne (Option.some.inj e))
  have hbU : Below W.heap.size W U := by
    refine ⟨?_, ?_, ?_, ?_, fun k hk => ?_⟩
    · exact hgr.os.trans hg.os
    · exact hgr.tape.trans hg.tape
    · exact hgr.output.trans hg.output
    · have := hgr.size; rw [World.size_alloc] at this; have := hg.size; omega
    · exact (kU k (by have := hg.size; omega) (by omega)).trans ((Lib.alloc_old V _ k (by have := hg.size; omega)).trans (hbW.block k hk))
  refine ⟨⟨?_, fun g' hg' => ?_, fun g' hg' y hy => ?_⟩, ?_, hbU⟩
  · rw [List.length_set, List.map_set]
    exact own_mono hst (by omega)
  · rcases List.mem_or_eq_of_mem_set hg' with hg' | rfl
    · exact own_on (r.ops g' hg') hbU
    · exact own_mono (own_on m.row hbU) hh
  · rcases List.mem_or_eq_of_mem_set hg' with hg' | rfl
    · exact own_on (r.nums g' hg' y hy) hbU
    · exact own_on (m.nums y hy) hbU
  · exact (kU _ (by omega) (by omega)).trans (heap_alloc_new V _)
/-- its lengths are in reach -/
theorem turned_ok {h b : Nat} {w4 W : World} {vM : Value} {G : List Rw} {L : List (Opp × Value)} (m : ModIs h w4 vM L W) (hb : b < G.length) (hG : G.length ≤ 1000000) (hops : opsP (blk G) ≤ 1000000) (hok : OkB (blk G)) : Okd (blk (G.set b (vM, L))) := by
  have e : blk (G.set b (vM, L)) = (blk G).set b (L.map (·.1)) := by unfold blk; rw [List.map_set]
  rw [e]
  have h1 := ops_set (blk G) b (L.map (·.1)) (by rw [blk_len]; exact hb)
  have h2 : (L.map (·.1)).length ≤ 100000 := by rw [List.length_map]; exact m.small
  refine ⟨by rw [List.length_set, blk_len]; omega, by omega, fun l hl o ho => ?_⟩
  rcases List.mem_or_eq_of_mem_set hl with hl | rfl
  · exact oko_of (hok l hl o ho)
  · obtain ⟨y, hy, rfl⟩ := List.mem_map.1 ho
    exact m.oko y hy

end Go.Proofs.YtpphkaolonjjdaaDoor.Jnv
