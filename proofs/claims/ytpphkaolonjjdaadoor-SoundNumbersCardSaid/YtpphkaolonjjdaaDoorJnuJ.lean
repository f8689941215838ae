/- SoundNumbers: what is compiled has instructions in reach, blocks that are not empty; a row of instructions, one of them turned. -/
import Derived.Test.YtpphkaolonjjdaaDoorCmmJ
import Derived.Test.YtpphkaolonjjdaaDoorDcpJ
import Derived.Test.YtpphkaolonjjdaaDoorDprJ
import Derived.Test.YtpphkaolonjjdaaDoorDawJ
namespace Go.Proofs.YtpphkaolonjjdaaDoor.Jnu
open Go Go.RowKit Go.Proofs.YtpphkaolonjjdaaDoor.Spl Go.Proofs.YtpphkaolonjjdaaDoor.Nodm Go.Proofs.YtpphkaolonjjdaaDoor.Nz Go.Proofs.YtpphkaolonjjdaaDoor.Cpl Go.Proofs.YtpphkaolonjjdaaDoor.Cin Go.Proofs.YtpphkaolonjjdaaDoor.Cops Go.Proofs.YtpphkaolonjjdaaDoor.Cmc Go.Proofs.YtpphkaolonjjdaaDoor.Cmm Go.Proofs.YtpphkaolonjjdaaDoor.Dpl Go.Proofs.YtpphkaolonjjdaaDoor.Dpr Go.Proofs.YtpphkaolonjjdaaDoor.Jkd Go.Proofs.YtpphkaolonjjdaaDoor.Jbk Go.Proofs.YtpphkaolonjjdaaDoor.Jdp Go.Proofs.YtpphkaolonjjdaaDoor.Jcd
open Go.Proofs.YtpphkaolonjjdaaDoor.Pure (bs)

/-! ### what is compiled -/
def OkB (B : List (List Opp)) : Prop := ∀ l ∈ B, ∀ o ∈ l, okoB o = true
theorem OkB.put {B : List (List Opp)} {b : Nat} {o : Opp} (h : OkB B) (ho : okoB o = true) : OkB (Cpl.put B b o) := by
  intro l hl x hx
  unfold Cpl.put at hl
  rcases List.mem_or_eq_of_mem_set hl with hl | rfl
  · exact h l hl x hx
  · rcases List.mem_append.1 hx with hx | hx
    · rw [List.getD_eq_getElem?_getD] at hx
      cases e : B[b]? with
      | none => rw [e] at hx; cases hx
      | some r => rw [e] at hx; exact h r (List.mem_of_getElem? e) x hx
    · rw [List.mem_singleton.1 hx]; exact ho
theorem oko_small {k n : Int} {s : T} {l : List Int} (hl : l.length ≤ 1000000) (hs : s.length ≤ 1000000) (h1 : -1000000 ≤ n) (h2 : n ≤ 1000000) : okoB ⟨k, n, s, l⟩ = true :=
  decide_eq_true ⟨hl, hs, by show -1000000000000000000 ≤ n; omega, by show n ≤ 1000000000000000000; omega⟩
mutual
theorem node_ok : ∀ (x : Nz) (b : Nat) (B : List (List Opp)), frmZ x = true → siz x ≤ 400000 → OkB B → OkB (nodeP x b B)
  | .mk k s l, b, B, hf, hz, hB => by
    obtain ⟨h1, h2, h3⟩ := frm_mk hf
    have hl := sizs_len l
    have hz : 1 + sizs l ≤ 400000 := hz
    rw [nodeP]
    split
    · exact hB.put (oko_small (Nat.zero_le _) h2 (by omega) (by omega))
    · split
      · refine (lazy_ok l _ _ h3 (by omega) fun r hr => ?_).put (oko_small (by rw [List.length_map, List.length_range']; omega) h2 (by omega) (by omega))
        rcases List.mem_append.1 hr with hr | hr
        · exact hB r hr
        · intro o ho
          rw [(List.mem_replicate.1 hr).2] at ho
          cases ho
      · refine (nodes_ok l b B h3 (by omega) hB).put ?_
        unfold lastOp
        split
        · exact oko_small (Nat.zero_le _) (Nat.zero_le _) (by omega) (by omega)
        · split
          · exact oko_small (Nat.zero_le _) (Nat.zero_le _) (by omega) (by omega)
          · split
            · exact oko_small (Nat.zero_le _) h2 (by omega) (by omega)
            · exact oko_small (Nat.zero_le _) (Nat.zero_le _) (by omega) (by omega)
theorem nodes_ok : ∀ (l : List Nz) (b : Nat) (B : List (List Opp)), frmsZ l = true → sizs l ≤ 400000 → OkB B → OkB (nodesP l b B)
  | [], b, B, _, _, hB => by rw [nodesP]; exact hB
  | n :: r, b, B, hf, hz, hB => by
    obtain ⟨h1, h2⟩ := frms_cons hf
    have hz : siz n + sizs r ≤ 400000 := hz
    rw [nodesP]
    exact nodes_ok r b _ h2 (by omega) (node_ok n b B h1 (by omega) hB)
theorem lazy_ok : ∀ (l : List Nz) (f : Nat) (B : List (List Opp)), frmsZ l = true → sizs l ≤ 400000 → OkB B → OkB (lazyP l f B)
  | [], f, B, _, _, hB => by rw [lazyP]; exact hB
  | n :: r, f, B, hf, hz, hB => by
    obtain ⟨h1, h2⟩ := frms_cons hf
    have hz : siz n + sizs r ≤ 400000 := hz
    rw [lazyP]
    exact lazy_ok r (f + 1) _ h2 (by omega) (node_ok n f B h1 (by omega) hB)
end
theorem comp_ok (x : Nz) (hf : frmZ x = true) (hz : siz x ≤ 400000) : OkB (compP x) := node_ok x 0 [[]] hf hz fun l hl o ho => by
  rw [List.mem_singleton.1 hl] at ho; cases ho
theorem ok_at (q : Nat) : ∀ (B : List (List Opp)) (b j : Nat) (l : List Opp), okP q b B = true → B[j]? = some l → 0 ≤ blockP (b + j) q l
  | [], b, j, l, _, hj => by cases hj
  | x :: r, b, 0, l, h, hj => by
    cases hj
    rw [okP, Bool.and_eq_true, decide_eq_true_eq] at h
    exact h.1
  | x :: r, b, j + 1, l, h, hj => by
    rw [okP, Bool.and_eq_true] at h
    rw [show b + (j + 1) = b + 1 + j by omega]
    exact ok_at q r (b + 1) j l h.2 (by simpa using hj)
/-- a block that may be is not empty -/
theorem rows_some {B : List (List Opp)} (h : checkP B = true) : B ≠ [] ∧ ∀ l ∈ B, l ≠ [] := by
  have hd : 0 < depthP B := of_decide_eq_true h
  have hk : okP B.length 0 B = true := by
    cases e : okP B.length 0 B with
    | true => rfl
    | false => rw [depth_bad (j := 0) e] at hd; omega
  refine ⟨fun e => by rw [e] at hd; exact absurd hd (by decide), fun l hl e => ?_⟩
  obtain ⟨j, hj⟩ := List.getElem?_of_mem hl
  have h1 := ok_at B.length B 0 j l hk hj
  rw [e] at h1
  exact absurd h1 (by unfold blockP; rw [runP]; decide)
theorem len_le {B : List (List Opp)} (h : ∀ l ∈ B, l ≠ []) : B.length ≤ opsP B := by
  induction B with
  | nil => exact Nat.zero_le _
  | cons x r ih =>
    have h1 := List.length_pos_iff.2 (h x (List.mem_cons_self ..))
    have h2 := ih fun l hl => h l (List.mem_cons_of_mem _ hl)
    rw [opsP, List.length_cons]; omega

/-! ### rows of instructions -/
theorem flat4_cons (y : Opp × Value) (L : List (Opp × Value)) : flat4 (y :: L) = cell4 y ++ flat4 L := by unfold flat4; rw [List.flatMap_cons]
theorem cell4_len (y : Opp × Value) : (cell4 y).length = 4 := rfl
theorem flat4_set : ∀ (L : List (Opp × Value)) (i q : Nat) (y y' : Opp × Value) (u : Value), L[i]? = some y → q < 4 → cell4 y' = (cell4 y).set q u → (flat4 L).set (i * 4 + q) u = flat4 (L.set i y')
  | [], i, q, y, y', u, hi, _, _ => by cases hi
  | x :: L, 0, q, y, y', u, hi, hq, hc => by
    cases hi
    rw [List.set_cons_zero, flat4_cons, flat4_cons, hc, Nat.zero_mul, Nat.zero_add, List.set_append_left _ _ (by rw [cell4_len]; exact hq)]
  | x :: L, i + 1, q, y, y', u, hi, hq, hc => by
    have hi : L[i]? = some y := by simpa using hi
    rw [List.set_cons_succ, flat4_cons, flat4_cons, ← flat4_set L i q y y' u hi hq hc, List.set_append_right _ _ (by rw [cell4_len]; omega), cell4_len]
    congr 2; omega
theorem flat4_take : ∀ (L : List (Opp × Value)) (i : Nat), i ≤ L.length → (flat4 L).take (i * 4) = flat4 (L.take i)
  | L, 0, _ => by rw [Nat.zero_mul]; rfl
  | [], i + 1, h => by simp at h
  | x :: L, i + 1, h => by
    rw [List.take_succ_cons, flat4_cons, flat4_cons, List.take_append, cell4_len, List.take_of_length_le (by rw [cell4_len]; omega), show (i + 1) * 4 - 4 = i * 4 by omega, flat4_take L i (by simpa using h)]
theorem flat4_drop : ∀ (L : List (Opp × Value)) (i : Nat), i ≤ L.length → (flat4 L).drop (i * 4) = flat4 (L.drop i)
  | L, 0, _ => by rw [Nat.zero_mul]; rfl
  | [], i + 1, h => by simp at h
  | x :: L, i + 1, h => by
    rw [List.drop_succ_cons, flat4_cons, List.drop_append, cell4_len, List.drop_of_length_le (by rw [cell4_len]; omega), show (i + 1) * 4 - 4 = i * 4 by omega, flat4_drop L i (by simpa using h)]; rfl

/-- a row of the call's own, of instructions in reach, each with its numbers; w4: the world ahead of it -/
structure ModIs (h : Nat) (w4 : World) (vM : Value) (L : List (Opp × Value)) (W : World) : Prop where
  small : L.length ≤ 100000
  row : W.ownsRow w4.heap.size 40 4 vM L.length (flat4 L)
  nums : ∀ y ∈ L, W.ownsRow h 3 1 y.2 y.1.l.length (y.1.l.map (Value.int .i64))
  oko : ∀ y ∈ L, Oko y.1
  few : ∀ y ∈ L, y.1.l.length ≤ 2000000
  bel : Below w4.heap.size w4 W
section
variable {h g c i q : Nat} {w4 W V : World} {vM : Value} {L : List (Opp × Value)} {y y' : Opp × Value} {u : Value}
theorem ModIs.on (m : ModIs h w4 vM L W) (hb : Below W.heap.size W V) : ModIs h w4 vM L V :=
  ⟨m.small, own_on m.row hb, fun y hy => own_on (m.nums y hy) hb, m.oko, m.few, m.bel.trans (hb.mono m.bel.size)⟩
/-- one cell of one instruction turned -/
theorem ModIs.put (m : ModIs h w4 (.slice (some ⟨g, 0, none⟩) L.length c) L W) (hi : L[i]? = some y) (hq : q < 4) (hc : cell4 y' = (cell4 y).set q u) (hn : W.ownsRow h 3 1 y'.2 y'.1.l.length (y'.1.l.map (Value.int .i64))) (ho : Oko y'.1) (hf : y'.1.l.length ≤ 2000000) :
    ModIs h w4 (.slice (some ⟨g, 0, none⟩) L.length c) (L.set i y') (W.setCell ⟨g, i * 4 + q, none⟩ u) := by
  obtain ⟨hst, hgr⟩ := m.row.stored (i * 4 + q) u
  have hgl := m.row.lt g rfl
  have keep : ∀ {z : Opp × Value}, W.ownsRow h 3 1 z.2 z.1.l.length (z.1.l.map (Value.int .i64)) → (W.setCell ⟨g, i * 4 + q, none⟩ u).ownsRow h 3 1 z.2 z.1.l.length (z.1.l.map (Value.int .i64)) := fun {z} hz => own_keep hz fun k hk => by
    refine hgr.block k (hz.lt k hk).2 fun e => ?_
    rcases own_type hz m.row (by decide) with h1 | h1
    · rw [h1] at hk; cases hk
    · exact h1 (hk.trans e)
  refine ⟨by rw [List.length_set]; exact m.small, ?_, fun z hz => ?_, fun z hz => ?_, fun z hz => ?_, m.bel.trans ⟨hgr.os, hgr.tape, hgr.output, hgr.size, fun k hk => hgr.block k (Nat.lt_of_lt_of_le hk m.bel.size) (fun e => by have := Option.some.inj e; omega)⟩⟩
  · rw [List.length_set, ← flat4_set L i q y y' u hi hq hc]; exact hst
  · rcases List.mem_or_eq_of_mem_set hz with hz | rfl
    · exact keep (m.nums z hz)
    · exact keep hn
  · rcases List.mem_or_eq_of_mem_set hz with hz | rfl
    · exact m.oko z hz
    · exact ho
  · rcases List.mem_or_eq_of_mem_set hz with hz | rfl
    · exact m.few z hz
    · exact hf
/-- the cells of one instruction -/
theorem ModIs.cells (m : ModIs h w4 (.slice (some ⟨g, 0, none⟩) L.length c) L W) (hi : L[i]? = some y) : W.cell? ⟨g, i * 4, none⟩ = some (.int .i64 y.1.k) ∧ W.cell? ⟨g, i * 4 + 1, none⟩ = some (.int .i64 y.1.n) ∧ W.cell? ⟨g, i * 4 + 2, none⟩ = some (.string (bs y.1.s)) ∧ W.cell? ⟨g, i * 4 + 3, none⟩ = some y.2 := by
  have hil := (List.getElem?_eq_some_iff.1 hi).1
  have h1 : ∀ q, q < 4 → W.cell? ⟨g, i * 4 + q, none⟩ = (cell4 y)[q]? := fun q hq => (m.row.cellAt (i * 4 + q) (by omega)).trans (flat4_at L i y hi q hq)
  exact ⟨h1 0 (by decide), h1 1 (by decide), h1 2 (by decide), h1 3 (by decide)⟩
theorem own_news {w : World} {H e sz n : Nat} {A : Option Addr} {c : Nat} {xs : List Value} (ho : w.ownsRow H e sz (.slice A n c) n xs) : (A = none → n = 0 ∧ c = 0) ∧ ∀ ad, A = some ad → ∀ j u, xs[j]? = some u → w.cell? (ad.add j) = some u := by
  rcases ho.2 with ⟨h1, h2⟩ | ⟨g, cap, cur, h1, _, h3, _, _, _, h7⟩
  · cases h1
    exact ⟨fun _ => ⟨h2, rfl⟩, fun ad h => by cases h⟩
  · cases h1
    refine ⟨(fun h => by cases h), fun ad h j u hu => ?_⟩
    cases h
    rw [Strs.addr_add, Nat.zero_add]
    have hj := (List.getElem?_eq_some_iff.1 hu).1
    rw [ho.1] at hj
    exact (ho.cellAt j hj).trans hu
theorem flat4_one {w : World} {H : Nat} {L : List (Opp × Value)} (h : ∀ y ∈ L, w.ownsRow H 3 1 y.2 y.1.l.length (y.1.l.map (Value.int .i64))) : ∀ u ∈ flat4 L, u.oneCell' = true := by
  intro u hu
  unfold flat4 at hu
  obtain ⟨y, hy, hu⟩ := List.mem_flatMap.1 hu
  have hv : ∃ A n c, y.2 = .slice A n c := by
    rcases own_form (h y hy) with ⟨e, _⟩ | ⟨g, c, e, _⟩
    · exact ⟨_, _, _, e⟩
    · exact ⟨_, _, _, e⟩
  obtain ⟨A, n, c, hv⟩ := hv
  unfold cell4 at hu
  rw [hv] at hu
  simp only [List.mem_cons, List.not_mem_nil, or_false] at hu
  rcases hu with rfl | rfl | rfl | rfl <;> simp [Value.oneCell']
theorem ints_one (l : List Int) : ∀ u ∈ l.map (Value.int .i64), u.oneCell' = true := by
  intro u hu
  obtain ⟨z, _, rfl⟩ := List.mem_map.1 hu
  simp [Value.oneCell']
theorem grown_below {w W : World} (h : w.grownBy W none) : Below w.heap.size w W := ⟨h.os, h.tape, h.output, h.size, fun k hk => h.block k hk (fun e => by cases e)⟩
/-- a copy of a block -/
theorem ModIs.start {v : Value} (hg : w4.grownBy W none) (hown : W.ownsRow w4.heap.size 40 4 v L.length (flat4 L)) (hs : L.length ≤ 100000) (hn : ∀ y ∈ L, w4.ownsRow h 3 1 y.2 y.1.l.length (y.1.l.map (Value.int .i64))) (ho : ∀ y ∈ L, okoB y.1 = true) : ModIs h w4 v L W :=
  ⟨hs, hown, fun y hy => own_on (hn y hy) (grown_below hg), fun y hy => oko_of (ho y hy), fun y hy => by have := of_decide_eq_true (ho y hy); omega, grown_below hg⟩
/-- one instruction more -/
theorem ModIs.more {v' : Value} (m : ModIs h w4 vM L W) (hi : L[i]? = some y) {o : Obj} (hs : L.length + 1 ≤ 100000) (hown : V.ownsRow w4.heap.size 40 4 v' (L.length + 1) (flat4 L ++ cell4 y)) (hg : (W.alloc o).grownBy V vM.ownBlock) : ModIs h w4 v' (L ++ [y]) V := by
  have hy := List.mem_of_getElem? hi
  have hml := m.row.lt
  have keep : ∀ k, k < W.heap.size → vM.ownBlock ≠ some k → V.heap[k]? = W.heap[k]? := fun k hk hne => (hg.block k (by rw [World.size_alloc]; omega) (fun e => hne e.symm)).trans (Lib.alloc_old W o k hk)
  have keepN : ∀ {z : Opp × Value}, W.ownsRow h 3 1 z.2 z.1.l.length (z.1.l.map (Value.int .i64)) → V.ownsRow h 3 1 z.2 z.1.l.length (z.1.l.map (Value.int .i64)) := fun {z} hz => own_keep hz fun k hk => by
    refine keep k (hz.lt k hk).2 fun e => ?_
    rcases own_type hz m.row (by decide) with h1 | h1
    · rw [h1] at hk; cases hk
    · exact h1 (hk.trans e.symm)
  have mem : ∀ z, z ∈ L ++ [y] → z ∈ L := fun z hz => by
    rcases List.mem_append.1 hz with hz | hz
    · exact hz
    · rw [List.mem_singleton.1 hz]; exact hy
  refine ⟨by rw [List.length_append]; exact hs, ?_, fun z hz => keepN (m.nums z (mem z hz)), fun z hz => m.oko z (mem z hz), fun z hz => m.few z (mem z hz), m.bel.trans ⟨hg.os, hg.tape, hg.output, by have := hg.size; rw [World.size_alloc] at this; omega, fun k hk => ?_⟩⟩
  · rw [List.length_append, flat4_app, flat4_cons]
    show V.ownsRow _ _ _ _ _ (flat4 L ++ (cell4 y ++ flat4 []))
    rw [show flat4 [] = [] from rfl, List.append_nil]
    exact hown
  · exact keep k (Nat.lt_of_lt_of_le hk m.bel.size) (fun e => by have := (hml k e).1; omega)
/-- one instruction less -/
theorem ModIs.less {v' : Value} (m : ModIs h w4 (.slice (some ⟨g, 0, none⟩) L.length c) L W) (hi : i < L.length) (hown : V.ownsRow w4.heap.size 40 4 v' (i + (L.length - (i + 1))) (flat4 (L.take i) ++ flat4 (L.drop (i + 1)))) (hg : W.grownBy V (some g)) : ModIs h w4 v' (L.take i ++ L.drop (i + 1)) V := by
  have hgl := m.row.lt g rfl
  have keepN : ∀ {z : Opp × Value}, W.ownsRow h 3 1 z.2 z.1.l.length (z.1.l.map (Value.int .i64)) → V.ownsRow h 3 1 z.2 z.1.l.length (z.1.l.map (Value.int .i64)) := fun {z} hz => own_keep hz fun k hk => by
    refine hg.block k (hz.lt k hk).2 fun e => ?_
    rcases own_type hz m.row (by decide) with h1 | h1
    · rw [h1] at hk; cases hk
    · exact h1 (hk.trans e)
  have mem : ∀ z, z ∈ L.take i ++ L.drop (i + 1) → z ∈ L := fun z hz => by
    rcases List.mem_append.1 hz with hz | hz
    · exact List.mem_of_mem_take hz
    · exact List.mem_of_mem_drop hz
  have hlen : (L.take i ++ L.drop (i + 1)).length = i + (L.length - (i + 1)) := by rw [List.length_append, List.length_take, List.length_drop]; omega
  refine ⟨by rw [hlen]; have := m.small; omega, ?_, fun z hz => keepN (m.nums z (mem z hz)), fun z hz => m.oko z (mem z hz), fun z hz => m.few z (mem z hz), m.bel.trans ⟨hg.os, hg.tape, hg.output, hg.size, fun k hk => hg.block k (Nat.lt_of_lt_of_le hk m.bel.size) (fun e => by have := Option.some.inj e; omega)⟩⟩
  rw [hlen, flat4_app]
  exact hown
/-- the row's beginning, as a row with room -/
theorem ModIs.front (m : ModIs h w4 (.slice (some ⟨g, 0, none⟩) L.length c) L W) (hi : i ≤ L.length) : W.ownsRow w4.heap.size 40 4 (.slice (some ⟨g, 0, none⟩) i c) i (flat4 (L.take i)) := by
  have h0 := m.row
  refine ⟨by rw [flat4_len, List.length_take]; omega, ?_⟩
  rcases h0.2 with ⟨h1, _⟩ | ⟨g', cap, cur, h1, h2, h3, h4, h5, h6, h7⟩
  · cases h1
  · cases h1
    refine .inr ⟨g, c, cur, rfl, h2, h3, by omega, h5, h6, ?_⟩
    rw [← flat4_take L i hi, ← h7, List.take_take]
    congr 1; omega
end

end Go.Proofs.YtpphkaolonjjdaaDoor.Jnu
