/- The document's Compile: what holds behind an instruction that is put; what stays within the nodes. -/
import Derived.StillTailTactics
import Derived.Deep.RegionLaw
import Derived.Test.YtpphkaolonjjdaaDoorCmrJ
import Derived.Test.YtpphkaolonjjdaaDoorCmmJ
import Derived.Test.YtpphkaolonjjdaaDoorFrsJ
namespace Go.Proofs.YtpphkaolonjjdaaDoor.Cmn
open Go Go.RowKit Go.Proofs.YtpphkaolonjjdaaDoor.Spl Go.Proofs.YtpphkaolonjjdaaDoor.Nodm Go.Proofs.YtpphkaolonjjdaaDoor.Nz Go.Proofs.YtpphkaolonjjdaaDoor.Cpl Go.Proofs.YtpphkaolonjjdaaDoor.Cin Go.Proofs.YtpphkaolonjjdaaDoor.Cops Go.Proofs.YtpphkaolonjjdaaDoor.Cmc Go.Proofs.YtpphkaolonjjdaaDoor.Cmm Go.Proofs.YtpphkaolonjjdaaDoor.Cnm Go.Proofs.YtpphkaolonjjdaaDoor.Cpu Go.Proofs.YtpphkaolonjjdaaDoor.Cmr
open Go.Proofs.YtpphkaolonjjdaaDoor.Pure (bs)

theorem cells_3 {W : World} {H : Nat} {x y z : Value} {ty : TypeId} (h : W.heap[H]? = some (.cells #[x, y, z] ty)) : W.cell? ⟨H, 0, none⟩ = some x ∧ W.cell? ⟨H, 1, none⟩ = some y ∧ W.cell? ⟨H, 2, none⟩ = some z :=
  ⟨by rw [Lib.cell_of_heap h]; rfl, by rw [Lib.cell_of_heap h]; rfl, by rw [Lib.cell_of_heap h]; rfl⟩
/-- what holds behind an instruction's append and the store of its row -/
theorem put_fin {h cb i gB q capB p cr : Nat} {Ar : Option Addr} {lr : List (Opp × Value)} {w1 : World} {G : List Rw} {B : List (List Opp)} (hc : CodesR h cb w1 (.slice (some ⟨gB, 0, none⟩) q capB) G) (hB : blk G = B) {Y : Nat → Prop} (hY : Beside Y cb (.slice (some ⟨gB, 0, none⟩) q capB) G w1) (hq : q = G.length) (hi : G[i]? = some (.slice Ar p cr, lr)) (hp : p = lr.length) (hz : h ≤ w1.heap.size) (o : Opp) (nv : Value) (hy : w1.ownsRow h 3 1 nv o.l.length (o.l.map (Value.int .i64))) (ob : Obj) :
    ∀ g cap w5, w5.ownsRow h 40 4 (.slice (some ⟨g, 0, none⟩) (p + 1) cap) (p + 1) (flat4 lr ++ [.int .i64 o.k, .int .i64 o.n, .string (bs o.s), nv]) → (w1.alloc ob).grownBy w5 (Value.slice Ar p cr).ownBlock → ((Value.slice Ar p cr).ownBlock = some g ∨ g = w1.heap.size + 1) →
      (∃ vB G', CodesR h cb (w5.setCell ⟨gB, i, none⟩ (.slice (some ⟨g, 0, none⟩) (p + 1) cap)) vB G' ∧ blk G' = Cpl.put B i o ∧ Beside Y cb vB G' (w5.setCell ⟨gB, i, none⟩ (.slice (some ⟨g, 0, none⟩) (p + 1) cap))) ∧ Kp h XO w1 (w5.setCell ⟨gB, i, none⟩ (.slice (some ⟨g, 0, none⟩) (p + 1) cap)) ∧ Stay Y w1 (w5.setCell ⟨gB, i, none⟩ (.slice (some ⟨g, 0, none⟩) (p + 1) cap)) := by
  subst hp
  subst hq
  intro g cap w5 ho hg hat
  have hb2 : Below w1.heap.size w1 (w1.alloc ob) := (Below.refl _ w1).alloc (Nat.le_refl _) _
  have hsz : (w1.alloc ob).heap.size = w1.heap.size + 1 := World.size_alloc _ _
  obtain ⟨h1, h2⟩ := (hc.on hb2 hz).put (w2 := w5) (i := i) (g := g) (cap := cap) (gB := gB) (capB := capB) (r := (.slice Ar lr.length cr, lr)) (by rw [hsz]; omega) hi (o, nv) ((Kp.of hb2 hz (fun _ _ => False)).own hy fun _ _ h => h) rfl ho hg (hat.imp id fun e => by rw [hsz]; omega)
  have hm := List.mem_of_getElem? hi
  have hst : Stay Y w1 (w5.setCell ⟨gB, i, none⟩ (.slice (some ⟨g, 0, none⟩) (lr.length + 1) cap)) := fun k hk => by
    obtain ⟨h3, h4⟩ := hY k hk
    have h5 : k ≠ gB := fun e => h4 (.inr (.inl (by rw [e]; rfl)))
    have h6 : (Value.slice Ar lr.length cr).ownBlock ≠ some k := fun e => h4 (.inr (.inr ⟨_, hm, e⟩))
    rw [heap_setCell_other w5 ⟨gB, i, none⟩ k _ h5]
    exact (hg.block k (by rw [hsz]; omega) (fun e => h6 e.symm)).trans (hb2.block k h3)
  have hbs : Beside Y cb (.slice (some ⟨gB, 0, none⟩) G.length capB) (G.set i (.slice (some ⟨g, 0, none⟩) (lr.length + 1) cap, lr ++ [(o, nv)])) (w5.setCell ⟨gB, i, none⟩ (.slice (some ⟨g, 0, none⟩) (lr.length + 1) cap)) := fun k hk => by
    obtain ⟨h3, h4⟩ := hY k hk
    refine ⟨Nat.lt_of_lt_of_le h3 (Nat.le_trans hb2.size h2.below.size), fun h5 => h4 ?_⟩
    rcases h5 with h5 | h5 | ⟨x, hx, h5⟩
    · exact .inl h5
    · exact .inr (.inl h5)
    · rcases List.mem_or_eq_of_mem_set hx with hx | rfl
      · exact .inr (.inr ⟨x, hx, h5⟩)
      · have h6 : g = k := by simpa [Value.ownBlock] using h5
        rcases hat with h7 | h7
        · exact .inr (.inr ⟨_, hm, by rw [h7, h6]⟩)
        · omega
  exact ⟨⟨_, _, h1, by rw [← hB]; exact blk_put hi _ _, hbs⟩, (Kp.of hb2 hz _).trans h2, hst⟩
/-- a code under way, its b-th row laid open -/
theorem opened {S : Nat → Prop} {w0 w : World} {h cb b : Nat} {Y : Nat → Prop} {B : List (List Opp)} (hst : StR S w0 h cb Y w B) (hb : b < B.length) (hr : ∀ r ∈ B, r.length ≤ 1000000) :
    ∃ gB q capB p cr Ar lr G, CodesR h cb w (.slice (some ⟨gB, 0, none⟩) q capB) G ∧ blk G = B ∧ Beside Y cb (.slice (some ⟨gB, 0, none⟩) q capB) G w ∧ q = G.length ∧ G[b]? = some (.slice Ar p cr, lr) ∧ p = lr.length ∧ p ≤ 1000000 ∧ b < q ∧ gB < w.heap.size ∧ w.ownsRow h 40 4 (.slice Ar p cr) p (flat4 lr) ∧ w.ownsRow h 38 1 (.slice (some ⟨gB, 0, none⟩) q capB) q (G.map (·.1)) := by
  obtain ⟨hw, vB, G, hc, hB, hY⟩ := hst
  have hGl : G.length = B.length := by rw [← hB, blk_len]
  obtain ⟨gB, capB, rfl, hgB, hgl⟩ := hc.row.form (by omega)
  obtain ⟨⟨vr, lr⟩, hi⟩ : ∃ r, G[b]? = some r := ⟨_, List.getElem?_eq_getElem (by omega)⟩
  have hro : w.ownsRow h 40 4 vr lr.length (flat4 lr) := hc.ops _ (List.mem_of_getElem? hi)
  obtain ⟨Ar, cr, rfl⟩ := own_slice hro
  have hl : lr.length ≤ 1000000 := by
    have := hr (lr.map (·.1)) (by rw [← hB]; exact List.mem_map.2 ⟨_, List.mem_of_getElem? hi, rfl⟩)
    rw [List.length_map] at this
    exact this
  exact ⟨gB, _, capB, _, cr, Ar, lr, G, hc, hB, hY, rfl, hi, rfl, hl, by omega, hgl, hro, hc.row⟩

/-! ### all stays within the nodes -/
mutual
theorem sizC_le : ∀ x : Nz, sizC x ≤ siz x
  | .mk k s l => by
    rw [sizC, siz]
    have := sizsC_le l
    split <;> omega
theorem sizsC_le : ∀ l : List Nz, sizsC l ≤ sizs l
  | [] => Nat.le_refl _
  | n :: r => by
    rw [sizsC, sizs]
    have := sizC_le n
    have := sizsC_le r
    omega
end
mutual
theorem new_le : ∀ x : Nz, newP x + 1 ≤ siz x
  | .mk k s l => by
    rw [newP, siz]
    have := news_le l
    split
    · omega
    · split <;> omega
theorem news_le : ∀ l : List Nz, newsP l + l.length ≤ sizs l
  | [] => Nat.le_refl _
  | n :: r => by
    rw [newsP, sizs, List.length_cons]
    have := new_le n
    have := news_le r
    omega
end
theorem sizs_app : ∀ (l r : List Nz), sizs (l ++ r) = sizs l + sizs r
  | [], r => (Nat.zero_add _).symm
  | n :: l, r => by rw [List.cons_append, sizs, sizs, sizs_app l r]; omega
theorem sizs_take (l : List Nz) {j : Nat} {x : Nz} (h : l[j]? = some x) : sizs (l.take j) + siz x ≤ sizs l := by
  have h1 := sizs_app (l.take (j + 1)) (l.drop (j + 1))
  rw [List.take_append_drop, List.take_add_one, h, sizs_app] at h1
  have h2 : sizs (some x).toList = siz x + 0 := rfl
  omega
theorem nodes_app : ∀ (l r : List Nz) (b : Nat) (B : List (List Opp)), nodesP (l ++ r) b B = nodesP r b (nodesP l b B)
  | [], r, b, B => by rw [List.nil_append, nodesP]
  | n :: l, r, b, B => by rw [List.cons_append, nodesP, nodesP, nodes_app l r]
theorem nodes_take (l : List Nz) (b : Nat) (B : List (List Opp)) {j : Nat} {x : Nz} (h : l[j]? = some x) : nodesP (l.take (j + 1)) b B = nodeP x b (nodesP (l.take j) b B) := by
  rw [List.take_add_one, h, nodes_app]
  show nodesP [x] b _ = _
  rw [nodesP, nodesP]
theorem rows_in (l : List Nz) (b : Nat) (B : List (List Opp)) (hb : b < B.length) (ho : opsP B + sizs l < 400000) : ∀ r ∈ nodesP l b B, r.length ≤ 1000000 := fun r hr => by
  have h1 := row_le hr
  rw [nodes_ops l b B hb] at h1
  have := sizsC_le l
  omega
/-- what compiling one node behind block b's does -/
def KidR (S : Nat → Prop) (w0 : World) (h cb b : Nat) (x : Nz) : Prop := ∀ (Y : Nat → Prop) (B : List (List Opp)) (v : Value) (W : World), opsP B + siz x ≤ 400000 → B.length + siz x ≤ 400001 → b < B.length → NzIn S w0 v x → StR S w0 h cb Y W B →
  Calls Tryd.prog 24 #[.pointer (some ⟨cb, 0, none⟩), .int .i64 (b : Int), v] W fun e W' => e = .returned (.tuple #[]) ∧ StR S w0 h cb Y W' (nodeP x b B) ∧ Kp h (XR cb) W W' ∧ Stay Y W W'
def KidsR (S : Nat → Prop) (w0 : World) (h cb b : Nat) (l : List Nz) : Prop := ∀ x ∈ l, KidR S w0 h cb b x
/-- the j-th of some, behind those ahead of it -/
theorem kid {S : Nat → Prop} {w0 w : World} {h cb b c j : Nat} {l : List Nz} {A : Option Addr} {Y : Nat → Prop} {B : List (List Opp)} {x : Nz} (HI : KidsR S w0 h cb b l) (_hn : NzsIn S w0 A c l) (hx : l[j]? = some x) (hst : StR S w0 h cb Y w (nodesP (l.take j) b B)) (hb : b < B.length) (ho : opsP B + sizs l < 400000) (hB : B.length + sizs l ≤ 400000) (v : Value) (hv : NzIn S w0 v x) :
    Calls Tryd.prog 24 #[.pointer (some ⟨cb, 0, none⟩), .int .i64 (b : Int), v] w fun e W' => e = .returned (.tuple #[]) ∧ StR S w0 h cb Y W' (nodeP x b (nodesP (l.take j) b B)) ∧ Kp h (XR cb) w W' ∧ Stay Y w W' := by
  have h1 := sizs_take l hx
  have h2 := sizsC_le (l.take j)
  have h3 := news_le (l.take j)
  refine HI x (List.mem_of_getElem? hx) Y _ v w ?_ ?_ ?_ hv hst
  · rw [nodes_ops _ _ _ hb]; omega
  · rw [nodes_len]; omega
  · rw [nodes_len]; omega
theorem lazy_get (s : T) : ((Fpl.lookI Fpl.tab s).getD Fpl.zero).lz = lazyB s := by
  unfold lazyB
  cases Fpl.lookI Fpl.tab s <;> rfl

end Go.Proofs.YtpphkaolonjjdaaDoor.Cmn
