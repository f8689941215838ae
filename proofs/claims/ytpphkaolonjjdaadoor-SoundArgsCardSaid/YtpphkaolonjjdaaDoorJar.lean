/- SoundArgs: which codes it makes (no program); a code under way: an instruction's numbers, a block for each (in memory). -/
import Derived.Laws.OwnMore
import Derived.Test.YtpphkaolonjjdaaDoorJcd
import Derived.Test.YtpphkaolonjjdaaDoorDpi
import Derived.Test.YtpphkaolonjjdaaDoorDaw
namespace Go.Proofs.YtpphkaolonjjdaaDoor.Jar
open Go Go.RowKit Go.Proofs.YtpphkaolonjjdaaDoor.Spl Go.Proofs.YtpphkaolonjjdaaDoor.Nodm Go.Proofs.YtpphkaolonjjdaaDoor.Cpl Go.Proofs.YtpphkaolonjjdaaDoor.Cin Go.Proofs.YtpphkaolonjjdaaDoor.Cops Go.Proofs.YtpphkaolonjjdaaDoor.Cmm Go.Proofs.YtpphkaolonjjdaaDoor.Dpl Go.Proofs.YtpphkaolonjjdaaDoor.Dpr Go.Proofs.YtpphkaolonjjdaaDoor.Dpi Go.Proofs.YtpphkaolonjjdaaDoor.Jkd Go.Proofs.YtpphkaolonjjdaaDoor.Jbk Go.Proofs.YtpphkaolonjjdaaDoor.Jdp
open Go.Proofs.YtpphkaolonjjdaaDoor.Pure (bs)

def nameA : Nat → T
  | 0 => [115, 116, 114, 105, 112] | 1 => [115, 117, 98, 115, 116] | 2 => [119, 111, 114, 100] | 3 => [99, 97, 108, 108] | 4 => [105, 102] | 5 => [111, 114] | 6 => [105, 110, 116, 99, 109, 112] | _ => [102, 111, 114, 101, 97, 99, 104]
def lowA : Nat → Nat
  | 0 => 1 | 1 => 3 | 2 => 2 | 3 => 1 | 4 => 2 | 5 => 1 | 6 => 2 | _ => 3
def highA : Nat → Nat
  | 0 => 1 | 1 => 3 | 2 => 2 | 3 => 99 | 4 => 3 | 5 => 99 | 6 => 5 | _ => 3
def lazyO (i k : Nat) : Opp := ⟨6, 0, nameA i, (List.range' 1 k).map Int.ofNat⟩
def doO (i k : Nat) : Opp := ⟨5, (k : Int), nameA i, []⟩
def codeL (i k : Nat) : List (List Opp) := [lazyO i k] :: List.replicate k [pushO]
def codeD (i k : Nat) : List (List Opp) := [List.replicate k pushO ++ [doO i k]]
def smallB (B : List (List Opp)) : Bool := decide (B.length ≤ 1000) && decide (opsP B ≤ 1000) && B.all fun l => l.all okoB
theorem small_ok {B : List (List Opp)} (h : smallB B = true) : Okd B := by
  unfold smallB at h
  rw [Bool.and_eq_true, Bool.and_eq_true, decide_eq_true_eq, decide_eq_true_eq] at h
  exact ⟨by omega, by omega, fun l hl o ho => oko_of (List.all_eq_true.1 (List.all_eq_true.1 h.2 l hl) o ho)⟩
def wantA (i k : Nat) (z : Bool) : Bool := decide (lowA i ≤ k) && (decide (k ≤ highA i) && (z == decide (4 ≤ i)))
theorem all_args : ((List.range 8).all fun i => (List.range 8).all fun k => (checkP (codeL i k) == wantA i k true) && (checkP (codeD i k) == wantA i k false) && smallB (codeL i k) && smallB (codeD i k)) = true := by kernel_rfl
theorem args_at {i k : Nat} (hi : i < 8) (hk : k < 8) : checkP (codeL i k) = wantA i k true ∧ checkP (codeD i k) = wantA i k false ∧ Okd (codeL i k) ∧ Okd (codeD i k) := by
  have h := List.all_eq_true.1 (List.all_eq_true.1 all_args i (List.mem_range.2 hi)) k (List.mem_range.2 hk)
  rw [Bool.and_eq_true, Bool.and_eq_true, Bool.and_eq_true, beq_iff_eq, beq_iff_eq] at h
  exact ⟨h.1.1.1, h.1.1.2, small_ok h.1.2, small_ok h.2⟩

theorem index_name (p : Nat) (hp : p < 8) (W : World) : (Instr.index 44 (.agg #[.string ⟨#[115, 116, 114, 105, 112]⟩, .string ⟨#[115, 117, 98, 115, 116]⟩, .string ⟨#[119, 111, 114, 100]⟩, .string ⟨#[99, 97, 108, 108]⟩, .string ⟨#[105, 102]⟩, .string ⟨#[111, 114]⟩, .string ⟨#[105, 110, 116, 99, 109, 112]⟩, .string ⟨#[102, 111, 114, 101, 97, 99, 104]⟩]) (.int .i64 (p : Int))).run Tryd.prog W = .ok (.string (bs (nameA p))) W := by
  match p, hp with
  | 0, _ => show _ = _; kernel_rfl
  | 1, _ => show _ = _; kernel_rfl
  | 2, _ => show _ = _; kernel_rfl
  | 3, _ => show _ = _; kernel_rfl
  | 4, _ => show _ = _; kernel_rfl
  | 5, _ => show _ = _; kernel_rfl
  | 6, _ => show _ = _; kernel_rfl
  | 7, _ => show _ = _; kernel_rfl
theorem index_low (p : Nat) (hp : p < 8) (W : World) : (Instr.index 45 (.agg #[.int .i64 1, .int .i64 3, .int .i64 2, .int .i64 1, .int .i64 2, .int .i64 1, .int .i64 2, .int .i64 3]) (.int .i64 (p : Int))).run Tryd.prog W = .ok (.int .i64 ((lowA p : Nat) : Int)) W := by
  match p, hp with
  | 0, _ => show _ = _; kernel_rfl
  | 1, _ => show _ = _; kernel_rfl
  | 2, _ => show _ = _; kernel_rfl
  | 3, _ => show _ = _; kernel_rfl
  | 4, _ => show _ = _; kernel_rfl
  | 5, _ => show _ = _; kernel_rfl
  | 6, _ => show _ = _; kernel_rfl
  | 7, _ => show _ = _; kernel_rfl
theorem index_high (p : Nat) (hp : p < 8) (W : World) : (Instr.index 45 (.agg #[.int .i64 1, .int .i64 3, .int .i64 2, .int .i64 99, .int .i64 3, .int .i64 99, .int .i64 5, .int .i64 3]) (.int .i64 (p : Int))).run Tryd.prog W = .ok (.int .i64 ((highA p : Nat) : Int)) W := by
  match p, hp with
  | 0, _ => show _ = _; kernel_rfl
  | 1, _ => show _ = _; kernel_rfl
  | 2, _ => show _ = _; kernel_rfl
  | 3, _ => show _ = _; kernel_rfl
  | 4, _ => show _ = _; kernel_rfl
  | 5, _ => show _ = _; kernel_rfl
  | 6, _ => show _ = _; kernel_rfl
  | 7, _ => show _ = _; kernel_rfl

/-- a code of one block, whose row is the call's own -/
theorem code_one {W : World} {H g : Nat} {v : Value} {l : List Opp} (hk : Knd W) (h1 : W.heap[g]? = some (.cells #[v] 38)) (h2 : W.ownsRow H 40 4 v l.length (flatL l)) (hl : ∀ o ∈ l, o.l = []) : CodeU W (.agg #[.slice (some ⟨g, 0, none⟩) 1 1]) [l] := by
  refine ⟨hk, _, _, rfl, Nat.le_refl _, .inr ⟨g, 0, rfl, (Array.getElem?_eq_some_iff.1 h1).1, ⟨_, _, h1⟩, fun j l' hj => ?_⟩⟩
  have hjl := (List.getElem?_eq_some_iff.1 hj).1
  obtain rfl : j = 0 := by have hjl : j < 1 := hjl; omega
  cases hj
  rcases h2.2 with ⟨h3, h4⟩ | ⟨g', cap, cur, h3, _, h5, h6, _, _, h7⟩
  · refine ⟨none, 0, by omega, .inl (List.eq_nil_of_length_eq_zero h4), ?_⟩
    rw [h4, ← h3]
    exact (Lib.cell_of_heap h1 0).trans rfl
  · refine ⟨_, cap, h6, ops_lit h5 h7 hl ⟨_, _, h5⟩, ?_⟩
    rw [← h3]
    exact (Lib.cell_of_heap h1 0).trans rfl

/-! ### a lazy instruction under way -/
theorem own_keep {w W : World} {H e sz n : Nat} {v : Value} {xs : List Value} (ho : w.ownsRow H e sz v n xs) (hk : ∀ k, v.ownBlock = some k → W.heap[k]? = w.heap[k]?) : W.ownsRow H e sz v n xs :=
  ⟨ho.1, ho.2.imp id fun ⟨g, cap, cur, h2, h3, h4, h5⟩ => ⟨g, cap, cur, h2, h3, (hk g (by rw [h2]; rfl)).trans h4, h5⟩⟩
def onesV (n : Nat) : List Value := ((List.range' 1 n).map Int.ofNat).map (Value.int .i64)
theorem ones_snoc (n : Nat) : onesV n ++ [.int .i64 (1 + (n : Int))] = onesV (n + 1) := by
  unfold onesV
  rw [List.range'_concat, List.map_append, List.map_append]
  simp
theorem ones_len (n : Nat) : (onesV n).length = n := by unfold onesV; simp
/-- j blocks of one Push behind block 0, n numbers -/
structure LA (w : World) (H j n : Nat) (s : ByteArray) (vB vN : Value) (P : List Rw) (W : World) : Prop where
  below : Below H w W
  size : H + 2 ≤ W.heap.size
  box : W.heap[H]? = some (.cells #[vB] 24)
  op : W.heap[H + 1]? = some (.cells #[.int .i64 6, .int .i64 0, .string s, vN] 40)
  row : W.ownsRow (H + 2) 38 1 vB (j + 1) (.slice none 0 0 :: P.map (·.1))
  num : W.ownsRow (H + 2) 3 1 vN n (onesV n)
  len : P.length = j
  ops : ∀ g ∈ P, g.2 = [(pushO, .slice none 0 0)] ∧ W.ownsRow (H + 2) 40 4 g.1 1 (flat4 [(pushO, .slice none 0 0)])
section
variable {w W V : World} {H j n : Nat} {s : ByteArray} {vB vN : Value} {P : List Rw}
theorem LA.start {w2 : World} (hb : Below w.heap.size w w2) (hz : w2.heap.size = w.heap.size + 1) (hx : w2.heap[w.heap.size]? = some (.cells #[.slice none 0 0] 24)) (s : ByteArray) :
    LA w w.heap.size 0 0 s (.slice (some ⟨w.heap.size + 2, 0, none⟩) 1 1) (.slice none 0 0) [] (((w2.alloc (.cells #[.int .i64 6, .int .i64 0, .string s, .slice none 0 0] 40)).alloc (.cells #[.slice none 0 0] 38)).setCell ⟨w.heap.size, 0, none⟩ (.slice (some ⟨w.heap.size + 2, 0, none⟩) 1 1)) := by
  have z1 : (w2.alloc (.cells #[.int .i64 6, .int .i64 0, .string s, .slice none 0 0] 40)).heap.size = w.heap.size + 2 := by rw [World.size_alloc, hz]
  have h0 : ((w2.alloc (.cells #[.int .i64 6, .int .i64 0, .string s, .slice none 0 0] 40)).alloc (.cells #[.slice none 0 0] 38)).heap[w.heap.size]? = some (.cells #[.slice none 0 0] 24) := (Lib.alloc_old _ _ _ (by omega)).trans ((Lib.alloc_old _ _ _ (by omega)).trans hx)
  have h1 : ((w2.alloc (.cells #[.int .i64 6, .int .i64 0, .string s, .slice none 0 0] 40)).alloc (.cells #[.slice none 0 0] 38)).heap[w.heap.size + 1]? = some (.cells #[.int .i64 6, .int .i64 0, .string s, .slice none 0 0] 40) := by
    have := heap_alloc_new w2 (.cells #[.int .i64 6, .int .i64 0, .string s, .slice none 0 0] 40)
    rw [hz] at this
    exact (Lib.alloc_old _ _ _ (by omega)).trans this
  have hl := World.ownsRow_lit (base := w.heap.size + 2) (e := 38) (size := 1) (w2.alloc (.cells #[.int .i64 6, .int .i64 0, .string s, .slice none 0 0] 40)) #[.slice none 0 0] 1 (by omega) (by decide) rfl
  rw [z1] at hl
  refine ⟨(((hb.alloc (by omega) _).alloc (by omega) _).setCell (p := ⟨w.heap.size, 0, none⟩) (Nat.le_refl _) _), by simp; omega, heap_setCell_same _ w.heap.size 0 _ _ _ h0, (heap_setCell_other _ ⟨w.heap.size, 0, none⟩ _ _ (by show w.heap.size + 1 ≠ w.heap.size; omega)).trans h1, ?_, World.ownsRow_nil .., rfl, fun g hg => by cases hg⟩
  refine own_keep hl fun k hk => ?_
  obtain rfl : w.heap.size + 2 = k := Option.some.inj hk
  exact heap_setCell_other _ ⟨w.heap.size, 0, none⟩ _ _ (by show w.heap.size + 2 ≠ w.heap.size; omega)
theorem LA.numbered (h : LA w H j n s vB vN P W) {o : Obj} {v5 : Value} {w5 : World} (hH : H = w.heap.size) (hown : w5.ownsRow (H + 2) 3 1 v5 (n + 1) (onesV n ++ [.int .i64 (1 + (n : Int))])) (hg : (W.alloc o).grownBy w5 vN.ownBlock) :
    LA w H j (n + 1) s vB v5 P (w5.setCell ⟨H + 1, 3, none⟩ v5) ∧ w5.heap[H + 1]? = some (.cells #[.int .i64 6, .int .i64 0, .string s, vN] 40) := by
  have hnl := h.num.lt
  have keep : ∀ k, k < W.heap.size → vN.ownBlock ≠ some k → w5.heap[k]? = W.heap[k]? := fun k hk hne => (hg.block k (by rw [World.size_alloc]; omega) (fun e => hne e.symm)).trans (Lib.alloc_old W o k hk)
  have hne : ∀ k, k < H + 2 → vN.ownBlock ≠ some k := fun k hk e => by have := (hnl k e).1; omega
  have h5 := (keep (H + 1) (by have := h.size; omega) (hne _ (by omega))).trans h.op
  have hz5 : W.heap.size ≤ w5.heap.size := by have := hg.size; rw [World.size_alloc] at this; omega
  have k5 : ∀ k, k ≠ H + 1 → (w5.setCell ⟨H + 1, 3, none⟩ v5).heap[k]? = w5.heap[k]? := fun k hk => heap_setCell_other w5 ⟨H + 1, 3, none⟩ k v5 hk
  have keepT : ∀ {e sz m : Nat} {v : Value} {xs : List Value}, W.ownsRow (H + 2) e sz v m xs → e ≠ 3 → (w5.setCell ⟨H + 1, 3, none⟩ v5).ownsRow (H + 2) e sz v m xs := fun {e sz m v xs} ho he => own_keep ho fun k hk => by
    have hl := ho.lt k hk
    refine (k5 k (by omega)).trans (keep k hl.2 ?_)
    rcases own_type ho h.num he with h1 | h1
    · rw [h1] at hk; cases hk
    · exact fun e => h1 (hk.trans e.symm)
  refine ⟨⟨?_, by simp; have := h.size; omega, ?_, heap_setCell_same w5 (H + 1) 3 _ _ v5 h5, keepT h.row (by decide), ?_, h.len, fun g hgm => ⟨(h.ops g hgm).1, keepT (h.ops g hgm).2 (by decide)⟩⟩, h5⟩
  · refine h.below.trans ⟨hg.os, hg.tape, hg.output, by simp; omega, fun k hk => ?_⟩
    exact (k5 k (by omega)).trans (keep k (by have := h.size; omega) (hne k (by omega)))
  · exact (k5 H (by omega)).trans ((keep H (by have := h.size; omega) (hne H (by omega))).trans h.box)
  · rw [← ones_snoc]
    exact own_keep hown fun k hk => k5 k (by have := hown.lt k hk; omega)
theorem LA.pushed (h : LA w H j n s vB vN P W) {v7 : Value} {w7 : World}
    (hown : w7.ownsRow (H + 2) 38 1 v7 (j + 1 + 1) ((.slice none 0 0 :: P.map (·.1)) ++ [.slice (some ⟨W.heap.size, 0, none⟩) 1 1])) (hg : ((W.alloc (.cells #[.int .i64 1, .int .i64 0, .string ⟨#[]⟩, .slice none 0 0] 40)).alloc (.cells #[.slice (some ⟨W.heap.size, 0, none⟩) 1 1] 38)).grownBy w7 vB.ownBlock) :
    LA w H (j + 1) n s v7 vN (P ++ [(.slice (some ⟨W.heap.size, 0, none⟩) 1 1, [(pushO, .slice none 0 0)])]) (w7.setCell ⟨H, 0, none⟩ v7) ∧ w7.heap[H]? = some (.cells #[vB] 24) := by
  have hbl := h.row.lt
  have keep : ∀ k, k < W.heap.size + 2 → vB.ownBlock ≠ some k → w7.heap[k]? = ((W.alloc (.cells #[.int .i64 1, .int .i64 0, .string ⟨#[]⟩, .slice none 0 0] 40)).alloc (.cells #[.slice (some ⟨W.heap.size, 0, none⟩) 1 1] 38)).heap[k]? := fun k hk hne => hg.block k (by rw [World.size_alloc, World.size_alloc]; omega) (fun e => hne e.symm)
  have old : ∀ k, k < W.heap.size → ((W.alloc (.cells #[.int .i64 1, .int .i64 0, .string ⟨#[]⟩, .slice none 0 0] 40)).alloc (.cells #[.slice (some ⟨W.heap.size, 0, none⟩) 1 1] 38)).heap[k]? = W.heap[k]? := fun k hk => (Lib.alloc_old _ _ k (by rw [World.size_alloc]; omega)).trans (Lib.alloc_old _ _ k hk)
  have hne : ∀ k, k < H + 2 → vB.ownBlock ≠ some k := fun k hk e => by have := (hbl k e).1; omega
  have hs := h.size
  have h7 := ((keep H (by omega) (hne _ (by omega))).trans (old H (by omega))).trans h.box
  have hz7 : W.heap.size + 2 ≤ w7.heap.size := by have := hg.size; rw [World.size_alloc, World.size_alloc] at this; omega
  have k7 : ∀ k, k ≠ H → (w7.setCell ⟨H, 0, none⟩ v7).heap[k]? = w7.heap[k]? := fun k hk => heap_setCell_other w7 ⟨H, 0, none⟩ k v7 hk
  have keepT : ∀ {e sz m : Nat} {v : Value} {xs : List Value}, W.ownsRow (H + 2) e sz v m xs → e ≠ 38 → (w7.setCell ⟨H, 0, none⟩ v7).ownsRow (H + 2) e sz v m xs := fun {e sz m v xs} ho he => own_keep ho fun k hk => by
    have hl := ho.lt k hk
    refine (k7 k (by omega)).trans ((keep k (by omega) ?_).trans (old k hl.2))
    rcases own_type ho h.row he with h1 | h1
    · rw [h1] at hk; cases hk
    · exact fun e => h1 (hk.trans e.symm)
  have hnew : (w7.setCell ⟨H, 0, none⟩ v7).ownsRow (H + 2) 40 4 (.slice (some ⟨W.heap.size, 0, none⟩) 1 1) 1 (flat4 [(pushO, .slice none 0 0)]) := by
    have hl := World.ownsRow_lit (base := H + 2) (e := 40) (size := 4) W #[.int .i64 1, .int .i64 0, .string ⟨#[]⟩, .slice none 0 0] 1 (by omega) (by decide) rfl
    refine own_keep hl fun k hk => ?_
    obtain rfl : W.heap.size = k := Option.some.inj hk
    refine (k7 _ (by omega)).trans ((keep _ (by omega) (fun e => by have := (hbl _ e).2; omega)).trans ?_)
    exact Lib.alloc_old _ _ _ (by rw [World.size_alloc]; omega)
  refine ⟨⟨?_, by simp; omega, heap_setCell_same w7 H 0 _ _ v7 h7, ?_, ?_, keepT h.num (by decide), by rw [List.length_append, h.len]; rfl, fun g hgm => ?_⟩, h7⟩
  · refine h.below.trans ⟨hg.os, hg.tape, hg.output, by simp; omega, fun k hk => ?_⟩
    exact (k7 k (by omega)).trans ((keep k (by omega) (hne k (by omega))).trans (old k (by omega)))
  · exact (k7 (H + 1) (by omega)).trans (((keep (H + 1) (by omega) (hne _ (by omega))).trans (old _ (by omega))).trans h.op)
  · rw [List.map_append, ← List.cons_append]
    exact own_keep hown fun k hk => k7 k (by have := hown.lt k hk; omega)
  · rcases List.mem_append.1 hgm with hm | hm
    · exact ⟨(h.ops g hm).1, keepT (h.ops g hm).2 (by decide)⟩
    · rw [List.mem_singleton] at hm
      subst hm
      exact ⟨rfl, hnew⟩
theorem LA.at_ (h : LA w H j n s vB vN P W) : ∃ g c, vB = .slice (some ⟨g, 0, none⟩) (j + 1) c := by
  rcases h.row.2 with ⟨_, h2⟩ | ⟨g, cap, _, h1, _⟩
  · omega
  · exact ⟨g, cap, h1⟩
/-- the instruction into block 0: a code -/
theorem LA.code {g c : Nat} {t : T} (h : LA w H j j (bs t) (.slice (some ⟨g, 0, none⟩) (j + 1) c) vN P W) (hH : H = w.heap.size) (hk : Knd w) :
    CodeU ((W.alloc (.cells #[.int .i64 6, .int .i64 0, .string (bs t), vN] 40)).setCell ⟨g, 0, none⟩ (.slice (some ⟨W.heap.size, 0, none⟩) 1 1)) (.agg #[.slice (some ⟨g, 0, none⟩) (j + 1) c]) ([⟨6, 0, t, (List.range' 1 j).map Int.ofNat⟩] :: List.replicate j [pushO]) ∧
    Below H w ((W.alloc (.cells #[.int .i64 6, .int .i64 0, .string (bs t), vN] 40)).setCell ⟨g, 0, none⟩ (.slice (some ⟨W.heap.size, 0, none⟩) 1 1)) ∧
    ((W.alloc (.cells #[.int .i64 6, .int .i64 0, .string (bs t), vN] 40)).setCell ⟨g, 0, none⟩ (.slice (some ⟨W.heap.size, 0, none⟩) 1 1)).heap[H]? = some (.cells #[.slice (some ⟨g, 0, none⟩) (j + 1) c] 24) := by
  have hs := h.size
  have hgl := h.row.lt g rfl
  obtain ⟨hst, hgr⟩ := (h.row.alloc (.cells #[.int .i64 6, .int .i64 0, .string (bs t), vN] 40)).stored 0 (.slice (some ⟨W.heap.size, 0, none⟩) 1 1)
  obtain ⟨V, hV⟩ : ∃ V, (W.alloc (.cells #[.int .i64 6, .int .i64 0, .string (bs t), vN] 40)).setCell ⟨g, 0, none⟩ (.slice (some ⟨W.heap.size, 0, none⟩) 1 1) = V := ⟨_, rfl⟩
  rw [hV] at hst hgr ⊢
  have kV : ∀ k, k < W.heap.size → k ≠ g → V.heap[k]? = W.heap[k]? := fun k hk hne => (hgr.block k (by rw [World.size_alloc]; omega) (fun e => hne (Option.some.inj e))).trans (Lib.alloc_old W _ k hk)
  have hb : Below H w V := h.below.trans ⟨hgr.os, hgr.tape, hgr.output, by have := hgr.size; rw [World.size_alloc] at this; omega, fun k hk => kV k (by omega) (by omega)⟩
  have keepT : ∀ {e sz m : Nat} {v : Value} {xs : List Value}, W.ownsRow (H + 2) e sz v m xs → e ≠ 38 → V.ownsRow (H + 2) e sz v m xs := fun {e sz m v xs} ho he => own_keep ho fun k hk => by
    have hl := ho.lt k hk
    refine kV k hl.2 ?_
    rcases own_type ho h.row he with h1 | h1
    · rw [h1] at hk; cases hk
    · intro e1
      subst e1
      exact h1 hk
  have hnew : V.ownsRow (H + 2) 40 4 (.slice (some ⟨W.heap.size, 0, none⟩) 1 1) 1 (flat4 [(⟨6, 0, t, (List.range' 1 j).map Int.ofNat⟩, vN)]) := by
    have hl := World.ownsRow_lit (base := H + 2) (e := 40) (size := 4) W #[.int .i64 6, .int .i64 0, .string (bs t), vN] 1 (by omega) (by decide) rfl
    refine own_keep hl fun k hk => ?_
    obtain rfl : W.heap.size = k := Option.some.inj hk
    exact hgr.block _ (by rw [World.size_alloc]; omega) (fun e => by have := Option.some.inj e; omega)
  have hG : blk ((.slice (some ⟨W.heap.size, 0, none⟩) 1 1, [(⟨6, 0, t, (List.range' 1 j).map Int.ofNat⟩, vN)]) :: P) = [⟨6, 0, t, (List.range' 1 j).map Int.ofNat⟩] :: List.replicate j [pushO] := by
    unfold blk
    rw [List.map_cons]
    refine congrArg (List.cons _) (List.eq_replicate_iff.2 ⟨by rw [List.length_map, h.len], fun b hb => ?_⟩)
    obtain ⟨g', hg', rfl⟩ := List.mem_map.1 hb
    rw [(h.ops g' hg').1]; rfl
  obtain ⟨A, cap, hv, hc⟩ := Jcd.rows_code (w := V) (h := H + 2) (vB := .slice (some ⟨g, 0, none⟩) (j + 1) c) (G := (.slice (some ⟨W.heap.size, 0, none⟩) 1 1, [(⟨6, 0, t, (List.range' 1 j).map Int.ofNat⟩, vN)]) :: P)
    (by rw [List.length_cons, h.len, List.map_cons]; exact hst)
    (fun g' hg' => by
      rcases List.mem_cons.1 hg' with e | hg'
      · rw [e]; exact hnew
      · rw [(h.ops g' hg').1]; exact keepT (h.ops g' hg').2 (by decide))
    (fun g' hg' y hy => by
      rcases List.mem_cons.1 hg' with e | hg'
      · rw [e, List.mem_singleton] at hy
        rw [hy]
        have := keepT h.num (by decide)
        unfold onesV at this
        simpa using this
      · rw [(h.ops g' hg').1, List.mem_singleton] at hy
        rw [hy]
        exact World.ownsRow_nil ..)
  rw [hG] at hv hc
  have hl : ([⟨6, 0, t, (List.range' 1 j).map Int.ofNat⟩] :: List.replicate j [pushO] : List (List Opp)).length = j + 1 := by rw [List.length_cons, List.length_replicate]
  rw [hl] at hv hc
  cases hv
  exact ⟨⟨hk.on (by rw [← hH]; exact hb), hc⟩, hb, (kV H (by omega) (by omega)).trans h.box⟩
end

end Go.Proofs.YtpphkaolonjjdaaDoor.Jar
