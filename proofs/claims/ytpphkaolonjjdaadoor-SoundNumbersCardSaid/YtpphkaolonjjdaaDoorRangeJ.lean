/- A range over a function whose iterator has cells of its own: a law; no program is named here. -/
import Derived.RangeFuncBox
import Derived.RangeFuncLeaves
import Derived.RangeFuncNested
import Derived.RangeFuncBound
import Derived.RangeFuncCalls
import Derived.Shelf.Abstract
import Derived.OwnWalkIn
import Derived.Deep.AppendLies
import Derived.TacticsInMore
import Derived.ProofKit
import Derived.OpenShut
import Derived.SliceStrings
import Derived.Below
import Derived.Test.YtpphkaolonjjdaaDoorProg
import Derived.WalkKit
import Derived.WalkSpells
import Derived.IntWalk
import Derived.Lib.Hide
import Derived.Test.YtpphkaolonjjdaaDoorStrsJ
import Derived.Deep.RegionHeld3
import Derived.Deep.DeepCutAuto
import Derived.Deep.QuietTactic
import Derived.BigQuiet
import Derived.Lib.Builder
import Derived.Lib.SmallJoins
import Derived.Deep.RegionWith
namespace Go.Proofs.YtpphkaolonjjdaaDoor.Range
open Go Go.RowKit

/-- of what lay there only blocks of X may have changed -/
structure Out (X : List Nat) (w w' : World) : Prop where
  os : w'.os = w.os
  tape : w'.tape = w.tape
  output : w'.output = w.output
  size : w.heap.size ≤ w'.heap.size
  block : ∀ k, k < w.heap.size → k ∉ X → w'.heap[k]? = w.heap[k]?
theorem Out.of_below {X : List Nat} {w w' : World} (h : Below w.heap.size w w') : Out X w w' := ⟨h.os, h.tape, h.output, h.size, fun k hk _ => h.block k hk⟩
theorem Out.setCell {X : List Nat} (w : World) {p : Addr} (h : p.block ∈ X) (v : Value) : Out X w (w.setCell p v) :=
  ⟨rfl, rfl, rfl, by simp [World.setCell], fun k _ hk => Below.heap_setCell _ _ _ _ (fun e => hk (by rw [e]; exact h))⟩
theorem Out.trans {X : List Nat} {a b c : World} (h : Out X a b) (k : Out X b c) : Out X a c :=
  ⟨k.os.trans h.os, k.tape.trans h.tape, k.output.trans h.output, Nat.le_trans h.size k.size, fun i hi hn => (k.block i (Nat.lt_of_lt_of_le hi h.size) hn).trans (h.block i hi hn)⟩

/-- the iterator's contract: its own blocks are X; what lies elsewhere it leaves as it is -/
def SeqOwn {α : Type} (F : Fence) (n : Nat) (P : Program) (g : Nat) (lb : Array Value) (encs : α → Array Value) (Kp : World → World → Prop) (S : List α → Prop) (N : Nat) (w : World) : Prop :=
  ∀ (l : Nat) (J : List α → List Nat → World → Prop) (W : World), Below w.heap.size w W →
    (∀ s X A B, J s X A → Out X A B → J s X B) → (∀ s X A o, J s X A → J s (A.heap.size :: X) (A.alloc o)) →
    (∀ pre X x W1, J pre X W1 → pre.length < N → YieldAt F (n - 1) P l (encs x) W1 fun e W' => e = .returned (.bool true) ∧ J (pre ++ [x]) X W' ∧ Kp W1 W' ∧ ∀ k ∈ X, W'.heap[k]? = W1.heap[k]?) →
    J [] [] W →
    CallsIn F n P g (#[.func (.yield l) #[] #[]] ++ lb) W fun e W' => (∃ v, e = .returned v) ∧ ∃ xs X, S xs ∧ J xs X W'

/-- how a round's body ends -/
def bodyOwn {α : Type} (B : Nat) (Kp : World → World → Prop) (I : List α → List Nat → World → Prop) (xs : List α) (X : List Nat) (W : World) : Exit → Act → World → Prop
  | .normal, _, W' => KeepsFrom B W W' ∧ Kp W W' ∧ (∀ k ∈ X, W'.heap[k]? = W.heap[k]?) ∧ I xs X W'
  | _, _, _ => False

variable {F : Fence} {n : Nat} {P : Program} {w : World}

/-- the loop, its body never left early -/
theorem range_own {α : Type} {g : Operand} {ps : Array Tmp} {assign body : Code} {Q : Exit → Act → World → Prop} {a : Act}
    (hro : F.round = none) (h1 : 1 ≤ n) {gf : Nat} {lb : Array Value} (hg : a.eval g = .func (.func gf) #[] lb) (hFg : F.fn gf) (eg : ∀ args w, (callFunc gf args).run P w = .ok (.enter gf args) w)
    {encs : α → Array Value} {Kp : World → World → Prop} {S : List α → Prop} {N : Nat} {w0 : World} (hseq : SeqOwn F (n - 1) P gf lb encs Kp S N w0)
    (hKt : ∀ {A B C : World}, Kp A B → Kp B C → Kp A C) (hKb : ∀ (A : World) (l : Nat) (o o' : Obj), w.heap.size ≤ l → A.heap[l]? = some o → o.isCells = false → Kp A (A.putObj l o')) (hb0 : Below w0.heap.size w0 w) (hps : ∀ x, (encs x).size = ps.size)
    (I : List α → List Nat → World → Prop) (hI : ∀ s X A B, I s X A → Out X A B → I s X B) (hN : ∀ s X A o, I s X A → I s (A.heap.size :: X) (A.alloc o))
    (hP : ∀ s X A l o o', I s X A → w.heap.size ≤ l → l < w.heap.size + 2 → A.heap[l]? = some o → o.isCells = false → I s X (A.putObj l o')) (h0 : I [] [] w)
    (Ax : α → Act → World → Prop) (hAP : ∀ x a' A l o o', Ax x a' A → w.heap.size ≤ l → l < w.heap.size + 2 → A.heap[l]? = some o → o.isCells = false → Ax x a' (A.putObj l o'))
    (hassign : ∀ (l : Nat) (pre : List α) (X : List Nat) (x : α) (W : World) (K : Act → World → Prop), w.heap.size + 2 ≤ W.heap.size → (∀ k ∈ X, w.heap.size + 2 ≤ k ∧ k < W.heap.size) → I pre X W →
      (∀ a' W', KeepsFrom w.heap.size W W' → Kp W W' → (∀ k ∈ X, W'.heap[k]? = W.heap[k]?) → I pre X W' → Ax x a' W' → K a' W') →
      assign.wpIn (F.inRound l) (n - 1 - 1) P (Exit.then K (fun _ _ _ => False)) { tmps := (ps.zip (encs x)).foldl (fun t (p, v) => t.setIfInBounds p v) a.tmps, defers := [] } W)
    (hbody : ∀ (l : Nat) (pre : List α) (X : List Nat) (x : α) (a' : Act) (W : World), w.heap.size + 2 ≤ W.heap.size → (∀ k ∈ X, w.heap.size + 2 ≤ k ∧ k < W.heap.size) → I pre X W → Ax x a' W → pre.length < N → body.wpIn (F.inRound l) (n - 1 - 1) P (bodyOwn w.heap.size Kp I (pre ++ [x]) X W) a' W)
    (hdone : ∀ (D : Nat) (xs : List α) (X : List Nat) (W : World), w.heap.size ≤ D → S xs → I xs X W → W.heap[D]? = some (.deferred (some [])) → Q .normal { a with defers := { target := .collected D, args := #[] } :: a.defers } W) :
    (Code.rangeFunc g ps assign body).wpIn F n P Q a w := by
  refine wpIn_rangeFunc ?_
  intro fn hfn
  rw [hro]
  obtain ⟨mk, hmk⟩ : ∃ mk : LoopState → Option Code → Loop, mk = fun st pe => { state := st, pending := pe, fn, tmps := a.tmps, params := ps, assign, body, defers := w.heap.size } := ⟨_, rfl⟩
  obtain ⟨W1, hW1⟩ : ∃ W1, (w.alloc (.deferred (some []))).alloc (.loop (mk .ready none)) = W1 := ⟨_, rfl⟩
  have hs1 : W1.heap.size = w.heap.size + 2 := by rw [← hW1]; simp
  have r1 : W1.heap[w.heap.size + 1]? = some (.loop (mk .ready none)) := by
    rw [← hW1]; have := World.alloc_heap_new (w.alloc (.deferred (some []))) (.loop (mk .ready none)); rwa [World.size_alloc] at this
  have d1 : W1.heap[w.heap.size]? = some (.deferred (some [])) := by
    rw [← hW1]; exact (Below.heap_alloc _ _ _ (by simp)).trans (World.alloc_heap_new w _)
  have i1 : I [] [] W1 := hI _ _ _ _ h0 (Out.of_below (by rw [← hW1]; exact ((Below.refl _ w).alloc (Nat.le_refl _) _).alloc (by simp) _))
  have b1 : Below w0.heap.size w0 W1 := by
    rw [← hW1]; exact hb0.trans ((((Below.refl _ w).alloc (Nat.le_refl _) _).alloc (by simp) _).mono hb0.size)
  refine ⟨w.heap.size + 1, [{ target := .collected w.heap.size, args := #[] }], W1, { target := .fn (.func gf) lb, args := #[.func (.yield (w.heap.size + 1)) #[] #[]] }, W1, gf,
    #[.func (.yield (w.heap.size + 1)) #[] #[]] ++ lb, W1, ?_, ?_, ?_, ?_, fun _ => h1, ?_⟩
  · rw [← hW1, hmk]; exact run_enterLoop_outer _ _ _ _ _
  · simp only [resolve, hg]; simp [go_sem]
  · intro f' hf'; simp [Target.leads] at hf'; subst hf'; exact hFg
  · simp [invoke, go_sem, eg]
  · refine (hseq (w.heap.size + 1)
      (fun pre X W => (I pre X W ∧ W.heap[w.heap.size + 1]? = some (.loop (mk .ready none)) ∧ W.heap[w.heap.size]? = some (.deferred (some []))) ∧ ∀ k ∈ X, w.heap.size + 2 ≤ k ∧ k < W.heap.size)
      W1 b1 ?_ ?_ ?_ ⟨⟨i1, r1, d1⟩, fun k hk => absurd hk (by simp)⟩).mono ?_
    · rintro s X A B ⟨⟨hi, hr, hd⟩, hx⟩ ho
      refine ⟨⟨hI _ _ _ _ hi ho, (ho.block _ (Array.getElem?_eq_some_iff.1 hr).1 (fun e => ?_)).trans hr, (ho.block _ (Array.getElem?_eq_some_iff.1 hd).1 (fun e => ?_)).trans hd⟩, fun k hk => ⟨(hx k hk).1, Nat.lt_of_lt_of_le (hx k hk).2 ho.size⟩⟩
      · have := (hx _ e).1; omega
      · have := (hx _ e).1; omega
    · rintro s X A o ⟨⟨hi, hr, hd⟩, hx⟩
      have l1 := (Array.getElem?_eq_some_iff.1 hr).1
      refine ⟨⟨hN _ _ _ _ hi, (Below.heap_alloc _ _ _ l1).trans hr, (Below.heap_alloc _ _ _ (by omega)).trans hd⟩, fun k hk => ?_⟩
      rw [World.size_alloc]
      rcases List.mem_cons.1 hk with rfl | hk
      · exact ⟨by omega, by omega⟩
      · have := hx k hk; exact ⟨this.1, by omega⟩
    · rintro pre X x W ⟨⟨hi, hl, hk⟩, hx⟩ hlen
      have hlt : w.heap.size + 1 < W.heap.size := (Array.getElem?_eq_some_iff.1 hl).1
      have hy := run_yield (P := P) (args := encs x) hl (by rw [hmk]; exact hps x)
      rw [hmk] at hy
      refine ⟨fn, _, assign, body, hy, roundIn_of_wpIn hfn (hassign _ pre X x W _ (by omega) hx hi ?_)⟩
      clear hy
      intro a' Wa hka hba hxa hia hax
      have hla := hka.same _ _ (by omega) hl rfl
      have hda := hka.same _ _ (Nat.le_refl _) hk rfl
      have hlta : w.heap.size + 1 < Wa.heap.size := (Array.getElem?_eq_some_iff.1 hla).1
      refine ⟨_, run_beginRound hla (by rw [hmk]), ?_⟩
      have hl2 : (Wa.putObj (w.heap.size + 1) (.loop { mk .ready none with state := .busy })).heap[w.heap.size + 1]? = some (.loop { mk .ready none with state := .busy }) := World.putObj_heap_same hlta
      have hk2 : (Wa.putObj (w.heap.size + 1) (.loop { mk .ready none with state := .busy })).heap[w.heap.size]? = some (.deferred (some [])) := (World.putObj_heap_other (by omega)).trans hda
      have hsz : (Wa.putObj (w.heap.size + 1) (.loop { mk .ready none with state := .busy })).heap.size = Wa.heap.size := by simp [World.putObj]
      have hsa := hka.size
      refine wpIn_mono (hbody _ pre X x a' _ (by rw [hsz]; omega) (fun k hk => by rw [hsz]; have := hx k hk; exact ⟨this.1, by omega⟩) (hP _ _ _ _ _ _ hia (by omega) (by omega) hla rfl) (hAP _ _ _ _ _ _ hax (by omega) (by omega) hla rfl) hlen) ?_
      rintro e a3 W3 hp
      cases e with
      | normal =>
        obtain ⟨hk3, hb3, hx3, hi3⟩ := hp
        have hl3 := hk3.same _ _ (by omega) hl2 rfl
        have hd3 := hk3.same _ _ (Nat.le_refl _) hk2 rfl
        have hr := run_endRound (P := P) none hl3
        have hlt3 := (Array.getElem?_eq_some_iff.1 hl3).1
        rw [hmk] at hr hl3
        refine ⟨_, _, hr, rfl, ⟨⟨hP _ _ _ _ _ _ hi3 (by omega) (by omega) hl3 rfl, ?_, (World.putObj_heap_other (by omega)).trans hd3⟩, fun k hk => ?_⟩, ?_, fun k hk => ?_⟩
        · rw [hmk]; exact World.putObj_heap_same hlt3
        · have := (hx k hk)
          have h4 := hk3.size
          rw [hsz] at h4
          exact ⟨this.1, by simp [World.putObj]; omega⟩
        · exact hKt (hKt (hKt hba (hKb _ _ _ _ (by omega) hla rfl)) hb3) (hKb _ _ _ _ (by omega) hl3 rfl)
        · have := (hx k hk).1
          rw [World.putObj_heap_other (by omega), hx3 k hk, World.putObj_heap_other (by omega), hxa k hk]
      | ret => exact hp.elim
      | exit id => exact hp.elim
      | goto t => exact hp.elim
      | panic ch => exact hp.elim
      | outgrown => exact hp.elim
    · rintro e W2 ⟨⟨v, rfl⟩, xs, X, hS, ⟨hi, hl, hk⟩, hx⟩
      exact ⟨none, _, by have := run_endLoop (P := P) hl (by rw [hmk]; simp); rw [hmk] at this; exact this, hdone _ xs X _ (Nat.le_refl _) hS (hP _ _ _ _ _ _ hi (by omega) (by omega) hl rfl) ((World.putObj_heap_other (by omega)).trans hk)⟩

/-- an append in a round, and where the new row lies -/
theorem round_append {ops : Array Oper} {rest : List Oper} {o : Oper} {a : Act} {Q : Exit → Act → World → Prop} (hg : o.guard = none) (s x : Operand) (t : TypeId)
    (hop : o.op = .call { callee := .builtin .append, args := #[s, x], argTypes := #[t, t] }) (base : Nat) (e : TypeId) (i : TypeInfo) (z : Value) (size bytes : Nat) (h1 : P.underlying t = some (.slice e)) (h2 : P.info? e = some i) (h3 : i.zero = some z)
    (h4 : i.size = size) (h5 : i.bytes = bytes) (h6 : z.cells.size = size) (h7 : 0 < size) (v : Value) (k : Nat) (xs : List Value) (hs : a.eval s = v) (hown : w.ownsRow base e size v k xs) (ad : Addr) (m c : Nat) (news : List Value)
    (hx : a.eval x = .slice (some ad) m c) (hl : news.length = m * size) (hc : ∀ j u, news[j]? = some u → w.cell? (ad.add j) = some u) (h8 : ∀ u ∈ news, u.oneCell' = true) (hm : 0 < m) (b1 : k + m ≤ maxLen) (b2 : (k + m) * bytes ≤ 140737488355328)
    (b3 : base ≤ w.heap.size) (H : Nat) (hH : w.heap.size = H)
    (hK : ∀ g cap w', w'.ownsRow base e size (.slice (some ⟨g, 0, none⟩) (k + m) cap) (k + m) (xs ++ news) → w.grownBy w' v.ownBlock → (v.ownBlock = some g ∨ g = H) → g < w'.heap.size → wpListIn F n P ops Q rest (a.put o.dst (.slice (some ⟨g, 0, none⟩) (k + m) cap)) w') :
    wpListIn F n P ops Q (o :: rest) a w := by
  refine wpListIn_plain hg fun K hK' => ?_
  obtain ⟨g, cap, w', hrun, r1, r2, r3, r4⟩ := run_append_lies (P := P) w t o.type base e i z size bytes h1 h2 h3 h4 h5 h6 h7 v k xs hown ad m c news hl hc h8 hm b1 b2 b3 H hH
  unfold Oper.wpIn
  refine ⟨by simp [Oper.about, hop, resolve, Target.leads, Sem.run_pure], ?_⟩
  rw [Oper.semAt_plain F _ _ (by rw [hop]; intro c' hc'; cases hc')]
  simp [execOp, hop, resolve, invoke, builtin, hs, hx, hrun, Result.andThen]
  exact hK' _ _ (hK g cap w' r1 r2 r3 r4)

theorem own_out {X : List Nat} {A B : World} {base : Nat} {e : TypeId} {size : Nat} {v : Value} {k : Nat} {xs : List Value} (h : A.ownsRow base e size v k xs) (ho : Out X A B) (hX : ∀ g, v.ownBlock = some g → g ∉ X) : B.ownsRow base e size v k xs := by
  rcases h.2 with h0 | ⟨g, cap, cur, rfl, hb, hg, r⟩
  · exact ⟨h.1, .inl h0⟩
  · exact ⟨h.1, .inr ⟨g, cap, cur, rfl, hb, (ho.block g (Array.getElem?_eq_some_iff.1 hg).1 (hX g rfl)).trans hg, r⟩⟩

end Go.Proofs.YtpphkaolonjjdaaDoor.Range

/- How a list of numbers comes in: what is read of it lies in memory as said. -/
namespace Go.Proofs.YtpphkaolonjjdaaDoor.Nums
open Go.ChangeShapes Go.WideShapes Go.ChangeAt Go.RowKit

set_option maxRecDepth 100000 in
theorem laidOut : laidOutB Tryd.prog = true := by kernel_rfl
set_option maxRecDepth 100000 in
theorem cellsInt : Tryd.prog.cellsOf 3 = 1 := by kernel_rfl

/-- a slice of the numbers zs -/
def IntIs (w : World) (A : Option Addr) (n c : Nat) (zs : List Int) : Prop :=
  zs.length = n ∧ n ≤ c ∧ (∀ z ∈ zs, (Lit.int .i64 z).wf = true) ∧ (zs = [] ∨ ∃ b o, A = some ⟨b, o, none⟩ ∧ b < w.heap.size ∧ ∀ j z, zs[j]? = some z → w.cell? ⟨b, o + j, none⟩ = some (.int .i64 z))
theorem IntIs.at_ {w : World} {A : Option Addr} {n c k : Nat} {zs : List Int} (h : IntIs w A n c zs) (hk : k < n) :
    ∃ b o z, A = some ⟨b, o, none⟩ ∧ (Lit.int .i64 z).wf = true ∧ ∀ W, Below w.heap.size w W → W.cell? ⟨b, o + k, none⟩ = some (.int .i64 z) := by
  have hl : k < zs.length := by have := h.1; omega
  rcases h.2.2.2 with h0 | ⟨b, o, rfl, hb, hc⟩
  · rw [h0] at hl; exact absurd hl (Nat.not_lt_zero _)
  · exact ⟨b, o, zs[k], rfl, h.2.2.1 _ (List.getElem_mem hl), fun W hW => (hW.cell (p := ⟨b, o + k, none⟩) hb).trans (hc k _ (List.getElem?_eq_getElem hl))⟩

section
variable {H : Type} {enc : TypeId × Value → H} {W : World}

set_option maxRecDepth 100000 in
theorem open_nums {r : Reach} {base : Nat} {v : Value} {d : DataW H} {p : List MemPlace} (hval : Value.okWide Tryd.prog W r base 28 v) (h : DataW.Trod enc Tryd.prog W 0 (fun _ => true) true 28 v d p) (hlt : ∀ x ∈ p, x.block < W.heap.size) :
    ∃ A n c zs, v = .slice A n c ∧ IntIs W A n c zs ∧ n ≤ maxLen := by
  obtain ⟨a0, len, cap, rfl⟩ := okWide_slice Tryd.underlying28 hval
  obtain ⟨fuel, hf⟩ := h
  rcases open_ints Tryd.underlying28 Tryd.underlying3 cellsInt hf with ⟨hcs, hx⟩ | ⟨a, len', cap', zs, hcs, _, hl, hm, hz, hx, hcell, hws⟩
  · simp [Value.cells] at hcs
    obtain ⟨rfl, rfl, rfl⟩ := hcs
    exact ⟨none, 0, 0, [], rfl, ⟨rfl, Nat.le_refl _, fun z hz => absurd hz List.not_mem_nil, .inl rfl⟩, by unfold maxLen; omega⟩
  · simp [Value.cells] at hcs
    obtain ⟨rfl, rfl, rfl⟩ := hcs
    simp only [Prod.mk.injEq] at hx
    obtain ⟨rfl, rfl⟩ := hx
    simp only [if_true] at hz
    refine ⟨some a, len, cap, zs.take len, rfl, ⟨by rw [List.length_take]; omega, hl, fun z hz => hws z (List.mem_of_mem_take hz), ?_⟩, Nat.le_trans hl hm⟩
    by_cases hl0 : len = 0
    · exact .inl (by rw [hl0, List.take_zero])
    · obtain ⟨b, off, spot⟩ := a
      have hspot : spot = none := by simpa [Addr.add] using World.cell?_spot (hcell 0 (by omega))
      subst hspot
      have hbW : b < W.heap.size := hlt (.cell b off) (MemPlace.mem_row.2 ⟨0, by omega, by simp⟩)
      refine .inr ⟨b, off, rfl, hbW, fun j x hj => ?_⟩
      have hjl := (List.getElem?_eq_some_iff.1 hj).1
      rw [List.length_take] at hjl
      rw [List.getElem?_take, if_pos (by omega)] at hj
      rw [← add_plain, hcell j (by omega), List.getD_eq_getElem?_getD, hj]
      rfl
end

end Go.Proofs.YtpphkaolonjjdaaDoor.Nums

/- What the laws' own helpers answer: a number's place among n. -/
namespace Go.Proofs.YtpphkaolonjjdaaDoor.Place
open Go.RowKit

/-- any number as one from 0 to n - 1 -/
def place (v : Int) (n : Nat) : Nat := (v % (n : Int)).toNat
theorem place_lt (v : Int) (n : Nat) (h : 0 < n) : place v n < n := by
  have h1 := Int.emod_nonneg v (b := (n : Int)) (by omega)
  have h2 := Int.emod_lt_of_pos v (b := (n : Int)) (by omega)
  unfold place; omega
theorem place_cast (v : Int) (n : Nat) (h : 0 < n) : ((place v n : Nat) : Int) = v % (n : Int) := by
  have h1 := Int.emod_nonneg v (b := (n : Int)) (by omega)
  unfold place; omega
theorem ret_int {k : IntKind} {a b : Int} (h : a = b) : Ending.returned (.int k a) = .returned (.int k b) := by rw [h]

theorem tmod_two (v n : Int) (hn : 0 < n) : v.tmod n = v % n ∨ v.tmod n = v % n - n := by
  rw [Int.tmod_eq_emod]
  split
  · left; omega
  · right; omega
theorem neg_way (v : Int) (n : Nat) (hn : 0 < n) (hn2 : n ≤ 1000000) (h : v.tmod (n : Int) < 0) : wrap64 (v.tmod (n : Int) + (n : Int)) = ((place v n : Nat) : Int) := by
  have h1 := Int.emod_nonneg v (b := (n : Int)) (by omega)
  have h2 := Int.emod_lt_of_pos v (b := (n : Int)) (by omega)
  have h3 := place_cast v n hn
  rcases tmod_two v (n : Int) (by omega) with e | e
  · omega
  · rw [h3, e, IntWalk.wrap64_in] <;> omega
theorem pos_way (v : Int) (n : Nat) (hn : 0 < n) (h : 0 ≤ v.tmod (n : Int)) : v.tmod (n : Int) = ((place v n : Nat) : Int) := by
  have h2 := Int.emod_lt_of_pos v (b := (n : Int)) (by omega)
  have h3 := place_cast v n hn
  rcases tmod_two v (n : Int) (by omega) with e | e <;> omega

set_option maxHeartbeats 400000 in
/-- a number's place -/
theorem place_is (v : Int) (n : Nat) (w : World) (hn : 0 < n) (hn2 : n ≤ 1000000) (hv : (Lit.int .i64 v).wf = true) :
    Calls Tryd.prog 17 #[.int .i64 v, .int .i64 (n : Int)] w fun e w' => e = .returned (.int .i64 ((place v n : Nat) : Int)) ∧ w = w' := by
  have hvb : -9223372036854775808 ≤ v ∧ v ≤ 9223372036854775807 := by
    simpa [Lit.wf, IntKind.min, IntKind.max, IntKind.signed, IntKind.bits] using hv
  have hn0 : ((n : Int) == 0) = false := by simp; omega
  have HP := Lib.hid (place_cast v n hn)
  obtain ⟨hv1, hv2⟩ := hvb
  by_cases h0 : 0 ≤ v
  · have h1 := Int.emod_nonneg v (b := (n : Int)) (by omega)
    have h2 : ¬ v % (n : Int) < 0 := by omega
    go_enter Tryd.func17, Tryd.ntmps17
    go_wp2
    go_ret
    exact ⟨ret_int HP.out.symm, rfl⟩
  · by_cases h2 : v.tmod (n : Int) < 0
    · have HQ := Lib.hid (neg_way v n hn hn2 h2)
      go_enter Tryd.func17, Tryd.ntmps17
      go_wp2
      go_ret
      exact ⟨ret_int HQ.out, rfl⟩
    · have HQ := Lib.hid (pos_way v n hn (by omega))
      go_enter Tryd.func17, Tryd.ntmps17
      go_wp2
      go_ret
      exact ⟨ret_int HQ.out, rfl⟩

end Go.Proofs.YtpphkaolonjjdaaDoor.Place

/- What the laws' own helper answers: a number's word. -/
namespace Go.Proofs.YtpphkaolonjjdaaDoor.Twrd
open Go.RowKit Go.Proofs.YtpphkaolonjjdaaDoor.Pure Go.Proofs.YtpphkaolonjjdaaDoor.Place

def wordList : List (List UInt8) := [[97], [98], [99], [97, 46, 99], [98, 46, 99], [120, 46, 111], [100, 105, 114, 47, 97, 46, 99], [46, 46, 47, 117, 112], [50], [45, 49], [102, 111, 111], [102, 111, 111, 46, 98, 97, 114, 46, 99], [108, 105, 98, 37], [97, 37, 98], [49, 48], [122]]
def wordAt (p : Nat) : ByteArray := bs (wordList.getD p [])

set_option maxHeartbeats 400000 in
theorem index_word (p : Nat) (hp : p < 16) (W : World) : (Instr.index 100 (.agg #[.string ⟨#[97]⟩, .string ⟨#[98]⟩, .string ⟨#[99]⟩, .string ⟨#[97, 46, 99]⟩, .string ⟨#[98, 46, 99]⟩, .string ⟨#[120, 46, 111]⟩, .string ⟨#[100, 105, 114, 47, 97, 46, 99]⟩, .string ⟨#[46, 46, 47, 117, 112]⟩, .string ⟨#[50]⟩, .string ⟨#[45, 49]⟩, .string ⟨#[102, 111, 111]⟩, .string ⟨#[102, 111, 111, 46, 98, 97, 114, 46, 99]⟩, .string ⟨#[108, 105, 98, 37]⟩, .string ⟨#[97, 37, 98]⟩, .string ⟨#[49, 48]⟩, .string ⟨#[122]⟩]) (.int .i64 (p : Int))).run Tryd.prog W = .ok (.string (wordAt p)) W := by
  have h : p = 0 ∨ p = 1 ∨ p = 2 ∨ p = 3 ∨ p = 4 ∨ p = 5 ∨ p = 6 ∨ p = 7 ∨ p = 8 ∨ p = 9 ∨ p = 10 ∨ p = 11 ∨ p = 12 ∨ p = 13 ∨ p = 14 ∨ p = 15 := by omega
  rcases h with rfl | rfl | rfl | rfl | rfl | rfl | rfl | rfl | rfl | rfl | rfl | rfl | rfl | rfl | rfl | rfl <;> (show _ = _; kernel_rfl)

set_option maxHeartbeats 400000 in
theorem word_core (v : Int) (p : Nat) (w : World) (hp : p < 16) (hP : ∀ W : World, Calls Tryd.prog 17 #[.int .i64 v, .int .i64 16] W fun e w' => e = .returned (.int .i64 (p : Int)) ∧ W = w') :
    Calls Tryd.prog 52 #[.int .i64 v] w fun e w' => e = .returned (.string (wordAt p)) ∧ w = w' := by
  have hix := index_word p hp
  go_enter Tryd.func52, Tryd.ntmps52
  go_wp2_with fail
  refine (hP _).mono ?_
  rintro e w' ⟨rfl, rfl⟩
  go_wp2
  go_ret
  exact ⟨rfl, rfl⟩
theorem word_is (v : Int) (w : World) (hv : (Lit.int .i64 v).wf = true) :
    Calls Tryd.prog 52 #[.int .i64 v] w fun e w' => e = .returned (.string (wordAt (place v 16))) ∧ w = w' :=
  word_core v (place v 16) w (place_lt v 16 (by omega)) (fun W => place_is v 16 W (by omega) (by omega) hv)

/-- a number's word, of at most 9 bytes -/
theorem word_len (v : Int) (hv : (Lit.int .i64 v).wf = true) :
    ∃ l : List UInt8, l.length ≤ 9 ∧ ∀ W, Calls Tryd.prog 52 #[.int .i64 v] W fun e w' => e = .returned (.string (bs l)) ∧ W = w' := by
  refine ⟨wordList.getD (place v 16) [], ?_, fun W => word_is v W hv⟩
  have h : (wordList.all fun x => decide (x.length ≤ 9)) = true := by kernel_rfl
  have hp : place v 16 < wordList.length := place_lt v 16 (by omega)
  rw [List.getD_eq_getElem?_getD, List.getElem?_eq_getElem hp]
  exact of_decide_eq_true (List.all_eq_true.1 h _ (List.getElem_mem hp))

end Go.Proofs.YtpphkaolonjjdaaDoor.Twrd

/- Texts by numbers: a text under way (numbers, which is next), the next number, a name. -/
namespace Go.Proofs.YtpphkaolonjjdaaDoor.Tnum
open Go.RowKit Go.Proofs.YtpphkaolonjjdaaDoor.Pure Go.Proofs.YtpphkaolonjjdaaDoor.Place Go.Proofs.YtpphkaolonjjdaaDoor.Nums Go.Proofs.YtpphkaolonjjdaaDoor.Range

theorem set1_same {W : World} {c T k : Nat} {cs : Array Value} (h : W.heap[c]? = some (.cells cs T (0, 0))) (x : Value) :
    (W.setCell ⟨c, k, none⟩ x).heap[c]? = some (.cells (cs.setIfInBounds k x) T (0, 0)) := by
  obtain ⟨hlt, hk⟩ := Array.getElem?_eq_some_iff.1 h
  show (W.heap.modify c _)[c]? = _
  rw [Array.getElem?_eq_getElem (by rw [Array.size_modify]; exact hlt), Array.getElem_modify_self, hk]
  rfl
/-- a text under way in block tp: the next number is the a-th of n -/
structure TS (tp : Nat) (A : Option Addr) (n c : Nat) (zs : List Int) (a : Nat) (w : World) : Prop where
  cells : w.heap[tp]? = some (.cells #[.slice A n c, .int .i64 (a : Int)] 57 (0, 0))
  le : a ≤ n
  lt : n ≤ 9223372036854775807
  ints : IntIs w A n c zs
  ne : 0 < n → ∀ b o, A = some ⟨b, o, none⟩ → b ≠ tp
section
variable {tp : Nat} {A : Option Addr} {n c : Nat} {zs : List Int} {a : Nat} {w : World}
theorem intIs_out {W : World} (h : IntIs w A n c zs) (hn0 : 0 < n → ∀ b o, A = some ⟨b, o, none⟩ → b ≠ tp) (ho : Out [tp] w W) : IntIs W A n c zs := by
  obtain ⟨h1, h2, h3, h4⟩ := h
  refine ⟨h1, h2, h3, ?_⟩
  by_cases hz : n = 0
  · exact .inl (List.eq_nil_of_length_eq_zero (by omega))
  have hn := hn0 (by omega)
  rcases h4 with h4 | ⟨b, o, rfl, hb, hc⟩
  · exact .inl h4
  · exact .inr ⟨b, o, rfl, Nat.lt_of_lt_of_le hb ho.size, fun j z hz => (World.cell?_of_block (a := ⟨b, o + j, none⟩) (ho.block b hb (by simp; exact hn b o rfl))).trans (hc j z hz)⟩
theorem TS.c0 (h : TS tp A n c zs a w) : w.cell? ⟨tp, 0, none⟩ = some (.slice A n c) := by rw [Lib.cell_of_heap h.cells]; rfl
theorem TS.c1 (h : TS tp A n c zs a w) : w.cell? ⟨tp, 1, none⟩ = some (.int .i64 (a : Int)) := by rw [Lib.cell_of_heap h.cells]; rfl
theorem TS.f1 (h : TS tp A n c zs a w) : w.frozen? ⟨tp, 1, none⟩ = false := Lib.frozen_of_heap h.cells 1
theorem TS.tlt (h : TS tp A n c zs a w) : tp < w.heap.size := (Array.getElem?_eq_some_iff.1 h.cells).1
theorem TS.next (h : TS tp A n c zs a w) (ha : a < n) : TS tp A n c zs (a + 1) (w.setCell ⟨tp, 1, none⟩ (.int .i64 ((a + 1 : Nat) : Int))) ∧ Out [tp] w (w.setCell ⟨tp, 1, none⟩ (.int .i64 ((a + 1 : Nat) : Int))) := by
  have ho : Out [tp] w (w.setCell ⟨tp, 1, none⟩ (.int .i64 ((a + 1 : Nat) : Int))) := Out.setCell w (by simp) _
  exact ⟨⟨set1_same h.cells _, by omega, h.lt, intIs_out h.ints h.ne ho, h.ne⟩, ho⟩
/-- behind a step that leaves the text under way as it is -/
theorem TS.below {W : World} (h : TS tp A n c zs a w) (hb : Below w.heap.size w W) : TS tp A n c zs a W :=
  ⟨(hb.block tp h.tlt).trans h.cells, h.le, h.lt, intIs_out h.ints h.ne (Out.of_below hb), h.ne⟩
end
/-- a text under way, behind a call -/
def After (tp : Nat) (A : Option Addr) (n c : Nat) (zs : List Int) (a : Nat) (w W : World) : Prop := ∃ a', a ≤ a' ∧ (a < n → a < a') ∧ TS tp A n c zs a' W ∧ Out [tp] w W
theorem out_drewN {X : List Nat} {w W : World} (h : Out X w W) (m : Nat) : Out X w (W.drewN m) := ⟨h.os, h.tape, h.output, h.size, h.block⟩
theorem ts_drew {tp : Nat} {A : Option Addr} {n c : Nat} {zs : List Int} {a : Nat} {w : World} (h : TS tp A n c zs a w) : TS tp A n c zs a w.drew := ⟨h.cells, h.le, h.lt, h.ints, h.ne⟩

set_option maxRecDepth 100000 in
set_option maxHeartbeats 2000000 in
/-- the next number: which it is hangs on the numbers alone; 0 when there is none -/
theorem num_det (tp : Nat) (A : Option Addr) (n c : Nat) (zs : List Int) (a k : Nat) (w : World) (hk : 0 < k) (hk2 : k ≤ 1000) (h : TS tp A n c zs a w) :
    ∃ p : Nat, p < k ∧ (n ≤ a → p = 0) ∧ Calls Tryd.prog 34 #[.pointer (some ⟨tp, 0, none⟩), .int .i64 (k : Int)] w fun e W => e = .returned (.int .i64 (p : Int)) ∧ After tp A n c zs a w W := by
  have h0 := h.c0
  have h1 := h.c1
  have f1 := h.f1
  have hn := h.lt
  have hle := h.le
  have HT := Lib.hid h
  clear h
  by_cases ha : a < n
  · obtain ⟨b, o, z, rfl, hz, hc⟩ := HT.out.ints.at_ ha
    obtain ⟨t1, t2⟩ := HT.out.next ha
    have HN := Lib.hid t1
    have HO := Lib.hid t2
    have hb : b ≠ tp := HT.out.ne (by omega) b o rfl
    have HP := Lib.hid (fun W => place_is z k W hk (by omega) hz)
    have HPL := Lib.hid (place_lt z k hk)
    have k0 : w.cell? ⟨b, o + a, none⟩ = some (.int .i64 z) := hc w (Below.refl _ _)
    have hd : decide ((n : Int) ≤ (a : Int)) = false := decide_eq_false (by omega)
    have hd2 : decide (n ≤ a) = false := decide_eq_false (by omega)
    have w1 : IntKind.i64.wrap ((a : Int) + 1) = (a : Int) + 1 := IntWalk.i64_in _ (by omega)
    clear t1 t2 hc
    refine ⟨place z k, HPL.out, fun hna => absurd ha (Nat.not_lt.2 hna), ?_⟩
    go_enter Tryd.func34, Tryd.ntmps34
    go_wp2_with fail
    go_region
    go_upto_region 4 with fail
    have HE : Hid ((w.setCell ⟨tp, 1, none⟩ (.int .i64 ((a : Int) + 1))).drew = (w.setCell ⟨tp, 1, none⟩ (.int .i64 ((a + 1 : Nat) : Int))).drew) := rfl
    obtain ⟨W1, hW1⟩ : ∃ W1, W1 = (w.setCell ⟨tp, 1, none⟩ (.int .i64 ((a : Int) + 1))).drew := ⟨_, rfl⟩
    rw [← hW1]
    have HT1 : Hid (TS tp (some ⟨b, o, none⟩) n c zs (a + 1) W1) := by show TS _ _ _ _ _ _ _; rw [hW1, HE.out]; exact ts_drew HN.out
    have HO1 : Hid (Out [tp] w W1) := by show Out _ _ _; rw [hW1, HE.out]; exact ⟨HO.out.os, HO.out.tape, HO.out.output, HO.out.size, HO.out.block⟩
    have d0 := HT1.out.c0
    have d1 : W1.cell? ⟨tp, 1, none⟩ = some (.int .i64 ((a : Int) + 1)) := HT1.out.c1
    have d2 : W1.cell? ⟨b, o + a, none⟩ = some (.int .i64 z) := by rw [hW1]; exact (World.cell?_setCell_other _ _ _ _ (by intro e; exact hb (congrArg Addr.block e).symm)).trans k0
    have w2 : IntKind.i64.wrap ((a : Int) + 1 - 1) = (a : Int) := by rw [show (a : Int) + 1 - 1 = (a : Int) by omega]; exact IntWalk.i64_in _ (by omega)
    have w3 : IntKind.i64.wrap (a : Int) = (a : Int) := IntWalk.i64_in _ (by omega)
    clear hW1 HE HN HO h0 h1 f1 k0
    go_region_held3 (fun w' => w'.cell? ⟨tp, 0, none⟩ = some (.slice (some ⟨b, o, none⟩) n c) ∧ w'.cell? ⟨tp, 1, none⟩ = some (.int .i64 ((a : Int) + 1)) ∧ w'.cell? ⟨b, o + a, none⟩ = some (.int .i64 z)) (go_keep) (first | (go_at_call 17; refine (HP.out _).mono ?_; rintro e w1 ⟨rfl, rfl⟩))
    go_wp2
    go_ret
    exact ⟨rfl, a + 1, by omega, fun _ => by omega, ts_drew HT1.out, ⟨HO1.out.os, HO1.out.tape, HO1.out.output, HO1.out.size, HO1.out.block⟩⟩
  · have hd : decide ((n : Int) ≤ (a : Int)) = true := decide_eq_true (by omega)
    have hd2 : decide (n ≤ a) = true := decide_eq_true (by omega)
    refine ⟨0, hk, fun _ => rfl, ?_⟩
    go_enter Tryd.func34, Tryd.ntmps34
    go_wp2_with fail
    go_region
    go_wp2
    go_ret
    exact ⟨rfl, a, Nat.le_refl _, fun h => absurd h ha, ts_drew HT.out, ⟨rfl, rfl, rfl, Nat.le_refl _, fun _ _ _ => rfl⟩⟩

/-- the next number -/
theorem num_is (tp : Nat) (A : Option Addr) (n c : Nat) (zs : List Int) (a k : Nat) (w : World) (hk : 0 < k) (hk2 : k ≤ 1000) (h : TS tp A n c zs a w) :
    Calls Tryd.prog 34 #[.pointer (some ⟨tp, 0, none⟩), .int .i64 (k : Int)] w fun e W => ∃ p : Nat, p < k ∧ e = .returned (.int .i64 (p : Int)) ∧ After tp A n c zs a w W := by
  obtain ⟨p, hp, _, hc⟩ := num_det tp A n c zs a k w hk hk2 h
  exact hc.mono fun e W ⟨he, ha⟩ => ⟨p, hp, he, ha⟩

end Go.Proofs.YtpphkaolonjjdaaDoor.Tnum

/- A weight of a text's bytes: one each, dollars and commas many. -/
namespace Go.Proofs.YtpphkaolonjjdaaDoor.Ymu
open Go.RowKit
open Go.Proofs.YtpphkaolonjjdaaDoor.Pure (bs)

def muB (b : UInt8) : Nat := if b = 36 then 505 else if b = 44 then 127 else 1
def muL : List UInt8 → Nat
  | [] => 0
  | b :: r => muB b + muL r
def mu (x : ByteArray) : Nat := muL x.data.toList
theorem muL_append : ∀ x y : List UInt8, muL (x ++ y) = muL x + muL y
  | [], y => by rw [List.nil_append, muL, Nat.zero_add]
  | b :: x, y => by rw [List.cons_append, muL, muL, muL_append x y, Nat.add_assoc]
theorem mu_append (x y : ByteArray) : mu (x ++ y) = mu x + mu y := by unfold mu; rw [Go.Joins.data_append, muL_append]
theorem muB_pos (b : UInt8) : 1 ≤ muB b := by unfold muB; split <;> (try split) <;> omega
theorem muL_len : ∀ x : List UInt8, x.length ≤ muL x
  | [] => Nat.le_refl _
  | b :: x => by rw [List.length_cons, muL]; have := muB_pos b; have := muL_len x; omega
theorem mu_size (x : ByteArray) : x.size ≤ mu x := by rw [Lib.size_eq]; exact muL_len _
theorem mu_bs (x : List UInt8) : mu (bs x) = muL x := by unfold mu; rw [show (bs x).data.toList = x by simp [bs]]

end Go.Proofs.YtpphkaolonjjdaaDoor.Ymu

/- (By weight; written by wip/tools/mkmu.py.) What the laws' own helper answers: a number's word. -/
namespace Go.Proofs.YtpphkaolonjjdaaDoor.Ywrd
open Go.RowKit Go.Proofs.YtpphkaolonjjdaaDoor.Pure Go.Proofs.YtpphkaolonjjdaaDoor.Place Go.Proofs.YtpphkaolonjjdaaDoor.Ymu

def wordList : List (List UInt8) := [[97], [98], [99], [97, 46, 99], [98, 46, 99], [120, 46, 111], [100, 105, 114, 47, 97, 46, 99], [46, 46, 47, 117, 112], [50], [45, 49], [102, 111, 111], [102, 111, 111, 46, 98, 97, 114, 46, 99], [108, 105, 98, 37], [97, 37, 98], [49, 48], [122]]
def wordAt (p : Nat) : ByteArray := bs (wordList.getD p [])

set_option maxHeartbeats 400000 in
theorem index_word (p : Nat) (hp : p < 16) (W : World) : (Instr.index 100 (.agg #[.string ⟨#[97]⟩, .string ⟨#[98]⟩, .string ⟨#[99]⟩, .string ⟨#[97, 46, 99]⟩, .string ⟨#[98, 46, 99]⟩, .string ⟨#[120, 46, 111]⟩, .string ⟨#[100, 105, 114, 47, 97, 46, 99]⟩, .string ⟨#[46, 46, 47, 117, 112]⟩, .string ⟨#[50]⟩, .string ⟨#[45, 49]⟩, .string ⟨#[102, 111, 111]⟩, .string ⟨#[102, 111, 111, 46, 98, 97, 114, 46, 99]⟩, .string ⟨#[108, 105, 98, 37]⟩, .string ⟨#[97, 37, 98]⟩, .string ⟨#[49, 48]⟩, .string ⟨#[122]⟩]) (.int .i64 (p : Int))).run Tryd.prog W = .ok (.string (wordAt p)) W := by
  have h : p = 0 ∨ p = 1 ∨ p = 2 ∨ p = 3 ∨ p = 4 ∨ p = 5 ∨ p = 6 ∨ p = 7 ∨ p = 8 ∨ p = 9 ∨ p = 10 ∨ p = 11 ∨ p = 12 ∨ p = 13 ∨ p = 14 ∨ p = 15 := by omega
  rcases h with rfl | rfl | rfl | rfl | rfl | rfl | rfl | rfl | rfl | rfl | rfl | rfl | rfl | rfl | rfl | rfl <;> (show _ = _; kernel_rfl)

set_option maxHeartbeats 400000 in
theorem word_core (v : Int) (p : Nat) (w : World) (hp : p < 16) (hP : ∀ W : World, Calls Tryd.prog 17 #[.int .i64 v, .int .i64 16] W fun e w' => e = .returned (.int .i64 (p : Int)) ∧ W = w') :
    Calls Tryd.prog 52 #[.int .i64 v] w fun e w' => e = .returned (.string (wordAt p)) ∧ w = w' := by
  have hix := index_word p hp
  go_enter Tryd.func52, Tryd.ntmps52
  go_wp2_with fail
  refine (hP _).mono ?_
  rintro e w' ⟨rfl, rfl⟩
  go_wp2
  go_ret
  exact ⟨rfl, rfl⟩
theorem word_is (v : Int) (w : World) (hv : (Lit.int .i64 v).wf = true) :
    Calls Tryd.prog 52 #[.int .i64 v] w fun e w' => e = .returned (.string (wordAt (place v 16))) ∧ w = w' :=
  word_core v (place v 16) w (place_lt v 16 (by omega)) (fun W => place_is v 16 W (by omega) (by omega) hv)

/-- a number's word, of at most 9 bytes -/
theorem word_len (v : Int) (hv : (Lit.int .i64 v).wf = true) :
    ∃ l : List UInt8, muL l ≤ 9 ∧ ∀ W, Calls Tryd.prog 52 #[.int .i64 v] W fun e w' => e = .returned (.string (bs l)) ∧ W = w' := by
  refine ⟨wordList.getD (place v 16) [], ?_, fun W => word_is v W hv⟩
  have h : (wordList.all fun x => decide (muL x ≤ 9)) = true := by kernel_rfl
  have hp : place v 16 < wordList.length := place_lt v 16 (by omega)
  rw [List.getD_eq_getElem?_getD, List.getElem?_eq_getElem hp]
  exact of_decide_eq_true (List.all_eq_true.1 h _ (List.getElem_mem hp))

end Go.Proofs.YtpphkaolonjjdaaDoor.Ywrd

/- (By weight; written by wip/tools/mkmu.py.) Texts by numbers: a text out of a list that is written out; names, recipes, words. -/
namespace Go.Proofs.YtpphkaolonjjdaaDoor.Yidx
open Go.RowKit Go.Proofs.YtpphkaolonjjdaaDoor.Pure Go.Proofs.YtpphkaolonjjdaaDoor.Place Go.Proofs.YtpphkaolonjjdaaDoor.Ymu Go.Proofs.YtpphkaolonjjdaaDoor.Nums Go.Proofs.YtpphkaolonjjdaaDoor.Range Go.Proofs.YtpphkaolonjjdaaDoor.Tnum

theorem index_str (t n : Nat) (h : Tryd.prog.underlying t = some (.array n 9)) (cs : Array Value) (p : Nat) (hp : p < n) (s : ByteArray) (hs : cs[p]? = some (.string s)) (W : World) :
    (Instr.index t (.agg cs) (.int .i64 (p : Int))).run Tryd.prog W = .ok (.string s) W := by
  simp [Instr.index, run_underlying h, asIntOf, go_sem]
  rw [if_pos hp, hs]; rfl
def strArr (l : List (List UInt8)) : Array Value := (l.map (fun x => Value.string (bs x))).toArray
/-- one out of a list of texts that is written out -/
theorem index_lit (t n : Nat) (h : Tryd.prog.underlying t = some (.array n 9)) (l : List (List UInt8)) (hl : l.length = n) (M : Nat) (hM : (l.all fun x => decide (muL x ≤ M)) = true) (p : Nat) (hp : p < n) :
    ∃ x, x ∈ l ∧ muL x ≤ M ∧ ∀ W, (Instr.index t (.agg (strArr l)) (.int .i64 (p : Int))).run Tryd.prog W = .ok (.string (bs x)) W := by
  have hpl : p < l.length := by omega
  refine ⟨l[p], List.getElem_mem hpl, by simpa using List.all_eq_true.1 hM _ (List.getElem_mem hpl), fun W => index_str t n h _ p hp _ ?_ W⟩
  unfold strArr
  rw [List.getElem?_toArray, List.getElem?_map, List.getElem?_eq_getElem hpl]; rfl

def nameL : List (List UInt8) := [[97], [98], [99], [100], [101], [102], [103], [118, 49]]
def recipeL : List (List UInt8) := [[], [9, 100, 111, 32, 36, 64, 10], [9, 111, 110, 101, 32, 92, 10, 9, 116, 119, 111, 10], [9, 10, 10, 9, 108, 97, 115, 116, 10], [9, 35, 32, 110, 111, 116, 32, 103, 111, 110, 101, 10]]
def blankL : List (List UInt8) := [[32], [32], [32, 32]]
theorem name_idx (p : Nat) (hp : p < 8) : ∃ x, x ∈ nameL ∧ muL x ≤ 2 ∧ ∀ W, (Instr.index 44 (.agg #[.string ⟨#[97]⟩, .string ⟨#[98]⟩, .string ⟨#[99]⟩, .string ⟨#[100]⟩, .string ⟨#[101]⟩, .string ⟨#[102]⟩, .string ⟨#[103]⟩, .string ⟨#[118, 49]⟩]) (.int .i64 (p : Int))).run Tryd.prog W = .ok (.string (bs x)) W :=
  index_lit 44 8 Tryd.underlying44 nameL rfl 2 (by decide) p hp
theorem blank_idx (p : Nat) (hp : p < 3) : ∃ x, x ∈ blankL ∧ muL x ≤ 2 ∧ ∀ W, (Instr.index 71 (.agg #[.string ⟨#[32]⟩, .string ⟨#[32]⟩, .string ⟨#[32, 32]⟩]) (.int .i64 (p : Int))).run Tryd.prog W = .ok (.string (bs x)) W :=
  index_lit 71 3 Tryd.underlying71 blankL rfl 2 (by decide) p hp

set_option maxHeartbeats 1000000 in
/-- a name -/
theorem name_is (tp : Nat) (A : Option Addr) (n c : Nat) (zs : List Int) (a : Nat) (w : World) (h : TS tp A n c zs a w) :
    Calls Tryd.prog 46 #[.pointer (some ⟨tp, 0, none⟩)] w fun e W => ∃ x, x ∈ nameL ∧ e = .returned (.string (bs x)) ∧ After tp A n c zs a w W := by
  have HN := Lib.hid (num_is tp A n c zs a 8 w (by omega) (by omega) h)
  go_enter Tryd.func46, Tryd.ntmps46
  go_wp2_with fail
  refine HN.out.mono ?_
  rintro e w1 ⟨p, hp, rfl, haf⟩
  obtain ⟨x, hx, _, hix⟩ := name_idx p hp
  have HA := Lib.hid haf
  clear haf HN
  go_wp2
  go_ret
  exact ⟨x, hx, rfl, HA.out⟩

/-! ### sums of texts -/
theorem cat (x y : ByteArray) (W : World) (h : mu x + mu y ≤ 1099511627776) : (Op.stringOp .add x y).run Tryd.prog W = .ok (.string (x ++ y)) W := run_string_add_sum W _ _ (by have := mu_size x; have := mu_size y; omega)

set_option maxRecDepth 100000 in
set_option maxHeartbeats 2000000 in
/-- two words by numbers -/
theorem words_two (b : Nat) (k j : Nat) (c : Nat) (w : World) (hk : k ≤ 1000) (hj : j ≤ 1000) (h0 : w.cell? ⟨b, 0, none⟩ = some (.int .i64 (k : Int))) (h1 : w.cell? ⟨b, 1, none⟩ = some (.int .i64 (j : Int))) :
    Calls Tryd.prog 45 #[.slice (some ⟨b, 0, none⟩) 2 c] w fun e W => ∃ s : ByteArray, mu s ≤ 20 ∧ e = .returned (.string s) ∧ w = W := by
  have hwk : (Lit.int .i64 (k : Int)).wf = true := by simp [Lit.wf, IntKind.min, IntKind.max, IntKind.signed, IntKind.bits]; omega
  have hwj : (Lit.int .i64 (j : Int)).wf = true := by simp [Lit.wf, IntKind.min, IntKind.max, IntKind.signed, IntKind.bits]; omega
  obtain ⟨l1, g1, hw1⟩ := Ywrd.word_len (k : Int) hwk
  obtain ⟨l2, g2, hw2⟩ := Ywrd.word_len (j : Int) hwj
  have hq : ((j : Int)).tdiv 16 = ((j / 16 : Nat) : Int) := by rw [Int.tdiv_eq_ediv_of_nonneg (by omega)]; simp
  have hwq : (Lit.int .i64 ((j / 16 : Nat) : Int)).wf = true := by simp [Lit.wf, IntKind.min, IntKind.max, IntKind.signed, IntKind.bits]; omega
  have HP := Lib.hid (fun W => place_is ((j / 16 : Nat) : Int) 3 W (by omega) (by omega) hwq)
  obtain ⟨x, hx, hxl, hix⟩ := blank_idx (place ((j / 16 : Nat) : Int) 3) (place_lt _ 3 (by omega))
  generalize place ((j / 16 : Nat) : Int) 3 = pp at HP hix
  have HW1 := Lib.hid hw1
  have HW2 := Lib.hid hw2
  have z1 : mu (bs l1) ≤ 9 := by rw [mu_bs]; exact g1
  have z2 : mu (bs l2) ≤ 9 := by rw [mu_bs]; exact g2
  have z3 : mu (bs x) ≤ 2 := by rw [mu_bs]; exact hxl
  clear hw1 hw2 g1 g2 hwk hwj hwq hxl hx
  generalize bs l1 = L1 at *
  generalize bs l2 = L2 at *
  generalize bs x = X at *
  have ze : mu (⟨#[]⟩ : ByteArray) = 0 := rfl
  have a1 : ∀ W, (Op.stringOp .add ⟨#[]⟩ L1).run Tryd.prog W = .ok (.string (⟨#[]⟩ ++ L1)) W := fun W => cat _ _ W (by omega)
  have a2 : ∀ W, (Op.stringOp .add (⟨#[]⟩ ++ L1) X).run Tryd.prog W = .ok (.string (⟨#[]⟩ ++ L1 ++ X)) W := fun W => cat _ _ W (by rw [mu_append]; omega)
  have a3 : ∀ W, (Op.stringOp .add (⟨#[]⟩ ++ L1 ++ X) L2).run Tryd.prog W = .ok (.string (⟨#[]⟩ ++ L1 ++ X ++ L2)) W := fun W => cat _ _ W (by rw [mu_append, mu_append]; omega)
  have HZ : Hid (mu (⟨#[]⟩ ++ L1 ++ X ++ L2 : ByteArray) ≤ 20) := by show _ ≤ _; rw [mu_append, mu_append, mu_append]; omega
  generalize (⟨#[]⟩ ++ L1 ++ X ++ L2 : ByteArray) = S3 at *
  generalize (⟨#[]⟩ ++ L1 ++ X : ByteArray) = S2 at *
  generalize (⟨#[]⟩ ++ L1 : ByteArray) = S1 at *
  clear z1 z2 z3 ze
  go_enter Tryd.func45, Tryd.ntmps45
  go_wp2_with fail
  go_loopw [3, 4] (fun v i wr => w = wr ∧ ((v = .string ⟨#[]⟩ ∧ i = .int .i64 0) ∨ (v = .string S1 ∧ i = .int .i64 1) ∨ (v = .string S3 ∧ i = .int .i64 2))) (fun _ i _ => 2 - (intOf i).toNat)
  case atStart => exact ⟨rfl, .inl ⟨rfl, rfl⟩⟩
  case round =>
    obtain ⟨rfl, hc⟩ := hrel
    rcases hc with ⟨rfl, rfl⟩ | ⟨rfl, rfl⟩ | ⟨rfl, rfl⟩
    · go_wp2_with fail
      refine (HW1.out _).mono ?_
      rintro e w' ⟨rfl, rfl⟩
      go_wp2
      go_roundw
      case rel => exact ⟨trivial, .inr (.inl ⟨rfl, rfl⟩)⟩
      case measure => simp [intOf]
    · go_wp2_with fail
      refine (HP.out _).mono ?_
      rintro e w' ⟨rfl, rfl⟩
      go_wp2_with fail
      refine (HW2.out _).mono ?_
      rintro e w' ⟨rfl, rfl⟩
      go_wp2
      go_roundw
      case rel => exact ⟨trivial, .inr (.inr ⟨rfl, rfl⟩)⟩
      case measure => simp [intOf]
    · go_wp2
      go_ret
      exact ⟨_, HZ.out, rfl, rfl⟩

end Go.Proofs.YtpphkaolonjjdaaDoor.Yidx

/- (By weight; written by wip/tools/mkmu.py.) Texts by numbers: one piece of a text. -/
namespace Go.Proofs.YtpphkaolonjjdaaDoor.Yone
open Go.RowKit Go.Proofs.YtpphkaolonjjdaaDoor.Pure Go.Proofs.YtpphkaolonjjdaaDoor.Place Go.Proofs.YtpphkaolonjjdaaDoor.Ymu Go.Proofs.YtpphkaolonjjdaaDoor.Nums Go.Proofs.YtpphkaolonjjdaaDoor.Range Go.Proofs.YtpphkaolonjjdaaDoor.Tnum Go.Proofs.YtpphkaolonjjdaaDoor.Yidx

/-- the answer: a text of at most M bytes, and the text under way has gone on -/
def Said (M : Nat) (tp : Nat) (A : Option Addr) (n c : Nat) (zs : List Int) (a : Nat) (w : World) (e : Ending) (W : World) : Prop := ∃ s : ByteArray, mu s ≤ M ∧ e = .returned (.string s) ∧ After tp A n c zs a w W
section
variable {tp : Nat} {A : Option Addr} {n c : Nat} {zs : List Int} {a : Nat} {w W V : World}
theorem aft_below (h : After tp A n c zs a w W) (hb : Below W.heap.size W V) : After tp A n c zs a w V := by
  obtain ⟨a1, l1, p1, t1, o1⟩ := h
  exact ⟨a1, l1, p1, t1.below hb, o1.trans (Out.of_below hb)⟩
theorem aft_comp {a1 : Nat} (l1 : a ≤ a1) (p1 : a < n → a < a1) (o1 : Out [tp] w W) (h : After tp A n c zs a1 W V) : After tp A n c zs a w V := by
  obtain ⟨a2, l2, p2, t2, o2⟩ := h
  exact ⟨a2, by omega, fun h => by have := p1 h; omega, t2, o1.trans o2⟩
end

theorem below_drew {B : Nat} {a w : World} (h : Below B a w) (n : Nat) : Below B a (w.drewN n) := ⟨h.os, h.tape, h.output, h.size, h.block⟩
/-- two numbers in a fresh block, as words -/
theorem two_said (W : World) (m : Nat) (j k : Nat) (hj : j ≤ 1000) (hk : k ≤ 1000) (hm : m = W.heap.size) (r : World) (hr : r = W.alloc (.cells #[.int .i64 (k : Int), .int .i64 (j : Int)] 3)) :
    Calls Tryd.prog 45 #[.slice (some ⟨m, 0, none⟩) 2 2] r fun e V => ∃ s : ByteArray, mu s ≤ 20 ∧ e = .returned (.string s) ∧ Below W.heap.size W V := by
  subst hm hr
  refine (words_two W.heap.size k j 2 _ hk hj ?_ ?_).mono ?_
  · exact (Lib.cell_of_heap (World.alloc_heap_new W _) 0).trans rfl
  · exact (Lib.cell_of_heap (World.alloc_heap_new W _) 1).trans rfl
  · rintro e V ⟨s, hs, rfl, rfl⟩
    exact ⟨s, hs, rfl, (Below.refl _ _).alloc (Nat.le_refl _) _⟩

set_option maxRecDepth 100000 in
set_option maxHeartbeats 2000000 in
/-- at depth 0 -/
theorem one_zero (tp : Nat) (A : Option Addr) (n c : Nat) (zs : List Int) (a : Nat) (w : World) (h : TS tp A n c zs a w) :
    Calls Tryd.prog 33 #[.pointer (some ⟨tp, 0, none⟩), .int .i64 0] w (Said 20 tp A n c zs a w) := by
  have HN := Lib.hid (num_is tp A n c zs a 40 w (by omega) (by omega) h)
  go_enter Tryd.func33, Tryd.ntmps33
  go_wp2_with fail
  refine HN.out.mono ?_
  rintro e w1 ⟨p, hp, rfl, haf⟩
  have HA := Lib.hid haf
  clear haf HN
  have hq : ((p : Int)).tdiv 3 = ((p / 3 : Nat) : Int) := by rw [Int.tdiv_eq_ediv_of_nonneg (by omega)]; simp
  have hd : decide ((0 : Int) = 0) = true := rfl
  go_wp2_with fail
  go_quiet (fail)
  go_wp2_with fail
  refine (two_said (w1.drewN nq) _ (p / 3) p (by omega) (by omega) rfl _ rfl).mono ?_
  rintro e w2 ⟨s, hs, rfl, hb⟩
  have HB := Lib.hid hb
  have HS := Lib.hid hs
  clear hb hs
  go_wp2
  go_ret
  exact ⟨s, HS.out, rfl, aft_below HA.out ((below_drew (Below.refl _ _) nq).trans HB.out)⟩

end Go.Proofs.YtpphkaolonjjdaaDoor.Yone

/- (By weight; written by wip/tools/mkmu.py.) Texts by numbers: a text, out of its pieces. -/
namespace Go.Proofs.YtpphkaolonjjdaaDoor.Ytext
open Go.RowKit Go.Proofs.YtpphkaolonjjdaaDoor.Pure Go.Proofs.YtpphkaolonjjdaaDoor.Place Go.Proofs.YtpphkaolonjjdaaDoor.Ymu Go.Proofs.YtpphkaolonjjdaaDoor.Nums Go.Proofs.YtpphkaolonjjdaaDoor.Range Go.Proofs.YtpphkaolonjjdaaDoor.Tnum Go.Proofs.YtpphkaolonjjdaaDoor.Yidx Go.Proofs.YtpphkaolonjjdaaDoor.Yone

section
variable {tp : Nat} {A : Option Addr} {n c : Nat} {zs : List Int} {a : Nat} {w W : World}
theorem aft_pre {V : World} (o1 : Out [tp] w W) (h : After tp A n c zs a W V) : After tp A n c zs a w V := by
  obtain ⟨a2, l2, p2, t2, o2⟩ := h
  exact ⟨a2, l2, p2, t2, o1.trans o2⟩
theorem aft_drew (h : After tp A n c zs a w W) : After tp A n c zs a w W.drew := by
  obtain ⟨a1, l1, p1, t1, o1⟩ := h
  exact ⟨a1, l1, p1, ts_drew t1, ⟨o1.os, o1.tape, o1.output, o1.size, o1.block⟩⟩
/-- the next number, further on -/
theorem num_aft (h : After tp A n c zs a w W) (k : Nat) (hk : 0 < k) (hk2 : k ≤ 1000) :
    Calls Tryd.prog 34 #[.pointer (some ⟨tp, 0, none⟩), .int .i64 (k : Int)] W fun e V => ∃ p : Nat, p < k ∧ e = .returned (.int .i64 (p : Int)) ∧ After tp A n c zs a w V := by
  obtain ⟨a1, l1, p1, t1, o1⟩ := h
  refine (num_is tp A n c zs a1 k W hk hk2 t1).mono ?_
  rintro e V ⟨p, hp, he, haf⟩
  exact ⟨p, hp, he, aft_comp l1 p1 o1 haf⟩
theorem name_aft (h : After tp A n c zs a w W) :
    Calls Tryd.prog 46 #[.pointer (some ⟨tp, 0, none⟩)] W fun e V => ∃ x, x ∈ nameL ∧ e = .returned (.string (bs x)) ∧ After tp A n c zs a w V := by
  obtain ⟨a1, l1, p1, t1, o1⟩ := h
  refine (name_is tp A n c zs a1 W t1).mono ?_
  rintro e V ⟨x, hx, he, haf⟩
  exact ⟨x, hx, he, aft_comp l1 p1 o1 haf⟩
end
/-- one piece at depth d is a text of at most M bytes -/
def OneIs (d : Int) (M : Nat) : Prop := ∀ (tp : Nat) (A : Option Addr) (n c : Nat) (zs : List Int) (a : Nat) (w : World), TS tp A n c zs a w →
  Calls Tryd.prog 33 #[.pointer (some ⟨tp, 0, none⟩), .int .i64 d] w (Said M tp A n c zs a w)
theorem one_aft {tp : Nat} {A : Option Addr} {n c : Nat} {zs : List Int} {a : Nat} {w W : World} {d : Int} {M : Nat} (ho : OneIs d M) (h : After tp A n c zs a w W) :
    Calls Tryd.prog 33 #[.pointer (some ⟨tp, 0, none⟩), .int .i64 d] W (Said M tp A n c zs a w) := by
  obtain ⟨a1, l1, p1, t1, o1⟩ := h
  refine (ho tp A n c zs a1 W t1).mono ?_
  rintro e V ⟨s, hs, he, haf⟩
  exact ⟨s, hs, he, aft_comp l1 p1 o1 haf⟩

/-- what a text's call leaves: as Said, but with no number left nothing goes on -/
theorem sep_idx (p : Nat) (hp : p < 3) : ∃ x : List UInt8, x ∈ [[32], [], [32, 32]] ∧ muL x ≤ 2 ∧ ∀ W, (Instr.index 71 (.agg #[.string ⟨#[32]⟩, .string ⟨#[]⟩, .string ⟨#[32, 32]⟩]) (.int .i64 (p : Int))).run Tryd.prog W = .ok (.string (bs x)) W :=
  index_lit 71 3 Tryd.underlying71 [[32], [], [32, 32]] rfl 2 (by decide) p hp

set_option maxRecDepth 100000 in
set_option maxHeartbeats 4000000 in
theorem text_is (d : Int) (M : Nat) (hM : M ≤ 100000000000) (hM1 : 1 ≤ M) (ho : OneIs d M) (tp : Nat) (A : Option Addr) (n c : Nat) (zs : List Int) (a : Nat) (w : World) (h : TS tp A n c zs a w) :
    Calls Tryd.prog 23 #[.pointer (some ⟨tp, 0, none⟩), .int .i64 d] w (Said (2 * M + 2) tp A n c zs a w) := by
  have h0 := h.c0
  have h1 := h.c1
  by_cases ha : a < n
  · have HO := Lib.hid (ho tp A n c zs a w h)
    have HW := Lib.hid ho
    have hd : decide ((n : Int) ≤ (a : Int)) = false := decide_eq_false (by omega)
    have hd2 : decide (n ≤ a) = false := decide_eq_false (by omega)
    have HT := Lib.hid h
    clear h ho
    go_enter Tryd.func23, Tryd.ntmps23
    go_wp2_with fail
    go_quiet (fail)
    go_wp2_with fail
    refine (HW.out tp A n c zs a _ (HT.out.below (below_drew (Below.refl _ _) _))).mono ?_
    rintro e w1 ⟨S, hS, rfl, haf⟩
    have HA := Lib.hid (aft_pre (Out.of_below (below_drew (Below.refl _ w) nq)) haf)
    have HS := Lib.hid hS
    clear hS haf
    go_wp2_with fail
    refine (num_aft HA.out 4 (by omega) (by omega)).mono ?_
    rintro e w2 ⟨p, hp, rfl, haf⟩
    have HA2 := Lib.hid haf
    clear haf HA HT h0 h1 hd hd2
    by_cases h0 : p = 0
    · have hd : ((p : Int) == 0) = true := by simpa using h0
      clear h0 hp
      go_wp2_with fail
      go_upto_region 5 with fail
      go_region_with (first
        | (go_at_call 34
           refine (num_aft (by first | exact HA2.out | exact aft_drew HA2.out) 3 (by omega) (by omega)).mono ?_
           rintro e w3 ⟨q, hq, rfl, haf⟩
           clear HA2
           have HA2 := Lib.hid haf
           clear haf
           obtain ⟨x, hx, hxl, hix⟩ := sep_idx q hq
           have z3 : mu (bs x) ≤ 2 := by rw [mu_bs]; exact hxl
           have a1 : ∀ W, (Op.stringOp .add S (bs x)).run Tryd.prog W = .ok (.string (S ++ bs x)) W := fun W => cat _ _ W (by have := HS.out; omega)
           try have a2 : ∀ W, (Op.stringOp .add (S ++ bs x) Z).run Tryd.prog W = .ok (.string (S ++ bs x ++ Z)) W := fun W => cat _ _ W (by rw [mu_append]; have := HS.out; have := HZ.out; omega)
           clear hx hxl hq)
        | (go_at_call 33
           refine (one_aft HW.out (by first | exact HA2.out | exact aft_drew HA2.out)).mono ?_
           rintro e w3 ⟨Z, hZ, rfl, haf⟩
           clear HA2
           have HA2 := Lib.hid haf
           clear haf
           have HZ := Lib.hid hZ
           try have a2 : ∀ W, (Op.stringOp .add (S ++ bs x) Z).run Tryd.prog W = .ok (.string (S ++ bs x ++ Z)) W := fun W => cat _ _ W (by rw [mu_append]; have := HS.out; have := HZ.out; omega)
           clear hZ))
      all_goals
        go_wp2
        go_ret
        refine ⟨_, ?_, rfl, by first | exact HA2.out | exact aft_drew HA2.out⟩
        rw [mu_append, mu_append]
        have := HS.out
        have := HZ.out
        omega
    · have hd : ((p : Int) == 0) = false := by simpa using h0
      clear h0 hp
      go_wp2
      go_ret
      refine ⟨S, ?_, rfl, HA2.out⟩
      have := HS.out
      omega
  · have hd : decide ((n : Int) ≤ (a : Int)) = true := decide_eq_true (by omega)
    have hd2 : decide (n ≤ a) = true := decide_eq_true (by omega)
    have HT := Lib.hid h
    clear h
    go_enter Tryd.func23, Tryd.ntmps23
    go_wp2_with fail
    go_quiet (fail)
    go_wp2
    go_ret
    refine ⟨_, ?_, rfl, a, Nat.le_refl _, fun h => absurd h ha, ?_, ?_⟩
    · show 1 ≤ _; omega
    · exact HT.out.below (below_drew (Below.refl _ _) _)
    · exact Out.of_below (below_drew (Below.refl _ _) _)

end Go.Proofs.YtpphkaolonjjdaaDoor.Ytext
