/- What the laws' own helpers answer: a number's place among n. -/
import Derived.WalkKit
import Derived.WalkSpells
import Derived.IntWalk
import Derived.Lib.Hide
import Derived.Test.YtmcdefkpkpaceaaGreatDoorProg
import Derived.RangeFuncBox
import Derived.RangeFuncLeaves
import Derived.RangeFuncNested
import Derived.RangeFuncBound
import Derived.RangeFuncCalls
import Derived.Shelf.Abstract
import Derived.OwnWalkIn
import Derived.Deep.AppendLies
import Derived.TacticsInMore
import Derived.Test.YtmcdefkpkpaceaaGreatDoorStrsJ
namespace Go.Proofs.YtmcdefkpkpaceaaGreatDoor.Place
open Go.RowKit

/-- any number as one from 0 to n - 1 -/
def place (v : Int) (n : Nat) : Nat := (v % (n : Int)).toNat
theorem place_lt (v : Int) (n : Nat) (h : 0 < n) : place v n < n := by
  have h1 := Int.emod_nonneg v (b := (n : Int)) (by omega)
  have h2 := Int.emod_lt_of_pos v (b := (n : Int)) (by omega)
  unfold place; omega
theorem place_cast (v : Int) (n : Nat) (h : 0 < n) : ((place v n : Nat) : Int) = v % (n : Int) := by
  have h1 := Int.emod_nonneg v (b := (n : Int)) (by omega)
  unfold place; omega
theorem ret_int {k : IntKind} {a b : Int} (h : a = b) : Ending.returned (.int k a) = .returned (.int k b) := by rw [h]

theorem tmod_two (v n : Int) (hn : 0 < n) : v.tmod n = v % n ∨ v.tmod n = v % n - n := by
  rw [Int.tmod_eq_emod]
  split
  · left; omega
  · right; omega
theorem neg_way (v : Int) (n : Nat) (hn : 0 < n) (hn2 : n ≤ 1000000) (h : v.tmod (n : Int) < 0) : wrap64 (v.tmod (n : Int) + (n : Int)) = ((place v n : Nat) : Int) := by
  have h1 := Int.emod_nonneg v (b := (n : Int)) (by omega)
  have h2 := Int.emod_lt_of_pos v (b := (n : Int)) (by omega)
  have h3 := place_cast v n hn
  rcases tmod_two v (n : Int) (by omega) with e | e
  · omega
  · rw [h3, e, IntWalk.wrap64_in] <;> omega
theorem pos_way (v : Int) (n : Nat) (hn : 0 < n) (h : 0 ≤ v.tmod (n : Int)) : v.tmod (n : Int) = ((place v n : Nat) : Int) := by
  have h2 := Int.emod_lt_of_pos v (b := (n : Int)) (by omega)
  have h3 := place_cast v n hn
  rcases tmod_two v (n : Int) (by omega) with e | e <;> omega

set_option maxHeartbeats 400000 in
/-- a number's place -/
theorem place_is (v : Int) (n : Nat) (w : World) (hn : 0 < n) (hn2 : n ≤ 1000000) (hv : (Lit.int .i64 v).wf = true) :
    Calls Tryz.prog 47 #[.int .i64 v, .int .i64 (n : Int)] w fun e w' => e = .returned (.int .i64 ((place v n : Nat) : Int)) ∧ w = w' := by
  have hvb : -9223372036854775808 ≤ v ∧ v ≤ 9223372036854775807 := by
    simpa [Lit.wf, IntKind.min, IntKind.max, IntKind.signed, IntKind.bits] using hv
  have hn0 : ((n : Int) == 0) = false := by simp; omega
  have HP := Lib.hid (place_cast v n hn)
  obtain ⟨hv1, hv2⟩ := hvb
  by_cases h0 : 0 ≤ v
  · have h1 := Int.emod_nonneg v (b := (n : Int)) (by omega)
    have h2 : ¬ v % (n : Int) < 0 := by omega
    go_enter Tryz.func47, Tryz.ntmps47
    go_wp2
    go_ret
    exact ⟨ret_int HP.out.symm, rfl⟩
  · by_cases h2 : v.tmod (n : Int) < 0
    · have HQ := Lib.hid (neg_way v n hn hn2 h2)
      go_enter Tryz.func47, Tryz.ntmps47
      go_wp2
      go_ret
      exact ⟨ret_int HQ.out, rfl⟩
    · have HQ := Lib.hid (pos_way v n hn (by omega))
      go_enter Tryz.func47, Tryz.ntmps47
      go_wp2
      go_ret
      exact ⟨ret_int HQ.out, rfl⟩

end Go.Proofs.YtmcdefkpkpaceaaGreatDoor.Place

/- A range over a function whose iterator has cells of its own: a law; no program is named here. -/
namespace Go.Proofs.YtmcdefkpkpaceaaGreatDoor.Range
open Go Go.RowKit

/-- of what lay there only blocks of X may have changed -/
structure Out (X : List Nat) (w w' : World) : Prop where
  os : w'.os = w.os
  tape : w'.tape = w.tape
  output : w'.output = w.output
  size : w.heap.size ≤ w'.heap.size
  block : ∀ k, k < w.heap.size → k ∉ X → w'.heap[k]? = w.heap[k]?
theorem Out.of_below {X : List Nat} {w w' : World} (h : Below w.heap.size w w') : Out X w w' := ⟨h.os, h.tape, h.output, h.size, fun k hk _ => h.block k hk⟩
theorem Out.setCell {X : List Nat} (w : World) {p : Addr} (h : p.block ∈ X) (v : Value) : Out X w (w.setCell p v) :=
  ⟨rfl, rfl, rfl, by simp [World.setCell], fun k _ hk => Below.heap_setCell _ _ _ _ (fun e => hk (by rw [e]; exact h))⟩
theorem Out.trans {X : List Nat} {a b c : World} (h : Out X a b) (k : Out X b c) : Out X a c :=
  ⟨k.os.trans h.os, k.tape.trans h.tape, k.output.trans h.output, Nat.le_trans h.size k.size, fun i hi hn => (k.block i (Nat.lt_of_lt_of_le hi h.size) hn).trans (h.block i hi hn)⟩

/-- the iterator's contract: its own blocks are X; what lies elsewhere it leaves as it is -/
def SeqOwn {α : Type} (F : Fence) (n : Nat) (P : Program) (g : Nat) (lb : Array Value) (encs : α → Array Value) (Kp : World → World → Prop) (S : List α → Prop) (N : Nat) (w : World) : Prop :=
  ∀ (l : Nat) (J : List α → List Nat → World → Prop) (W : World), Below w.heap.size w W →
    (∀ s X A B, J s X A → Out X A B → J s X B) → (∀ s X A o, J s X A → J s (A.heap.size :: X) (A.alloc o)) →
    (∀ pre X x W1, J pre X W1 → pre.length < N → YieldAt F (n - 1) P l (encs x) W1 fun e W' => e = .returned (.bool true) ∧ J (pre ++ [x]) X W' ∧ Kp W1 W' ∧ ∀ k ∈ X, W'.heap[k]? = W1.heap[k]?) →
    J [] [] W →
    CallsIn F n P g (#[.func (.yield l) #[] #[]] ++ lb) W fun e W' => (∃ v, e = .returned v) ∧ ∃ xs X, S xs ∧ J xs X W'

/-- how a round's body ends -/
def bodyOwn {α : Type} (B : Nat) (Kp : World → World → Prop) (I : List α → List Nat → World → Prop) (xs : List α) (X : List Nat) (W : World) : Exit → Act → World → Prop
  | .normal, _, W' => KeepsFrom B W W' ∧ Kp W W' ∧ (∀ k ∈ X, W'.heap[k]? = W.heap[k]?) ∧ I xs X W'
  | _, _, _ => False

variable {F : Fence} {n : Nat} {P : Program} {w : World}

/-- the loop, its body never left early -/
theorem range_own {α : Type} {g : Operand} {ps : Array Tmp} {assign body : Code} {Q : Exit → Act → World → Prop} {a : Act}
    (hro : F.round = none) (h1 : 1 ≤ n) {gf : Nat} {lb : Array Value} (hg : a.eval g = .func (.func gf) #[] lb) (hFg : F.fn gf) (eg : ∀ args w, (callFunc gf args).run P w = .ok (.enter gf args) w)
    {encs : α → Array Value} {Kp : World → World → Prop} {S : List α → Prop} {N : Nat} {w0 : World} (hseq : SeqOwn F (n - 1) P gf lb encs Kp S N w0)
    (hKt : ∀ {A B C : World}, Kp A B → Kp B C → Kp A C) (hKb : ∀ (A : World) (l : Nat) (o o' : Obj), w.heap.size ≤ l → A.heap[l]? = some o → o.isCells = false → Kp A (A.putObj l o')) (hb0 : Below w0.heap.size w0 w) (hps : ∀ x, (encs x).size = ps.size)
    (I : List α → List Nat → World → Prop) (hI : ∀ s X A B, I s X A → Out X A B → I s X B) (hN : ∀ s X A o, I s X A → I s (A.heap.size :: X) (A.alloc o))
    (hP : ∀ s X A l o o', I s X A → w.heap.size ≤ l → l < w.heap.size + 2 → A.heap[l]? = some o → o.isCells = false → I s X (A.putObj l o')) (h0 : I [] [] w)
    (Ax : α → Act → World → Prop) (hAP : ∀ x a' A l o o', Ax x a' A → w.heap.size ≤ l → l < w.heap.size + 2 → A.heap[l]? = some o → o.isCells = false → Ax x a' (A.putObj l o'))
    (hassign : ∀ (l : Nat) (pre : List α) (X : List Nat) (x : α) (W : World) (K : Act → World → Prop), w.heap.size + 2 ≤ W.heap.size → (∀ k ∈ X, w.heap.size + 2 ≤ k ∧ k < W.heap.size) → I pre X W →
      (∀ a' W', KeepsFrom w.heap.size W W' → Kp W W' → (∀ k ∈ X, W'.heap[k]? = W.heap[k]?) → I pre X W' → Ax x a' W' → K a' W') →
      assign.wpIn (F.inRound l) (n - 1 - 1) P (Exit.then K (fun _ _ _ => False)) { tmps := (ps.zip (encs x)).foldl (fun t (p, v) => t.setIfInBounds p v) a.tmps, defers := [] } W)
    (hbody : ∀ (l : Nat) (pre : List α) (X : List Nat) (x : α) (a' : Act) (W : World), w.heap.size + 2 ≤ W.heap.size → (∀ k ∈ X, w.heap.size + 2 ≤ k ∧ k < W.heap.size) → I pre X W → Ax x a' W → pre.length < N → body.wpIn (F.inRound l) (n - 1 - 1) P (bodyOwn w.heap.size Kp I (pre ++ [x]) X W) a' W)
    (hdone : ∀ (D : Nat) (xs : List α) (X : List Nat) (W : World), w.heap.size ≤ D → S xs → I xs X W → W.heap[D]? = some (.deferred (some [])) → Q .normal { a with defers := { target := .collected D, args := #[] } :: a.defers } W) :
    (Code.rangeFunc g ps assign body).wpIn F n P Q a w := by
  refine wpIn_rangeFunc ?_
  intro fn hfn
  rw [hro]
  obtain ⟨mk, hmk⟩ : ∃ mk : LoopState → Option Code → Loop, mk = fun st pe => { state := st, pending := pe, fn, tmps := a.tmps, params := ps, assign, body, defers := w.heap.size } := ⟨_, rfl⟩
  obtain ⟨W1, hW1⟩ : ∃ W1, (w.alloc (.deferred (some []))).alloc (.loop (mk .ready none)) = W1 := ⟨_, rfl⟩
  have hs1 : W1.heap.size = w.heap.size + 2 := by rw [← hW1]; simp
  have r1 : W1.heap[w.heap.size + 1]? = some (.loop (mk .ready none)) := by
    rw [← hW1]; have := World.alloc_heap_new (w.alloc (.deferred (some []))) (.loop (mk .ready none)); rwa [World.size_alloc] at this
  have d1 : W1.heap[w.heap.size]? = some (.deferred (some [])) := by
    rw [← hW1]; exact (Below.heap_alloc _ _ _ (by simp)).trans (World.alloc_heap_new w _)
  have i1 : I [] [] W1 := hI _ _ _ _ h0 (Out.of_below (by rw [← hW1]; exact ((Below.refl _ w).alloc (Nat.le_refl _) _).alloc (by simp) _))
  have b1 : Below w0.heap.size w0 W1 := by
    rw [← hW1]; exact hb0.trans ((((Below.refl _ w).alloc (Nat.le_refl _) _).alloc (by simp) _).mono hb0.size)
  refine ⟨w.heap.size + 1, [{ target := .collected w.heap.size, args := #[] }], W1, { target := .fn (.func gf) lb, args := #[.func (.yield (w.heap.size + 1)) #[] #[]] }, W1, gf,
    #[.func (.yield (w.heap.size + 1)) #[] #[]] ++ lb, W1, ?_, ?_, ?_, ?_, fun _ => h1, ?_⟩
  · rw [← hW1, hmk]; exact run_enterLoop_outer _ _ _ _ _
  · simp only [resolve, hg]; simp [go_sem]
  · intro f' hf'; simp [Target.leads] at hf'; subst hf'; exact hFg
  · simp [invoke, go_sem, eg]
  · refine (hseq (w.heap.size + 1)
      (fun pre X W => (I pre X W ∧ W.heap[w.heap.size + 1]? = some (.loop (mk .ready none)) ∧ W.heap[w.heap.size]? = some (.deferred (some []))) ∧ ∀ k ∈ X, w.heap.size + 2 ≤ k ∧ k < W.heap.size)
      W1 b1 ?_ ?_ ?_ ⟨⟨i1, r1, d1⟩, fun k hk => absurd hk (by simp)⟩).mono ?_
    · rintro s X A B ⟨⟨hi, hr, hd⟩, hx⟩ ho
      refine ⟨⟨hI _ _ _ _ hi ho, (ho.block _ (Array.getElem?_eq_some_iff.1 hr).1 (fun e => ?_)).trans hr, (ho.block _ (Array.getElem?_eq_some_iff.1 hd).1 (fun e => ?_)).trans hd⟩, fun k hk => ⟨(hx k hk).1, Nat.lt_of_lt_of_le (hx k hk).2 ho.size⟩⟩
      · have := (hx _ e).1; omega
      · have := (hx _ e).1; omega
    · rintro s X A o ⟨⟨hi, hr, hd⟩, hx⟩
      have l1 := (Array.getElem?_eq_some_iff.1 hr).1
      refine ⟨⟨hN _ _ _ _ hi, (Below.heap_alloc _ _ _ l1).trans hr, (Below.heap_alloc _ _ _ (by omega)).trans hd⟩, fun k hk => ?_⟩
      rw [World.size_alloc]
      rcases List.mem_cons.1 hk with rfl | hk
      · exact ⟨by omega, by omega⟩
      · have := hx k hk; exact ⟨this.1, by omega⟩
    · rintro pre X x W ⟨⟨hi, hl, hk⟩, hx⟩ hlen
      have hlt : w.heap.size + 1 < W.heap.size := (Array.getElem?_eq_some_iff.1 hl).1
      have hy := run_yield (P := P) (args := encs x) hl (by rw [hmk]; exact hps x)
      rw [hmk] at hy
      refine ⟨fn, _, assign, body, hy, roundIn_of_wpIn hfn (hassign _ pre X x W _ (by omega) hx hi ?_)⟩
      clear hy
      intro a' Wa hka hba hxa hia hax
      have hla := hka.same _ _ (by omega) hl rfl
      have hda := hka.same _ _ (Nat.le_refl _) hk rfl
      have hlta : w.heap.size + 1 < Wa.heap.size := (Array.getElem?_eq_some_iff.1 hla).1
      refine ⟨_, run_beginRound hla (by rw [hmk]), ?_⟩
      have hl2 : (Wa.putObj (w.heap.size + 1) (.loop { mk .ready none with state := .busy })).heap[w.heap.size + 1]? = some (.loop { mk .ready none with state := .busy }) := World.putObj_heap_same hlta
      have hk2 : (Wa.putObj (w.heap.size + 1) (.loop { mk .ready none with state := .busy })).heap[w.heap.size]? = some (.deferred (some [])) := (World.putObj_heap_other (by omega)).trans hda
      have hsz : (Wa.putObj (w.heap.size + 1) (.loop { mk .ready none with state := .busy })).heap.size = Wa.heap.size := by simp [World.putObj]
      have hsa := hka.size
      refine wpIn_mono (hbody _ pre X x a' _ (by rw [hsz]; omega) (fun k hk => by rw [hsz]; have := hx k hk; exact ⟨this.1, by omega⟩) (hP _ _ _ _ _ _ hia (by omega) (by omega) hla rfl) (hAP _ _ _ _ _ _ hax (by omega) (by omega) hla rfl) hlen) ?_
      rintro e a3 W3 hp
      cases e with
      | normal =>
        obtain ⟨hk3, hb3, hx3, hi3⟩ := hp
        have hl3 := hk3.same _ _ (by omega) hl2 rfl
        have hd3 := hk3.same _ _ (Nat.le_refl _) hk2 rfl
        have hr := run_endRound (P := P) none hl3
        have hlt3 := (Array.getElem?_eq_some_iff.1 hl3).1
        rw [hmk] at hr hl3
        refine ⟨_, _, hr, rfl, ⟨⟨hP _ _ _ _ _ _ hi3 (by omega) (by omega) hl3 rfl, ?_, (World.putObj_heap_other (by omega)).trans hd3⟩, fun k hk => ?_⟩, ?_, fun k hk => ?_⟩
        · rw [hmk]; exact World.putObj_heap_same hlt3
        · have := (hx k hk)
          have h4 := hk3.size
          rw [hsz] at h4
          exact ⟨this.1, by simp [World.putObj]; omega⟩
        · exact hKt (hKt (hKt hba (hKb _ _ _ _ (by omega) hla rfl)) hb3) (hKb _ _ _ _ (by omega) hl3 rfl)
        · have := (hx k hk).1
          rw [World.putObj_heap_other (by omega), hx3 k hk, World.putObj_heap_other (by omega), hxa k hk]
      | ret => exact hp.elim
      | exit id => exact hp.elim
      | goto t => exact hp.elim
      | panic ch => exact hp.elim
      | outgrown => exact hp.elim
    · rintro e W2 ⟨⟨v, rfl⟩, xs, X, hS, ⟨hi, hl, hk⟩, hx⟩
      exact ⟨none, _, by have := run_endLoop (P := P) hl (by rw [hmk]; simp); rw [hmk] at this; exact this, hdone _ xs X _ (Nat.le_refl _) hS (hP _ _ _ _ _ _ hi (by omega) (by omega) hl rfl) ((World.putObj_heap_other (by omega)).trans hk)⟩

/-- an append in a round, and where the new row lies -/
theorem round_append {ops : Array Oper} {rest : List Oper} {o : Oper} {a : Act} {Q : Exit → Act → World → Prop} (hg : o.guard = none) (s x : Operand) (t : TypeId)
    (hop : o.op = .call { callee := .builtin .append, args := #[s, x], argTypes := #[t, t] }) (base : Nat) (e : TypeId) (i : TypeInfo) (z : Value) (size bytes : Nat) (h1 : P.underlying t = some (.slice e)) (h2 : P.info? e = some i) (h3 : i.zero = some z)
    (h4 : i.size = size) (h5 : i.bytes = bytes) (h6 : z.cells.size = size) (h7 : 0 < size) (v : Value) (k : Nat) (xs : List Value) (hs : a.eval s = v) (hown : w.ownsRow base e size v k xs) (ad : Addr) (m c : Nat) (news : List Value)
    (hx : a.eval x = .slice (some ad) m c) (hl : news.length = m * size) (hc : ∀ j u, news[j]? = some u → w.cell? (ad.add j) = some u) (h8 : ∀ u ∈ news, u.oneCell' = true) (hm : 0 < m) (b1 : k + m ≤ maxLen) (b2 : (k + m) * bytes ≤ 140737488355328)
    (b3 : base ≤ w.heap.size) (H : Nat) (hH : w.heap.size = H)
    (hK : ∀ g cap w', w'.ownsRow base e size (.slice (some ⟨g, 0, none⟩) (k + m) cap) (k + m) (xs ++ news) → w.grownBy w' v.ownBlock → (v.ownBlock = some g ∨ g = H) → g < w'.heap.size → wpListIn F n P ops Q rest (a.put o.dst (.slice (some ⟨g, 0, none⟩) (k + m) cap)) w') :
    wpListIn F n P ops Q (o :: rest) a w := by
  refine wpListIn_plain hg fun K hK' => ?_
  obtain ⟨g, cap, w', hrun, r1, r2, r3, r4⟩ := run_append_lies (P := P) w t o.type base e i z size bytes h1 h2 h3 h4 h5 h6 h7 v k xs hown ad m c news hl hc h8 hm b1 b2 b3 H hH
  unfold Oper.wpIn
  refine ⟨by simp [Oper.about, hop, resolve, Target.leads, Sem.run_pure], ?_⟩
  rw [Oper.semAt_plain F _ _ (by rw [hop]; intro c' hc'; cases hc')]
  simp [execOp, hop, resolve, invoke, builtin, hs, hx, hrun, Result.andThen]
  exact hK' _ _ (hK g cap w' r1 r2 r3 r4)

theorem own_out {X : List Nat} {A B : World} {base : Nat} {e : TypeId} {size : Nat} {v : Value} {k : Nat} {xs : List Value} (h : A.ownsRow base e size v k xs) (ho : Out X A B) (hX : ∀ g, v.ownBlock = some g → g ∉ X) : B.ownsRow base e size v k xs := by
  rcases h.2 with h0 | ⟨g, cap, cur, rfl, hb, hg, r⟩
  · exact ⟨h.1, .inl h0⟩
  · exact ⟨h.1, .inr ⟨g, cap, cur, rfl, hb, (ho.block g (Array.getElem?_eq_some_iff.1 hg).1 (hX g rfl)).trans hg, r⟩⟩

end Go.Proofs.YtmcdefkpkpaceaaGreatDoor.Range

/- What the laws' own helper answers: a number's word. -/
namespace Go.Proofs.YtmcdefkpkpaceaaGreatDoor.Twrd
open Go.RowKit Go.Proofs.YtmcdefkpkpaceaaGreatDoor.Pure Go.Proofs.YtmcdefkpkpaceaaGreatDoor.Place

def wordList : List (List UInt8) := [[97], [98], [99], [97, 46, 99], [98, 46, 99], [120, 46, 111], [100, 105, 114, 47, 97, 46, 99], [46, 46, 47, 117, 112], [50], [45, 49], [102, 111, 111], [102, 111, 111, 46, 98, 97, 114, 46, 99], [108, 105, 98, 37], [97, 37, 98], [49, 48], [122]]
def wordAt (p : Nat) : ByteArray := bs (wordList.getD p [])

set_option maxHeartbeats 400000 in
theorem index_word (p : Nat) (hp : p < 16) (W : World) : (Instr.index 142 (.agg #[.string ⟨#[97]⟩, .string ⟨#[98]⟩, .string ⟨#[99]⟩, .string ⟨#[97, 46, 99]⟩, .string ⟨#[98, 46, 99]⟩, .string ⟨#[120, 46, 111]⟩, .string ⟨#[100, 105, 114, 47, 97, 46, 99]⟩, .string ⟨#[46, 46, 47, 117, 112]⟩, .string ⟨#[50]⟩, .string ⟨#[45, 49]⟩, .string ⟨#[102, 111, 111]⟩, .string ⟨#[102, 111, 111, 46, 98, 97, 114, 46, 99]⟩, .string ⟨#[108, 105, 98, 37]⟩, .string ⟨#[97, 37, 98]⟩, .string ⟨#[49, 48]⟩, .string ⟨#[122]⟩]) (.int .i64 (p : Int))).run Tryz.prog W = .ok (.string (wordAt p)) W := by
  have h : p = 0 ∨ p = 1 ∨ p = 2 ∨ p = 3 ∨ p = 4 ∨ p = 5 ∨ p = 6 ∨ p = 7 ∨ p = 8 ∨ p = 9 ∨ p = 10 ∨ p = 11 ∨ p = 12 ∨ p = 13 ∨ p = 14 ∨ p = 15 := by omega
  rcases h with rfl | rfl | rfl | rfl | rfl | rfl | rfl | rfl | rfl | rfl | rfl | rfl | rfl | rfl | rfl | rfl <;> (show _ = _; kernel_rfl)

set_option maxHeartbeats 400000 in
theorem word_core (v : Int) (p : Nat) (w : World) (hp : p < 16) (hP : ∀ W : World, Calls Tryz.prog 47 #[.int .i64 v, .int .i64 16] W fun e w' => e = .returned (.int .i64 (p : Int)) ∧ W = w') :
    Calls Tryz.prog 59 #[.int .i64 v] w fun e w' => e = .returned (.string (wordAt p)) ∧ w = w' := by
  have hix := index_word p hp
  go_enter Tryz.func59, Tryz.ntmps59
  go_wp2_with fail
  refine (hP _).mono ?_
  rintro e w' ⟨rfl, rfl⟩
  go_wp2
  go_ret
  exact ⟨rfl, rfl⟩
theorem word_is (v : Int) (w : World) (hv : (Lit.int .i64 v).wf = true) :
    Calls Tryz.prog 59 #[.int .i64 v] w fun e w' => e = .returned (.string (wordAt (place v 16))) ∧ w = w' :=
  word_core v (place v 16) w (place_lt v 16 (by omega)) (fun W => place_is v 16 W (by omega) (by omega) hv)

/-- a number's word, of at most 9 bytes -/
theorem word_len (v : Int) (hv : (Lit.int .i64 v).wf = true) :
    ∃ l : List UInt8, l.length ≤ 9 ∧ ∀ W, Calls Tryz.prog 59 #[.int .i64 v] W fun e w' => e = .returned (.string (bs l)) ∧ W = w' := by
  refine ⟨wordList.getD (place v 16) [], ?_, fun W => word_is v W hv⟩
  have h : (wordList.all fun x => decide (x.length ≤ 9)) = true := by kernel_rfl
  have hp : place v 16 < wordList.length := place_lt v 16 (by omega)
  rw [List.getD_eq_getElem?_getD, List.getElem?_eq_getElem hp]
  exact of_decide_eq_true (List.all_eq_true.1 h _ (List.getElem_mem hp))

end Go.Proofs.YtmcdefkpkpaceaaGreatDoor.Twrd
