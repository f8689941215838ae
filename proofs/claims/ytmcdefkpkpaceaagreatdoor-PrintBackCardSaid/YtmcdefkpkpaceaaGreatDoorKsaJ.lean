/- Two expansions held against each other by pairs of lists that are still to be held (no program). -/
import Derived.Test.YtmcdefkpkpaceaaGreatDoorKplJ
import Derived.OwnWalk
import Derived.Deep.AppendLies
import Derived.Deep.QuietTactic
import Derived.BigQuiet
import Derived.Test.YtmcdefkpkpaceaaGreatDoorKknJ
namespace Go.Proofs.YtmcdefkpkpaceaaGreatDoor.Ksa
open Go.Proofs.YtmcdefkpkpaceaaGreatDoor.Spl Go.Proofs.YtmcdefkpkpaceaaGreatDoor.Nz Go.Proofs.YtmcdefkpkpaceaaGreatDoor.Kpl

abbrev Pr := List Nz × List Nz
/-- what one pair of nodes lays down -/
def one : Nz → Nz → List Pr
  | .mk _ _ m, .mk _ _ m' => if m = [] then [] else [(m, m')]
def qof : List Nz → List Nz → List Pr
  | x :: r, y :: r' => one x y ++ qof r r'
  | _, _ => []
/-- alike but for what is below -/
def top : Nz → Nz → Prop
  | .mk k s m, .mk k' s' m' => k = k' ∧ s = s' ∧ m.length = m'.length
theorem qof_app : ∀ (a b a' b' : List Nz), a.length = a'.length → qof (a ++ b) (a' ++ b') = qof a a' ++ qof b b'
  | [], b, [], b', _ => rfl
  | x :: r, b, y :: r', b', h => by
    rw [List.cons_append, List.cons_append, qof, qof, qof_app r b r' b' (by simpa using h), List.append_assoc]
  | [], _, _ :: _, _, h => by simp at h
  | _ :: _, _, [], _, h => by simp at h
theorem qof_snoc {l l' : List Nz} {j : Nat} {x y : Nz} (h : l[j]? = some x) (h' : l'[j]? = some y) : qof (l.take (j + 1)) (l'.take (j + 1)) = qof (l.take j) (l'.take j) ++ one x y := by
  have h1 := (List.getElem?_eq_some_iff.1 h).1
  have h2 := (List.getElem?_eq_some_iff.1 h').1
  rw [take_snoc h, take_snoc h', qof_app _ _ _ _ (by rw [List.length_take, List.length_take]; omega)]
  congr 1
  show one x y ++ qof [] [] = _
  exact List.append_nil _
def sumS : List Pr → Nat
  | [] => 0
  | p :: r => sizs p.1 + sumS r
def sumL : List Pr → Nat
  | [] => 0
  | p :: r => p.1.length + sumL r
theorem sumS_app : ∀ a b, sumS (a ++ b) = sumS a + sumS b
  | [], b => by rw [List.nil_append, sumS, Nat.zero_add]
  | p :: r, b => by rw [List.cons_append, sumS, sumS, sumS_app r b, Nat.add_assoc]
theorem sumL_app : ∀ a b, sumL (a ++ b) = sumL a + sumL b
  | [], b => by rw [List.nil_append, sumL, Nat.zero_add]
  | p :: r, b => by rw [List.cons_append, sumL, sumL, sumL_app r b, Nat.add_assoc]
theorem sumS_one (k : Int) (s : T) (m : List Nz) (y : Nz) : sumS (one (.mk k s m) y) = sizs m := by
  obtain ⟨k', s', m'⟩ := y
  rw [one]
  split
  · rename_i h; rw [h]; rfl
  · rw [sumS, sumS, Nat.add_zero]
theorem sumL_one (k : Int) (s : T) (m : List Nz) (y : Nz) : sumL (one (.mk k s m) y) = m.length := by
  obtain ⟨k', s', m'⟩ := y
  rw [one]
  split
  · rename_i h; rw [h]; rfl
  · rw [sumL, sumL, Nat.add_zero]
theorem sumS_qof : ∀ (l l' : List Nz), l.length = l'.length → sumS (qof l l') + l.length = sizs l
  | [], [], _ => rfl
  | .mk k s m :: r, y :: r', h => by
    have := sumS_qof r r' (by simpa using h)
    rw [qof, sumS_app, sumS_one, sizs, siz, List.length_cons]; omega
  | [], _ :: _, h => by simp at h
  | _ :: _, [], h => by simp at h
theorem sumL_le : ∀ p : List Pr, sumL p ≤ sumS p
  | [] => Nat.le_refl _
  | q :: r => by
    have := sumL_le r
    have := sizs_len q.1
    rw [sumL, sumS]; omega
def AllEq (p : List Pr) : Prop := ∀ q ∈ p, q.1 = q.2
theorem allEq_app {a b : List Pr} : AllEq (a ++ b) ↔ AllEq a ∧ AllEq b := by
  unfold AllEq
  constructor
  · intro h
    exact ⟨fun q hq => h q (List.mem_append_left _ hq), fun q hq => h q (List.mem_append_right _ hq)⟩
  · rintro ⟨h1, h2⟩ q hq
    rcases List.mem_append.1 hq with hq | hq
    · exact h1 q hq
    · exact h2 q hq
theorem allEq_one {x y : Nz} (h : top x y) : AllEq (one x y) ↔ x = y := by
  obtain ⟨k, s, m⟩ := x
  obtain ⟨k', s', m'⟩ := y
  obtain ⟨rfl, rfl, h3⟩ := h
  rw [one]
  split
  · rename_i hm
    subst hm
    have : m' = [] := List.eq_nil_of_length_eq_zero h3.symm
    subst this
    exact ⟨fun _ => rfl, fun _ q hq => by cases hq⟩
  · constructor
    · intro h
      have := h (m, m') (List.mem_singleton_self _)
      rw [show m = m' from this]
    · intro e q hq
      injection e with _ _ e
      rw [List.mem_singleton] at hq
      rw [hq]; exact e
theorem allEq_qof : ∀ {l l' : List Nz}, l.length = l'.length → (∀ (j : Nat) (x y : Nz), l[j]? = some x → l'[j]? = some y → top x y) → (AllEq (qof l l') ↔ l = l')
  | [], [], _, _ => ⟨fun _ => rfl, fun _ q hq => by cases hq⟩
  | x :: r, y :: r', h, ht => by
    have h1 := allEq_one (ht 0 x y rfl rfl)
    have h2 := allEq_qof (l := r) (l' := r') (by simpa using h) fun j a b ha hb => ht (j + 1) a b (by simpa using ha) (by simpa using hb)
    rw [qof, allEq_app, h1, h2]
    constructor
    · rintro ⟨rfl, rfl⟩; rfl
    · intro e
      injection e with e1 e2
      exact ⟨e1, e2⟩
  | [], _ :: _, h, _ => by simp at h
  | _ :: _, [], h, _ => by simp at h

end Go.Proofs.YtmcdefkpkpaceaaGreatDoor.Ksa

/- The program's walk of two expansions: what it holds; two lists laid down. -/
namespace Go.Proofs.YtmcdefkpkpaceaaGreatDoor.Ksb
open Go Go.RowKit Go.Proofs.YtmcdefkpkpaceaaGreatDoor.Spl Go.Proofs.YtmcdefkpkpaceaaGreatDoor.Nodm Go.Proofs.YtmcdefkpkpaceaaGreatDoor.Nz Go.Proofs.YtmcdefkpkpaceaaGreatDoor.Qwhole Go.Proofs.YtmcdefkpkpaceaaGreatDoor.Kpl Go.Proofs.YtmcdefkpkpaceaaGreatDoor.Kkd Go.Proofs.YtmcdefkpkpaceaaGreatDoor.Kru Go.Proofs.YtmcdefkpkpaceaaGreatDoor.Ksa
open Go.Proofs.YtmcdefkpkpaceaaGreatDoor.Pure (bs)

/-- cells of pairs -/
def flat (T : List (Value × Value)) : List Value := T.flatMap fun x => [x.1, x.2]
theorem flat_len : ∀ T, (flat T).length = T.length * 2
  | [] => rfl
  | x :: r => by
    have := flat_len r
    unfold flat at *
    rw [List.flatMap_cons, List.length_append, this]
    show 2 + r.length * 2 = (r.length + 1) * 2
    omega
theorem flat_app (a b : List (Value × Value)) : flat (a ++ b) = flat a ++ flat b := List.flatMap_append
/-- a pair of slices that hold two lists -/
def PairOk (S : Nat → Prop) (w0 : World) (x : Value × Value) (p : Pr) : Prop :=
  ∃ A c A' c', x = (.slice A p.1.length c, .slice A' p.2.length c') ∧ NzsIn S w0 A c p.1 ∧ NzsIn S w0 A' c' p.2 ∧ p.1.length = p.2.length ∧ 0 < p.1.length
def PairsOk (S : Nat → Prop) (w0 : World) : List (Value × Value) → List Pr → Prop
  | [], [] => True
  | x :: r, p :: q => PairOk S w0 x p ∧ PairsOk S w0 r q
  | _, _ => False
theorem pairs_len {S : Nat → Prop} {w0 : World} : ∀ {T : List (Value × Value)} {P : List Pr}, PairsOk S w0 T P → T.length = P.length
  | [], [], _ => rfl
  | x :: r, p :: q, h => by rw [List.length_cons, List.length_cons, pairs_len h.2]
  | [], _ :: _, h => h.elim
  | _ :: _, [], h => h.elim
theorem pairs_snoc {S : Nat → Prop} {w0 : World} : ∀ {T : List (Value × Value)} {P : List Pr} {x : Value × Value} {p : Pr}, PairsOk S w0 T P → PairOk S w0 x p → PairsOk S w0 (T ++ [x]) (P ++ [p])
  | [], [], _, _, _, h => ⟨h, trivial⟩
  | _ :: _, _ :: _, _, _, h, h' => ⟨h.1, pairs_snoc h.2 h'⟩
  | [], _ :: _, _, _, h, _ => h.elim
  | _ :: _, [], _, _, h, _ => h.elim
theorem pairs_last {S : Nat → Prop} {w0 : World} : ∀ {T : List (Value × Value)} {P : List Pr}, PairsOk S w0 T P → 0 < T.length → ∃ T' x P' p, T = T' ++ [x] ∧ P = P' ++ [p] ∧ PairsOk S w0 T' P' ∧ PairOk S w0 x p
  | [x], [p], h, _ => ⟨[], x, [], p, rfl, rfl, trivial, h.1⟩
  | x :: y :: r, p :: q, h, _ => by
    obtain ⟨T', z, P', t, h1, h2, h3, h4⟩ := pairs_last h.2 (by simp)
    exact ⟨x :: T', z, p :: P', t, by rw [h1]; rfl, by rw [h2]; rfl, ⟨h.1, h3⟩, h4⟩
  | [], _, _, h => by simp at h
  | _ :: _, [], h, _ => h.elim
  | [_], _ :: _ :: _, h, _ => h.2.elim

/-- the walk in block sb: the pairs T, so many nodes laid -/
structure Ws (X : Nat → Prop) (B sb : Nat) (T : List (Value × Value)) (laid : Nat) (W : World) : Prop where
  ge : B ≤ sb
  st : ∃ v m, W.heap[sb]? = some (.cells #[v, .int .i64 (laid : Int), m] 88) ∧ W.ownsRow B 121 2 v T.length (flat T) ∧ ∀ k, X k → k < W.heap.size ∧ k ≠ sb ∧ v.ownBlock ≠ some k
theorem infoPair : (Tryz.prog.info? 121).map (fun i => (i.zero, i.size, i.bytes)) = some (some (.agg #[.slice none 0 0, .slice none 0 0]), 2, 48) := by kernel_rfl

set_option maxRecDepth 100000 in
set_option maxHeartbeats 4000000 in
/-- nothing in them: nothing is laid down -/
theorem ask_none (sb : Nat) (A : Option Addr) (c : Nat) (b : Value) (w : World) :
    Calls Tryz.prog 34 #[.pointer (some ⟨sb, 0, none⟩), .slice A 0 c, b] w fun e W' => e = .returned (.tuple #[]) ∧ W' = w := by
  go_enter Tryz.func34, Tryz.ntmps34
  go_wp2
  exact bodyPost_ret (v := .tuple #[]) (by simp [results, Tryz.results34, go_sem]) rfl ⟨rfl, rfl⟩

theorem two_new (w : World) (x y : Value) (t : TypeId) : ∀ (j : Nat) (u : Value), [x, y][j]? = some u → (w.alloc (.cells #[x, y] t)).cell? ((⟨w.heap.size, 0, none⟩ : Addr).add j) = some u := by
  intro j u hu
  obtain ⟨h0, h1⟩ := two_cells (heap_alloc_new w (.cells #[x, y] t))
  match j, hu with
  | 0, hu => cases hu; rw [addr_add]; exact h0
  | 1, hu => cases hu; rw [addr_add]; exact h1
theorem own_not {W : World} {B e sz n sb : Nat} {v : Value} {xs : List Value} {cs : Array Value} {t : TypeId} {fr : Nat × Nat} (h : W.ownsRow B e sz v n xs) (hg : W.heap[sb]? = some (.cells cs t fr)) (ht : t ≠ e) : v.ownBlock ≠ some sb := by
  rcases h.2 with ⟨rfl, _⟩ | ⟨g, cap, cur, rfl, _, hg', _⟩
  · intro h; cases h
  · intro h
    have : g = sb := by simpa [Value.ownBlock] using h
    subst this
    rw [hg'] at hg
    simp only [Option.some.injEq, Obj.cells.injEq] at hg
    exact ht hg.2.1.symm
theorem own_keep {W W' : World} {B e sz n : Nat} {v : Value} {xs : List Value} (h : W.ownsRow B e sz v n xs) (hk : ∀ g, v.ownBlock = some g → W'.heap[g]? = W.heap[g]?) : W'.ownsRow B e sz v n xs := by
  refine ⟨h.1, ?_⟩
  rcases h.2 with h0 | ⟨g, cap, cu, rfl, hB, hg, hr⟩
  · exact .inl h0
  · exact .inr ⟨g, cap, cu, rfl, hB, (hk g rfl).trans hg, hr⟩

set_option maxRecDepth 100000 in
set_option maxHeartbeats 4000000 in
theorem ask_some (X : Nat → Prop) (B sb : Nat) (T : List (Value × Value)) (laid : Nat) (A A' : Option Addr) (q c c' : Nat) (w : World) (h : Ws X B sb T laid w) (hB : B ≤ w.heap.size) (hl : laid ≤ 131072) (hT : T.length ≤ 200000) (hq0 : 0 < q) (hq : q ≤ 1099511627776) :
    Calls Tryz.prog 34 #[.pointer (some ⟨sb, 0, none⟩), .slice A q c, .slice A' q c'] w fun e W' => e = .returned (.tuple #[]) ∧ Ws X B sb (T ++ [(.slice A q c, .slice A' q c')]) (laid + q) W' ∧ Below B w W' ∧ ∀ k, X k → W'.heap[k]? = w.heap[k]? := by
  obtain ⟨v, m, hg, hown, hX⟩ := h.st
  have HX := Lib.hid hX
  have hgX : ∀ k, X k → k ≠ sb := fun k hk => (hX k hk).2.1
  have HgX := Lib.hid hgX
  clear hX hgX
  have hge := h.ge
  obtain ⟨i0, hi, hz0, hz1, hz2⟩ := info_parts infoPair
  have hq1 : ((q : Int) == 0) = false := by rw [beq_eq_false_iff_ne]; omega
  have hd : decide ((131072 : Int) < (laid : Int)) = false := decide_eq_false (by omega)
  have hd2 : decide (131072 < laid) = false := decide_eq_false (by omega)
  obtain ⟨a0, a1, a2⟩ := cells_three hg
  have f0 := Lib.frozen_of_heap hg 0
  have f1 := Lib.frozen_of_heap hg 1
  obtain ⟨z, hz⟩ : ∃ z, z = laid + q := ⟨_, rfl⟩
  have v1 : IntKind.i64.wrap ((laid : Int) + (q : Int)) = (z : Int) := by rw [hz, Int.natCast_add]; exact IntWalk.i64_in _ (by omega)
  rw [← hz]
  have HZ := Lib.hid hz
  clear hz
  go_enter Tryz.func34, Tryz.ntmps34
  go_upto_region 2 with fail
  obtain ⟨W1, hW1⟩ : ∃ W1, W1 = w.setCell ⟨sb, 1, none⟩ (.int .i64 (z : Int)) := ⟨_, rfl⟩
  rw [← hW1]
  have hg1 : W1.heap[sb]? = some (.cells #[v, .int .i64 (z : Int), m] 88) := by rw [hW1]; exact heap_setCell_same w sb 1 _ _ _ hg
  have hne := own_not hown hg (by decide)
  have hown1 : W1.ownsRow B 121 2 v T.length (flat T) := own_keep hown fun g hgg => by
    rw [hW1]; exact heap_setCell_other w ⟨sb, 1, none⟩ g _ (fun e => hne (by rw [hgg]; congr 1))
  have hb1 : Below B w W1 := by rw [hW1]; exact (Below.refl B w).setCell (p := ⟨sb, 1, none⟩) hge _
  have hs1 : B ≤ W1.heap.size := Nat.le_trans hB hb1.size
  have HB1 := Lib.hid hb1
  have HX1 : Hid (∀ k, X k → W1.heap[k]? = w.heap[k]?) := fun k hk => by rw [hW1]; exact heap_setCell_other w ⟨sb, 1, none⟩ k _ (HgX.out k hk)
  have hsz1 : W1.heap.size = w.heap.size := by rw [hW1]; simp
  have HS1 := Lib.hid hsz1
  have hsb1 : sb < W1.heap.size := (Array.getElem?_eq_some_iff.1 hg1).1
  clear hsz1 hW1 hown hg a0 a1 a2 f0 f1 h
  obtain ⟨a0, a1, a2⟩ := cells_three hg1
  have hfl := flat_len T
  have HX2 : Hid (∀ k, X k → k < W1.heap.size ∧ v.ownBlock ≠ some k) := fun k hk => ⟨by rw [HS1.out]; exact (HX.out k hk).1, (HX.out k hk).2.2⟩
  go_wp2_with (at_builtin; refine wpList_append_lies _ rfl _ _ 86 rfl B 121 i0 (.agg #[.slice none 0 0, .slice none 0 0]) 2 48 Tryz.underlying86 hi hz0 hz1 hz2 rfl (by decide) _ _ _ rfl (hown1.alloc _) ⟨W1.heap.size, 0, none⟩ 1 1 [.slice A q c, .slice A' q c'] rfl rfl (two_new _ _ _ _) ?c2 (by decide) ?c3 ?c4 ?c5 (W1.heap.size + 1) (by rw [World.size_alloc]) ?_)
  case c2 => intro u hu; simp at hu; rcases hu with rfl | rfl <;> rfl
  case c3 => unfold maxLen; omega
  case c4 => omega
  case c5 => simp; omega
  intro g cap w2 hown' hgrow hlies hglt
  have hg2 : w2.heap[sb]? = some (.cells #[v, .int .i64 (z : Int), m] 88) := (hgrow.block sb (by rw [World.size_alloc]; omega) (fun e => own_not hown1 hg1 (by decide) e.symm)).trans ((Lib.alloc_old W1 _ sb hsb1).trans hg1)
  have HX3 : Hid (∀ k, X k → w2.heap[k]? = w.heap[k]? ∧ k < w2.heap.size ∧ k ≠ g) := fun k hk => by
    obtain ⟨h1, h2⟩ := HX2.out k hk
    refine ⟨((hgrow.block k (by rw [World.size_alloc]; omega) (fun e => h2 e.symm)).trans (Lib.alloc_old W1 _ k h1)).trans (HX1.out k hk), ?_, ?_⟩
    · have := hgrow.size
      rw [World.size_alloc] at this; omega
    · rcases hlies with h3 | h3
      · intro e
        exact h2 (by rw [h3, e])
      · omega
  clear a0 a1 a2
  obtain ⟨a0, a1, a2⟩ := cells_three hg2
  have f0 := Lib.frozen_of_heap hg2 0
  have HO := Lib.hid hown'
  have HG2 := Lib.hid hg2
  have hb2 : Below B W1 w2 := ((Below.refl B W1).alloc hs1 _).grown hgrow (by rw [World.size_alloc]; omega) (fun k hk => (hown1.lt k hk).1)
  have HB2 := Lib.hid (HB1.out.trans hb2)
  clear hown' hgrow hg2 hb2 hown1 hg1 hlies hglt
  go_wp2
  obtain ⟨V, hV⟩ : ∃ V, V = w2.setCell ⟨sb, 0, none⟩ (.slice (some ⟨g, 0, none⟩) (T.length + 1) cap) := ⟨_, rfl⟩
  first | rw [← hV] | skip
  have hgV : V.heap[sb]? = some (.cells #[.slice (some ⟨g, 0, none⟩) (T.length + 1) cap, .int .i64 (z : Int), m] 88) := by rw [hV]; exact heap_setCell_same w2 sb 0 _ _ _ HG2.out
  have hownV : V.ownsRow B 121 2 (.slice (some ⟨g, 0, none⟩) (T.length + 1) cap) (T ++ [(Value.slice A q c, Value.slice A' q c')]).length (flat (T ++ [(Value.slice A q c, Value.slice A' q c')])) := by
    rw [flat_app, List.length_append]
    refine own_keep HO.out fun g hgg => ?_
    rw [hV]
    exact heap_setCell_other w2 ⟨sb, 0, none⟩ g _ (fun e => own_not HO.out HG2.out (by decide) (by rw [hgg]; congr 1))
  have hbV : Below B w V := by rw [hV]; exact HB2.out.setCell (p := ⟨sb, 0, none⟩) hge _
  have hXV : ∀ k, X k → V.heap[k]? = w.heap[k]? := fun k hk => by
    rw [hV]
    exact (heap_setCell_other w2 ⟨sb, 0, none⟩ k _ (HgX.out k hk)).trans (HX3.out k hk).1
  have hXW : ∀ k, X k → k < V.heap.size ∧ k ≠ sb ∧ (Value.slice (some ⟨g, 0, none⟩) (T.length + 1) cap).ownBlock ≠ some k := fun k hk => by
    refine ⟨by rw [hV]; simpa using (HX3.out k hk).2.1, HgX.out k hk, fun e => (HX3.out k hk).2.2 ?_⟩
    have : g = k := by simpa [Value.ownBlock] using e
    exact this.symm
  exact bodyPost_end (v := .tuple #[]) (by simp [results, Tryz.results34, go_sem]) rfl ⟨rfl, ⟨hge, _, m, hgV, hownV, hXW⟩, hbV, hXV⟩

end Go.Proofs.YtmcdefkpkpaceaaGreatDoor.Ksb
