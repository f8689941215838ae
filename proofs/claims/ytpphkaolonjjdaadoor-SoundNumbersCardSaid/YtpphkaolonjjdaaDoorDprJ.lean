/- Codes of the call's own in memory: rows of instructions by literals, by appends. -/
import Derived.Test.YtpphkaolonjjdaaDoorDftJ
import Derived.Test.YtpphkaolonjjdaaDoorJdpJ
namespace Go.Proofs.YtpphkaolonjjdaaDoor.Dpr
open Go Go.RowKit Go.Proofs.YtpphkaolonjjdaaDoor.Spl Go.Proofs.YtpphkaolonjjdaaDoor.Nodm Go.Proofs.YtpphkaolonjjdaaDoor.Cpl Go.Proofs.YtpphkaolonjjdaaDoor.Cin Go.Proofs.YtpphkaolonjjdaaDoor.Cops Go.Proofs.YtpphkaolonjjdaaDoor.Dpl Go.Proofs.YtpphkaolonjjdaaDoor.Jkd Go.Proofs.YtpphkaolonjjdaaDoor.Jdp
open Go.Proofs.YtpphkaolonjjdaaDoor.Pure (bs)

/-- small lengths and numbers, for the kernel -/
def okoB (o : Opp) : Bool := decide (o.l.length ≤ 1000000 ∧ o.s.length ≤ 1000000 ∧ -1000000000000000000 ≤ o.n ∧ o.n ≤ 1000000000000000000)
theorem oko_of {o : Opp} (h : okoB o = true) : Jbk.Oko o := by
  have h2 := of_decide_eq_true h
  refine ⟨by omega, by unfold maxLen; omega, by omega, by omega⟩
/-- a row of instructions by literals, without blocks -/
def flatL : List Opp → List Value
  | [] => []
  | o :: r => .int .i64 o.k :: .int .i64 o.n :: .string (bs o.s) :: .slice none 0 0 :: flatL r
theorem flatL_at : ∀ (l : List Opp) (j : Nat) (x : Opp), l[j]? = some x → (flatL l)[j * 4]? = some (.int .i64 x.k) ∧ (flatL l)[j * 4 + 1]? = some (.int .i64 x.n) ∧ (flatL l)[j * 4 + 2]? = some (.string (bs x.s)) ∧ (flatL l)[j * 4 + 3]? = some (.slice none 0 0)
  | [], j, x, h => by cases h
  | o :: r, 0, x, h => by cases h; exact ⟨rfl, rfl, rfl, rfl⟩
  | o :: r, j + 1, x, h => by
    have h1 := flatL_at r j x h
    rw [show (j + 1) * 4 = j * 4 + 4 by omega]
    exact h1
theorem flatL_len : ∀ l : List Opp, (flatL l).length = l.length * 4
  | [] => rfl
  | o :: r => by rw [flatL]; simp only [List.length_cons]; rw [flatL_len r]; omega
theorem ops_lit {S : Nat → Prop} {W : World} {g : Nat} {l : List Opp} {cs : Array Value} {t : TypeId} {fr : Nat × Nat} (h : W.heap[g]? = some (.cells cs t fr)) (hc : cs.toList.take (l.length * 4) = flatL l) (hl : ∀ o ∈ l, o.l = []) (hS : S g) : OpsRow S W (some ⟨g, 0, none⟩) l := by
  refine .inr ⟨g, 0, rfl, (Array.getElem?_eq_some_iff.1 h).1, hS, fun j x hj => ?_⟩
  have hjl := (List.getElem?_eq_some_iff.1 hj).1
  have h0 := hl x (List.mem_of_getElem? hj)
  obtain ⟨f0, f1, f2, f3⟩ := flatL_at l j x hj
  have hat : ∀ i, i < 4 → W.cell? ⟨g, 0 + j * 4 + i, none⟩ = (flatL l)[j * 4 + i]? := fun i hi => by
    rw [Lib.cell_of_heap h, ← hc, List.getElem?_take, if_pos (by omega), Nat.zero_add, Array.getElem?_toList]
  refine ⟨none, 0, by rw [h0]; exact Nat.le_refl _, .inl h0, (hat 0 (by decide)).trans f0, (hat 1 (by decide)).trans f1, (hat 2 (by decide)).trans f2, ?_⟩
  rw [h0]
  exact (hat 3 (by decide)).trans f3

theorem three_boxes (w : World) (a b c : Obj) : ∃ W, ((w.alloc a).alloc b).alloc c = W ∧ Below w.heap.size w W ∧ W.heap[w.heap.size]? = some a ∧ W.heap[w.heap.size + 1]? = some b ∧ W.heap[w.heap.size + 1 + 1]? = some c ∧ W.heap.size = w.heap.size + 3 := by
  have z1 : (w.alloc a).heap.size = w.heap.size + 1 := World.size_alloc _ _
  have z2 : ((w.alloc a).alloc b).heap.size = w.heap.size + 1 + 1 := by rw [World.size_alloc, z1]
  refine ⟨_, rfl, (((Below.refl _ _).alloc (Nat.le_refl _) _).alloc (by omega) _).alloc (by omega) _, ?_, ?_, ?_, by rw [World.size_alloc, z2]⟩
  · exact (Lib.alloc_old _ _ _ (by omega)).trans ((Lib.alloc_old _ _ _ (by omega)).trans (heap_alloc_new w _))
  · have h := heap_alloc_new (w.alloc a) b
    rw [z1] at h
    exact (Lib.alloc_old _ _ _ (by omega)).trans h
  · have h := heap_alloc_new ((w.alloc a).alloc b) c
    rw [z2] at h
    exact h

theorem flatL_app : ∀ l r : List Opp, flatL (l ++ r) = flatL l ++ flatL r
  | [], r => rfl
  | o :: l, r => by rw [List.cons_append, flatL, flatL, flatL_app l r]; rfl
theorem infoOp : (Tryd.prog.info? 40).map (fun i => (i.zero, i.size, i.bytes)) = some (some (.agg #[.int .i64 0, .int .i64 0, .string .empty, .slice none 0 0]), 4, 56) := by kernel_rfl
theorem infoOp_at : ∃ i, Tryd.prog.info? 40 = some i ∧ i.zero = some (.agg #[.int .i64 0, .int .i64 0, .string .empty, .slice none 0 0]) ∧ i.size = 4 ∧ i.bytes = 56 := by
  obtain ⟨i, hi, he⟩ := Option.map_eq_some_iff.1 infoOp
  injection he with h1 h2
  injection h2 with h2 h3
  exact ⟨i, hi, h1, h2, h3⟩
theorem four_new (w : World) (x y z u : Value) (t : TypeId) : ∀ (j : Nat) (c : Value), [x, y, z, u][j]? = some c → (w.alloc (.cells #[x, y, z, u] t)).cell? ((⟨w.heap.size, 0, none⟩ : Addr).add j) = some c := by
  intro j c hu
  obtain ⟨h0, h1, h2, h3⟩ := Dft.cells_four (heap_alloc_new w (.cells #[x, y, z, u] t))
  match j, hu with
  | 0, hu => cases hu; rw [Strs.addr_add]; exact h0
  | 1, hu => cases hu; rw [Strs.addr_add]; exact h1
  | 2, hu => cases hu; rw [Strs.addr_add]; exact h2
  | 3, hu => cases hu; rw [Strs.addr_add]; exact h3
theorem own_slice {w : World} {B e sz n : Nat} {v : Value} {xs : List Value} (h : w.ownsRow B e sz v n xs) : ∃ A c, v = .slice A n c := by
  rcases h.2 with ⟨h1, h2⟩ | ⟨g, cap, _, h1, _⟩
  · exact ⟨none, 0, by rw [h1, h2]⟩
  · exact ⟨_, cap, h1⟩
theorem own_stay {w W : World} {H e sz n : Nat} {v : Value} {xs : List Value} (ho : w.ownsRow H e sz v n xs) (hb : Below w.heap.size w W) : W.ownsRow H e sz v n xs :=
  ⟨ho.1, ho.2.imp id fun ⟨g, cap, cur, h2, h3, h4, h5⟩ => ⟨g, cap, cur, h2, h3, (hb.block g (Array.getElem?_eq_some_iff.1 h4).1).trans h4, h5⟩⟩
/-- a code of one block, whose row is the call's own -/
theorem own_code {w : World} {H : Nat} {v : Value} {l : List Opp} (hk : Knd w) (h : w.ownsRow H 40 4 v l.length (flatL l)) (hl : ∀ o ∈ l, o.l = []) : CodeU (w.alloc (.cells #[v] 38)) (.agg #[.slice (some ⟨w.heap.size, 0, none⟩) 1 1]) [l] := by
  have h1 := heap_alloc_new w (.cells #[v] 38)
  have h2 := h.alloc (.cells #[v] 38)
  refine ⟨hk.on ((Below.refl _ _).alloc (Nat.le_refl _) _), _, _, rfl, Nat.le_refl _, .inr ⟨w.heap.size, 0, rfl, (Array.getElem?_eq_some_iff.1 h1).1, ⟨_, _, h1⟩, fun j l' hj => ?_⟩⟩
  have hjl := (List.getElem?_eq_some_iff.1 hj).1
  obtain rfl : j = 0 := by have hjl : j < 1 := hjl; omega
  cases hj
  rcases h2.2 with ⟨h3, h4⟩ | ⟨g, cap, cur, h3, _, h5, h6, _, _, h7⟩
  · refine ⟨none, 0, by omega, .inl (List.eq_nil_of_length_eq_zero h4), ?_⟩
    rw [h4, ← h3]
    exact (Lib.cell_of_heap h1 0).trans rfl
  · refine ⟨_, cap, h6, ops_lit h5 h7 hl ⟨_, _, h5⟩, ?_⟩
    rw [← h3]
    exact (Lib.cell_of_heap h1 0).trans rfl

end Go.Proofs.YtpphkaolonjjdaaDoor.Dpr
