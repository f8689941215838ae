/- What parse's row holds: references and texts that never stand side by side; a text's bytes put behind it, a reference put behind it. -/
import Derived.Test.YtfenlhbkdfmneaaQwhole
namespace Go.Proofs.Ytfenlhbkdfmneaa.Qtext
open Go.RowKit Go.Proofs.Ytfenlhbkdfmneaa.Spl Go.Proofs.Ytfenlhbkdfmneaa.Nodm Go.Proofs.Ytfenlhbkdfmneaa.Qput Go.Proofs.Ytfenlhbkdfmneaa.Qwhole
open Go.Proofs.Ytfenlhbkdfmneaa.Pure (bs)

/-- its last is no text -/
def NoText (l : List Nod) : Prop := ∀ t r, l.getLast? ≠ some (.mk 1 t r)
theorem flush_nil (acc : List Nod) : flushP acc [] = acc := rfl
theorem flush_some (acc : List Nod) {cur : T} (h : cur ≠ []) : flushP acc cur = acc ++ [.mk 1 cur []] := by
  unfold flushP
  cases cur with
  | nil => exact absurd rfl h
  | cons x r => rfl
theorem flush_len (acc : List Nod) (cur : T) : (flushP acc cur).length ≤ acc.length + 1 := by
  unfold flushP
  split
  · omega
  · rw [List.length_append, List.length_singleton]; exact Nat.le_refl _

theorem put_text (S : Nat → Prop) (B : Nat) (u : Value) (acc : List Nod) (cur t : T) (A : Option Addr) (c : Nat) (w : World) (hB : B ≤ w.heap.size) (h : Row S B w u (flushP acc cur)) (hl : acc.length + 1 ≤ 1000000) (ht : t ≠ []) (hn : NoText acc) (hz : cur.length + t.length ≤ 1099511627776) :
    Calls Try.prog 32 #[u, .agg #[.int .i64 1, .string (bs t), .slice A 0 c]] w fun e W' => ∃ u', e = .returned u' ∧ Row S B W' u' (flushP acc (cur ++ t)) ∧ Below B w W' := by
  have hct : cur ++ t ≠ [] := by cases cur <;> simp [ht]
  rw [flush_some acc hct]
  by_cases hc : cur = []
  · subst hc
    exact put_fresh S B u acc t A c w hB h (by omega) ht hn
  · rw [flush_some acc hc] at h
    have := put_merge S B u (acc ++ [.mk 1 cur []]) t A c w hB h (by rw [List.length_append, List.length_singleton]; omega) ht cur [] (by rw [List.getLast?_append]; rfl) hz
    rw [List.dropLast_concat] at this
    exact this

theorem flat_nil : Flat [] := ⟨fun i k s m h => (by cases h), fun i s t m r h => (by cases h)⟩
theorem flat_snoc {l : List Nod} {k : Nat} {s : T} {m : List Nod} (h : Flat l) (hk : k ≠ 5) (h1 : k = 1 → m = [] ∧ s ≠ [] ∧ NoText l) : Flat (l ++ [.mk k s m]) := by
  have hat : ∀ (i k' : Nat) (s' : T) (m' : List Nod), (l ++ [Nod.mk k s m])[i]? = some (.mk k' s' m') → (i < l.length ∧ l[i]? = some (.mk k' s' m')) ∨ (i = l.length ∧ k' = k ∧ s' = s ∧ m' = m) := by
    intro i k' s' m' hi
    by_cases hil : i < l.length
    · rw [List.getElem?_append_left hil] at hi
      exact .inl ⟨hil, hi⟩
    · have := (List.getElem?_eq_some_iff.1 hi).1
      rw [List.length_append, List.length_singleton] at this
      obtain rfl : i = l.length := by omega
      rw [List.getElem?_append_right (Nat.le_refl _), Nat.sub_self] at hi
      cases hi
      exact .inr ⟨rfl, rfl, rfl, rfl⟩
  refine ⟨fun i k' s' m' hi => ?_, fun i s' t' m' r' hi hj => ?_⟩
  · rcases hat i k' s' m' hi with ⟨_, hi⟩ | ⟨_, rfl, rfl, rfl⟩
    · exact h.cat i k' s' m' hi
    · exact ⟨hk, fun e => ⟨(h1 e).1, (h1 e).2.1⟩⟩
  · rcases hat i 1 s' m' hi with ⟨hl1, hi1⟩ | ⟨e, _⟩
    · rcases hat (i + 1) 1 t' r' hj with ⟨_, hj1⟩ | ⟨e2, e3, _, _⟩
      · exact h.two i s' t' m' r' hi1 hj1
      · refine (h1 e3.symm).2.2 s' m' ?_
        rw [← last_get, ← e2, Nat.add_sub_cancel]
        exact hi1
    · have := (List.getElem?_eq_some_iff.1 hj).1
      rw [List.length_append, List.length_singleton] at this
      omega
theorem flat_flush {acc : List Nod} {cur : T} (h : Flat acc) (hn : NoText acc) : Flat (flushP acc cur) := by
  by_cases hc : cur = []
  · rw [hc]; exact h
  · rw [flush_some acc hc]
    exact flat_snoc h (by decide) fun _ => ⟨rfl, hc, hn⟩
theorem noText_snoc (l : List Nod) {k : Nat} (s : T) (m : List Nod) (hk : k ≠ 1) : NoText (l ++ [.mk k s m]) := by
  intro t r e
  rw [List.getLast?_append] at e
  cases e
  exact hk rfl

end Go.Proofs.Ytfenlhbkdfmneaa.Qtext
