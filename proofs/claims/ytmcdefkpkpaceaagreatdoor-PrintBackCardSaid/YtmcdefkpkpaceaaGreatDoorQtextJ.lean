/- What parse's row holds: references and texts that never stand side by side; a text's bytes put behind it, a reference put behind it. -/
import Derived.Test.YtmcdefkpkpaceaaGreatDoorNodJ
import Derived.Test.YtmcdefkpkpaceaaGreatDoorStrsJ
namespace Go.Proofs.YtmcdefkpkpaceaaGreatDoor.Qtext
open Go.RowKit Go.Proofs.YtmcdefkpkpaceaaGreatDoor.Spl Go.Proofs.YtmcdefkpkpaceaaGreatDoor.Nodm Go.Proofs.YtmcdefkpkpaceaaGreatDoor.Qput Go.Proofs.YtmcdefkpkpaceaaGreatDoor.Qwhole
open Go.Proofs.YtmcdefkpkpaceaaGreatDoor.Pure (bs)

/-- its last is no text -/
def NoText (l : List Nod) : Prop := ∀ t r, l.getLast? ≠ some (.mk 1 t r)
theorem flush_nil (acc : List Nod) : flushP acc [] = acc := rfl
theorem flush_some (acc : List Nod) {cur : T} (h : cur ≠ []) : flushP acc cur = acc ++ [.mk 1 cur []] := by
  unfold flushP
  cases cur with
  | nil => exact absurd rfl h
  | cons x r => rfl
theorem flush_len (acc : List Nod) (cur : T) : (flushP acc cur).length ≤ acc.length + 1 := by
  unfold flushP
  split
  · omega
  · rw [List.length_append, List.length_singleton]; exact Nat.le_refl _

theorem put_text (S : Nat → Prop) (B : Nat) (u : Value) (acc : List Nod) (cur t : T) (A : Option Addr) (c : Nat) (w : World) (hB : B ≤ w.heap.size) (h : Row S B w u (flushP acc cur)) (hl : acc.length + 1 ≤ 1000000) (ht : t ≠ []) (hn : NoText acc) (hz : cur.length + t.length ≤ 1099511627776) :
    Calls Tryz.prog 19 #[u, .agg #[.int .i64 1, .string (bs t), .slice A 0 c]] w fun e W' => ∃ u', e = .returned u' ∧ Row S B W' u' (flushP acc (cur ++ t)) ∧ Below B w W' := by
  have hct : cur ++ t ≠ [] := by cases cur <;> simp [ht]
  rw [flush_some acc hct]
  by_cases hc : cur = []
  · subst hc
    exact put_fresh S B u acc t A c w hB h (by omega) ht hn
  · rw [flush_some acc hc] at h
    have := put_merge S B u (acc ++ [.mk 1 cur []]) t A c w hB h (by rw [List.length_append, List.length_singleton]; omega) ht cur [] (by rw [List.getLast?_append]; rfl) hz
    rw [List.dropLast_concat] at this
    exact this

theorem flat_nil : Flat [] := ⟨fun i k s m h => (by cases h), fun i s t m r h => (by cases h)⟩
theorem flat_snoc {l : List Nod} {k : Nat} {s : T} {m : List Nod} (h : Flat l) (hk : k ≠ 5) (h1 : k = 1 → m = [] ∧ s ≠ [] ∧ NoText l) : Flat (l ++ [.mk k s m]) := by
  have hat : ∀ (i k' : Nat) (s' : T) (m' : List Nod), (l ++ [Nod.mk k s m])[i]? = some (.mk k' s' m') → (i < l.length ∧ l[i]? = some (.mk k' s' m')) ∨ (i = l.length ∧ k' = k ∧ s' = s ∧ m' = m) := by
    intro i k' s' m' hi
    by_cases hil : i < l.length
    · rw [List.getElem?_append_left hil] at hi
      exact .inl ⟨hil, hi⟩
    · have := (List.getElem?_eq_some_iff.1 hi).1
      rw [List.length_append, List.length_singleton] at this
      obtain rfl : i = l.length := by omega
      rw [List.getElem?_append_right (Nat.le_refl _), Nat.sub_self] at hi
      cases hi
      exact .inr ⟨rfl, rfl, rfl, rfl⟩
  refine ⟨fun i k' s' m' hi => ?_, fun i s' t' m' r' hi hj => ?_⟩
  · rcases hat i k' s' m' hi with ⟨_, hi⟩ | ⟨_, rfl, rfl, rfl⟩
    · exact h.cat i k' s' m' hi
    · exact ⟨hk, fun e => ⟨(h1 e).1, (h1 e).2.1⟩⟩
  · rcases hat i 1 s' m' hi with ⟨hl1, hi1⟩ | ⟨e, _⟩
    · rcases hat (i + 1) 1 t' r' hj with ⟨_, hj1⟩ | ⟨e2, e3, _, _⟩
      · exact h.two i s' t' m' r' hi1 hj1
      · refine (h1 e3.symm).2.2 s' m' ?_
        rw [← last_get, ← e2, Nat.add_sub_cancel]
        exact hi1
    · have := (List.getElem?_eq_some_iff.1 hj).1
      rw [List.length_append, List.length_singleton] at this
      omega
theorem flat_flush {acc : List Nod} {cur : T} (h : Flat acc) (hn : NoText acc) : Flat (flushP acc cur) := by
  by_cases hc : cur = []
  · rw [hc]; exact h
  · rw [flush_some acc hc]
    exact flat_snoc h (by decide) fun _ => ⟨rfl, hc, hn⟩
theorem noText_snoc (l : List Nod) {k : Nat} (s : T) (m : List Nod) (hk : k ≠ 1) : NoText (l ++ [.mk k s m]) := by
  intro t r e
  rw [List.getLast?_append] at e
  cases e
  exact hk rfl

end Go.Proofs.YtmcdefkpkpaceaaGreatDoor.Qtext

/- How far parse has come in a text: its steps on plain lists (no program). -/
namespace Go.Proofs.YtmcdefkpkpaceaaGreatDoor.Qscan
open Go.Proofs.YtmcdefkpkpaceaaGreatDoor.Spl

/-- at the k-th byte: acc read, cur the bytes of a text under way; what is read of the whole is R -/
def At (p : UInt8 → T → Rd Nod) (s : T) (R : Rd (List Nod)) (k : Nat) (acc : List Nod) (cur : T) : Prop :=
  ∃ n, (s.drop k).length < n ∧ R = scanP p n acc cur (s.drop k)
variable {p : UInt8 → T → Rd Nod} {s : T} {R : Rd (List Nod)} {k : Nat} {acc : List Nod} {cur : T}
theorem at_start (p : UInt8 → T → Rd Nod) (s : T) : At p s (scanP p (s.length + 1) [] [] s) 0 [] [] := ⟨s.length + 1, by rw [List.drop_zero]; omega, rfl⟩
theorem at_end (h : At p s R k acc cur) (hk : s.length ≤ k) : R = .ok (flushP acc cur) := by
  obtain ⟨n, hn, e⟩ := h
  rw [List.drop_of_length_le hk] at e hn
  cases n with
  | zero => exact e
  | succ n => exact e
theorem at_byte (h : At p s R k acc cur) (hk : k < s.length) (hb : s[k] ≠ 36 ∨ k + 1 = s.length) : At p s R (k + 1) acc (cur ++ [s[k]]) := by
  obtain ⟨n, hn, e⟩ := h
  rw [List.drop_eq_getElem_cons hk] at e hn
  cases n with
  | zero => omega
  | succ n =>
    rw [List.length_cons] at hn
    by_cases h36 : s[k] = 36
    · rcases hb with hb | hb
      · exact absurd h36 hb
      · refine ⟨n, by omega, ?_⟩
        rw [hb, List.drop_of_length_le (Nat.le_refl _)] at e
        have e2 : scanP p (n + 1) acc cur [s[k]] = .ok (flushP acc (cur ++ [36])) := by
          rw [h36]; rfl
        rw [hb, List.drop_of_length_le (Nat.le_refl _), e, e2, h36]
        cases n <;> rfl
    · refine ⟨n, by omega, ?_⟩
      exact e.trans (if_neg h36)
/-- behind a dollar sign -/
theorem at_sign (h : At p s R k acc cur) (hk : k + 1 < s.length) (hb : s[k]'(by omega) = 36) : ∃ n, (s.drop (k + 2)).length < n ∧
    R = (if s[k + 1] = 36 then scanP p n acc (cur ++ [36]) (s.drop (k + 2))
      else if s[k + 1] = 40 ∨ s[k + 1] = 123 then
        match endsP s[k + 1] (shutOf s[k + 1]) 1 (s.drop (k + 2)) with
        | none => .bad .form
        | some e => match p s[k + 1] ((s.drop (k + 2)).take e) with
          | .bad x => .bad x
          | .ok m => scanP p n (flushP acc cur ++ [m]) [] ((s.drop (k + 2)).drop (e + 1))
      else scanP p n (flushP acc cur ++ [.mk 2 [] [.mk 1 [s[k + 1]] []]]) [] (s.drop (k + 2))) := by
  obtain ⟨n, hn, e⟩ := h
  rw [List.drop_eq_getElem_cons (by omega : k < s.length), List.drop_eq_getElem_cons hk] at e
  rw [List.length_drop] at hn
  cases n with
  | zero => omega
  | succ n =>
    refine ⟨n, by rw [List.length_drop]; omega, ?_⟩
    rw [e, scanP, if_pos hb]
    rfl
theorem at_two (h : At p s R k acc cur) (hk : k + 1 < s.length) (hb : s[k]'(by omega) = 36) (hc : s[k + 1] = 36) : At p s R (k + 2) acc (cur ++ [36]) := by
  obtain ⟨n, hn, e⟩ := at_sign h hk hb
  rw [if_pos hc] at e
  exact ⟨n, hn, e⟩
theorem at_one (h : At p s R k acc cur) (hk : k + 1 < s.length) (hb : s[k]'(by omega) = 36) (hc : s[k + 1] ≠ 36) (hd : ¬ (s[k + 1] = 40 ∨ s[k + 1] = 123)) : At p s R (k + 2) (flushP acc cur ++ [.mk 2 [] [.mk 1 [s[k + 1]] []]]) [] := by
  obtain ⟨n, hn, e⟩ := at_sign h hk hb
  rw [if_neg hc, if_neg hd] at e
  exact ⟨n, hn, e⟩
theorem at_form (h : At p s R k acc cur) (hk : k + 1 < s.length) (hb : s[k]'(by omega) = 36) (hc : s[k + 1] ≠ 36) (hd : s[k + 1] = 40 ∨ s[k + 1] = 123) (he : endsP s[k + 1] (shutOf s[k + 1]) 1 (s.drop (k + 2)) = none) : R = .bad .form := by
  obtain ⟨n, hn, e⟩ := at_sign h hk hb
  rw [if_neg hc, if_pos hd, he] at e
  exact e
theorem at_bad (h : At p s R k acc cur) (hk : k + 1 < s.length) (hb : s[k]'(by omega) = 36) (hc : s[k + 1] ≠ 36) (hd : s[k + 1] = 40 ∨ s[k + 1] = 123) {e : Nat} (he : endsP s[k + 1] (shutOf s[k + 1]) 1 (s.drop (k + 2)) = some e) {x : Er} (hp : p s[k + 1] ((s.drop (k + 2)).take e) = .bad x) : R = .bad x := by
  obtain ⟨n, hn, e1⟩ := at_sign h hk hb
  rw [if_neg hc, if_pos hd, he] at e1
  dsimp only at e1
  rw [hp] at e1
  exact e1
theorem at_ref (h : At p s R k acc cur) (hk : k + 1 < s.length) (hb : s[k]'(by omega) = 36) (hc : s[k + 1] ≠ 36) (hd : s[k + 1] = 40 ∨ s[k + 1] = 123) {e : Nat} (he : endsP s[k + 1] (shutOf s[k + 1]) 1 (s.drop (k + 2)) = some e) {m : Nod} (hp : p s[k + 1] ((s.drop (k + 2)).take e) = .ok m) : At p s R (k + 2 + e + 1) (flushP acc cur ++ [m]) [] := by
  obtain ⟨n, hn, e1⟩ := at_sign h hk hb
  rw [if_neg hc, if_pos hd, he] at e1
  dsimp only at e1
  rw [hp] at e1
  dsimp only at e1
  rw [List.drop_drop] at e1
  refine ⟨n, ?_, ?_⟩
  · rw [List.length_drop] at hn ⊢
    omega
  · rw [e1, Nat.add_assoc (k + 2) e 1]

end Go.Proofs.YtmcdefkpkpaceaaGreatDoor.Qscan
