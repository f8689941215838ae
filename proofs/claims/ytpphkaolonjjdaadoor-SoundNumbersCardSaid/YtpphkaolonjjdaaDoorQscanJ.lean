/- How far parse has come in a text: its steps on plain lists (no program). -/
import Derived.Test.YtpphkaolonjjdaaDoorStrsJ
namespace Go.Proofs.YtpphkaolonjjdaaDoor.Qscan
open Go.Proofs.YtpphkaolonjjdaaDoor.Spl

/-- at the k-th byte: acc read, cur the bytes of a text under way; what is read of the whole is R -/
def At (p : UInt8 → T → Rd Nod) (s : T) (R : Rd (List Nod)) (k : Nat) (acc : List Nod) (cur : T) : Prop :=
  ∃ n, (s.drop k).length < n ∧ R = scanP p n acc cur (s.drop k)
variable {p : UInt8 → T → Rd Nod} {s : T} {R : Rd (List Nod)} {k : Nat} {acc : List Nod} {cur : T}
theorem at_start (p : UInt8 → T → Rd Nod) (s : T) : At p s (scanP p (s.length + 1) [] [] s) 0 [] [] := ⟨s.length + 1, by rw [List.drop_zero]; omega, rfl⟩
theorem at_end (h : At p s R k acc cur) (hk : s.length ≤ k) : R = .ok (flushP acc cur) := by
  obtain ⟨n, hn, e⟩ := h
  rw [List.drop_of_length_le hk] at e hn
  cases n with
  | zero => exact e
  | succ n => exact e
theorem at_byte (h : At p s R k acc cur) (hk : k < s.length) (hb : s[k] ≠ 36 ∨ k + 1 = s.length) : At p s R (k + 1) acc (cur ++ [s[k]]) := by
  obtain ⟨n, hn, e⟩ := h
  rw [List.drop_eq_getElem_cons hk] at e hn
  cases n with
  | zero => omega
  | succ n =>
    rw [List.length_cons] at hn
    by_cases h36 : s[k] = 36
    · rcases hb with hb | hb
      · exact absurd h36 hb
      · refine ⟨n, by omega, ?_⟩
        rw [hb, List.drop_of_length_le (Nat.le_refl _)] at e
        have e2 : scanP p (n + 1) acc cur [s[k]] = .ok (flushP acc (cur ++ [36])) := by
          rw [h36]; rfl
        rw [hb, List.drop_of_length_le (Nat.le_refl _), e, e2, h36]
        cases n <;> rfl
    · refine ⟨n, by omega, ?_⟩
      exact e.trans (if_neg h36)
/-- behind a dollar sign -/
theorem at_sign (h : At p s R k acc cur) (hk : k + 1 < s.length) (hb : s[k]'(by omega) = 36) : ∃ n, (s.drop (k + 2)).length < n ∧
    R = (if s[k + 1] = 36 then scanP p n acc (cur ++ [36]) (s.drop (k + 2))
      else if s[k + 1] = 40 ∨ s[k + 1] = 123 then
        match endsP s[k + 1] (shutOf s[k + 1]) 1 (s.drop (k + 2)) with
        | none => .bad .form
        | some e => match p s[k + 1] ((s.drop (k + 2)).take e) with
          | .bad x => .bad x
          | .ok m => scanP p n (flushP acc cur ++ [m]) [] ((s.drop (k + 2)).drop (e + 1))
      else scanP p n (flushP acc cur ++ [.mk 2 [] [.mk 1 [s[k + 1]] []]]) [] (s.drop (k + 2))) := by
  obtain ⟨n, hn, e⟩ := h
  rw [List.drop_eq_getElem_cons (by omega : k < s.length), List.drop_eq_getElem_cons hk] at e
  rw [List.length_drop] at hn
  cases n with
  | zero => omega
  | succ n =>
    refine ⟨n, by rw [List.length_drop]; omega, ?_⟩
    rw [e, scanP, if_pos hb]
    rfl
theorem at_two (h : At p s R k acc cur) (hk : k + 1 < s.length) (hb : s[k]'(by omega) = 36) (hc : s[k + 1] = 36) : At p s R (k + 2) acc (cur ++ [36]) := by
  obtain ⟨n, hn, e⟩ := at_sign h hk hb
  rw [if_pos hc] at e
  exact ⟨n, hn, e⟩
theorem at_one (h : At p s R k acc cur) (hk : k + 1 < s.length) (hb : s[k]'(by omega) = 36) (hc : s[k + 1] ≠ 36) (hd : ¬ (s[k + 1] = 40 ∨ s[k + 1] = 123)) : At p s R (k + 2) (flushP acc cur ++ [.mk 2 [] [.mk 1 [s[k + 1]] []]]) [] := by
  obtain ⟨n, hn, e⟩ := at_sign h hk hb
  rw [if_neg hc, if_neg hd] at e
  exact ⟨n, hn, e⟩
theorem at_form (h : At p s R k acc cur) (hk : k + 1 < s.length) (hb : s[k]'(by omega) = 36) (hc : s[k + 1] ≠ 36) (hd : s[k + 1] = 40 ∨ s[k + 1] = 123) (he : endsP s[k + 1] (shutOf s[k + 1]) 1 (s.drop (k + 2)) = none) : R = .bad .form := by
  obtain ⟨n, hn, e⟩ := at_sign h hk hb
  rw [if_neg hc, if_pos hd, he] at e
  exact e
theorem at_bad (h : At p s R k acc cur) (hk : k + 1 < s.length) (hb : s[k]'(by omega) = 36) (hc : s[k + 1] ≠ 36) (hd : s[k + 1] = 40 ∨ s[k + 1] = 123) {e : Nat} (he : endsP s[k + 1] (shutOf s[k + 1]) 1 (s.drop (k + 2)) = some e) {x : Er} (hp : p s[k + 1] ((s.drop (k + 2)).take e) = .bad x) : R = .bad x := by
  obtain ⟨n, hn, e1⟩ := at_sign h hk hb
  rw [if_neg hc, if_pos hd, he] at e1
  dsimp only at e1
  rw [hp] at e1
  exact e1
theorem at_ref (h : At p s R k acc cur) (hk : k + 1 < s.length) (hb : s[k]'(by omega) = 36) (hc : s[k + 1] ≠ 36) (hd : s[k + 1] = 40 ∨ s[k + 1] = 123) {e : Nat} (he : endsP s[k + 1] (shutOf s[k + 1]) 1 (s.drop (k + 2)) = some e) {m : Nod} (hp : p s[k + 1] ((s.drop (k + 2)).take e) = .ok m) : At p s R (k + 2 + e + 1) (flushP acc cur ++ [m]) [] := by
  obtain ⟨n, hn, e1⟩ := at_sign h hk hb
  rw [if_neg hc, if_pos hd, he] at e1
  dsimp only at e1
  rw [hp] at e1
  dsimp only at e1
  rw [List.drop_drop] at e1
  refine ⟨n, ?_, ?_⟩
  · rw [List.length_drop] at hn ⊢
    omega
  · rw [e1, Nat.add_assoc (k + 2) e 1]

end Go.Proofs.YtpphkaolonjjdaaDoor.Qscan
