/- Plain facts on references within references (no program). -/
import Derived.Test.YtndnialpedocnaaSpf
namespace Go.Proofs.Ytndnialpedocnaa.Udeep
open Go.Proofs.Ytndnialpedocnaa.Spl Go.Proofs.Ytndnialpedocnaa.Spf

theorem deep_len (c : Bool) : ∀ k, (deepT c k).length = 3 * k + 1
  | 0 => rfl
  | k + 1 => by
    rw [deep_succ, List.length_cons, List.length_cons, List.length_append, List.length_singleton, deep_len c k]; omega
theorem deep_ok (c : Bool) (k : Nat) (h : k ≤ 40) : parse (deepT c k) = .ok (chainN k) := by
  show parseP 40 _ = _
  rw [parse_deep]
  exact if_pos h
theorem deep_bad (c : Bool) (k : Nat) (h : ¬ k ≤ 40) : parse (deepT c k) = .bad .deep := by
  show parseP 40 _ = _
  rw [parse_deep]
  exact if_neg h
theorem less_bad (c : Bool) (k : Nat) : parse (deepT c (k + 1)).dropLast = .bad .form := parse_less c k 40
theorem more_ok (c : Bool) (k : Nat) (h : k + 1 ≤ 40) : parse (deepT c (k + 1) ++ shutT c) = .ok (.mk 5 [] [chainN (k + 1), .mk 1 (shutT c) []]) := by
  show parseP 40 _ = _
  rw [parse_more, deepR, if_pos h]
theorem more_bad (c : Bool) (k : Nat) (h : ¬ k + 1 ≤ 40) : parse (deepT c (k + 1) ++ shutT c) = .bad .deep := by
  show parseP 40 _ = _
  rw [parse_more, deepR, if_neg h]
theorem chain_form : ∀ r, ∃ k s l, chainN r = .mk k s l ∧ (r = 0 → k = 1 ∧ s = [97] ∧ l = []) ∧ (∀ q, r = q + 1 → k = 2 ∧ l = [chainN q])
  | 0 => ⟨1, [97], [], rfl, fun _ => ⟨rfl, rfl, rfl⟩, fun q h => by cases h⟩
  | r + 1 => ⟨2, [], [chainN r], rfl, fun h => (by cases h), fun q h => by cases h; exact ⟨rfl, rfl⟩⟩

end Go.Proofs.Ytndnialpedocnaa.Udeep
