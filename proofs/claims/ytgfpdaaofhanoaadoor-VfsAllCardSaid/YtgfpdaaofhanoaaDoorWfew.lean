/- law00's FewFiles: whether the entries are few and short. -/
import Derived.Deep.DeepCutAuto
import Derived.Test.YtgfpdaaofhanoaaDoorWfind
namespace Go.Proofs.YtgfpdaaofhanoaaDoor.Wfew
open Go.RowKit Go.Proofs.YtgfpdaaofhanoaaDoor.Pth Go.Proofs.YtgfpdaaofhanoaaDoor.Strs Go.Proofs.YtgfpdaaofhanoaaDoor.Vfs Go.Proofs.YtgfpdaaofhanoaaDoor.Vmap Go.Proofs.YtgfpdaaofhanoaaDoor.Vnew Go.Proofs.YtgfpdaaofhanoaaDoor.Vsort Go.Proofs.YtgfpdaaofhanoaaDoor.Vall Go.Proofs.YtgfpdaaofhanoaaDoor.Wfind

def Short (x : Raw) : Prop := x.path.size ≤ 200 ∧ x.text.size ≤ 1000
def Few (l : List Raw) : Prop := l.length ≤ 40 ∧ ∀ x ∈ l, Short x

set_option maxRecDepth 100000 in
set_option maxHeartbeats 4000000 in
theorem few_is (A : Option Addr) (n c : Nat) (l : List Raw) (w : World) (hn : l.length = n) (h : EnIs w A c l) (hm : n ≤ maxLen) :
    Calls Tryd.prog 5 #[.slice A n c] w fun e W' => (∃ b : Bool, e = .returned (.bool b) ∧ Hid (b = true → Few l)) ∧ w = W' := by
  have hmm : n ≤ 9223372036854775807 := hm
  have HN := Lib.hid hn
  have HL := Lib.hid h
  clear hn h hm
  go_enter Tryd.func5, Tryd.ntmps5
  go_wp2
  go_loopw [3] (fun i wr => ∃ k : Nat, k ≤ n ∧ k ≤ 40 ∧ i = .int .i64 k ∧ Hid (∀ x ∈ l.take k, Short x) ∧ w = wr) (fun i _ => n - (intOf i).toNat)
  case atStart => exact ⟨0, Nat.zero_le _, Nat.zero_le _, rfl, fun x hx => by simp at hx, rfl⟩
  case round =>
    obtain ⟨k, hk, hk2, rfl, HS, rfl⟩ := hrel
    by_cases hlt : k < n
    · by_cases hlt2 : k < 40
      · have hl : k < l.length := by have := HN.out; omega
        have hx : l[k]? = some l[k] := List.getElem?_eq_getElem hl
        obtain ⟨b, o, rfl, hb, hcc⟩ := HL.out.at_ hx
        obtain ⟨c1, c2, c3⟩ := hcc w (Below.refl _ _)
        have HX : Hid (Short l[k] → ∀ x ∈ l.take (k + 1), Short x) := fun hs x hx => by
          rw [List.take_succ_eq_append_getElem hl] at hx
          rcases List.mem_append.1 hx with h1 | h1
          · exact HS.out x h1
          · rw [List.mem_singleton.1 h1]; exact hs
        have HE : Hid (Short l[k] ↔ (l[k].path.size ≤ 200 ∧ l[k].text.size ≤ 1000)) := Iff.rfl
        clear hx hcc hb
        generalize Short l[k] = sh at *
        generalize l[k].path = p at *
        generalize l[k].text = t at *
        by_cases hp : p.size ≤ 200
        · by_cases ht : t.size ≤ 1000
          · have HX2 := Lib.hid (HX.out (HE.out.2 ⟨hp, ht⟩))
            go_wp2
            go_roundw
            case rel => exact ⟨k + 1, by omega, by omega, by go_num, HX2, trivial⟩
            case measure => simp [intOf]; omega
          · go_wp2
            go_ret
            exact ⟨⟨false, rfl, fun h => by cases h⟩, rfl⟩
        · go_wp2
          go_ret
          exact ⟨.inl ⟨rfl, trivial⟩, by first | trivial | rfl⟩
      · go_wp2
        go_ret
        exact ⟨⟨_, rfl, fun h => ⟨by have := of_decide_eq_true h; have := HN.out; omega, fun x hx => HS.out x (by rwa [List.take_of_length_le (by have := of_decide_eq_true h; have := HN.out; omega)])⟩⟩, rfl⟩
    · have HF : Hid (Few l) := ⟨by have := HN.out; omega, fun x hx => HS.out x (by rwa [List.take_of_length_le (by have := HN.out; omega)])⟩
      go_wp2
      go_ret
      exact ⟨⟨_, rfl, fun _ => HF.out⟩, rfl⟩

end Go.Proofs.YtgfpdaaofhanoaaDoor.Wfew
