/- The document's Same, of two lists of the same entries. -/
import Derived.Deep.DeepCutAuto
import Derived.Test.YtgfpdaaofhanoaaDoorWfind
namespace Go.Proofs.YtgfpdaaofhanoaaDoor.Wsame
open Go.RowKit Go.Proofs.YtgfpdaaofhanoaaDoor.Pth Go.Proofs.YtgfpdaaofhanoaaDoor.Strs Go.Proofs.YtgfpdaaofhanoaaDoor.Vfs Go.Proofs.YtgfpdaaofhanoaaDoor.Vmap Go.Proofs.YtgfpdaaofhanoaaDoor.Vnew Go.Proofs.YtgfpdaaofhanoaaDoor.Vsort Go.Proofs.YtgfpdaaofhanoaaDoor.Vall Go.Proofs.YtgfpdaaofhanoaaDoor.Wfind

set_option maxRecDepth 100000 in
set_option maxHeartbeats 4000000 in
theorem same_is (A A' : Option Addr) (n c c' : Nat) (l : List Raw) (w : World) (hn : l.length = n) (h : EnIs w A c l) (h' : EnIs w A' c' l) (hm : n ≤ 1000000000) :
    Calls Tryd.prog 14 #[.slice A n c, .slice A' n c'] w fun e W' => e = .returned (.bool true) ∧ Below w.heap.size w W' := by
  have HN := Lib.hid hn
  have HL := Lib.hid h
  have HL' := Lib.hid h'
  clear hn h h'
  go_enter Tryd.func14, Tryd.ntmps14
  go_wp2
  go_loopw [5] (fun i wr => ∃ k m : Nat, k ≤ n ∧ i = .int .i64 k ∧ wr = w.drewN m) (fun i _ => n - (intOf i).toNat)
  case atStart => exact ⟨0, 0, Nat.zero_le _, rfl, rfl⟩
  case round =>
    obtain ⟨k, m, hk, rfl, rfl⟩ := hrel
    by_cases hlt : k < n
    · have hl : k < l.length := by have := HN.out; omega
      have hx : l[k]? = some l[k] := List.getElem?_eq_getElem hl
      obtain ⟨b, o, rfl, hb, hcc⟩ := HL.out.at_ hx
      obtain ⟨b', o', rfl, hb', hcc'⟩ := HL'.out.at_ hx
      obtain ⟨c1, c2, c3⟩ := hcc w (Below.refl _ _)
      obtain ⟨c4, c5, c6⟩ := hcc' w (Below.refl _ _)
      have e1 : (l[k].path.toList == l[k].path.toList) = true := by simp
      have e2 : (l[k].dir == l[k].dir) = true := by simp
      have e3 : (l[k].text.toList == l[k].text.toList) = true := by simp
      clear hx hcc hcc' HL HL' HN
      generalize l[k].path = p at *
      generalize l[k].dir = d at *
      generalize l[k].text = t at *
      go_wp2
      go_quiet (fail)
      go_wp2
      go_roundw
      case rel => exact ⟨k + 1, _, by omega, by go_num, rfl⟩
      case measure => simp [intOf]; omega
    · go_wp2
      go_ret
      exact ⟨rfl, below_drewN (Below.refl _ _) m⟩

end Go.Proofs.YtgfpdaaofhanoaaDoor.Wsame
