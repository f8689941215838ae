/- The names of all ways to a place: the trail's text, namesOf. -/
import Derived.Deep.LoopGhost
import Derived.Test.YtgfpdaaofhanoaaGreatDoorStepAny
import Derived.Test.YtgfpdaaofhanoaaGreatDoorWnm
namespace Go.Proofs.YtgfpdaaofhanoaaGreatDoor.Wno
open Go.RowKit Go.Proofs.YtgfpdaaofhanoaaGreatDoor.Pth Go.Proofs.YtgfpdaaofhanoaaGreatDoor.Strs Go.Proofs.YtgfpdaaofhanoaaGreatDoor.StepAny Go.Proofs.YtgfpdaaofhanoaaGreatDoor.Wdp Go.Proofs.YtgfpdaaofhanoaaGreatDoor.Wst Go.Proofs.YtgfpdaaofhanoaaGreatDoor.Wnm

/-! ### a trail -/
def ptr (q : Option Nat) : Value := .pointer (q.map fun b => ⟨b, 0, none⟩)
def TrailIs (w : World) : Option Nat → List T → Prop
  | q, [] => q = none
  | q, x :: r => ∃ b q', q = some b ∧ w.heap[b]? = some (.cells #[.string (bs x), ptr q'] 134 (0, 0)) ∧ TrailIs w q' r
/-- trails lie in blocks of their own kind -/
theorem TrailIs.kept {w W : World} (hk : ∀ (k : Nat) c, w.heap[k]? = some (.cells c 134 (0, 0)) → W.heap[k]? = w.heap[k]?) : ∀ {q : Option Nat} {xs : List T}, TrailIs w q xs → TrailIs W q xs
  | _, [], h => h
  | _, _ :: _, ⟨b, q', h1, h2, h5⟩ => ⟨b, q', h1, (hk b _ h2).trans h2, TrailIs.kept hk h5⟩
theorem TrailIs.below {w W : World} (hb : Below w.heap.size w W) {q : Option Nat} {xs : List T} (h : TrailIs w q xs) : TrailIs W q xs :=
  h.kept fun k _ hk => hb.block k (Array.getElem?_eq_some_iff.1 hk).1
theorem vals_app (a b : List T) : vals (a ++ b) = vals a ++ vals b := by rw [vals, vals, vals, List.map_append, List.map_append]

set_option maxRecDepth 100000 in
set_option maxHeartbeats 4000000 in
theorem text_is (q : Option Nat) (xs : List T) (w : World) (h : TrailIs w q xs) (hm : xs.length ≤ 1000000) (hl : (Lib.join xs [47]).length ≤ 140737488355328) :
    Calls Tryz.prog 70 #[ptr q] w fun e W' => e = .returned (.string (bs (Lib.join xs [47]))) ∧ Below w.heap.size w W' := by
  obtain ⟨i0, hi0, hz0, hz1, hz2⟩ := info_parts infoString
  have HT := Lib.hid h
  have HJ := Lib.hid hl
  clear h hl
  go_enter Tryz.func70, Tryz.ntmps70
  go_wp2_with fail
  go_loopg [0, 3] (xs.length + 1) (fun g s0 s3 wr => ∃ (q' : Option Nat) (ys zs : List T), s0 = ptr q' ∧ wr.ownsRow w.heap.size 9 1 s3 ys.length (vals ys) ∧ zs.length < g ∧ ys.length + zs.length ≤ 1000000 ∧ Hid (TrailIs w q' zs ∧ ys ++ zs = xs) ∧ Hid (Below w.heap.size w wr))
  case atStart => exact ⟨q, [], xs, rfl, World.ownsRow_nil _ _ _ _, Nat.lt_succ_self _, by simpa using hm, ⟨HT.out, rfl⟩, Below.refl _ _⟩
  case round =>
    obtain ⟨q', ys, zs, rfl, hown, hg, hlen, HR, HB⟩ := hrel
    have hBs := HB.out.size
    cases zs with
    | nil =>
      have hq := HR.out.1
      unfold TrailIs at hq
      subst hq
      have hxs : ys = xs := by have := HR.out.2; simpa using this
      subst hxs
      obtain ⟨A, c, rfl, hs⟩ := slIs_of_own (xs := ys.map bs) (by rw [List.length_map]) hown
      have HJo := Lib.hid (joins_is A ys.length c ys wr rfl hs HJ.out (by simp at hlen; omega))
      clear hown hs HR
      unfold ptr
      go_wp2_with fail
      refine HJo.out.mono ?_
      rintro e w3 ⟨rfl, hb3⟩
      have HB3 := Lib.hid (HB.out.trans (hb3.mono hBs))
      clear hb3 HB HJo
      go_wp2
      go_ret
      exact ⟨rfl, HB3.out⟩
    | cons x r =>
      obtain ⟨b, q2, rfl, hh, hr⟩ := HR.out.1
      have hb : b < w.heap.size := (Array.getElem?_eq_some_iff.1 hh).1
      have hc0 : w.cell? ⟨b, 0, none⟩ = some (.string (bs x)) := by rw [Lib.cell_of_heap hh]; rfl
      have hc1 : w.cell? ⟨b, 1, none⟩ = some (ptr q2) := by rw [Lib.cell_of_heap hh]; rfl
      have d0 : wr.cell? ⟨b, 0, none⟩ = some (.string (bs x)) := (HB.out.cell (p := ⟨b, 0, none⟩) hb).trans hc0
      have HR2 : Hid (TrailIs w q2 r ∧ (ys ++ [x]) ++ r = xs) := ⟨hr, by rw [List.append_assoc]; exact HR.out.2⟩
      have HC1 := Lib.hid (fun W (hW : Below w.heap.size w W) => (hW.cell (p := ⟨b, 1, none⟩) hb).trans hc1)
      have HOw := Lib.hid hown
      rw [List.length_cons] at hg hlen
      clear hown hc0 hc1 hr HR hh
      unfold ptr
      go_upto_region 4 with fail
      go_wp2_with (at_builtin; refine wpList_append_own _ rfl _ _ 23 rfl w.heap.size 9 i0 (.string .empty) 1 16 Tryz.underlying23 hi0 hz0 hz1 hz2 rfl (by decide) _ _ _ rfl (HOw.out.alloc _) ⟨wr.heap.size, 0, none⟩ 1 1 [.string (bs x)] rfl rfl (cell_one_new _ _ _) (by simp [Value.oneCell']) (by unfold maxLen; omega) (by omega) (by simp; omega) ?_; intro v' w4 hown' hgrow _; have HO := Lib.hid hown'; have HG := Lib.hid (below_append HB.out hBs HOw.out hgrow); have d1 := HC1.out w4 HG.out; unfold ptr at d1; clear hown' hgrow)
      obtain ⟨g, rfl⟩ : ∃ g, gk = g + 1 := ⟨gk - 1, by omega⟩
      go_roundg g
      case measure => omega
      case rel => exact ⟨q2, ys ++ [x], r, rfl, by rw [List.length_append, vals_app]; exact HO.out, by omega, by rw [List.length_append]; simp; omega, HR2.out, HG.out⟩

end Go.Proofs.YtgfpdaaofhanoaaGreatDoor.Wno
