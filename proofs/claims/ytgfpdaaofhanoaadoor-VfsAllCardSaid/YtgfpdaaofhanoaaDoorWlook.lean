/- The document's Look. -/
import Derived.Deep.DeepCutAuto
import Derived.Test.YtgfpdaaofhanoaaDoorWput
namespace Go.Proofs.YtgfpdaaofhanoaaDoor.Wlook
open Go.RowKit Go.Proofs.YtgfpdaaofhanoaaDoor.Pth Go.Proofs.YtgfpdaaofhanoaaDoor.Strs Go.Proofs.YtgfpdaaofhanoaaDoor.Vfs Go.Proofs.YtgfpdaaofhanoaaDoor.Vmap Go.Proofs.YtgfpdaaofhanoaaDoor.Vnames Go.Proofs.YtgfpdaaofhanoaaDoor.Vnew Go.Proofs.YtgfpdaaofhanoaaDoor.Vsort Go.Proofs.YtgfpdaaofhanoaaDoor.Vall Go.Proofs.YtgfpdaaofhanoaaDoor.Wfind
open Go.Proofs.YtgfpdaaofhanoaaDoor.Prabs (refAbs_is)

def lk (R : List Raw) (s : ByteArray) : Option Raw := if s.size = 0 then none else R.find? fun x => decide (x.path = bs (absL s.data.toList))
def zeroR : Raw := ⟨⟨#[]⟩, false, ⟨#[]⟩⟩
theorem ix_find (R : List Raw) (t : ByteArray) : (R.find? (fun x => decide (x.path = t)) = none ∧ ix R t = -1) ∨ ∃ k x, R[k]? = some x ∧ R.find? (fun x => decide (x.path = t)) = some x ∧ ix R t = ((k : Nat) : Int) := by
  induction R with
  | nil => exact .inl ⟨rfl, rfl⟩
  | cons y R ih =>
    by_cases h : y.path = t
    · exact .inr ⟨0, y, rfl, by simp [h], ix_at (k := 0) rfl h (fun j hj => absurd hj (Nat.not_lt_zero _))⟩
    · have e1 : (y :: R).find? (fun x => decide (x.path = t)) = R.find? (fun x => decide (x.path = t)) := by simp [h]
      rw [e1]
      rcases ih with ⟨h1, _⟩ | ⟨k, x, h1, h2, h3⟩
      · refine .inl ⟨h1, ix_none fun x hx => ?_⟩
        rcases List.mem_cons.1 hx with rfl | hx
        · exact h
        · simpa using List.find?_eq_none.1 h1 x hx
      · refine .inr ⟨k + 1, x, by rw [List.getElem?_cons_succ]; exact h1, h2, ?_⟩
        have e2 : ix (y :: R) t = ix R t + 1 := by
          unfold ix at h3 ⊢
          rw [List.findIdx?_cons]
          simp only [h, decide_false, Bool.false_eq_true, if_false]
          cases hf : R.findIdx? (fun x => decide (x.path = t)) with
          | none => rw [hf] at h3; simp at h3
          | some i => simp
        rw [e2, h3]; omega

set_option maxRecDepth 100000 in
set_option maxHeartbeats 4000000 in
theorem look_is (f : Nat) (R : List Raw) (s : ByteArray) (w : World) (h : FAt w f R) (hm : R.length ≤ 1000000000) (hs : s.size ≤ 1000000) :
    Calls Tryd.prog 10 #[.pointer (some ⟨f, 0, none⟩), .string s] w fun e W' => ∃ q r, Hid (q = (lk R s).getD zeroR ∧ r = (lk R s).isSome) ∧ e = .returned (.tuple #[.agg #[.string q.path, .bool q.dir, .string q.text], .bool r]) ∧ Below w.heap.size w W' := by
  have HH := Lib.hid h
  have HAbs := Lib.hid (fun W => refAbs_is s W hs)
  have HLk : Hid (lk R s = if s.size = 0 then none else R.find? fun x => decide (x.path = bs (absL s.data.toList))) := rfl
  generalize bs (absL s.data.toList) = ab at *
  clear h
  go_enter Tryd.func10, Tryd.ntmps10
  go_wp2_with fail
  refine (HAbs.out _).mono ?_
  rintro e W2 ⟨rfl, hb2⟩
  have hg : W2.heap[w.heap.size]? = some (.cells #[.string ⟨#[]⟩, .bool false, .string ⟨#[]⟩] 30 (0, 0)) := (hb2.block _ (by simp)).trans (heap_alloc_new w _)
  have k0 : W2.cell? ⟨w.heap.size, 0, none⟩ = some (.string ⟨#[]⟩) := by rw [Lib.cell_of_heap hg]; rfl
  have k1 : W2.cell? ⟨w.heap.size, 1, none⟩ = some (.bool false) := by rw [Lib.cell_of_heap hg]; rfl
  have k2 : W2.cell? ⟨w.heap.size, 2, none⟩ = some (.string ⟨#[]⟩) := by rw [Lib.cell_of_heap hg]; rfl
  have f0 : W2.frozen? ⟨w.heap.size, 0, none⟩ = false := Lib.frozen_of_heap hg 0
  have f1 : W2.frozen? ⟨w.heap.size, 1, none⟩ = false := Lib.frozen_of_heap hg 1
  have f2 : W2.frozen? ⟨w.heap.size, 2, none⟩ = false := Lib.frozen_of_heap hg 2
  have HB := Lib.hid ((alloc_below w (.cells #[.string ⟨#[]⟩, .bool false, .string ⟨#[]⟩] 30)).trans (hb2.mono (by simp)))
  have hfi := find_is f R ab W2 (HH.out.below HB.out) hm
  rcases ix_find R ab with ⟨hf, hx⟩ | ⟨k, x, hk, hf, hx⟩
  · have HQ : Hid (zeroR = (lk R s).getD zeroR ∧ false = (lk R s).isSome) := by
      rw [HLk.out, hf]
      split <;> exact ⟨rfl, rfl⟩
    rw [hx] at hfi
    have HFi := Lib.hid hfi
    clear hb2 hg hfi hf hx HLk HAbs
    go_wp2_with fail
    refine HFi.out.mono ?_
    rintro e wb ⟨rfl, rfl⟩
    by_cases h0 : s.size = 0
    · have he := Wput.abs_empty s h0
      clear h0
      go_wp2
      exact bodyPost_ret (v := .tuple #[.agg #[.string ⟨#[]⟩, .bool false, .string ⟨#[]⟩], .bool false]) (by simp [results, Tryd.results10, go_sem, k0, k1, k2]) rfl
        ⟨zeroR, false, HQ, rfl, ((HB.out.setCell (p := ⟨_, _, none⟩) (Nat.le_refl _) _).setCell (p := ⟨_, _, none⟩) (Nat.le_refl _) _).setCell (p := ⟨_, _, none⟩) (Nat.le_refl _) _⟩
    · have he := Wput.abs_full s h0
      clear h0
      go_wp2
      exact bodyPost_ret (v := .tuple #[.agg #[.string ⟨#[]⟩, .bool false, .string ⟨#[]⟩], .bool false]) (by simp [results, Tryd.results10, go_sem, k0, k1, k2]) rfl
        ⟨zeroR, false, HQ, rfl, ((HB.out.setCell (p := ⟨_, _, none⟩) (Nat.le_refl _) _).setCell (p := ⟨_, _, none⟩) (Nat.le_refl _) _).setCell (p := ⟨_, _, none⟩) (Nat.le_refl _) _⟩
  · have HF2 := HH.out.below HB.out
    obtain ⟨hfl, A, c, hcF, hE⟩ := HF2
    obtain ⟨b, o, rfl, hb, hcc⟩ := hE.at_ hk
    obtain ⟨c1, c2, c3⟩ := hcc W2 (Below.refl _ _)
    have hkl := (List.getElem?_eq_some_iff.1 hk).1
    have HQ1 : Hid (s.size = 0 → zeroR = (lk R s).getD zeroR ∧ false = (lk R s).isSome) := fun h0 => by
      rw [HLk.out, if_pos h0]; exact ⟨rfl, rfl⟩
    have HQ2 : Hid (s.size ≠ 0 → x = (lk R s).getD zeroR ∧ true = (lk R s).isSome) := fun h0 => by
      rw [HLk.out, if_neg h0, hf]; exact ⟨rfl, rfl⟩
    rw [hx] at hfi
    have HFi := Lib.hid hfi
    generalize R.length = nr at *
    clear hb2 hg hfi hf hx HLk HAbs hcc hE hk
    obtain ⟨px, dx, tx⟩ := x
    go_wp2_with fail
    refine HFi.out.mono ?_
    rintro e wb ⟨rfl, rfl⟩
    by_cases h0 : s.size = 0
    · have he := Wput.abs_empty s h0
      have HQ := Lib.hid (HQ1.out h0)
      clear h0
      go_wp2
      exact bodyPost_ret (v := .tuple #[.agg #[.string ⟨#[]⟩, .bool false, .string ⟨#[]⟩], .bool false]) (by simp [results, Tryd.results10, go_sem, k0, k1, k2]) rfl
        ⟨zeroR, false, HQ, rfl, ((HB.out.setCell (p := ⟨_, _, none⟩) (Nat.le_refl _) _).setCell (p := ⟨_, _, none⟩) (Nat.le_refl _) _).setCell (p := ⟨_, _, none⟩) (Nat.le_refl _) _⟩
    · have he := Wput.abs_full s h0
      have HQ := Lib.hid (HQ2.out h0)
      clear h0
      go_wp2
      exact bodyPost_ret (v := .tuple #[.agg #[.string px, .bool dx, .string tx], .bool true]) (by simp [results, Tryd.results10, go_sem, k0, k1, k2]) rfl
        ⟨⟨px, dx, tx⟩, true, HQ, rfl, ((HB.out.setCell (p := ⟨_, _, none⟩) (Nat.le_refl _) _).setCell (p := ⟨_, _, none⟩) (Nat.le_refl _) _).setCell (p := ⟨_, _, none⟩) (Nat.le_refl _) _⟩

end Go.Proofs.YtgfpdaaofhanoaaDoor.Wlook
