/- Which of a list's patterns match: what the program's fits answers. -/
import Derived.Deep.RegionHeld3
import Derived.Test.YtmallbgmpmdjiaaDoorMatch
import Derived.Test.YtmallbgmpmdjiaaDoorStrs
namespace Go.Proofs.YtmallbgmpmdjiaaDoor.Fits
open Go.RowKit Go.Proofs.YtmallbgmpmdjiaaDoor.Strs
open Go.Proofs.YtmallbgmpmdjiaaDoor.Pat (hasB preB postB preB_le postB_le)
open Go.Proofs.YtmallbgmpmdjiaaDoor.Of (patV)
open Go.Proofs.YtmallbgmpmdjiaaDoor.Match (okB stemB match_is)

/-- whether a pattern's text matches a word -/
def okQ (q x : ByteArray) : Bool := okB (hasB q) (preB q) (postB q) x
/-- whether one of them does -/
def fitB (qs : List ByteArray) (x : ByteArray) : Bool := qs.any fun q => okQ q x

/-- the patterns of the texts qs, one behind the other, three cells each -/
def PatsAt (w : World) (g : Nat) (qs : List ByteArray) : Prop :=
  g < w.heap.size ∧ ∀ j q, qs[j]? = some q → w.cell? ⟨g, j * 3, none⟩ = some (.bool (hasB q)) ∧ w.cell? ⟨g, j * 3 + 1, none⟩ = some (.string (preB q)) ∧ w.cell? ⟨g, j * 3 + 2, none⟩ = some (.string (postB q))
theorem PatsAt.below {w W : World} {g : Nat} {qs : List ByteArray} (h : PatsAt w g qs) (hb : Below w.heap.size w W) : PatsAt W g qs :=
  ⟨Nat.lt_of_lt_of_le h.1 hb.size, fun j q hq => by
    obtain ⟨h0, h1, h2⟩ := h.2 j q hq
    exact ⟨(hb.cell (p := ⟨g, j * 3, none⟩) h.1).trans h0, (hb.cell (p := ⟨g, j * 3 + 1, none⟩) h.1).trans h1, (hb.cell (p := ⟨g, j * 3 + 2, none⟩) h.1).trans h2⟩⟩

set_option maxRecDepth 100000 in
set_option maxHeartbeats 1000000 in
theorem fits_is (g n : Nat) (qs : List ByteArray) (x : ByteArray) (w : World) (hn : qs.length = n) (h : PatsAt w g qs) (hm : n ≤ 1000000) (hq : ∀ q ∈ qs, q.size ≤ 1000000) (hx : x.size ≤ 1000000) :
    Calls Tryd.prog 29 #[.slice (some ⟨g, 0, none⟩) n n, .string x] w fun e W' => e = .returned (.bool (fitB qs x)) ∧ Below w.heap.size w W' := by
  have HN := Lib.hid hn
  have HP := Lib.hid h
  have HQ := Lib.hid hq
  clear hn h hq
  go_enter Tryd.func29, Tryd.ntmps29
  go_wp2
  go_loopw [11] (fun i wr => ∃ k : Nat, k ≤ n ∧ i = .int .i64 k ∧ Hid (Below w.heap.size w wr ∧ fitB (qs.take k) x = false)) (fun i _ => n - (intOf i).toNat)
  case atStart => exact ⟨0, Nat.zero_le _, rfl, Below.refl _ _, rfl⟩
  case round =>
    obtain ⟨k, hk, rfl, H⟩ := hrel
    by_cases hlt : k < n
    · have hl : k < qs.length := by have := HN.out; omega
      have hqk : qs[k]? = some qs[k] := List.getElem?_eq_getElem hl
      obtain ⟨c0, c1, c2⟩ := (HP.out.below H.out.1).2 k _ hqk
      have zq := HQ.out _ (List.getElem_mem hl)
      have z1 := preB_le qs[k]
      have z2 := postB_le qs[k]
      have HM := Lib.hid (fun W => match_is (hasB qs[k]) (preB qs[k]) (postB qs[k]) x W (by omega) (by omega) (by unfold maxLen; omega))
      have HF : Hid (fitB (qs.take (k + 1)) x = okB (hasB qs[k]) (preB qs[k]) (postB qs[k]) x) := by
        show _ = _
        have := H.out.2
        unfold fitB at this ⊢
        rw [List.take_succ_eq_append_getElem hl, List.any_append, this]
        simp [okQ]
      have HT : Hid (okB (hasB qs[k]) (preB qs[k]) (postB qs[k]) x = true → fitB qs x = true) := fun ht => by
        unfold fitB
        rw [List.any_eq_true]
        exact ⟨qs[k], List.getElem_mem hl, ht⟩
      have hBs := H.out.1.size
      have HB := Lib.hid H.out.1
      clear hqk H
      unfold Of.patV at HM
      generalize okB (hasB qs[k]) (preB qs[k]) (postB qs[k]) x = r at *
      generalize stemB (hasB qs[k]) (preB qs[k]) (postB qs[k]) x = st at *
      generalize hasB qs[k] = h0 at *
      generalize preB qs[k] = p0 at *
      generalize postB qs[k] = p1 at *
      go_wp2_with fail
      refine (HM.out _).mono ?_
      rintro e w1 ⟨rfl, hb1⟩
      have HB1 := Lib.hid ((HB.out.alloc hBs _).trans (hb1.mono (by rw [World.size_alloc]; omega)))
      clear hb1 HB HM
      cases r with
      | true =>
        go_wp2
        go_ret
        exact ⟨ret_bool (HT.out (by first | rfl | trivial)).symm, HB1.out⟩
      | false =>
        go_wp2
        go_roundw
        case rel => exact ⟨k + 1, by omega, by go_num, HB1.out, HF.out⟩
        case measure => simp [intOf]; omega
    · obtain rfl : n = k := by omega
      have HF : Hid (fitB qs x = false) := by
        show _ = _
        have := H.out.2
        rwa [List.take_of_length_le (by rw [HN.out]; exact Nat.le_refl _)] at this
      go_wp2
      go_ret
      exact ⟨ret_bool HF.out.symm, H.out.1⟩

end Go.Proofs.YtmallbgmpmdjiaaDoor.Fits
