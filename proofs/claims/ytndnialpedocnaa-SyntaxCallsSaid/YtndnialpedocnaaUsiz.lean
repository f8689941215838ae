/- The program's Size, of an expansion with nothing but leaves below. -/
import Derived.Test.YtndnialpedocnaaUparse
namespace Go.Proofs.Ytndnialpedocnaa.Usiz
open Go.RowKit Go.Proofs.Ytndnialpedocnaa.Spl Go.Proofs.Ytndnialpedocnaa.Nodm Go.Proofs.Ytndnialpedocnaa.Uref
open Go.Proofs.Ytndnialpedocnaa.Pure (bs)

def sliceLen : Value → Nat
  | .slice _ n _ => n
  | _ => 0

set_option maxRecDepth 100000 in
set_option maxHeartbeats 1000000 in
theorem size_flat (k : Nat) (s : T) (A : Option Addr) (c : Nat) (l : List Nod) (S : Nat → Prop) (w : World) (h : NodesIn S w A c l) (hf : ∀ n ∈ l, ∃ k s, n = .mk k s []) (hl : l.length ≤ 1000) :
    Calls Try.prog 10 #[.agg #[.int .i64 (k : Int), .string (bs s), .slice A l.length c]] w fun e W' => e = .returned (.int .i64 ((l.length : Int) + 1)) ∧ Below w.heap.size w W' := by
  have hc := h.1
  have HN := Lib.hid h
  have HF := Lib.hid hf
  obtain ⟨w2, hw2⟩ : ∃ w2, w2 = (w.alloc (.cells #[.int .i64 (k : Int), .string (bs s), .slice A l.length c] 25)).alloc (.cells #[.slice A l.length c] 23) := ⟨_, rfl⟩
  have hz2 : w2.heap.size = w.heap.size + 2 := by rw [hw2, World.size_alloc, World.size_alloc]
  have hb2 : Below w.heap.size w w2 := by rw [hw2]; exact ((Below.refl _ _).alloc (Nat.le_refl _) _).alloc (by rw [World.size_alloc]; omega) _
  have hx2 : w2.heap[w.heap.size + 1]? = some (.cells #[.slice A l.length c] 23) := by
    rw [hw2]
    have := heap_alloc_new (w.alloc (.cells #[.int .i64 (k : Int), .string (bs s), .slice A l.length c] 25)) (.cells #[.slice A l.length c] 23)
    rw [World.size_alloc] at this
    exact this
  have k0 : w2.cell? ⟨w.heap.size + 1, 0, none⟩ = some (.slice A l.length c) := by rw [Lib.cell_of_heap hx2]; rfl
  have HW2 := Lib.hid hw2
  have HB2 := Lib.hid hb2
  obtain ⟨q, hq⟩ : ∃ q, q = l.length := ⟨_, rfl⟩
  rw [← hq] at k0 hl hc HW2 ⊢
  have HQ := Lib.hid hq
  clear hq h hf hw2 hb2 hx2
  go_enter Try.func10, Try.ntmps10
  go_wp2_with fail
  rw [← HW2.out]
  go_loopw [3, 4] (fun zv tv wr => ∃ (z tl : Nat), zv = .int .i64 z ∧ tv = .slice (some ⟨w.heap.size + 1, 0, none⟩) tl 1 ∧ Hid (Below w.heap.size w wr) ∧ ((tl = 1 ∧ z = 1 ∧ Hid (wr = w2)) ∨ (tl = 0 ∧ z = q + 1))) (fun _ tv _ => sliceLen tv)
  case atStart => exact ⟨1, 1, rfl, rfl, HB2, .inl ⟨rfl, rfl, rfl⟩⟩
  case round =>
    obtain ⟨z, tl, rfl, rfl, HB, hcase⟩ := hrel
    rcases hcase with ⟨rfl, rfl, HE⟩ | ⟨rfl, rfl⟩
    · have hE := HE.out
      subst hE
      have h1 : ¬ (1000000 : Int) - 1 < (q : Int) := by omega
      go_wp2_with fail
      have HBo := Lib.hid HB.out
      clear HB
      go_loopw [4, 36] (fun tv i wi => ∃ j : Nat, j ≤ q ∧ tv = .slice (some ⟨w.heap.size + 1, 0, none⟩) 0 1 ∧ i = .int .i64 j ∧ Hid (Below w.heap.size w wi)) (fun _ i _ => q - (intOf i).toNat)
      case atStart => exact ⟨0, Nat.zero_le _, rfl, rfl, HBo⟩
      case round =>
        obtain ⟨j, hj, rfl, rfl, HBi⟩ := hrel
        by_cases hlt : j < q
        · have hjl : j < l.length := by have := HQ.out; omega
          obtain ⟨m, hm⟩ : ∃ m, l[j]? = some m := ⟨l[j], List.getElem?_eq_getElem hjl⟩
          obtain ⟨k', s', rfl⟩ := HF.out m (List.mem_of_getElem? hm)
          obtain ⟨b, o, A', c', rfl, hb, hSb, hin, hcell⟩ := HN.out.at_ hm
          obtain ⟨d0, d1, d2⟩ := hcell wr (HBi.out.block b hb)
          have hwi : w.heap.size ≤ wr.heap.size := HBi.out.size
          have HBn := Lib.hid (HBi.out.alloc hwi (.cells #[.int .i64 (k' : Int), .string (bs s'), .slice A' 0 c'] 25))
          clear hcell hin hSb hm
          go_wp2_with fail
          go_roundw
          case rel => exact ⟨j + 1, by omega, rfl, by go_num, HBn.out⟩
          case measure => simp [intOf]; omega
        · obtain rfl : j = q := by omega
          go_wp2_with fail
          go_roundw
          case rel => exact ⟨j + 1, 0, by first | rfl | go_num | (congr 1; omega), rfl, HBi.out, .inr ⟨rfl, rfl⟩⟩
          case measure => simp [sliceLen]
    · go_wp2
      go_ret
      exact ⟨rfl, HB.out⟩

end Go.Proofs.Ytndnialpedocnaa.Usiz
