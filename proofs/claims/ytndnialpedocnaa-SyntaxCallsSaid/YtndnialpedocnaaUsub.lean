/- The program's substitution: the parts of a text, if it asks for one. -/
import Derived.Test.YtndnialpedocnaaUargs
namespace Go.Proofs.Ytndnialpedocnaa.Usub
open Go.RowKit Go.Proofs.Ytndnialpedocnaa.Strs Go.Proofs.Ytndnialpedocnaa.Spl Go.Proofs.Ytndnialpedocnaa.Upl Go.Proofs.Ytndnialpedocnaa.Uout Go.Proofs.Ytndnialpedocnaa.Uargs
open Go.Proofs.Ytndnialpedocnaa.Pure (bs)

def subV : Option (T × T × T) → Value
  | none => .tuple #[.string .empty, .string .empty, .string .empty, .bool false]
  | some (x, y, z) => .tuple #[.string (bs x), .string (bs y), .string (bs z), .bool true]

set_option maxRecDepth 100000 in
set_option maxHeartbeats 1000000 in
theorem sub_is (s : T) (w : World) (hs : s.length ≤ 1000000) :
    Calls Try.prog 41 #[.string (bs s)] w fun e W' => e = .returned (subV (cutsP s)) ∧ Below w.heap.size w W' := by
  have hsz : (bs s).size = s.length := Pure.size_bs s
  have HO := Lib.hid (fun W => outside_is [40, 123] [41, 125] s 58 W hs)
  rw [show (((58 : UInt8).toNat : Nat) : Int) = 58 from rfl, outI_zero] at HO
  have hc := colon_out s 0 []
  have HB0 := Lib.hid ((Below.refl w.heap.size w).alloc (Nat.le_refl _) (.cells #[.string (bs [40, 123]), .string (bs [41, 125])] 59))
  have HG0 := Lib.hid (heap_alloc_new w (.cells #[.string (bs [40, 123]), .string (bs [41, 125])] 59))
  have b1 : (⟨#[40, 123]⟩ : ByteArray) = bs [40, 123] := rfl
  have b2 : (⟨#[41, 125]⟩ : ByteArray) = bs [41, 125] := rfl
  cases hx : outP [40, 123] [41, 125] 58 0 s with
  | none =>
    rw [hx] at HO hc
    have hcut : cutsP s = none := by unfold cutsP; rw [hc]; rfl
    rw [hcut]
    clear hcut hc hx HG0
    go_enter Try.func41, Try.ntmps41
    go_wp2_with (go_at_call 31; refine (HO.out _).mono ?_; rintro e W2 ⟨rfl, hb2⟩; have HB2 := Lib.hid hb2; clear hb2)
    refine bodyPost_ret (v := subV none) (by simp [results, Try.results41, go_sem, subV]; rfl) rfl ?_
    exact ⟨rfl, HB0.out.trans (HB2.out.mono HB0.out.size)⟩
  | some k =>
    rw [hx] at HO hc
    have hkl := out_lt _ _ _ _ _ _ hx
    have hp1 := part_to s k
    have hp2 := part_from s (k + 1)
    have hl2 : (s.drop (k + 1)).length ≤ 1000000 := by rw [List.length_drop]; omega
    have hsz2 : (bs (s.drop (k + 1))).size = (s.drop (k + 1)).length := Pure.size_bs _
    have he := equal_out (s.drop (k + 1)) 0 []
    have HO2 := Lib.hid (fun W => outside_is [40, 123] [41, 125] (s.drop (k + 1)) 61 W hl2)
    rw [show (((61 : UInt8).toNat : Nat) : Int) = 61 from rfl, outI_zero] at HO2
    have hk2 : (k : Int) + 1 ≤ (s.length : Int) := by omega
    have hk3 : ((k : Int) < 0) = False := by simp
    have hcc : colonP 0 [] s = some (s.take k, s.drop (k + 1)) := hc
    clear hc hx
    generalize hr : s.drop (k + 1) = r at *
    generalize hq : s.take k = q at *
    cases hy : outP [40, 123] [41, 125] 61 0 r with
    | none =>
      rw [hy] at HO2 he
      have hcut : cutsP s = none := by unfold cutsP; rw [hcc]; dsimp only; rw [he]; rfl
      rw [hcut]
      clear hcut hcc he hy hr hq
      go_enter Try.func41, Try.ntmps41
      go_upto_region 6 with (go_at_call 31; refine (HO.out _).mono ?_; rintro e W2 ⟨rfl, hb2⟩; have HB2 := Lib.hid hb2; clear hb2)
      have hb2 := HB2.out
      have hz2 := hb2.size
      rw [World.size_alloc] at hz2
      have hg2 : W2.heap[w.heap.size]? = some (.cells #[.string (bs [40, 123]), .string (bs [41, 125])] 59) := (hb2.block _ (by rw [World.size_alloc]; omega)).trans HG0.out
      have c0 : W2.cell? ⟨w.heap.size, 0, none⟩ = some (.string (bs [40, 123])) := by rw [Lib.cell_of_heap hg2]; rfl
      have c1 : W2.cell? ⟨w.heap.size, 1, none⟩ = some (.string (bs [41, 125])) := by rw [Lib.cell_of_heap hg2]; rfl
      have HBw := Lib.hid (HB0.out.trans (hb2.mono HB0.out.size))
      clear hb2 hg2 HB2 HB0 HG0
      go_wp2_with (go_at_call 31; refine (HO2.out _).mono ?_; rintro e W3 ⟨rfl, hb3⟩; have HB3 := Lib.hid hb3; clear hb3)
      refine bodyPost_ret (v := subV none) (by simp [results, Try.results41, go_sem, subV]; rfl) rfl ?_
      exact ⟨rfl, HBw.out.trans (HB3.out.mono HBw.out.size)⟩
    | some j =>
      rw [hy] at HO2 he
      have hjl := out_lt _ _ _ _ _ _ hy
      have hp3 := part_to r j
      have hp4 := part_from r (j + 1)
      have hj2 : (j : Int) + 1 ≤ (r.length : Int) := by omega
      have hcut : cutsP s = some (q, r.take j, r.drop (j + 1)) := by unfold cutsP; rw [hcc]; dsimp only; rw [he]; rfl
      rw [hcut]
      clear hcut hcc he hy hr hq
      go_enter Try.func41, Try.ntmps41
      go_upto_region 6 with (go_at_call 31; refine (HO.out _).mono ?_; rintro e W2 ⟨rfl, hb2⟩; have HB2 := Lib.hid hb2; clear hb2)
      have hb2 := HB2.out
      have hz2 := hb2.size
      rw [World.size_alloc] at hz2
      have hg2 : W2.heap[w.heap.size]? = some (.cells #[.string (bs [40, 123]), .string (bs [41, 125])] 59) := (hb2.block _ (by rw [World.size_alloc]; omega)).trans HG0.out
      have c0 : W2.cell? ⟨w.heap.size, 0, none⟩ = some (.string (bs [40, 123])) := by rw [Lib.cell_of_heap hg2]; rfl
      have c1 : W2.cell? ⟨w.heap.size, 1, none⟩ = some (.string (bs [41, 125])) := by rw [Lib.cell_of_heap hg2]; rfl
      have HBw := Lib.hid (HB0.out.trans (hb2.mono HB0.out.size))
      clear hb2 hg2 HB2 HB0 HG0
      go_wp2_with (go_at_call 31; refine (HO2.out _).mono ?_; rintro e W3 ⟨rfl, hb3⟩; have HB3 := Lib.hid hb3; clear hb3)
      go_quiet (fail)
      go_wp2
      refine bodyPost_ret (v := subV (some (q, r.take j, r.drop (j + 1)))) (by simp [results, Try.results41, go_sem, subV]) rfl ?_
      exact ⟨rfl, below_drewN (HBw.out.trans (HB3.out.mono HBw.out.size)) _⟩

end Go.Proofs.Ytndnialpedocnaa.Usub
