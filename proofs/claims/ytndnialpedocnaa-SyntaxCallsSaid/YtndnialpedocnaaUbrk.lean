/- The program's bracketed: the reference whose bracket is right ahead. -/
import Derived.StillTailTactics
import Derived.Deep.RegionHeld3
import Derived.WalkLawsBesides
import Derived.Test.YtndnialpedocnaaUnode
namespace Go.Proofs.Ytndnialpedocnaa.Ubrk
open Go.RowKit Go.Proofs.Ytndnialpedocnaa.Spl Go.Proofs.Ytndnialpedocnaa.Upl Go.Proofs.Ytndnialpedocnaa.Nodm Go.Proofs.Ytndnialpedocnaa.Unod Go.Proofs.Ytndnialpedocnaa.Uargs Go.Proofs.Ytndnialpedocnaa.Ucall Go.Proofs.Ytndnialpedocnaa.Urow Go.Proofs.Ytndnialpedocnaa.Ubld Go.Proofs.Ytndnialpedocnaa.Uall Go.Proofs.Ytndnialpedocnaa.Uput Go.Proofs.Ytndnialpedocnaa.Uset
open Go.Proofs.Ytndnialpedocnaa.Pure (bs)

abbrev Tr : Nat → Prop := fun _ => True
theorem put_full (B b H : Nat) (u : Value) (acc : List Nod) (cur : T) (k : Nat) (s : T) (m : List Nod) (A : Option Addr) (c : Nat) (w : World) (h : RowAt Tr B b H u acc cur w) (hn : NodeIn (SF H w) w (.agg #[.int .i64 (k : Int), .string (bs s), .slice A m.length c]) (.mk k s m)) (hl : acc.length ≤ 1000000) :
    Calls Try.prog 24 #[.pointer (some ⟨b, 0, none⟩), .agg #[.int .i64 (k : Int), .string (bs s), .slice A m.length c]] w fun e W' => e = .returned (.tuple #[]) ∧ ∃ u', RowAt Tr B b W'.heap.size u' (flushP acc cur ++ [.mk k s m]) [] W' ∧ Below B w W' :=
  put_is B b acc cur k s m A c H u w h hn hl fun W hW => settle_is Tr B b H u acc cur W hW hl
def brP (p : UInt8 → T → Rd Nod) (o : UInt8) (s : T) : Rd (Nod × T) := match endsP o (shutOf o) 1 s with
  | none => .bad .form
  | some e => match p o (s.take e) with
    | .bad x => .bad x
    | .ok m => .ok (m, s.drop (e + 1))
def BrOut (B b : Nat) (acc : List Nod) (cur : T) (W : World) (e : Ending) : Rd (Nod × T) → Prop
  | .bad x => e = errPan (errN x)
  | .ok (m, r) => e = .returned (.string (bs r)) ∧ ∃ u', RowAt Tr B b W.heap.size u' (flushP acc cur ++ [m]) [] W
def RefIs (N : Nat) (p : UInt8 → T → Rd Nod) : Prop := ∀ (t : T) (o : UInt8) (w : World), (o = 40 ∨ o = 123) → t.length ≤ 999999 → Calls Try.prog 32 #[.agg #[.string (bs [o]), .string (bs [shutOf o])], .string (bs t), .int .i64 ((N : Int) + 1)] w fun e W' => ReadOut w.heap.size W' e (p o t) ∧ Below w.heap.size w W'

set_option maxRecDepth 100000 in
set_option maxHeartbeats 1000000 in
theorem bracketed_is (N : Nat) (hN : N ≤ 40) (p : UInt8 → T → Rd Nod) (H40 : N = 40 → ∀ o t, p o t = .bad .deep) (HRf : N < 40 → RefIs N p) (o : UInt8) (ho : o = 40 ∨ o = 123) (B b H : Nat) (u : Value) (acc : List Nod) (cur s : T) (w : World) (h : RowAt Tr B b H u acc cur w) (hl : acc.length ≤ 1000000) (hs : s.length ≤ 999999) :
    Calls Try.prog 23 #[.pointer (some ⟨b, 0, none⟩), .agg #[.string (bs [o]), .string (bs [shutOf o])], .string (bs s), .int .i64 (N : Int)] w fun e W' => BrOut B b acc cur W' e (brP p o s) ∧ Below B w W' := by
  have hBb := h.at_
  have hHz := h.hz
  have hbH := h.lt
  have hne : shutOf o ≠ o := by rcases ho with rfl | rfl <;> decide
  obtain ⟨c, hc⟩ : ∃ c, c = shutOf o := ⟨_, rfl⟩
  have hsz1 : (bs [c]).size = 1 := rfl
  have hsz : (bs s).size = s.length := Pure.size_bs s
  have hb1 : ((((bs [c])[0]'(by rw [hsz1]; decide)).toNat : Nat) : Int) = ((c.toNat : Nat) : Int) := rfl
  obtain ⟨w1, hw1⟩ : ∃ w1, w1 = w.alloc (.cells #[.string (bs [o]), .string (bs [shutOf o])] 59) := ⟨_, rfl⟩
  have hbe1 : Below w.heap.size w w1 := by rw [hw1]; exact (Below.refl _ _).alloc (Nat.le_refl _) _
  have hz1 : w1.heap.size = w.heap.size + 1 := by rw [hw1, World.size_alloc]
  have hx1 : w1.heap[w.heap.size]? = some (.cells #[.string (bs [o]), .string (bs [c])] 59) := by rw [hw1, hc]; exact heap_alloc_new w _
  have k0 : w1.cell? ⟨w.heap.size, 0, none⟩ = some (.string (bs [o])) := by rw [Lib.cell_of_heap hx1]; rfl
  have k1 : w1.cell? ⟨w.heap.size, 1, none⟩ = some (.string (bs [c])) := by rw [Lib.cell_of_heap hx1]; rfl
  have HO := Lib.hid (fun W => Uout.outside_is [o] [c] s c W (by omega))
  rw [outI_zero] at HO
  have HR := Lib.hid h
  have HB1 := Lib.hid hbe1
  have HX1 := Lib.hid hx1
  have hen : endsP o (shutOf o) 1 s = outP [o] [c] c 0 s := by rw [hc]; exact ends_out o (shutOf o) hne s 0
  have HW1 := Lib.hid hw1
  rw [← hc] at HW1 ⊢
  have HCc := Lib.hid hc
  clear hw1 hbe1 hx1 h hc
  go_enter Try.func23, Try.ntmps23
  go_upto_region 1 with fail
  rw [← HW1.out]
  go_still_tail 5, (by kernel_rfl)
  change wpList _ _ _ _ _ w1.drew
  have hbd : Below w.heap.size w w1.drew := HB1.out.drew
  have hxd : w1.drew.heap[w.heap.size]? = some (.cells #[.string (bs [o]), .string (bs [c])] 59) := HX1.out
  have hzd : w1.drew.heap.size = w.heap.size + 1 := hz1
  obtain ⟨wd, hwd⟩ : ∃ wd, w1.drew = wd := ⟨_, rfl⟩
  rw [hwd] at hbd hxd hzd ⊢
  have HBd := Lib.hid hbd
  have HXd := Lib.hid hxd
  clear hwd hbd hxd HB1 HX1 HW1 k0 k1 hz1
  have hbrr : brP p o s = match outP [o] [c] c 0 s with
      | none => .bad .form
      | some e => match p o (s.take e) with
        | .bad x => .bad x
        | .ok m => .ok (m, s.drop (e + 1)) := by unfold brP; rw [hen]
  cases hx : outP [o] [c] c 0 s with
  | none =>
    rw [hx] at HO hbrr
    have HF := Lib.hid hbrr
    clear hx hen hbrr
    go_wp2_with (go_at_call 31; refine (HO.out _).mono ?_; rintro e W2 ⟨rfl, hb2⟩; have HB2 := Lib.hid hb2; clear hb2)
    have hb2 := HB2.out
    refine ⟨rfl, ?_, (HBd.out.mono (by omega)).trans (hb2.mono (by omega))⟩
    rw [HF.out]
    rfl
  | some en =>
    rw [hx] at HO hbrr
    have hel := out_lt _ _ _ _ _ _ hx
    have hlt0 : ¬ (en : Int) < 0 := by omega
    have hk2 : (en : Int) + 1 ≤ (s.length : Int) := by omega
    have hk3 : (en : Int) ≤ (s.length : Int) := by omega
    have hp1 := part_to s en
    have hp2 := part_from s (en + 1)
    clear hx hen
    by_cases hN40 : N = 40
    · have HF : Hid (brP p o s = .bad .deep) := by
        show _ = _
        rw [hbrr]
        dsimp only
        rw [H40 hN40]
      subst hN40
      clear hbrr H40 HRf
      go_wp2_with (go_at_call 31; refine (HO.out _).mono ?_; rintro e W2 ⟨rfl, hb2⟩; have HB2 := Lib.hid hb2; clear hb2)
      have hb2 := HB2.out
      refine ⟨rfl, ?_, (HBd.out.mono (by omega)).trans (hb2.mono (by omega))⟩
      rw [HF.out]
      rfl
    · have hNb : (((N : Nat) : Int) == 40) = false := by rw [beq_eq_false_iff_ne]; omega
      have hNn : ¬ ((N : Nat) : Int) = 40 := by omega
      have HRe := Lib.hid (fun W => HRf (by omega) (s.take en) o W ho (by rw [List.length_take]; omega))
      rw [← HCc.out] at HRe
      clear H40 HRf hN40
      go_upto_region 6 with (go_at_call 31; refine (HO.out _).mono ?_; rintro e W2 ⟨rfl, hb2⟩; have HB2 := Lib.hid hb2; clear hb2)
      have hb2 := HB2.out
      have hz2 := hb2.size
      have hg2 : W2.heap[w.heap.size]? = some (.cells #[.string (bs [o]), .string (bs [c])] 59) := (hb2.block _ (by omega)).trans HXd.out
      have k0 : W2.cell? ⟨w.heap.size, 0, none⟩ = some (.string (bs [o])) := by rw [Lib.cell_of_heap hg2]; rfl
      have k1 : W2.cell? ⟨w.heap.size, 1, none⟩ = some (.string (bs [c])) := by rw [Lib.cell_of_heap hg2]; rfl
      have hb02 : Below w.heap.size w W2 := HBd.out.trans (hb2.mono (by omega))
      have hb03 : Below w.heap.size w W2.drew := hb02.drew
      have hz3 : w.heap.size ≤ W2.drew.heap.size := hb03.size
      have HB3 := Lib.hid hb03
      have HR3 := Lib.hid ((HR.out.on hb03).up (Nat.le_trans hHz hz3) (Nat.le_refl _))
      have HC := Lib.hid (HRe.out W2.drew)
      have hwr : IntKind.i64.wrap ((N : Int) + 1) = (N : Int) + 1 := by rw [IntKind.wrap_i64]; omega
      have hB3 : B ≤ W2.drew.heap.size := by omega
      have HZ3 : Hid (B ≤ W2.drew.heap.size ∧ B ≤ w.heap.size) := ⟨hB3, by omega⟩
      clear hb03 hb02 hg2 hb2 HB2 HBd HXd HR HRe HO hz3 hB3
      cases hpx : p o (s.take en) with
      | bad x =>
        rw [hpx] at HC hbrr
        have HF := Lib.hid hbrr
        unfold ReadOut errPan at HC
        clear hbrr hpx
        refine wp_region_any (by kernel_rfl) ?_
        change wpAny _ _ _ _ _ _ _ W2.drew
        refine wpAny_take (i := 0) (v := .pointer (some ⟨b, 0, none⟩)) rfl (by kernel_rfl) (by kernel_rfl) (by kernel_rfl) (fun _ _ _ h => h) (Or.inl ⟨by rfl, fun w => by go_simp⟩) ?_
        refine wpAny_take (i := 2) (v := .string (bs s)) rfl (by kernel_rfl) (by kernel_rfl) (by kernel_rfl) (fun _ _ _ h => h) (Or.inl ⟨by rfl, fun w => by go_simp⟩) ?_
        refine wpAny_take (i := 3) (v := .int .i64 (en : Int)) rfl (by kernel_rfl) (by kernel_rfl) (by kernel_rfl) (fun _ _ _ h => h) (Or.inl ⟨by rfl, fun w => by go_simp⟩) ?_
        refine wpAny_take (i := 5) (v := .int .i64 (N : Int)) rfl (by kernel_rfl) (by kernel_rfl) (by kernel_rfl) (fun _ _ _ h => h) (Or.inl ⟨by rfl, fun w => by go_simp⟩) ?_
        refine wpAny_take (i := 6) (v := .int .i64 ((N : Int) + 1)) rfl (by kernel_rfl) (by kernel_rfl) (by kernel_rfl) (fun _ _ _ h => h) (Or.inl ⟨by rfl, fun w => by go_simp⟩) ?_
        refine wpAny_ready (rs := [1, 4]) (by kernel_rfl) (by simp) ?_
        refine AllReady.cons rfl (fun K hK => ?_) (AllReady.cons rfl (fun K hK => ?_) AllReady.nil)
        · go_simp
          refine hK _ _ ?_
          clear hK K
          refine wpAny_ready (rs := [4]) (by kernel_rfl) (by simp) ?_
          refine AllReady.cons rfl (fun K hK => ?_) AllReady.nil
          go_simp
          refine hK _ _ ?_
          clear hK K
          refine wpAny_ready (rs := [7]) (by kernel_rfl) (by simp) ?_
          refine AllReady.cons rfl (fun K hK => ?_) AllReady.nil
          go_simp
          go_at_call 32
          refine HC.out.mono ?_
          rintro e W4 ⟨rfl, hb4⟩
          refine ⟨rfl, ?_, (HB3.out.mono HZ3.out.2).trans (hb4.mono HZ3.out.1)⟩
          rw [HF.out]
          rfl
        · go_simp
          refine hK _ _ ?_
          clear hK K
          refine wpAny_ready (rs := [1]) (by kernel_rfl) (by simp) ?_
          refine AllReady.cons rfl (fun K hK => ?_) AllReady.nil
          go_simp
          refine hK _ _ ?_
          clear hK K
          refine wpAny_ready (rs := [7]) (by kernel_rfl) (by simp) ?_
          refine AllReady.cons rfl (fun K hK => ?_) AllReady.nil
          go_simp
          go_at_call 32
          refine HC.out.mono ?_
          rintro e W4 ⟨rfl, hb4⟩
          refine ⟨rfl, ?_, (HB3.out.mono HZ3.out.2).trans (hb4.mono HZ3.out.1)⟩
          rw [HF.out]
          rfl
      | ok m =>
        obtain ⟨mk, ms, ml⟩ := m
        rw [hpx] at HC hbrr
        have HF := Lib.hid hbrr
        unfold ReadOut at HC
        clear hbrr hpx
        go_region_law (first | (go_simp; go_at_call 32; refine HC.out.mono ?_; rintro e W4 ⟨⟨v, rfl, hv⟩, hb4⟩; obtain ⟨A4, c4, rfl, hns⟩ := hv.inv; have HP4 := Lib.hid (put_full B b W2.drew.heap.size u acc cur mk ms ml A4 c4 W4 (HR3.out.on hb4) hv hl); have HB4 := Lib.hid hb4; clear hv hns hb4) | (go_simp; go_at_call 24; refine HP4.out.mono ?_; rintro e W5 ⟨rfl, u5, hr5, hb5⟩; have HR5 := Lib.hid hr5; have HB5 := Lib.hid hb5; clear hr5 hb5))
        all_goals go_wp2
        all_goals go_ret
        all_goals exact ⟨by rw [HF.out]; exact ⟨rfl, u5, HR5.out⟩, ((HB3.out.mono HZ3.out.2).trans (HB4.out.mono HZ3.out.1)).trans HB5.out⟩

end Go.Proofs.Ytndnialpedocnaa.Ubrk
