/- The program's row: all that was read, as one. -/
import Derived.Test.YtmcdefkpkpaceaaGreatDoorUsetJ
import Derived.StillTailTactics
import Derived.Deep.RegionHeld3
import Derived.WalkLawsBesides
namespace Go.Proofs.YtmcdefkpkpaceaaGreatDoor.Unode
open Go.RowKit Go.Proofs.YtmcdefkpkpaceaaGreatDoor.Spl Go.Proofs.YtmcdefkpkpaceaaGreatDoor.Nodm Go.Proofs.YtmcdefkpkpaceaaGreatDoor.Unod Go.Proofs.YtmcdefkpkpaceaaGreatDoor.Uref Go.Proofs.YtmcdefkpkpaceaaGreatDoor.Urow Go.Proofs.YtmcdefkpkpaceaaGreatDoor.Ubld Go.Proofs.YtmcdefkpkpaceaaGreatDoor.Uall Go.Proofs.YtmcdefkpkpaceaaGreatDoor.Uput Go.Proofs.YtmcdefkpkpaceaaGreatDoor.Uset
open Go.Proofs.YtmcdefkpkpaceaaGreatDoor.Pure (bs)

set_option maxRecDepth 100000 in
set_option maxHeartbeats 1000000 in
theorem node_is (B b H : Nat) (u : Value) (acc : List Nod) (cur : T) (w : World) (h : RowAt (fun _ => True) B b H u acc cur w) (hl : acc.length ≤ 1000000) :
    Calls Tryz.prog 54 #[.pointer (some ⟨b, 0, none⟩)] w fun e W' => (∃ v, e = .returned v ∧ NodeIn (SF B W') W' v (wholeP (flushP acc cur))) ∧ Below B w W' := by
  have hBb := h.at_
  have hHz := h.hz
  have hbH := h.lt
  have hnn := h.not_new
  obtain ⟨w1, hw1⟩ : ∃ w1, w1 = w.alloc (.cells #[.int .i64 0, .string ⟨#[]⟩, .slice none 0 0] 25) := ⟨_, rfl⟩
  have hb1 : Below w.heap.size w w1 := by rw [hw1]; exact (Below.refl _ _).alloc (Nat.le_refl _) _
  have hx1 : w1.heap[w.heap.size]? = some (.cells #[.int .i64 0, .string .empty, .slice none 0 0] 25) := by rw [hw1]; exact heap_alloc_new w _
  have hz1 : w1.heap.size = w.heap.size + 1 := by rw [hw1, World.size_alloc]
  have HC := Lib.hid (settle_is _ B b H u acc cur w1 (hnn.on hb1) hl)
  unfold Settled at HC
  obtain ⟨l, hfl⟩ : ∃ l, flushP acc cur = l := ⟨_, rfl⟩
  rw [hfl] at HC ⊢
  clear hfl
  have HB1 := Lib.hid hb1
  have HX1 := Lib.hid hx1
  have HW1 := Lib.hid hw1
  clear hnn h hw1 hb1 hx1
  go_enter Tryz.func54, Tryz.ntmps54
  go_upto_region 2 with (go_at_call 65; rw [← HW1.out]; refine HC.out.mono ?_; rintro e w2 ⟨rfl, u2, hr2, hb2, hs2, ho2⟩; have HR2 := Lib.hid hr2; have HB2 := Lib.hid hb2; have HS2 := Lib.hid hs2; have HO2 := Lib.hid ho2; clear hr2 hb2 hs2 ho2)
  obtain ⟨p, v, vs, hg, hp, hu, hvl, hvn, hv, hvH⟩ := HR2.out.st
  have hx2 : w2.heap[w.heap.size]? = some (.cells #[.int .i64 0, .string .empty, .slice none 0 0] 25) := (HS2.out _ (by omega) (by omega)).trans HX1.out
  have hS : ∀ g, u2.ownBlock = some g → (fun g => SF B w2 g ∧ g ≠ w.heap.size) g := fun g e => by
    refine ⟨⟨(hu.lt g e).1, ?_⟩, fun e2 => ?_⟩
    · rcases hu.2 with ⟨h1, _⟩ | ⟨g', cap, cr, h1, _, h3, _⟩
      · rw [h1] at e; cases e
      · rw [h1] at e
        rw [← own_at e]
        exact ⟨_, _, h3⟩
    · rcases HO2.out g e with h | h <;> omega
  obtain ⟨A2, c2, hu2, hin⟩ := nodes_of_own (S := fun g => SF B w2 g ∧ g ≠ w.heap.size) hu hvl rfl hS fun j x m hx hm => (hvn j x m hx hm).mono fun g hg _ => ⟨hg.1.1, hg.1.2.2⟩
  subst hu2
  have HBw := Lib.hid ((HB1.out.mono (show B ≤ w.heap.size by omega)).trans HB2.out)
  obtain ⟨cb0, _, _⟩ := cells_at hg
  obtain ⟨x0, x1, x2⟩ := cells_at hx2
  have f0 := frozen_of_row w2 w.heap.size 0 _ _ hx2
  have f1 := frozen_of_row w2 w.heap.size 1 _ _ hx2
  have f2 := frozen_of_row w2 w.heap.size 2 _ _ hx2
  have HX2 := Lib.hid hx2
  have hmov : Hid (∀ W : World, (∀ k, k ≠ w.heap.size → W.heap[k]? = w2.heap[k]?) → ∀ k, (fun g => SF B w2 g ∧ g ≠ w.heap.size) k → k < w2.heap.size → SF B W k ∧ W.heap[k]? = w2.heap[k]?) := fun W hW k hk _ => ⟨hk.1.of (hW k hk.2), hW k hk.2⟩
  clear hS hp hu hvl hvn hv hvH hg hx2 HB1 HB2 HS2 HO2 HR2 HW1 HX1 HC
  by_cases h0 : l.length = 0
  · obtain rfl := List.eq_nil_of_length_eq_zero h0
    go_wp2_with fail
    obtain ⟨W, hW⟩ : ∃ W, ((w2.setCell ⟨w.heap.size, 0, none⟩ (.int .i64 1)).setCell ⟨w.heap.size, 1, none⟩ (.string ByteArray.empty)).setCell ⟨w.heap.size, 2, none⟩ (.slice none 0 0) = W := ⟨_, rfl⟩
    obtain ⟨z1, z2, z3, z4⟩ := three_far w2 W _ _ _ _ _ _ _ _ HX2.out hW
    obtain ⟨y0, y1, y2⟩ := cells_three z1
    first | rw [hW] | rw [show (Value.string { data := #[] }) = Value.string ByteArray.empty from rfl, hW]
    refine bodyPost_ret (v := .agg #[.int .i64 1, .string ByteArray.empty, .slice none 0 0]) (by simp [results, Tryz.results54, go_sem, y0, y1, y2]) rfl ?_
    exact ⟨⟨_, rfl, NodeIn.leaf _ W 1 [] none 0⟩, HBw.out.trans (z4.mono (by omega))⟩
  · by_cases h1 : l.length = 1
    · obtain ⟨⟨kk, s, m⟩, rfl⟩ : ∃ n, l = [n] := List.length_eq_one_iff.1 h1
      obtain ⟨gb, go, A', c', rfl, hgb, hgS, hin1, hcell⟩ := hin.at_ (j := 0) rfl
      obtain ⟨d0, d1, d2⟩ := hcell w2 rfl
      rw [Nat.zero_mul, Nat.add_zero] at d0 d1 d2
      have HI := Lib.hid hin1
      clear hin hcell h0 h1 hin1 hgS
      go_wp2_with fail
      obtain ⟨W, hW⟩ : ∃ W, ((w2.setCell ⟨w.heap.size, 0, none⟩ (.int .i64 (kk : Int))).setCell ⟨w.heap.size, 1, none⟩ (.string (bs s))).setCell ⟨w.heap.size, 2, none⟩ (.slice A' m.length c') = W := ⟨_, rfl⟩
      obtain ⟨z1, z2, z3, z4⟩ := three_far w2 W _ _ _ _ _ _ _ _ HX2.out hW
      obtain ⟨y0, y1, y2⟩ := cells_three z1
      rw [hW]
      refine bodyPost_ret (v := .agg #[.int .i64 (kk : Int), .string (bs s), .slice A' m.length c']) (by simp [results, Tryz.results54, go_sem, y0, y1, y2]) rfl ?_
      exact ⟨⟨_, rfl, ((HI.out.move (S' := SF B W) (hmov.out W z3) z2).node kk s)⟩, HBw.out.trans (z4.mono (by omega))⟩
    · have hb0 : (((l.length : Nat) : Int) == 0) = false := by rw [beq_eq_false_iff_ne]; omega
      have hb1 : (((l.length : Nat) : Int) == 1) = false := by rw [beq_eq_false_iff_ne]; omega
      have HW : Hid (wholeP l = .mk 5 [] l) := by
        show _ = _
        match l, h0, h1 with
        | [], h0, _ => exact absurd rfl h0
        | [n], _, h1 => exact absurd rfl h1
        | _ :: _ :: _, _, _ => rfl
      have HI := Lib.hid hin
      clear hin h0 h1
      go_wp2_with fail
      obtain ⟨W, hW⟩ : ∃ W, ((w2.setCell ⟨w.heap.size, 0, none⟩ (.int .i64 5)).setCell ⟨w.heap.size, 1, none⟩ (.string ByteArray.empty)).setCell ⟨w.heap.size, 2, none⟩ (.slice A2 l.length c2) = W := ⟨_, rfl⟩
      obtain ⟨z1, z2, z3, z4⟩ := three_far w2 W _ _ _ _ _ _ _ _ HX2.out hW
      obtain ⟨y0, y1, y2⟩ := cells_three z1
      first | rw [hW] | rw [show (Value.string { data := #[] }) = Value.string ByteArray.empty from rfl, hW]
      refine bodyPost_ret (v := .agg #[.int .i64 5, .string ByteArray.empty, .slice A2 l.length c2]) (by simp [results, Tryz.results54, go_sem, y0, y1, y2]) rfl ?_
      rw [HW.out]
      exact ⟨⟨_, rfl, ((HI.out.move (S' := SF B W) (hmov.out W z3) z2).node 5 [])⟩, HBw.out.trans (z4.mono (by omega))⟩

end Go.Proofs.YtmcdefkpkpaceaaGreatDoor.Unode

/- The program's bracketed: the reference whose bracket is right ahead. -/
namespace Go.Proofs.YtmcdefkpkpaceaaGreatDoor.Ubrk
open Go.RowKit Go.Proofs.YtmcdefkpkpaceaaGreatDoor.Spl Go.Proofs.YtmcdefkpkpaceaaGreatDoor.Upl Go.Proofs.YtmcdefkpkpaceaaGreatDoor.Nodm Go.Proofs.YtmcdefkpkpaceaaGreatDoor.Unod Go.Proofs.YtmcdefkpkpaceaaGreatDoor.Uargs Go.Proofs.YtmcdefkpkpaceaaGreatDoor.Ucall Go.Proofs.YtmcdefkpkpaceaaGreatDoor.Urow Go.Proofs.YtmcdefkpkpaceaaGreatDoor.Ubld Go.Proofs.YtmcdefkpkpaceaaGreatDoor.Uall Go.Proofs.YtmcdefkpkpaceaaGreatDoor.Uput Go.Proofs.YtmcdefkpkpaceaaGreatDoor.Uset
open Go.Proofs.YtmcdefkpkpaceaaGreatDoor.Pure (bs)

abbrev Tr : Nat → Prop := fun _ => True
theorem put_full (B b H : Nat) (u : Value) (acc : List Nod) (cur : T) (k : Nat) (s : T) (m : List Nod) (A : Option Addr) (c : Nat) (w : World) (h : RowAt Tr B b H u acc cur w) (hn : NodeIn (SF H w) w (.agg #[.int .i64 (k : Int), .string (bs s), .slice A m.length c]) (.mk k s m)) (hl : acc.length ≤ 1000000) :
    Calls Tryz.prog 69 #[.pointer (some ⟨b, 0, none⟩), .agg #[.int .i64 (k : Int), .string (bs s), .slice A m.length c]] w fun e W' => e = .returned (.tuple #[]) ∧ ∃ u', RowAt Tr B b W'.heap.size u' (flushP acc cur ++ [.mk k s m]) [] W' ∧ Below B w W' :=
  put_is B b acc cur k s m A c H u w h hn hl fun W hW => settle_is Tr B b H u acc cur W hW hl
def brP (p : UInt8 → T → Rd Nod) (o : UInt8) (s : T) : Rd (Nod × T) := match endsP o (shutOf o) 1 s with
  | none => .bad .form
  | some e => match p o (s.take e) with
    | .bad x => .bad x
    | .ok m => .ok (m, s.drop (e + 1))
def BrOut (B b : Nat) (acc : List Nod) (cur : T) (W : World) (e : Ending) : Rd (Nod × T) → Prop
  | .bad x => e = errPan (errN x)
  | .ok (m, r) => e = .returned (.string (bs r)) ∧ ∃ u', RowAt Tr B b W.heap.size u' (flushP acc cur ++ [m]) [] W
def RefIs (N : Nat) (p : UInt8 → T → Rd Nod) : Prop := ∀ (t : T) (o : UInt8) (w : World), (o = 40 ∨ o = 123) → t.length ≤ 999999 → Calls Tryz.prog 80 #[.agg #[.string (bs [o]), .string (bs [shutOf o])], .string (bs t), .int .i64 ((N : Int) + 1)] w fun e W' => ReadOut w.heap.size W' e (p o t) ∧ Below w.heap.size w W'

set_option maxRecDepth 100000 in
set_option maxHeartbeats 1000000 in
theorem bracketed_is (N : Nat) (hN : N ≤ 40) (p : UInt8 → T → Rd Nod) (H40 : N = 40 → ∀ o t, p o t = .bad .deep) (HRf : N < 40 → RefIs N p) (o : UInt8) (ho : o = 40 ∨ o = 123) (B b H : Nat) (u : Value) (acc : List Nod) (cur s : T) (w : World) (h : RowAt Tr B b H u acc cur w) (hl : acc.length ≤ 1000000) (hs : s.length ≤ 999999) :
    Calls Tryz.prog 68 #[.pointer (some ⟨b, 0, none⟩), .agg #[.string (bs [o]), .string (bs [shutOf o])], .string (bs s), .int .i64 (N : Int)] w fun e W' => BrOut B b acc cur W' e (brP p o s) ∧ Below B w W' := by
  have hBb := h.at_
  have hHz := h.hz
  have hbH := h.lt
  have hne : shutOf o ≠ o := by rcases ho with rfl | rfl <;> decide
  obtain ⟨c, hc⟩ : ∃ c, c = shutOf o := ⟨_, rfl⟩
  have hsz1 : (bs [c]).size = 1 := rfl
  have hsz : (bs s).size = s.length := Pure.size_bs s
  have hb1 : ((((bs [c])[0]'(by rw [hsz1]; decide)).toNat : Nat) : Int) = ((c.toNat : Nat) : Int) := rfl
  obtain ⟨w1, hw1⟩ : ∃ w1, w1 = w.alloc (.cells #[.string (bs [o]), .string (bs [shutOf o])] 136) := ⟨_, rfl⟩
  have hbe1 : Below w.heap.size w w1 := by rw [hw1]; exact (Below.refl _ _).alloc (Nat.le_refl _) _
  have hz1 : w1.heap.size = w.heap.size + 1 := by rw [hw1, World.size_alloc]
  have hx1 : w1.heap[w.heap.size]? = some (.cells #[.string (bs [o]), .string (bs [c])] 136) := by rw [hw1, hc]; exact heap_alloc_new w _
  have k0 : w1.cell? ⟨w.heap.size, 0, none⟩ = some (.string (bs [o])) := by rw [Lib.cell_of_heap hx1]; rfl
  have k1 : w1.cell? ⟨w.heap.size, 1, none⟩ = some (.string (bs [c])) := by rw [Lib.cell_of_heap hx1]; rfl
  have HO := Lib.hid (fun W => Uout.outside_is [o] [c] s c W (by omega))
  rw [outI_zero] at HO
  have HR := Lib.hid h
  have HB1 := Lib.hid hbe1
  have HX1 := Lib.hid hx1
  have hen : endsP o (shutOf o) 1 s = outP [o] [c] c 0 s := by rw [hc]; exact ends_out o (shutOf o) hne s 0
  have HW1 := Lib.hid hw1
  rw [← hc] at HW1 ⊢
  have HCc := Lib.hid hc
  clear hw1 hbe1 hx1 h hc
  go_enter Tryz.func68, Tryz.ntmps68
  go_upto_region 1 with fail
  rw [← HW1.out]
  go_still_tail 5, (by kernel_rfl)
  change wpList _ _ _ _ _ w1.drew
  have hbd : Below w.heap.size w w1.drew := HB1.out.drew
  have hxd : w1.drew.heap[w.heap.size]? = some (.cells #[.string (bs [o]), .string (bs [c])] 136) := HX1.out
  have hzd : w1.drew.heap.size = w.heap.size + 1 := hz1
  obtain ⟨wd, hwd⟩ : ∃ wd, w1.drew = wd := ⟨_, rfl⟩
  rw [hwd] at hbd hxd hzd ⊢
  have HBd := Lib.hid hbd
  have HXd := Lib.hid hxd
  clear hwd hbd hxd HB1 HX1 HW1 k0 k1 hz1
  have hbrr : brP p o s = match outP [o] [c] c 0 s with
      | none => .bad .form
      | some e => match p o (s.take e) with
        | .bad x => .bad x
        | .ok m => .ok (m, s.drop (e + 1)) := by unfold brP; rw [hen]
  cases hx : outP [o] [c] c 0 s with
  | none =>
    rw [hx] at HO hbrr
    have HF := Lib.hid hbrr
    clear hx hen hbrr
    go_wp2_with (go_at_call 79; refine (HO.out _).mono ?_; rintro e W2 ⟨rfl, hb2⟩; have HB2 := Lib.hid hb2; clear hb2)
    have hb2 := HB2.out
    refine ⟨rfl, ?_, (HBd.out.mono (by omega)).trans (hb2.mono (by omega))⟩
    rw [HF.out]
    rfl
  | some en =>
    rw [hx] at HO hbrr
    have hel := out_lt _ _ _ _ _ _ hx
    have hlt0 : ¬ (en : Int) < 0 := by omega
    have hk2 : (en : Int) + 1 ≤ (s.length : Int) := by omega
    have hk3 : (en : Int) ≤ (s.length : Int) := by omega
    have hp1 := part_to s en
    have hp2 := part_from s (en + 1)
    clear hx hen
    by_cases hN40 : N = 40
    · have HF : Hid (brP p o s = .bad .deep) := by
        show _ = _
        rw [hbrr]
        dsimp only
        rw [H40 hN40]
      subst hN40
      clear hbrr H40 HRf
      go_wp2_with (go_at_call 79; refine (HO.out _).mono ?_; rintro e W2 ⟨rfl, hb2⟩; have HB2 := Lib.hid hb2; clear hb2)
      have hb2 := HB2.out
      refine ⟨rfl, ?_, (HBd.out.mono (by omega)).trans (hb2.mono (by omega))⟩
      rw [HF.out]
      rfl
    · have hNb : (((N : Nat) : Int) == 40) = false := by rw [beq_eq_false_iff_ne]; omega
      have hNn : ¬ ((N : Nat) : Int) = 40 := by omega
      have HRe := Lib.hid (fun W => HRf (by omega) (s.take en) o W ho (by rw [List.length_take]; omega))
      rw [← HCc.out] at HRe
      clear H40 HRf hN40
      go_upto_region 6 with (go_at_call 79; refine (HO.out _).mono ?_; rintro e W2 ⟨rfl, hb2⟩; have HB2 := Lib.hid hb2; clear hb2)
      have hb2 := HB2.out
      have hz2 := hb2.size
      have hg2 : W2.heap[w.heap.size]? = some (.cells #[.string (bs [o]), .string (bs [c])] 136) := (hb2.block _ (by omega)).trans HXd.out
      have k0 : W2.cell? ⟨w.heap.size, 0, none⟩ = some (.string (bs [o])) := by rw [Lib.cell_of_heap hg2]; rfl
      have k1 : W2.cell? ⟨w.heap.size, 1, none⟩ = some (.string (bs [c])) := by rw [Lib.cell_of_heap hg2]; rfl
      have hb02 : Below w.heap.size w W2 := HBd.out.trans (hb2.mono (by omega))
      have hb03 : Below w.heap.size w W2.drew := hb02.drew
      have hz3 : w.heap.size ≤ W2.drew.heap.size := hb03.size
      have HB3 := Lib.hid hb03
      have HR3 := Lib.hid ((HR.out.on hb03).up (Nat.le_trans hHz hz3) (Nat.le_refl _))
      have HC := Lib.hid (HRe.out W2.drew)
      have hwr : IntKind.i64.wrap ((N : Int) + 1) = (N : Int) + 1 := by rw [IntKind.wrap_i64]; omega
      have hB3 : B ≤ W2.drew.heap.size := by omega
      have HZ3 : Hid (B ≤ W2.drew.heap.size ∧ B ≤ w.heap.size) := ⟨hB3, by omega⟩
      clear hb03 hb02 hg2 hb2 HB2 HBd HXd HR HRe HO hz3 hB3
      cases hpx : p o (s.take en) with
      | bad x =>
        rw [hpx] at HC hbrr
        have HF := Lib.hid hbrr
        unfold ReadOut errPan at HC
        clear hbrr hpx
        refine wp_region_any (by kernel_rfl) ?_
        change wpAny _ _ _ _ _ _ _ W2.drew
        refine wpAny_take (i := 0) (v := .pointer (some ⟨b, 0, none⟩)) rfl (by kernel_rfl) (by kernel_rfl) (by kernel_rfl) (fun _ _ _ h => h) (Or.inl ⟨by rfl, fun w => by go_simp⟩) ?_
        refine wpAny_take (i := 2) (v := .string (bs s)) rfl (by kernel_rfl) (by kernel_rfl) (by kernel_rfl) (fun _ _ _ h => h) (Or.inl ⟨by rfl, fun w => by go_simp⟩) ?_
        refine wpAny_take (i := 3) (v := .int .i64 (en : Int)) rfl (by kernel_rfl) (by kernel_rfl) (by kernel_rfl) (fun _ _ _ h => h) (Or.inl ⟨by rfl, fun w => by go_simp⟩) ?_
        refine wpAny_take (i := 5) (v := .int .i64 (N : Int)) rfl (by kernel_rfl) (by kernel_rfl) (by kernel_rfl) (fun _ _ _ h => h) (Or.inl ⟨by rfl, fun w => by go_simp⟩) ?_
        refine wpAny_take (i := 6) (v := .int .i64 ((N : Int) + 1)) rfl (by kernel_rfl) (by kernel_rfl) (by kernel_rfl) (fun _ _ _ h => h) (Or.inl ⟨by rfl, fun w => by go_simp⟩) ?_
        refine wpAny_ready (rs := [1, 4]) (by kernel_rfl) (by simp) ?_
        refine AllReady.cons rfl (fun K hK => ?_) (AllReady.cons rfl (fun K hK => ?_) AllReady.nil)
        · go_simp
          refine hK _ _ ?_
          clear hK K
          refine wpAny_ready (rs := [4]) (by kernel_rfl) (by simp) ?_
          refine AllReady.cons rfl (fun K hK => ?_) AllReady.nil
          go_simp
          refine hK _ _ ?_
          clear hK K
          refine wpAny_ready (rs := [7]) (by kernel_rfl) (by simp) ?_
          refine AllReady.cons rfl (fun K hK => ?_) AllReady.nil
          go_simp
          go_at_call 80
          refine HC.out.mono ?_
          rintro e W4 ⟨rfl, hb4⟩
          refine ⟨rfl, ?_, (HB3.out.mono HZ3.out.2).trans (hb4.mono HZ3.out.1)⟩
          rw [HF.out]
          rfl
        · go_simp
          refine hK _ _ ?_
          clear hK K
          refine wpAny_ready (rs := [1]) (by kernel_rfl) (by simp) ?_
          refine AllReady.cons rfl (fun K hK => ?_) AllReady.nil
          go_simp
          refine hK _ _ ?_
          clear hK K
          refine wpAny_ready (rs := [7]) (by kernel_rfl) (by simp) ?_
          refine AllReady.cons rfl (fun K hK => ?_) AllReady.nil
          go_simp
          go_at_call 80
          refine HC.out.mono ?_
          rintro e W4 ⟨rfl, hb4⟩
          refine ⟨rfl, ?_, (HB3.out.mono HZ3.out.2).trans (hb4.mono HZ3.out.1)⟩
          rw [HF.out]
          rfl
      | ok m =>
        obtain ⟨mk, ms, ml⟩ := m
        rw [hpx] at HC hbrr
        have HF := Lib.hid hbrr
        unfold ReadOut at HC
        clear hbrr hpx
        go_region_law (first | (go_simp; go_at_call 80; refine HC.out.mono ?_; rintro e W4 ⟨⟨v, rfl, hv⟩, hb4⟩; obtain ⟨A4, c4, rfl, hns⟩ := hv.inv; have HP4 := Lib.hid (put_full B b W2.drew.heap.size u acc cur mk ms ml A4 c4 W4 (HR3.out.on hb4) hv hl); have HB4 := Lib.hid hb4; clear hv hns hb4) | (go_simp; go_at_call 69; refine HP4.out.mono ?_; rintro e W5 ⟨rfl, u5, hr5, hb5⟩; have HR5 := Lib.hid hr5; have HB5 := Lib.hid hb5; clear hr5 hb5))
        all_goals go_wp2
        all_goals go_ret
        all_goals exact ⟨by rw [HF.out]; exact ⟨rfl, u5, HR5.out⟩, ((HB3.out.mono HZ3.out.2).trans (HB4.out.mono HZ3.out.1)).trans HB5.out⟩

end Go.Proofs.YtmcdefkpkpaceaaGreatDoor.Ubrk

/- The program's dollar: what a $ stands for. -/
namespace Go.Proofs.YtmcdefkpkpaceaaGreatDoor.Udol
open Go.RowKit Go.Proofs.YtmcdefkpkpaceaaGreatDoor.Spl Go.Proofs.YtmcdefkpkpaceaaGreatDoor.Upl Go.Proofs.YtmcdefkpkpaceaaGreatDoor.Nodm Go.Proofs.YtmcdefkpkpaceaaGreatDoor.Unod Go.Proofs.YtmcdefkpkpaceaaGreatDoor.Uargs Go.Proofs.YtmcdefkpkpaceaaGreatDoor.Ucall Go.Proofs.YtmcdefkpkpaceaaGreatDoor.Urow Go.Proofs.YtmcdefkpkpaceaaGreatDoor.Ubld Go.Proofs.YtmcdefkpkpaceaaGreatDoor.Uall Go.Proofs.YtmcdefkpkpaceaaGreatDoor.Uput Go.Proofs.YtmcdefkpkpaceaaGreatDoor.Uset Go.Proofs.YtmcdefkpkpaceaaGreatDoor.Ubrk
open Go.Proofs.YtmcdefkpkpaceaaGreatDoor.Pure (bs)

def dolP (p : UInt8 → T → Rd Nod) (acc : List Nod) (cur : T) : T → Rd (List Nod × T × T)
  | [] => .ok (acc, cur ++ [36], [])
  | c :: r =>
    if c = 36 then .ok (acc, cur ++ [36], r)
    else if c = 40 ∨ c = 123 then (brP p c r).map fun x => (flushP acc cur ++ [x.1], [], x.2)
    else .ok (flushP acc cur ++ [.mk 2 [] [.mk 1 [c] []]], [], r)
theorem dol_cons (p : UInt8 → T → Rd Nod) (acc : List Nod) (cur : T) (c : UInt8) (r : T) : dolP p acc cur (c :: r) = if c = 36 then .ok (acc, cur ++ [36], r)
    else if c = 40 ∨ c = 123 then (brP p c r).map fun x => (flushP acc cur ++ [x.1], [], x.2)
    else .ok (flushP acc cur ++ [.mk 2 [] [.mk 1 [c] []]], [], r) := rfl
theorem scan_dol (p : UInt8 → T → Rd Nod) (acc : List Nod) (cur s : T) : scan p acc cur (36 :: s) = match dolP p acc cur s with
    | .bad x => .bad x
    | .ok (a, c, r) => scan p a c r := by
  cases s with
  | nil => rfl
  | cons c r =>
    rw [dol_cons]
    by_cases h1 : c = 36
    · rw [if_pos h1, h1]
      exact scan_two p acc cur r
    · rw [if_neg h1]
      by_cases h2 : c = 40 ∨ c = 123
      · rw [if_pos h2, scan_ref p acc cur c r h2]
        unfold brP
        cases endsP c (shutOf c) 1 r with
        | none => rfl
        | some e =>
          dsimp only
          cases p c (r.take e) <;> rfl
      · rw [if_neg h2]
        exact scan_one p acc cur c r h1 h2
def DolOut (B b : Nat) (W : World) (e : Ending) : Rd (List Nod × T × T) → Prop
  | .bad x => e = errPan (errN x)
  | .ok (a, c, r) => e = .returned (.string (bs r)) ∧ ∃ u', RowAt Tr B b W.heap.size u' a c W
/-- how a rest and the things grow -/
theorem dol_len {p : UInt8 → T → Rd Nod} {acc a : List Nod} {cur c s r : T} (h : dolP p acc cur s = .ok (a, c, r)) : r.length ≤ s.length ∧ a.length + c.length ≤ acc.length + cur.length + 1 ∧ c.length ≤ cur.length + 1 := by
  have hf : (flushP acc cur).length ≤ acc.length + cur.length := by
    unfold flushP
    cases cur with
    | nil => simp
    | cons x y =>
      simp
  cases s with
  | nil =>
    cases h
    refine ⟨Nat.le_refl _, ?_, ?_⟩ <;> rw [List.length_append, List.length_singleton] <;> omega
  | cons d t =>
    rw [dol_cons] at h
    split at h
    · cases h
      refine ⟨by rw [List.length_cons]; omega, ?_, ?_⟩ <;> rw [List.length_append, List.length_singleton] <;> omega
    · split at h
      · cases hx : brP p d t with
        | bad x => rw [hx] at h; cases h
        | ok m =>
          rw [hx] at h
          cases h
          obtain ⟨m1, m2⟩ := m
          have hl : m2.length ≤ t.length := by
            unfold brP at hx
            split at hx
            · cases hx
            · split at hx
              · cases hx
              · cases hx
                rw [List.length_drop]; omega
          refine ⟨by rw [List.length_cons]; show m2.length ≤ _; omega, ?_, Nat.zero_le _⟩
          rw [List.length_append, List.length_singleton]
          show _ + 0 ≤ _
          omega
      · cases h
        refine ⟨by rw [List.length_cons]; omega, ?_, Nat.zero_le _⟩
        rw [List.length_append, List.length_singleton]
        show _ + 0 ≤ _
        omega

theorem one_leaf (H : Nat) (W : World) (y : T) (hH : H ≤ W.heap.size) : NodesIn (SF H (W.alloc (.cells #[.int .i64 1, .string (bs y), .slice none 0 0] 25))) (W.alloc (.cells #[.int .i64 1, .string (bs y), .slice none 0 0] 25)) (some ⟨W.heap.size, 0, none⟩) 1 [.mk 1 y []] := by
  have hc := heap_alloc_new W (.cells #[.int .i64 1, .string (bs y), .slice none 0 0] 25)
  refine ⟨Nat.le_refl _, fun _ => .agg #[.int .i64 1, .string (bs y), .slice none 0 0], .inr ⟨W.heap.size, 0, rfl, by rw [World.size_alloc]; omega, ⟨hH, _, _, hc⟩, .inr ⟨_, _, hc⟩, fun j hj => ?_⟩, fun j n hj => ?_⟩
  · rw [List.length_singleton] at hj
    obtain rfl : j = 0 := by omega
    exact ⟨_, _, _, rfl, (cells_at hc).1, (cells_at hc).2.1, (cells_at hc).2.2⟩
  · cases j with
    | zero => cases hj; exact NodeIn.leaf _ _ 1 y none 0
    | succ j => cases hj
theorem u8_no {x c : UInt8} (h : x ≠ c) : (((x.toNat : Nat) : Int) == ((c.toNat : Nat) : Int)) = false := by
  rw [beq_eq_false_iff_ne]
  exact fun e => h (by rw [← UInt8.toNat_inj]; omega)
theorem trim_is (s : T) (w : World) : Calls Tryz.prog 67 #[.string (bs s), .string ⟨#[36]⟩] w fun e w' => e = .returned (.string (bs (Lib.trimPrefix s [36]))) ∧ w' = w := Tryz.strings_TrimPrefix (bs s) ⟨#[36]⟩ w

set_option maxRecDepth 100000 in
set_option maxHeartbeats 1000000 in
theorem dollar_is (N : Nat) (hN : N ≤ 40) (p : UInt8 → T → Rd Nod) (H40 : N = 40 → ∀ o t, p o t = .bad .deep) (HRf : N < 40 → RefIs N p) (B b H : Nat) (u : Value) (acc : List Nod) (cur s : T) (w : World) (h : RowAt Tr B b H u acc cur w) (hl : acc.length ≤ 1000000) (hcl : cur.length ≤ 1000000) (hs : s.length ≤ 999999) :
    Calls Tryz.prog 55 #[.pointer (some ⟨b, 0, none⟩), .string (bs s), .int .i64 (N : Int)] w fun e W' => DolOut B b W' e (dolP p acc cur s) ∧ Below B w W' := by
  have hsz : (bs s).size = s.length := Pure.size_bs s
  have HWb := Lib.hid (write_byte Tr B b H u acc cur w h (by omega))
  have HT := Lib.hid (fun W => trim_is s W)
  cases s with
  | nil =>
    have he : ((bs []).toList == []) = true := by rw [Lib.toList_data]; rfl
    rw [show Lib.trimPrefix [] [36] = [] from rfl] at HT
    go_enter Tryz.func55, Tryz.ntmps55
    go_wp2_with (first | (go_at_call 66; refine HWb.out.mono ?_; rintro e W2 ⟨rfl, hr2, hb2⟩; have HR2 := Lib.hid hr2; have HB2 := Lib.hid hb2; clear hr2 hb2) | (go_at_call 67; refine (HT.out _).mono ?_; rintro e W3 ⟨rfl, rfl⟩))
    go_ret
    exact ⟨⟨rfl, u, HR2.out⟩, HB2.out⟩
  | cons c r =>
    obtain ⟨s, hss⟩ : ∃ s, s = c :: r := ⟨_, rfl⟩
    have htr : c = 36 → Lib.trimPrefix s [36] = r := fun e => by rw [hss, e]; rfl
    rw [← hss] at hsz HT hs ⊢
    have hpos : 0 < s.length := by rw [hss]; exact Nat.zero_lt_succ _
    have hrl : r.length ≤ 999999 := by rw [hss, List.length_cons] at hs; omega
    have he : ((bs s).toList == []) = false := by rw [hss, Lib.toList_data]; rfl
    have hb0 : ((((bs s)[0]'(by rw [hsz]; exact hpos)).toNat : Nat) : Int) = ((c.toNat : Nat) : Int) := by subst hss; rfl
    have hp1 : (bs s).extract 0 1 = bs [c] := by rw [part_to, hss]; rfl
    have hp2 : (bs s).extract 1 s.length = bs r := by rw [part_from, hss]; rfl
    have hd := dol_cons p acc cur c r
    rw [← hss] at hd
    have hone : (1 : Int) ≤ (s.length : Int) := by omega
    clear hss
    by_cases h1 : c = 36
    · rw [if_pos h1] at hd
      have HD := Lib.hid hd
      rw [htr h1] at HT
      subst h1
      have e1 : (((36 : UInt8).toNat : Nat) : Int) = 36 := rfl
      rw [e1] at hb0
      clear hd h htr e1
      go_enter Tryz.func55, Tryz.ntmps55
      go_wp2_with (first | (go_at_call 66; refine HWb.out.mono ?_; rintro e W2 ⟨rfl, hr2, hb2⟩; have HR2 := Lib.hid hr2; have HB2 := Lib.hid hb2; clear hr2 hb2) | (go_at_call 67; refine (HT.out _).mono ?_; rintro e W3 ⟨rfl, rfl⟩))
      go_ret
      rw [HD.out]
      exact ⟨⟨rfl, u, HR2.out⟩, HB2.out⟩
    · have e1 := u8_no h1
      have n1 : ¬ ((c.toNat : Nat) : Int) = 36 := fun e => h1 (by rw [← UInt8.toNat_inj]; show _ = 36; omega)
      rw [show (((36 : UInt8).toNat : Nat) : Int) = 36 from rfl] at e1
      rw [if_neg h1] at hd
      clear HT htr HWb h1
      by_cases h2 : c = 40 ∨ c = 123
      · rw [if_pos h2] at hd
        have HD := Lib.hid hd
        have HBk := Lib.hid (bracketed_is N hN p H40 HRf c h2 B b H u acc cur r w h hl hrl)
        have hfin : Hid (∀ e W', BrOut B b acc cur W' e (brP p c r) → DolOut B b W' e (dolP p acc cur s)) := fun e W' hbr => by
          rw [hd]
          cases hx : brP p c r with
          | bad x => rw [hx] at hbr; exact hbr
          | ok m => rw [hx] at hbr; exact hbr
        cases hbr : brP p c r with
        | bad x =>
          rw [hbr] at HBk hfin
          unfold BrOut errPan at HBk
          clear hd hbr HRf H40 h
          rcases h2 with rfl | rfl
          · have e2 : (((40 : UInt8).toNat : Nat) : Int) = 40 := rfl
            rw [e2] at hb0
            clear e1 n1 e2
            go_enter Tryz.func55, Tryz.ntmps55
            go_wp2_with (go_at_call 68; refine HBk.out.mono ?_; rintro e W2 ⟨rfl, hb2⟩; have HB2 := Lib.hid hb2; clear hb2)
            exact ⟨rfl, hfin.out _ _ rfl, HB2.out⟩
          · have e2 : (((123 : UInt8).toNat : Nat) : Int) = 123 := rfl
            rw [e2] at hb0
            clear e1 n1 e2
            go_enter Tryz.func55, Tryz.ntmps55
            go_wp2_with (go_at_call 68; refine HBk.out.mono ?_; rintro e W2 ⟨rfl, hb2⟩; have HB2 := Lib.hid hb2; clear hb2)
            exact ⟨rfl, hfin.out _ _ rfl, HB2.out⟩
        | ok m =>
          obtain ⟨m1, m2⟩ := m
          rw [hbr] at HBk hfin
          unfold BrOut at HBk
          clear hd hbr HRf H40 h
          rcases h2 with rfl | rfl
          · have e2 : (((40 : UInt8).toNat : Nat) : Int) = 40 := rfl
            rw [e2] at hb0
            clear e1 n1 e2
            go_enter Tryz.func55, Tryz.ntmps55
            go_wp2_with (go_at_call 68; refine HBk.out.mono ?_; rintro e W2 ⟨⟨rfl, hr2⟩, hb2⟩; have HB2 := Lib.hid hb2; have HR2 := Lib.hid hr2; clear hr2 hb2)
            go_ret
            exact ⟨hfin.out _ _ ⟨rfl, HR2.out⟩, HB2.out⟩
          · have e2 : (((123 : UInt8).toNat : Nat) : Int) = 123 := rfl
            rw [e2] at hb0
            clear e1 n1 e2
            go_enter Tryz.func55, Tryz.ntmps55
            go_wp2_with (go_at_call 68; refine HBk.out.mono ?_; rintro e W2 ⟨⟨rfl, hr2⟩, hb2⟩; have HB2 := Lib.hid hb2; have HR2 := Lib.hid hr2; clear hr2 hb2)
            go_ret
            exact ⟨hfin.out _ _ ⟨rfl, HR2.out⟩, HB2.out⟩
      · rw [if_neg h2] at hd
        have HD := Lib.hid hd
        have e2 := u8_no (fun e => h2 (.inl e))
        have e3 := u8_no (fun e => h2 (.inr e))
        rw [show (((40 : UInt8).toNat : Nat) : Int) = 40 from rfl] at e2
        rw [show (((123 : UInt8).toNat : Nat) : Int) = 123 from rfl] at e3
        have n2 : ¬ ((c.toNat : Nat) : Int) = 40 := by simpa using e2
        have n3 : ¬ ((c.toNat : Nat) : Int) = 123 := by simpa using e3
        have hhz := h.hz
        have hat := h.at_
        have hlt := h.lt
        have hba := (Below.refl w.heap.size w).alloc (Nat.le_refl _) (.cells #[.int .i64 1, .string (bs [c]), .slice none 0 0] 25)
        have HP := Lib.hid (put_full B b w.heap.size u acc cur 2 [] [.mk 1 [c] []] (some ⟨w.heap.size, 0, none⟩) 1 (w.alloc (.cells #[.int .i64 1, .string (bs [c]), .slice none 0 0] 25)) ((h.up hhz (Nat.le_refl _)).on hba) ((one_leaf w.heap.size w [c] (Nat.le_refl _)).node 2 []) hl)
        have HBa := Lib.hid hba
        have hBw : B ≤ w.heap.size := by omega
        clear hd h2 h HRf H40 hba
        go_enter Tryz.func55, Tryz.ntmps55
        go_wp2_with (go_at_call 69; refine HP.out.mono ?_; rintro e W2 ⟨rfl, u2, hr2, hb2⟩; have HR2 := Lib.hid hr2; have HB2 := Lib.hid hb2; clear hr2 hb2)
        go_ret
        rw [HD.out]
        exact ⟨⟨rfl, u2, HR2.out⟩, (HBa.out.mono hBw).trans HB2.out⟩

end Go.Proofs.YtmcdefkpkpaceaaGreatDoor.Udol
