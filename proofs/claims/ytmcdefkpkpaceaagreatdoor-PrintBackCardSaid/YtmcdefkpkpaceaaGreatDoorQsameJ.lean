/- The document's Same, of any two expansions. -/
import Derived.StillTailTactics
import Derived.Test.YtmcdefkpkpaceaaGreatDoorNzJ
import Derived.Test.YtmcdefkpkpaceaaGreatDoorNodJ
import Derived.Deep.LoopGhost
import Derived.Test.YtmcdefkpkpaceaaGreatDoorKscJ
namespace Go.Proofs.YtmcdefkpkpaceaaGreatDoor.Qsame
open Go.RowKit Go.Proofs.YtmcdefkpkpaceaaGreatDoor.Spl Go.Proofs.YtmcdefkpkpaceaaGreatDoor.Nodm Go.Proofs.YtmcdefkpkpaceaaGreatDoor.Nz Go.Proofs.YtmcdefkpkpaceaaGreatDoor.Qwhole
open Go.Proofs.YtmcdefkpkpaceaaGreatDoor.Pure (bs)

noncomputable def sameB (x y : Nz) : Bool := @decide (x = y) (Classical.propDecidable _)
theorem same_yes {x y : Nz} (h : x = y) : sameB x y = true := by unfold sameB; exact @decide_eq_true _ (Classical.propDecidable _) h
theorem same_no {x y : Nz} (h : ¬ x = y) : sameB x y = false := by unfold sameB; exact @decide_eq_false _ (Classical.propDecidable _) h
theorem same_iff {x y : Nz} : sameB x y = true ↔ x = y := ⟨fun h => Classical.byContradiction fun e => (by rw [same_no e] at h; exact Bool.noConfusion h), same_yes⟩
theorem str_eq (s t : T) : ((bs s).toList == (bs t).toList) = decide (s = t) := by
  rw [Lib.toList_data, Lib.toList_data]
  show (s == t) = _
  rw [Bool.eq_iff_iff, beq_iff_eq, decide_eq_true_iff]
def SameTo (N : Nat) : Prop := ∀ (x y : Nz) (S S' : Nat → Prop) (v v' : Value) (w : World), siz x ≤ N → NzIn S w v x → NzIn S' w v' y → Calls Tryz.prog 9 #[v, v'] w fun e W' => e = .returned (.bool (sameB x y)) ∧ Below w.heap.size w W'

set_option maxRecDepth 100000 in
set_option maxHeartbeats 2000000 in
theorem same_step (N : Nat) (HI : SameTo N) (k k' : Int) (s s' : T) (l l' : List Nz) (S S' : Nat → Prop) (A A' : Option Addr) (c c' : Nat) (w : World) (hN : ∀ x ∈ l, siz x ≤ N) (hlb : l.length ≤ 1099511627776) (h : NzsIn S w A c l) (h' : NzsIn S' w A' c' l') :
    Calls Tryz.prog 9 #[.agg #[.int .i64 k, .string (bs s), .slice A l.length c], .agg #[.int .i64 k', .string (bs s'), .slice A' l'.length c']] w fun e W' => e = .returned (.bool (sameB (.mk k s l) (.mk k' s' l'))) ∧ Below w.heap.size w W' := by
  obtain ⟨w1, hw1⟩ : ∃ w1, w.alloc (.cells #[.int .i64 k, .string (bs s), .slice A l.length c] 25) = w1 := ⟨_, rfl⟩
  have hz1 : w1.heap.size = w.heap.size + 1 := by rw [← hw1, World.size_alloc]
  have hx1 : w1.heap[w.heap.size]? = some (.cells #[.int .i64 k, .string (bs s), .slice A l.length c] 25) := by rw [← hw1]; exact heap_alloc_new w _
  obtain ⟨w2, hw2⟩ : ∃ w2, w1.alloc (.cells #[.int .i64 k', .string (bs s'), .slice A' l'.length c'] 25) = w2 := ⟨_, rfl⟩
  have hz2 : w2.heap.size = w.heap.size + 2 := by rw [← hw2, World.size_alloc, hz1]
  have hx2 : w2.heap[w.heap.size + 1]? = some (.cells #[.int .i64 k', .string (bs s'), .slice A' l'.length c'] 25) := by rw [← hw2, ← hz1]; exact heap_alloc_new w1 _
  have hx0 : w2.heap[w.heap.size]? = some (.cells #[.int .i64 k, .string (bs s), .slice A l.length c] 25) := by rw [← hw2, Lib.alloc_old w1 _ _ (by omega)]; exact hx1
  have hb2 : Below w.heap.size w w2 := by
    rw [← hw2, ← hw1]
    exact ((Below.refl _ _).alloc (Nat.le_refl _) _).alloc (by rw [World.size_alloc]; omega) _
  have HW1 := Lib.hid hw1
  have HW2 := Lib.hid hw2
  have HB2 := Lib.hid hb2
  have HX0 := Lib.hid hx0
  have HX2 := Lib.hid hx2
  obtain ⟨a0, a1, a2⟩ := cells_three hx0
  obtain ⟨b0, b1, b2⟩ := cells_three hx2
  have HH := Lib.hid h
  have HH' := Lib.hid h'
  have hc := h.1
  have hc' := h'.1
  have HN := Lib.hid hN
  clear hw1 hw2 hz1 hx1 hx2 hx0 hb2 h h' hN
  by_cases hk : k = k'
  · subst hk
    have hkk : (k == k) = true := beq_self_eq_true k
    by_cases hs : s = s'
    · subst hs
      have hss : ((bs s).toList == (bs s).toList) = true := beq_self_eq_true _
      by_cases hl : l.length = l'.length
      · obtain ⟨q, hq⟩ : ∃ q, q = l.length := ⟨_, rfl⟩
        have hq' : l'.length = q := by rw [hq]; exact hl.symm
        rw [← hq] at a2 hc HX0 HW1 hlb ⊢
        rw [hq'] at b2 hc' HX2 HW2 ⊢
        have HQ := Lib.hid hq
        have HQ' := Lib.hid hq'
        clear hq hq' hl
        go_enter Tryz.func9, Tryz.ntmps9
        go_upto_region 1 with fail
        rw [HW1.out, HW2.out]
        go_wp2_with fail
        go_loopw [5] (fun i wr => ∃ j : Nat, j ≤ q ∧ i = .int .i64 j ∧ Hid (Below w2.heap.size w2 wr) ∧ Hid (l.take j = l'.take j)) (fun i _ => q - (intOf i).toNat)
        case atStart => exact ⟨0, Nat.zero_le _, rfl, Below.refl _ _, rfl⟩
        case round =>
          obtain ⟨j, hj, rfl, HB, HT⟩ := hrel
          have hx0 := (HB.out.block w.heap.size (by omega)).trans HX0.out
          have hx2 := (HB.out.block (w.heap.size + 1) (by omega)).trans HX2.out
          obtain ⟨d0, d1, d2⟩ := cells_three hx0
          obtain ⟨g0, g1, g2⟩ := cells_three hx2
          have hbw : Below w.heap.size w wr := HB2.out.trans (HB.out.mono (by omega))
          have HBw := Lib.hid hbw
          clear hx0 hx2 a0 a1 a2 b0 b1 b2
          by_cases hlt : j < q
          · obtain ⟨n1, h1⟩ : ∃ n, l[j]? = some n := ⟨l[j]'(by rw [← HQ.out]; exact hlt), List.getElem?_eq_getElem _⟩
            obtain ⟨n2, h2⟩ : ∃ n, l'[j]? = some n := ⟨l'[j]'(by rw [HQ'.out]; exact hlt), List.getElem?_eq_getElem _⟩
            obtain ⟨k1, s1, m1⟩ := n1
            obtain ⟨k2, s2, m2⟩ := n2
            obtain ⟨b, o, A1, c1, rfl, hb, _, hn1, hcell1⟩ := HH.out.at_ h1
            obtain ⟨b', o', A2, c2, rfl, hb', _, hn2, hcell2⟩ := HH'.out.at_ h2
            obtain ⟨e0, e1, e2⟩ := hcell1 wr (hbw.block b hb)
            obtain ⟨f0, f1, f2⟩ := hcell2 wr (hbw.block b' hb')
            have HC := Lib.hid (fun W (hW : Below w.heap.size w W) => HI (.mk k1 s1 m1) (.mk k2 s2 m2) S S' _ _ W (HN.out _ (List.mem_of_getElem? h1)) (hn1.on hW) (hn2.on hW))
            have hT1 : l.take (j + 1) = l.take j ++ [.mk k1 s1 m1] := by rw [List.take_add_one, h1]; rfl
            have hT2 : l'.take (j + 1) = l'.take j ++ [.mk k2 s2 m2] := by rw [List.take_add_one, h2]; rfl
            have hjq : (j : Int) < (q : Int) := by omega
            clear hcell1 hcell2 hn1 hn2 hbw
            by_cases he : (Nz.mk k1 s1 m1) = (.mk k2 s2 m2)
            · have HTT : Hid (l.take (j + 1) = l'.take (j + 1)) := by
                show _ = _
                rw [hT1, hT2, HT.out, he]
              rw [same_yes he] at HC
              clear hT1 hT2 h1 h2 he HT
              go_wp2_with fail
              go_still_tail 10, (by kernel_rfl)
              change wpList _ _ _ _ _ wr.drew
              have hbd : Below w.heap.size w wr.drew := HBw.out.drew
              have hbe : Below w2.heap.size w2 wr.drew := HB.out.drew
              obtain ⟨wd, hwd⟩ : ∃ wd, wr.drew = wd := ⟨_, rfl⟩
              rw [hwd] at hbd hbe ⊢
              clear hwd
              have HBd := Lib.hid hbd
              have HBe := Lib.hid hbe
              clear hbd hbe
              go_wp2_with (go_at_call 9; refine (HC.out _ HBd.out).mono ?_; rintro e W' ⟨rfl, hb3⟩; have HB3 := Lib.hid (HBe.out.trans (hb3.mono HBe.out.size)); clear hb3)
              go_roundw
              case rel => exact ⟨j + 1, by omega, by go_num, HB3.out, HTT.out⟩
              case measure => simp [intOf]; omega
            · have hno : sameB (.mk k s l) (.mk k s l') = false := same_no fun e => by
                injection e with _ _ e
                rw [e, h2] at h1
                exact he (Option.some.inj h1).symm
              have HNo := Lib.hid hno
              rw [same_no he] at HC
              clear hT1 hT2 h1 h2 he HT hno
              go_wp2_with fail
              go_still_tail 10, (by kernel_rfl)
              change wpList _ _ _ _ _ wr.drew
              have hbd : Below w.heap.size w wr.drew := HBw.out.drew
              obtain ⟨wd, hwd⟩ : ∃ wd, wr.drew = wd := ⟨_, rfl⟩
              rw [hwd] at hbd ⊢
              clear hwd
              have HBd := Lib.hid hbd
              clear hbd
              go_wp2_with (go_at_call 9; refine (HC.out _ HBd.out).mono ?_; rintro e W' ⟨rfl, hb3⟩; have HB3 := Lib.hid (HBd.out.trans (hb3.mono HBd.out.size)); clear hb3)
              go_ret
              exact ⟨congrArg (fun b => Ending.returned (Value.bool b)) HNo.out.symm, HB3.out⟩
          · obtain rfl : j = q := by omega
            have hyes : sameB (.mk k s l) (.mk k s l') = true := same_yes (by
              have := HT.out
              rw [List.take_of_length_le (Nat.le_of_eq HQ.out.symm), List.take_of_length_le (Nat.le_of_eq HQ'.out)] at this
              rw [this])
            have HY := Lib.hid hyes
            clear hyes
            go_wp2_with fail
            go_ret
            exact ⟨congrArg (fun b => Ending.returned (Value.bool b)) HY.out.symm, HBw.out⟩
      · have hll : ¬ (l.length : Int) = (l'.length : Int) := by omega
        have hno : sameB (.mk k s l) (.mk k s l') = false := same_no fun e => by injection e with _ _ e; exact hl (by rw [e])
        rw [hno]
        clear hl hno
        go_enter Tryz.func9, Tryz.ntmps9
        go_upto_region 1 with fail
        rw [HW1.out, HW2.out]
        go_wp2_with fail
        go_ret
        exact ⟨rfl, HB2.out⟩
    · have hss : ((bs s).toList == (bs s').toList) = false := by rw [str_eq]; exact decide_eq_false hs
      have hno : sameB (.mk k s l) (.mk k s' l') = false := same_no fun e => by injection e with _ e _; exact hs e
      rw [hno]
      clear hs hno
      go_enter Tryz.func9, Tryz.ntmps9
      go_upto_region 1 with fail
      rw [HW1.out, HW2.out]
      go_wp2_with fail
      go_ret
      exact ⟨rfl, HB2.out⟩
  · have hno : sameB (.mk k s l) (.mk k' s' l') = false := same_no fun e => by injection e with e _ _; exact hk e
    rw [hno]
    clear hno
    go_enter Tryz.func9, Tryz.ntmps9
    go_upto_region 1 with fail
    rw [HW1.out, HW2.out]
    go_wp2_with fail
    go_ret
    exact ⟨rfl, HB2.out⟩

theorem same_all : ∀ N, N ≤ 1099511627776 → SameTo N
  | 0, _ => fun x y S S' v v' w h _ _ => by cases x; rw [siz] at h; omega
  | N + 1, hN => fun x y S S' v v' w h hx hy => by
    obtain ⟨k, s, l⟩ := x
    obtain ⟨k', s', l'⟩ := y
    obtain ⟨A, c, rfl, hl⟩ := hx.inv
    obtain ⟨A', c', rfl, hl'⟩ := hy.inv
    have hl0 := sizs_len l
    rw [siz] at h
    exact same_step N (same_all N (by omega)) k k' s s' l l' S S' A A' c c' w (fun x hx => by have := sizs_le hx; omega) (by omega) hl hl'
/-- the document's Same says whether both are the same -/
theorem refSame_is (x y : Nz) (S S' : Nat → Prop) (v v' : Value) (w : World) (hx : NzIn S w v x) (hy : NzIn S' w v' y) (hz : siz x ≤ 1099511627776) :
    Calls Tryz.prog 9 #[v, v'] w fun e W' => e = .returned (.bool (sameB x y)) ∧ Below w.heap.size w W' :=
  same_all (siz x) hz x y S S' v v' w (Nat.le_refl _) hx hy

end Go.Proofs.YtmcdefkpkpaceaaGreatDoor.Qsame

/- The program's Same of any two expansions, of which the first has at most 131,072 nodes. -/
namespace Go.Proofs.YtmcdefkpkpaceaaGreatDoor.Ksd
open Go Go.RowKit Go.Proofs.YtmcdefkpkpaceaaGreatDoor.Spl Go.Proofs.YtmcdefkpkpaceaaGreatDoor.Nodm Go.Proofs.YtmcdefkpkpaceaaGreatDoor.Nz Go.Proofs.YtmcdefkpkpaceaaGreatDoor.Qwhole Go.Proofs.YtmcdefkpkpaceaaGreatDoor.Qsame Go.Proofs.YtmcdefkpkpaceaaGreatDoor.Kpl Go.Proofs.YtmcdefkpkpaceaaGreatDoor.Kkd Go.Proofs.YtmcdefkpkpaceaaGreatDoor.Kru Go.Proofs.YtmcdefkpkpaceaaGreatDoor.Ksa Go.Proofs.YtmcdefkpkpaceaaGreatDoor.Ksb Go.Proofs.YtmcdefkpkpaceaaGreatDoor.Ksc
open Go.Proofs.YtmcdefkpkpaceaaGreatDoor.Pure (bs)

theorem one_row (S : Nat → Prop) (W : World) (s1 : Nat) (k : Int) (s : T) (A : Option Addr) (n c : Nat) (x : Nz) (hS : S s1) (hg : W.heap[s1]? = some (.cells #[.int .i64 k, .string (bs s), .slice A n c] 25)) (hx : NzIn S W (.agg #[.int .i64 k, .string (bs s), .slice A n c]) x) : NzsIn S W (some ⟨s1, 0, none⟩) 1 [x] := by
  have hlt := (Array.getElem?_eq_some_iff.1 hg).1
  obtain ⟨c0, c1, c2⟩ := cells_three hg
  refine ⟨Nat.le_refl _, fun _ => .agg #[.int .i64 k, .string (bs s), .slice A n c], .inr ⟨s1, 0, rfl, hlt, hS, .inr ⟨_, _, hg⟩, fun j hj => ?_⟩, fun j y hj => ?_⟩
  · have hj : j < 1 := hj
    obtain rfl : j = 0 := by omega
    exact ⟨_, _, _, rfl, c0, c1, c2⟩
  · match j, hj with
    | 0, hj => cases hj; exact hx

set_option maxRecDepth 100000 in
set_option maxHeartbeats 4000000 in
theorem same_is (x y : Nz) (S S' : Nat → Prop) (v u : Value) (w : World) (hx : NzIn S w v x) (hy : NzIn S' w u y) (hsz : siz x ≤ 131072) :
    Calls Tryz.prog 17 #[v, u] w fun e W' => e = .returned (.bool (sameB x y)) ∧ Below w.heap.size w W' := by
  have HX := Lib.hid hx
  have HY := Lib.hid hy
  have HSZ := Lib.hid hsz
  obtain ⟨z, hz⟩ : ∃ z, z = sameB x y := ⟨_, rfl⟩
  rw [← hz]
  have HZ : Hid (z = true ↔ x = y) := by rw [hz]; exact same_iff
  clear hz hx hy hsz
  obtain ⟨k, s, l⟩ := x
  obtain ⟨k', s', l'⟩ := y
  obtain ⟨A, c, rfl, _⟩ := HX.out.inv
  obtain ⟨A', c', rfl, _⟩ := HY.out.inv
  obtain ⟨ml, hml⟩ : ∃ ml, ml = l.length := ⟨_, rfl⟩
  obtain ⟨ml', hml'⟩ : ∃ ml', ml' = l'.length := ⟨_, rfl⟩
  rw [← hml] at HX ⊢
  rw [← hml'] at HY ⊢
  have HXs : Hid (bs s = bs s ∧ bs s' = bs s') := ⟨rfl, rfl⟩
  clear hml hml'
  obtain ⟨w1, hw1⟩ : ∃ w1, (w.alloc (.cells #[.int .i64 k, .string (bs s), .slice A ml c] 25)).alloc (.cells #[.int .i64 k', .string (bs s'), .slice A' ml' c'] 25) = w1 := ⟨_, rfl⟩
  obtain ⟨g, hg⟩ : ∃ g, g = w.heap.size := ⟨_, rfl⟩
  have z1 := World.size_alloc w (.cells #[.int .i64 k, .string (bs s), .slice A ml c] 25)
  have hb1 : Below w.heap.size w w1 := by rw [← hw1]; exact (alloc_below w _).alloc (by omega) _
  have x1 : w1.heap[g]? = some (.cells #[.int .i64 k, .string (bs s), .slice A ml c] 25) := by rw [← hw1, hg]; exact kept _ (heap_alloc_new w _)
  have x2 : w1.heap[g + 1]? = some (.cells #[.int .i64 k', .string (bs s'), .slice A' ml' c'] 25) := by rw [← hw1]; exact newAt _ (by omega)
  obtain ⟨a0, a1, a2⟩ := cells_three x1
  obtain ⟨b0, b1, b2⟩ := cells_three x2
  have HW1 := Lib.hid hw1
  have HB1 := Lib.hid hb1
  have HX1 := Lib.hid x1
  have HX2 := Lib.hid x2
  have HGE := Lib.hid hg
  clear hw1 hb1 x1 x2 z1
  go_enter Tryz.func17, Tryz.ntmps17
  go_upto_region 1 with fail
  rw [HW1.out, ← hg]
  clear hg
  have hmm := @run_makeMap Tryz.prog
  go_upto_region 2 with fail
  clear hmm
  obtain ⟨W2, hW2⟩ : ∃ W2, W2 = (w1.alloc (.map #[] 0)).alloc (.cells #[.slice none 0 0, .int .i64 0, .map (some w1.heap.size)] 88) := ⟨_, rfl⟩
  obtain ⟨sb, hsb⟩ : ∃ sb, sb = w1.heap.size + 1 := ⟨_, rfl⟩
  rw [← hW2, ← hsb]
  have z2 := World.size_alloc w1 (.map #[] 0)
  have z3 := World.size_alloc (w1.alloc (.map #[] 0)) (.cells #[.slice none 0 0, .int .i64 0, .map (some w1.heap.size)] 88)
  have hb2 : Below w1.heap.size w1 W2 := by rw [hW2]; exact (alloc_below w1 _).alloc (by omega) _
  have hg2 : W2.heap[sb]? = some (.cells #[.slice none 0 0, .int .i64 0, .map (some w1.heap.size)] 88) := by rw [hW2]; exact newAt _ (by omega)
  have hs2 : W2.heap.size = sb + 1 := by rw [hW2]; omega
  have hw1s : g + 2 ≤ w1.heap.size := by have := (Array.getElem?_eq_some_iff.1 HX2.out).1; omega
  have hgs : g ≤ sb := by omega
  clear a0 a1 a2 b0 b1 b2
  obtain ⟨a0, a1, a2⟩ := cells_three ((hb2.block g (by omega)).trans HX1.out)
  obtain ⟨b0, b1, b2⟩ := cells_three ((hb2.block (g + 1) (by omega)).trans HX2.out)
  have HB2 : Hid (Below w.heap.size w W2) := HB1.out.trans (hb2.mono HB1.out.size)
  obtain ⟨W3, hW3⟩ : ∃ W3, W3 = (W2.alloc (.cells #[.int .i64 k, .string (bs s), .slice A ml c] 25)).alloc (.cells #[.int .i64 k', .string (bs s'), .slice A' ml' c'] 25) := ⟨_, rfl⟩
  obtain ⟨s1, hs1⟩ : ∃ s1, s1 = W2.heap.size := ⟨_, rfl⟩
  have z4 := World.size_alloc W2 (.cells #[.int .i64 k, .string (bs s), .slice A ml c] 25)
  have z5 := World.size_alloc (W2.alloc (.cells #[.int .i64 k, .string (bs s), .slice A ml c] 25)) (.cells #[.int .i64 k', .string (bs s'), .slice A' ml' c'] 25)
  have hb3 : Below W2.heap.size W2 W3 := by rw [hW3]; exact (alloc_below W2 _).alloc (by omega) _
  have y1 : W3.heap[s1]? = some (.cells #[.int .i64 k, .string (bs s), .slice A ml c] 25) := by rw [hW3, hs1]; exact kept _ (heap_alloc_new W2 _)
  have y2 : W3.heap[s1 + 1]? = some (.cells #[.int .i64 k', .string (bs s'), .slice A' ml' c'] 25) := by rw [hW3]; exact newAt _ (by omega)
  have hs3 : W3.heap.size = s1 + 2 := by rw [hW3]; omega
  have hg3 := (hb3.block sb (by omega)).trans hg2
  have HB3 : Hid (Below w.heap.size w W3) := HB2.out.trans (hb3.mono HB2.out.size)
  have hge := HGE.out
  have HWs : Ws (fun q => q = s1 ∨ q = s1 + 1) g sb [] 0 W3 := ⟨hgs, _, _, hg3, World.ownsRow_nil _ _ _ _, fun q hq => ⟨by rcases hq with rfl | rfl <;> omega, by rcases hq with rfl | rfl <;> omega, fun e => by cases e⟩⟩
  have hmv1 : NzIn (fun q => q < g ∨ (q = s1 ∨ q = s1 + 1)) W3 (.agg #[.int .i64 k, .string (bs s), .slice A ml c]) (.mk k s l) := HX.out.move (fun b _ hlt => ⟨.inl (by omega), HB3.out.block b hlt⟩) HB3.out.size
  have hmv2 : NzIn (fun q => q < g ∨ (q = s1 ∨ q = s1 + 1)) W3 (.agg #[.int .i64 k', .string (bs s'), .slice A' ml' c']) (.mk k' s' l') := HY.out.move (fun b _ hlt => ⟨.inl (by omega), HB3.out.block b hlt⟩) HB3.out.size
  have HPr : Hid (PairsOk (fun q => q < g ∨ (q = s1 ∨ q = s1 + 1)) W3 [(Value.slice (some ⟨s1, 0, none⟩) 1 1, Value.slice (some ⟨s1 + 1, 0, none⟩) 1 1)] [([.mk k s l], [.mk k' s' l'])]) :=
    ⟨⟨some ⟨s1, 0, none⟩, 1, some ⟨s1 + 1, 0, none⟩, 1, rfl, one_row _ _ _ _ _ _ _ _ _ (.inr (.inl rfl)) y1 hmv1, one_row _ _ _ _ _ _ _ _ _ (.inr (.inr rfl)) y2 hmv2, rfl, Nat.one_pos⟩, trivial⟩
  have HAs := Lib.hid (ask_some (fun q => q = s1 ∨ q = s1 + 1) g sb [] 0 (some ⟨s1, 0, none⟩) (some ⟨s1 + 1, 0, none⟩) 1 1 1 W3 HWs (by omega) (by omega) (by show 0 ≤ _; omega) Nat.one_pos (by omega))
  have HG3 : Hid (g ≤ W3.heap.size) := by show _ ≤ _; omega
  have HW3 := Lib.hid hW3
  have HS1 := Lib.hid hs1
  have HS3 := Lib.hid hs3
  have HSb := Lib.hid hgs
  have hgl1 : g + 1 < W2.heap.size := by omega
  clear hW2 hsb z2 z3 hb2 hg2 hs2 hw1s hgs hW3 hs1 z4 z5 hb3 y1 y2 hs3 hg3 hge HWs hmv1 hmv2
  go_upto_region 3 with (go_at_call 34; rw [← HW3.out, ← HS1.out]; refine HAs.out.mono ?_; rintro e w4 ⟨rfl, h4, hb4, hx4⟩; have HW4 := Lib.hid h4; have HB4 := Lib.hid hb4; have HX4 := Lib.hid hx4; clear h4 hb4 hx4)
  clear a0 a1 a2 b0 b1 b2 hgl1
  have HP1 := Lib.hid HPr.out
  go_loopg [] (siz (.mk k s l)) (fun gk wx => ∃ (Ts : List (Value × Value)) (P : List Pr) (laid : Nat), sumS P ≤ gk ∧ Hid (Ws (fun q => q = s1 ∨ q = s1 + 1) g sb Ts laid wx) ∧ Hid (PairsOk (fun q => q < g ∨ (q = s1 ∨ q = s1 + 1)) W3 Ts P) ∧ Hid (Below g W3 wx) ∧ Hid (∀ q, (q = s1 ∨ q = s1 + 1) → wx.heap[q]? = W3.heap[q]?) ∧ Hid (z = true ↔ AllEq P) ∧ Hid (sumL P ≤ laid) ∧ Hid (laid + (sumS P - sumL P) ≤ 131072))
  case atStart =>
    refine ⟨_, _, _, ?_, HW4, HP1, HB4, HX4, ?_, ?_, ?_⟩
    · show siz _ + 0 + 0 ≤ _; omega
    · show z = true ↔ _
      rw [HZ.out]
      unfold AllEq
      simp
    · show _ ≤ _
      simp [sumL]
    · show _ ≤ _
      have := HSZ.out
      simp only [sumS, sumL, sizs, List.length_singleton, Nat.add_zero, Nat.zero_add]
      omega
  case round =>
    obtain ⟨Ts, P, laid, hg0, HWr, HPs, HBr, HXr, HZr, HSl, HSm⟩ := hrel
    obtain ⟨v, m, hg, hown, _⟩ := HWr.out.st
    have hlen := pairs_len HPs.out
    obtain ⟨ao, cap, rfl⟩ : ∃ ao cap, v = .slice ao Ts.length cap := by
      rcases hown.2 with ⟨hv, h0⟩ | ⟨g', cap, cur, hv, _⟩
      · exact ⟨none, 0, by rw [h0]; exact hv⟩
      · exact ⟨_, _, hv⟩
    obtain ⟨n, hn⟩ : ∃ n, n = Ts.length := ⟨_, rfl⟩
    rw [← hn] at hg hlen
    obtain ⟨a0, a1, a2⟩ := cells_three hg
    have HN := Lib.hid hn
    clear hg hown hn
    by_cases h0 : n = 0
    · subst h0
      have hP : P = [] := List.eq_nil_of_length_eq_zero hlen.symm
      have hz : z = true := by rw [HZr.out, hP]; intro q hq; cases hq
      have HZt := Lib.hid hz
      have HBf : Hid (Below w.heap.size w wr) := HB3.out.trans (by rw [← HGE.out]; exact HBr.out)
      clear hz hP hlen
      go_wp2
      go_ret
      exact ⟨by rw [HZt.out]; rfl, HBf.out⟩
    · have hd : decide ((0 : Int) < (n : Int)) = true := decide_eq_true (by omega)
      have hd2 : decide (0 < n) = true := decide_eq_true (by omega)
      obtain ⟨T', x, P', p, rfl, rfl, hT', hx'⟩ := pairs_last HPs.out (by rw [← HN.out]; omega)
      have hpl : p.1.length = p.2.length := by obtain ⟨_, _, _, _, _, _, _, h, _⟩ := hx'; exact h
      have hpp : 0 < p.1.length := by obtain ⟨_, _, _, _, _, _, _, _, h⟩ := hx'; exact h
      have e1 := sumS_app P' [p]
      have e2 := sumL_app P' [p]
      have e3 := sumL_le P'
      have e4 := sizs_len p.1
      have e5 := sumS_qof p.1 p.2 hpl
      have e6 := sumL_le (qof p.1 p.2)
      have e7 : sumS [p] = sizs p.1 := Nat.add_zero _
      have e8 : sumL [p] = p.1.length := Nat.add_zero _
      have HSt := Lib.hid (step_is (fun q => q = s1 ∨ q = s1 + 1) g sb W3 T' P' x p laid wr HWr.out HBr.out HG3.out HXr.out (Nat.le_trans HG3.out HBr.out.size) hT' hx' (by have := HSm.out; omega) (by have := HSl.out; omega) (by have := HSl.out; have := HSm.out; omega))
      have HE : Hid (sumS (P' ++ qof p.1 p.2) ≤ gk - 1 ∧ 0 < gk ∧ (sumL P' + sumL [p] ≤ laid → sumL (P' ++ qof p.1 p.2) ≤ laid + sumL (qof p.1 p.2)) ∧ (laid + (sumS (P' ++ [p]) - sumL (P' ++ [p])) ≤ 131072 → sumL (P' ++ [p]) ≤ laid → laid + sumL (qof p.1 p.2) + (sumS (P' ++ qof p.1 p.2) - sumL (P' ++ qof p.1 p.2)) ≤ 131072)) := by
        have e9 := sumS_app P' (qof p.1 p.2)
        have e10 := sumL_app P' (qof p.1 p.2)
        refine ⟨by omega, by omega, fun h => by omega, fun h1 h2 => by omega⟩
      have HSl2 : Hid (sumL P' + sumL [p] ≤ laid) := by have := HSl.out; show _ ≤ _; omega
      clear hlen hT' hx' hpl hpp e1 e2 e3 e4 e5 e6 e7 e8 hg0 h0
      go_upto_region 4 with fail
      go_wp2_with fail
      refine HSt.out.mono ?_
      rintro e w5 ⟨zz, rfl, hb5, hx5, hf5, ht5⟩
      cases zz with
      | false =>
        have hz : z = false := by
          cases hzz : z with
          | false => rfl
          | true =>
            have := (HZr.out.1 hzz) p (List.mem_append_right _ (List.mem_singleton_self _))
            exact absurd this (hf5 rfl)
        have HZt := Lib.hid hz
        have HBf : Hid (Below w.heap.size w w5) := HB3.out.trans (by rw [← HGE.out]; exact HBr.out.trans hb5)
        clear hz hb5 hx5 hf5 ht5
        go_wp2
        go_ret
        exact ⟨by rw [HZt.out]; rfl, HBf.out⟩
      | true =>
        obtain ⟨⟨T'', hw5, hp5⟩, hiff⟩ := ht5 rfl
        have HW5 := Lib.hid hw5
        have HP5 := Lib.hid hp5
        have HB5 : Hid (Below g W3 w5) := HBr.out.trans hb5
        have HX5 : Hid (∀ q, (q = s1 ∨ q = s1 + 1) → w5.heap[q]? = W3.heap[q]?) := fun q hq => (hx5 q hq).trans (HXr.out q hq)
        have HZ5 : Hid (z = true ↔ AllEq (P' ++ qof p.1 p.2)) := by
          show _ ↔ _
          rw [HZr.out, allEq_app, allEq_app, hiff]
          constructor
          · rintro ⟨h1, h2⟩
            exact ⟨h1, h2 p (List.mem_singleton_self _)⟩
          · rintro ⟨h1, h2⟩
            exact ⟨h1, fun q hq => by rw [List.mem_singleton] at hq; rw [hq]; exact h2⟩
        clear hw5 hp5 hiff hb5 hx5 hf5 ht5 a0 a1 a2
        go_wp2_with fail
        go_roundg (gk - 1)
        case measure => have := HE.out.2.1; omega
        case rel => exact ⟨T' ++ T'', P' ++ qof p.1 p.2, laid + sumL (qof p.1 p.2), HE.out.1, HW5, HP5, HB5, HX5, HZ5, HE.out.2.2.1 HSl2.out, HE.out.2.2.2 HSm.out HSl.out⟩

end Go.Proofs.YtmcdefkpkpaceaaGreatDoor.Ksd
