/- The program's Size, of any expansion (of fewer than a million nodes). -/
import Derived.WalkKit
import Derived.WalkSpells
import Derived.IntWalk
import Derived.OwnWalk
import Derived.StillTailTactics
import Derived.Maps.AppendAt
import Derived.WalkSmall
import Derived.Deep.DeepCutAuto
import Derived.Test.YtfenlhbkdfmneaaCops
import Derived.Test.YtfenlhbkdfmneaaNz
import Derived.Test.YtfenlhbkdfmneaaStrs
namespace Go.Proofs.Ytfenlhbkdfmneaa.Csz
open Go Go.RowKit Go.Proofs.Ytfenlhbkdfmneaa.Spl Go.Proofs.Ytfenlhbkdfmneaa.Nodm Go.Proofs.Ytfenlhbkdfmneaa.Nz Go.Proofs.Ytfenlhbkdfmneaa.Cops
open Go.Proofs.Ytfenlhbkdfmneaa.Pure (bs)

def sliceLen : Value → Nat
  | .slice _ n _ => n
  | _ => 0
theorem infoNodes : (Try.prog.info? 28).map (fun i => (i.zero, i.size, i.bytes)) = some (some (.slice none 0 0), 1, 24) := by kernel_rfl
/-- nodes that are still to be counted -/
def tot : List (Value × List Nz) → Nat
  | [] => 0
  | t :: r => sizs t.2 + tot r
theorem tot_app : ∀ (T R : List (Value × List Nz)), tot (T ++ R) = tot T + tot R
  | [], R => (Nat.zero_add _).symm
  | t :: r, R => by rw [List.cons_append, tot, tot, tot_app r R]; omega
def kids (n : Nz) : List Nz := match n with | .mk _ _ l => l
def below : List Nz → Nat
  | [] => 0
  | n :: r => sizs (kids n) + below r
theorem sizs_below : ∀ l : List Nz, sizs l = l.length + below l
  | [] => rfl
  | .mk k s m :: r => by
    rw [sizs, siz, sizs_below r, below, List.length_cons]
    show _ = _ + (sizs m + _)
    omega
theorem below_app : ∀ (l r : List Nz), below (l ++ r) = below l + below r
  | [], r => (Nat.zero_add _).symm
  | n :: l, r => by rw [List.cons_append, below, below, below_app l r]; omega
theorem below_take (l : List Nz) {j : Nat} {n : Nz} (h : l[j]? = some n) : below (l.take (j + 1)) = below (l.take j) + sizs (kids n) := by
  rw [List.take_add_one, h, below_app]; rfl
theorem below_le (l : List Nz) (j : Nat) : below (l.take j) ≤ below l := by
  have := below_app (l.take j) (l.drop j)
  rw [List.take_append_drop] at this
  omega
theorem three_cells' {W : World} {H : Nat} {x y z : Value} {ty : TypeId} (h : W.heap[H]? = some (.cells #[x, y, z] ty)) : W.cell? ⟨H, 0, none⟩ = some x ∧ W.cell? ⟨H, 1, none⟩ = some y ∧ W.cell? ⟨H, 2, none⟩ = some z :=
  ⟨by rw [Lib.cell_of_heap h]; rfl, by rw [Lib.cell_of_heap h]; rfl, by rw [Lib.cell_of_heap h]; rfl⟩
theorem own_slice {w : World} {B e sz n : Nat} {v : Value} {xs : List Value} (h : w.ownsRow B e sz v n xs) : ∃ A c, v = .slice A n c := by
  rcases h.2 with ⟨h1, h2⟩ | ⟨g, cap, _, h1, _⟩
  · exact ⟨none, 0, by rw [h1, h2]⟩
  · exact ⟨_, cap, h1⟩
def Lists (S : Nat → Prop) (w : World) (T : List (Value × List Nz)) : Prop := ∀ t ∈ T, ∃ A c, t.1 = .slice A t.2.length c ∧ NzsIn S w A c t.2

set_option maxRecDepth 100000 in
set_option maxHeartbeats 4000000 in
theorem size_is (S : Nat → Prop) (v : Value) (x : Nz) (w : World) (h : NzIn S w v x) (hx : siz x < 1000000) :
    Calls Try.prog 41 #[v] w fun e W' => e = .returned (.int .i64 (siz x : Nat)) ∧ Below w.heap.size w W' := by
  obtain ⟨i0, hi, hz0, hz1, hz2⟩ := info_parts infoNodes
  obtain ⟨k, s, l⟩ := x
  obtain ⟨A, c, rfl, hn⟩ := h.inv
  obtain ⟨X, hX⟩ : ∃ X, X = siz (.mk k s l) := ⟨_, rfl⟩
  rw [← hX] at hx ⊢
  have hX2 : X = 1 + sizs l := by rw [hX, siz]
  obtain ⟨w1, hw1⟩ : ∃ w1, w.alloc (.cells #[.int .i64 k, .string (bs s), .slice A l.length c] 30) = w1 := ⟨_, rfl⟩
  have hb1 : Below w.heap.size w w1 := by rw [← hw1]; exact (Below.refl _ _).alloc (Nat.le_refl _) _
  have hx1 : w1.heap[w.heap.size]? = some (.cells #[.int .i64 k, .string (bs s), .slice A l.length c] 30) := by rw [← hw1]; exact heap_alloc_new w _
  obtain ⟨n0, n1, n2⟩ := three_cells' hx1
  have hown : (w1.alloc (.cells #[.slice A l.length c] 28)).ownsRow w.heap.size 28 1 (.slice (some ⟨w1.heap.size, 0, none⟩) 1 1) 1 [.slice A l.length c] := World.ownsRow_lit w1 #[.slice A l.length c] 1 hb1.size (by decide) rfl
  have HW1 := Lib.hid hw1
  have HO := Lib.hid hown
  have HB := Lib.hid (hb1.alloc hb1.size (.cells #[.slice A l.length c] 28))
  have HT : Hid (Lists S w [(.slice A l.length c, l)]) := fun t ht => by
    rw [List.mem_singleton] at ht
    subst ht
    exact ⟨A, c, rfl, hn⟩
  have HX2 : Hid (1 + tot [(.slice A l.length c, l)] = X ∧ [(Value.slice A l.length c, l)].length ≤ 1) := by refine ⟨?_, Nat.le_refl _⟩; rw [tot, tot]; show 1 + (sizs l + 0) = X; omega
  clear h hn hX hX2 hw1 hb1 hx1 hown
  go_enter Try.func41, Try.ntmps41
  go_upto_region 1 with fail
  rw [HW1.out]
  go_wp2_with fail
  go_loopw [3, 4] (fun zv tv wr => ∃ (z : Nat) (T : List (Value × List Nz)), zv = .int .i64 (z : Int) ∧ Hid (wr.ownsRow w.heap.size 28 1 tv T.length (T.map (·.1))) ∧ Hid (Lists S w T) ∧ Hid (z + tot T = X ∧ T.length ≤ z) ∧ Hid (Below w.heap.size w wr)) (fun zv tv _ => 2 * X - 2 * (intOf zv).toNat + sliceLen tv)
  case atStart => exact ⟨1, [(.slice A l.length c, l)], rfl, HO, HT, HX2, HB⟩
  case round =>
    obtain ⟨z, T, rfl, HO, HT, HX2, HB⟩ := hrel
    by_cases hT0 : T = []
    · subst hT0
      obtain ⟨A0, c0, rfl⟩ := own_slice HO.out
      have hz : X = z := by have := HX2.out.1; rw [tot] at this; omega
      subst hz
      go_wp2
      go_ret
      exact ⟨rfl, HB.out⟩
    · obtain ⟨T, ⟨tv', tl⟩, rfl⟩ : ∃ T' t, T = T' ++ [t] := ⟨T.dropLast, T.getLast hT0, (List.dropLast_concat_getLast hT0).symm⟩
      clear hT0
      have ho := HO.out
      rw [List.length_append, List.length_singleton, List.map_append] at ho
      obtain ⟨q, hq⟩ : ∃ q, q = T.length := ⟨_, rfl⟩
      rw [← hq] at ho
      obtain ⟨g, cap, rfl, hg, hgl⟩ := ho.form (by omega)
      obtain ⟨A1, c1, e0, hn1⟩ := HT.out (tv', tl) (List.mem_append_right _ (List.mem_singleton_self _))
      have e1 : tv' = .slice A1 tl.length c1 := e0
      clear e0
      obtain ⟨m, hm⟩ : ∃ m, m = tl.length := ⟨_, rfl⟩
      rw [← hm] at e1
      subst e1
      have hlast := ho.cellAt q (by omega)
      rw [List.getElem?_append_right (by rw [List.length_map]; omega), List.length_map, hq, Nat.sub_self, ← hq] at hlast
      replace hlast : wr.cell? ⟨g, q, none⟩ = some (.slice A1 m c1) := hlast
      have hsum := HX2.out.1
      have hTz := HX2.out.2
      rw [List.length_append, List.length_singleton, ← hq] at hTz
      rw [tot_app, tot, tot] at hsum
      replace hsum : z + (tot T + (sizs tl + 0)) = X := hsum
      have hsb := sizs_below tl
      have hpop : wr.ownsRow w.heap.size 28 1 (.slice (some ⟨g, 0, none⟩) q cap) q (T.map (·.1)) := ownsRow_pop (by rw [List.length_map, Nat.mul_one, hq]) ho
      have hcap : q ≤ cap ∧ cap ≤ 9223372036854775807 := by
        rcases ho.2 with ⟨h0, _⟩ | ⟨g', cap', cur, hv, _, _, hn, hm, _⟩
        · cases h0
        · cases hv
          unfold maxLen at hm
          omega
      have hqw : IntKind.i64.wrap (q : Int) = (q : Int) := IntWalk.i64_in _ (by omega)
      rw [← hm] at hsb
      have hw1 : IntKind.i64.wrap (1000000 - (z : Int)) = 1000000 - (z : Int) := IntWalk.i64_in _ (by omega)
      have hw2 : IntKind.i64.wrap ((z : Int) + (m : Int)) = ((z + m : Nat) : Int) := by rw [Int.natCast_add]; exact IntWalk.i64_in _ (by omega)
      have hgt : ¬ (1000000 - (z : Int) < (m : Int)) := by omega
      have hq1 : ((q : Int) < (q : Int) + 1) := by omega
      have hq2 : (q : Int) ≤ (cap : Int) := by omega
      have HPop := Lib.hid hpop
      have HN1 := Lib.hid hn1
      have HTr : Hid (Lists S w T) := fun t ht => HT.out t (List.mem_append_left _ ht)
      have HBo := Lib.hid HB.out
      have HQ := Lib.hid hq
      have HM := Lib.hid hm
      have HSum := Lib.hid hsum
      have HTz := Lib.hid hTz
      have HSb := Lib.hid hsb
      clear ho hpop hn1 HT HB HO hq hm hsum hsb HX2 hTz
      go_upto_region 9 with fail
      go_wp2_with fail
      go_loopw [4, 36] (fun tv i wi => ∃ (j : Nat) (T2 : List (Value × List Nz)), j ≤ m ∧ i = .int .i64 (j : Int) ∧ Hid (wi.ownsRow w.heap.size 28 1 tv T2.length (T2.map (·.1))) ∧ Hid (Lists S w T2) ∧ Hid (tot T2 = tot T + below (tl.take j)) ∧ Hid (T2.length ≤ q + j) ∧ Hid (Below w.heap.size w wi)) (fun _ i _ => m - (intOf i).toNat)
      case atStart => exact ⟨0, T, Nat.zero_le _, rfl, by rw [← HQ.out]; exact HPop, HTr, by show _ = _; rw [List.take_zero]; rfl, by show _ ≤ _; rw [HQ.out]; exact Nat.le_refl _, HBo⟩
      case round =>
        obtain ⟨j, T2, hj, rfl, HO2, HT2, HS2, HL2, HB2⟩ := hrel
        obtain ⟨At, ct, rfl⟩ := own_slice HO2.out
        by_cases hlt : j < m
        · obtain ⟨y, hy⟩ : ∃ y, tl[j]? = some y := ⟨_, List.getElem?_eq_getElem (by have := HM.out; omega)⟩
          obtain ⟨k', s', l'⟩ := y
          obtain ⟨b, o, A', c', rfl, hb, hSb, hin, hcw⟩ := HN1.out.at_ hy
          obtain ⟨d0, d1, d2⟩ := hcw wr (HB2.out.block b hb)
          obtain ⟨A3, c3, hv3, hn3⟩ := hin.inv
          cases hv3
          have hjm : (j : Int) < (m : Int) := by omega
          have hbt := below_take tl hy
          have hzr := HB2.out.size
          obtain ⟨m', hm'⟩ : ∃ m', m' = l'.length := ⟨_, rfl⟩
          rw [← hm'] at d2
          have HN3 := Lib.hid hn3
          have HM3 := Lib.hid hm'
          have HBt := Lib.hid hbt
          obtain ⟨wA, hwA⟩ : ∃ wA, wr.alloc (.cells #[.int .i64 k', .string (bs s'), .slice A' m' c'] 30) = wA := ⟨_, rfl⟩
          have hxA : wA.heap[wr.heap.size]? = some (.cells #[.int .i64 k', .string (bs s'), .slice A' m' c'] 30) := by rw [← hwA]; exact heap_alloc_new wr _
          have HBA : Hid (Below w.heap.size w wA) := by rw [← hwA]; exact HB2.out.alloc hzr _
          have hzA := HBA.out.size
          have hownA : wA.ownsRow w.heap.size 28 1 (.slice At T2.length ct) T2.length (T2.map (·.1)) := by rw [← hwA]; exact HO2.out.alloc _
          have HWA := Lib.hid hwA
          obtain ⟨x0, x1, x2⟩ := three_cells' hxA
          clear hcw hin hn3 hm' hbt hy hSb hwA hxA
          go_upto_region 12 with fail
          rw [HWA.out]
          by_cases h0 : m' = 0
          · subst h0
            have HOA := Lib.hid hownA
            clear hownA
            go_wp2_with fail
            go_roundw
            case rel =>
              refine ⟨j + 1, T2, hlt, by go_num, HOA, HT2, ?_, ?_, HBA⟩
              · show _ = _
                rw [HBt.out, HS2.out]
                show _ = _ + (_ + sizs l')
                rw [List.eq_nil_of_length_eq_zero HM3.out.symm, sizs]; rfl
              · have := HL2.out
                show _ ≤ _; omega
            case measure => simp [intOf]; omega
          · have hm0 : (0 : Int) < (m' : Int) := by omega
            have hT2 : T2.length ≤ 2000000 := by have := HL2.out; have := HSum.out; have := HSb.out; have := HTz.out; omega
            go_wp2_with (at_builtin; refine wpList_append_own _ rfl _ _ 107 rfl w.heap.size 28 i0 (.slice none 0 0) 1 24 Try.underlying107 hi hz0 hz1 hz2 rfl (by decide) _ _ _ rfl (hownA.alloc _) ⟨wA.heap.size, 0, none⟩ 1 1 [.slice A' m' c'] rfl rfl (cell_one_new _ _ _) (by simp [Value.oneCell']) (by unfold maxLen; omega) (by omega) (by simp; omega) ?_; intro v' w2 hown' hgrow _; obtain ⟨At2, ct2, rfl⟩ := own_slice hown'; have HO3 := Lib.hid hown'; have HB3 : Hid (Below w.heap.size w w2) := (HBA.out.alloc hzA _).grown hgrow (by rw [World.size_alloc]; omega) (fun k hk => (hownA.lt k hk).1); clear hown' hgrow)
            go_roundw
            case rel =>
              refine ⟨j + 1, T2 ++ [(.slice A' m' c', l')], hlt, by go_num, ?_, ?_, ?_, ?_, HB3⟩
              · show World.ownsRow _ _ _ _ _ _ _
                rw [List.length_append, List.map_append]
                exact HO3.out
              · intro t ht
                rcases List.mem_append.1 ht with ht | ht
                · exact HT2.out t ht
                · rw [List.mem_singleton] at ht
                  subst ht
                  exact ⟨A', c', by rw [HM3.out], HN3.out⟩
              · show _ = _
                rw [tot_app, HBt.out, HS2.out, tot, tot]
                show _ + (sizs l' + 0) = _ + (_ + sizs l')
                omega
              · show _ ≤ _
                rw [List.length_append]
                have := HL2.out
                show _ + 1 ≤ _
                omega
            case measure => simp [intOf]; omega
        · obtain rfl : j = m := by omega
          go_wp2_with fail
          go_roundw
          case rel =>
            refine ⟨z + j, T2, by first | rfl | go_num | (congr 1; omega), HO2, HT2, ?_, HB2⟩
            have h1 := HSum.out
            have h2 := HSb.out
            have h3 := HTz.out
            have h4 := HL2.out
            refine ⟨?_, by omega⟩
            rw [HS2.out, show tl.take j = tl by rw [HM.out]; exact List.take_length]
            omega
          case measure =>
            have := HL2.out
            have := HSum.out
            have := HSb.out
            have := HTz.out
            simp [intOf, sliceLen]
            omega

end Go.Proofs.Ytfenlhbkdfmneaa.Csz
