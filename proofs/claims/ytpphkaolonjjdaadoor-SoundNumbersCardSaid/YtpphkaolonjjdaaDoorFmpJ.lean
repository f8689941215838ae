/- The program's functions, Find and Names. -/
import Derived.Maps.OwnSet
import Derived.Maps.Range
import Derived.Maps.Ext
import Derived.Sort.KeysCollected
import Derived.StillTailTactics
import Derived.Test.YtpphkaolonjjdaaDoorStrsJ
import Derived.Lib.Builder
namespace Go.Proofs.YtpphkaolonjjdaaDoor.Fmp
open Go Go.RowKit Go.Maps Go.Sort Go.Proofs.YtpphkaolonjjdaaDoor.Strs Go.Proofs.YtpphkaolonjjdaaDoor.Srt Go.Proofs.YtpphkaolonjjdaaDoor.Fpl
open Go.Proofs.YtpphkaolonjjdaaDoor.Pure (bs)

abbrev U := Unit
theorem eq_of_data {a b : ByteArray} (h : a.data.toList = b.data.toList) : a = b := Pure.ext_data h
/-- what an entry reads as -/
def litI (m n : Int) (l p : Bool) : DataW U := .agg [.lit (.int .i64 m), .lit (.int .i64 n), .lit (.bool l), .lit (.bool p)]
def infV (i : Inf) : Value := .agg #[.int .i64 i.mn, .int .i64 i.mx, .bool i.lz, .bool i.pu]
def infD (i : Inf) : DataW U := litI i.mn i.mx i.lz i.pu
def infElem : Value → Option (DataW U × List MemPlace)
  | .agg cs => match cs.toList with
    | [.int .i64 m, .int .i64 n, .bool l, .bool p] => some (litI m n l p, [])
    | _ => none
  | _ => none
theorem infElem_mk (i : Inf) : infElem (infV i) = some (infD i, []) := rfl
theorem infElem_inv {v : Value} {i : Inf} {ps : List MemPlace} (h : infElem v = some (infD i, ps)) : v = infV i := by
  unfold infElem at h
  split at h
  · rename_i cs
    split at h
    · rename_i m n l p he
      simp only [Option.some.injEq, Prod.mk.injEq, infD, litI, DataW.agg.injEq, List.cons.injEq, DataW.lit.injEq, Lit.int.injEq, Lit.bool.injEq, true_and, and_true] at h
      obtain ⟨⟨rfl, rfl, rfl, rfl⟩, _⟩ := h
      rw [infV, ← Array.toArray_toList (xs := cs), he]
    · cases h
  · cases h

theorem zeroInf (w : World) : (zeroValue 92).run Tryd.prog w = .ok (infV zero) w := by kernel_rfl
theorem KS : Keyed Tryd.prog 9 := string_keyed Tryd.underlying9
theorem keyS {x : ByteArray} (h : x.size ≤ maxLen) : keyOf Tryd.prog 9 (.string x) = some (.string x.data.toList) := WideMaps.keyOf_string_mk Tryd.underlying9 h
theorem isKeyS (x : List UInt8) : WideAt.IsKeyLit (.string x) := trivial
theorem alloc_below (w : World) (o : Obj) : Below w.heap.size w (w.alloc o) := (Below.refl _ _).alloc (Nat.le_refl _) _

/-- the map in the making: block w.heap.size holds l -/
def Made (w W : World) (l : List (T × Inf)) : Prop :=
  Below w.heap.size w W ∧ ∃ D n, W.ownsMap Tryd.prog 9 infElem w.heap.size n D ∧ n ≤ l.length ∧ (∀ x : List UInt8, Maps.has D (.string x) = (lookI l x).isSome) ∧ ∀ x i, lookI l x = some i → D.atKey (.string x) (infD zero) = infD i
theorem made_zero (w : World) : Made w (w.alloc (.map #[] 0)) [] :=
  ⟨alloc_below _ _, _, 0, World.ownsMap_made w _ _ _, Nat.le_refl _, fun _ => rfl, fun _ _ h => by cases h⟩
theorem Made.put {w W : World} {l : List (T × Inf)} (h : Made w W l) (x : ByteArray) (hx : x.size ≤ maxLen) (hl : l.length < maxLen) (i : Inf) :
    ∃ W', (Instr.mapUpdate 48 (.map (some w.heap.size)) (.string x) (infV i)).run Tryd.prog W = .ok () W' ∧ Made w W' ((x.data.toList, i) :: l) := by
  obtain ⟨hb, D, n, ho, hle, hh, hat⟩ := h
  obtain ⟨W', hrun, ho2, hg⟩ := ho.update KS Tryd.underlying48 (Nat.lt_of_le_of_lt hle hl) (keyS hx) (val := infV i) (infElem_mk i)
  refine ⟨W', hrun, hb.grown hg hb.size (fun k e => by rw [← Option.some.inj e]; exact Nat.le_refl _), _, n + 1, ho2, by rw [List.length_cons]; omega, fun y => ?_, fun y d hd => ?_⟩
  · rw [lookI]
    by_cases hy : x.data.toList = y
    · subst hy
      rw [if_pos rfl, has_put_same ho.isMap (isKeyS _)]; rfl
    · rw [if_neg hy, has_put_other (fun e1 => hy (by cases e1; rfl)), hh]
  · rw [lookI] at hd
    by_cases hy : x.data.toList = y
    · subst hy
      rw [if_pos rfl] at hd
      rw [← Option.some.inj hd, atKey_put_same ho.isMap (isKeyS _)]
    · rw [if_neg hy] at hd
      rw [atKey_put_other (fun e1 => hy (by cases e1; rfl)), hat y d hd]
theorem Made.lookup {w W : World} {l : List (T × Inf)} (h : Made w W l) (x : ByteArray) (hx : x.size ≤ maxLen) :
    (Instr.lookup 48 (.map (some w.heap.size)) (.string x) true).run Tryd.prog W = .ok (.tuple #[infV ((lookI l x.data.toList).getD zero), .bool (lookI l x.data.toList).isSome]) W := by
  obtain ⟨hb, D, n, ho, _, hh, hat⟩ := h
  obtain ⟨v, ps, hrun, hv⟩ := ho.look_ok KS Tryd.underlying48 (zeroInf W) (zd := infD zero) (zp := []) rfl (keyS hx)
  rw [hrun, hh]
  cases hc : lookI l x.data.toList with
  | none =>
    have h0 : Maps.has D (.string x.data.toList) = false := by rw [hh, hc]; rfl
    rw [atKey_of_not_has h0] at hv
    rw [infElem_inv hv]; rfl
  | some e =>
    rw [hat _ _ hc] at hv
    rw [infElem_inv hv]; rfl

set_option maxRecDepth 100000 in
set_option maxHeartbeats 16000000 in
/-- the program's functions -/
theorem functions_is (w : World) : Calls Tryd.prog 54 #[] w fun e W' => e = .returned (.map (some w.heap.size)) ∧ Made w W' tab := by
  have hml : (maxLen : Nat) = 9223372036854775807 := by unfold maxLen; rfl
  have h0 := made_zero w
  obtain ⟨W1, u1, h1⟩ := h0.put ⟨#[115, 116, 114, 105, 112]⟩ (by rw [hml]; decide) (by rw [hml]; simp) ⟨1, 1, false, true⟩
  obtain ⟨W2, u2, h2⟩ := h1.put ⟨#[115, 111, 114, 116]⟩ (by rw [hml]; decide) (by rw [hml]; simp) ⟨1, 1, false, true⟩
  obtain ⟨W3, u3, h3⟩ := h2.put ⟨#[119, 111, 114, 100, 115]⟩ (by rw [hml]; decide) (by rw [hml]; simp) ⟨1, 1, false, true⟩
  obtain ⟨W4, u4, h4⟩ := h3.put ⟨#[102, 105, 114, 115, 116, 119, 111, 114, 100]⟩ (by rw [hml]; decide) (by rw [hml]; simp) ⟨1, 1, false, true⟩
  obtain ⟨W5, u5, h5⟩ := h4.put ⟨#[108, 97, 115, 116, 119, 111, 114, 100]⟩ (by rw [hml]; decide) (by rw [hml]; simp) ⟨1, 1, false, true⟩
  obtain ⟨W6, u6, h6⟩ := h5.put ⟨#[100, 105, 114]⟩ (by rw [hml]; decide) (by rw [hml]; simp) ⟨1, 1, false, true⟩
  obtain ⟨W7, u7, h7⟩ := h6.put ⟨#[110, 111, 116, 100, 105, 114]⟩ (by rw [hml]; decide) (by rw [hml]; simp) ⟨1, 1, false, true⟩
  obtain ⟨W8, u8, h8⟩ := h7.put ⟨#[115, 117, 102, 102, 105, 120]⟩ (by rw [hml]; decide) (by rw [hml]; simp) ⟨1, 1, false, true⟩
  obtain ⟨W9, u9, h9⟩ := h8.put ⟨#[98, 97, 115, 101, 110, 97, 109, 101]⟩ (by rw [hml]; decide) (by rw [hml]; simp) ⟨1, 1, false, true⟩
  obtain ⟨W10, u10, h10⟩ := h9.put ⟨#[97, 98, 115, 112, 97, 116, 104]⟩ (by rw [hml]; decide) (by rw [hml]; simp) ⟨1, 1, false, true⟩
  obtain ⟨W11, u11, h11⟩ := h10.put ⟨#[119, 105, 108, 100, 99, 97, 114, 100]⟩ (by rw [hml]; decide) (by rw [hml]; simp) ⟨1, 1, false, true⟩
  obtain ⟨W12, u12, h12⟩ := h11.put ⟨#[102, 105, 110, 100, 115, 116, 114, 105, 110, 103]⟩ (by rw [hml]; decide) (by rw [hml]; simp) ⟨2, 2, false, true⟩
  obtain ⟨W13, u13, h13⟩ := h12.put ⟨#[102, 105, 108, 116, 101, 114]⟩ (by rw [hml]; decide) (by rw [hml]; simp) ⟨2, 2, false, true⟩
  obtain ⟨W14, u14, h14⟩ := h13.put ⟨#[102, 105, 108, 116, 101, 114, 45, 111, 117, 116]⟩ (by rw [hml]; decide) (by rw [hml]; simp) ⟨2, 2, false, true⟩
  obtain ⟨W15, u15, h15⟩ := h14.put ⟨#[119, 111, 114, 100]⟩ (by rw [hml]; decide) (by rw [hml]; simp) ⟨2, 2, false, true⟩
  obtain ⟨W16, u16, h16⟩ := h15.put ⟨#[97, 100, 100, 115, 117, 102, 102, 105, 120]⟩ (by rw [hml]; decide) (by rw [hml]; simp) ⟨2, 2, false, true⟩
  obtain ⟨W17, u17, h17⟩ := h16.put ⟨#[97, 100, 100, 112, 114, 101, 102, 105, 120]⟩ (by rw [hml]; decide) (by rw [hml]; simp) ⟨2, 2, false, true⟩
  obtain ⟨W18, u18, h18⟩ := h17.put ⟨#[106, 111, 105, 110]⟩ (by rw [hml]; decide) (by rw [hml]; simp) ⟨2, 2, false, true⟩
  obtain ⟨W19, u19, h19⟩ := h18.put ⟨#[115, 117, 98, 115, 116]⟩ (by rw [hml]; decide) (by rw [hml]; simp) ⟨3, 3, false, true⟩
  obtain ⟨W20, u20, h20⟩ := h19.put ⟨#[112, 97, 116, 115, 117, 98, 115, 116]⟩ (by rw [hml]; decide) (by rw [hml]; simp) ⟨3, 3, false, true⟩
  obtain ⟨W21, u21, h21⟩ := h20.put ⟨#[119, 111, 114, 100, 108, 105, 115, 116]⟩ (by rw [hml]; decide) (by rw [hml]; simp) ⟨3, 3, false, true⟩
  obtain ⟨W22, u22, h22⟩ := h21.put ⟨#[105, 102]⟩ (by rw [hml]; decide) (by rw [hml]; simp) ⟨2, 3, true, false⟩
  obtain ⟨W23, u23, h23⟩ := h22.put ⟨#[111, 114]⟩ (by rw [hml]; decide) (by rw [hml]; simp) ⟨1, 0, true, false⟩
  obtain ⟨W24, u24, h24⟩ := h23.put ⟨#[97, 110, 100]⟩ (by rw [hml]; decide) (by rw [hml]; simp) ⟨1, 0, true, false⟩
  obtain ⟨W25, u25, h25⟩ := h24.put ⟨#[105, 110, 116, 99, 109, 112]⟩ (by rw [hml]; decide) (by rw [hml]; simp) ⟨2, 5, true, false⟩
  obtain ⟨W26, u26, h26⟩ := h25.put ⟨#[102, 111, 114, 101, 97, 99, 104]⟩ (by rw [hml]; decide) (by rw [hml]; simp) ⟨3, 3, true, false⟩
  obtain ⟨W27, u27, h27⟩ := h26.put ⟨#[108, 101, 116]⟩ (by rw [hml]; decide) (by rw [hml]; simp) ⟨3, 3, true, false⟩
  obtain ⟨W28, u28, h28⟩ := h27.put ⟨#[99, 97, 108, 108]⟩ (by rw [hml]; decide) (by rw [hml]; simp) ⟨1, 0, false, false⟩
  obtain ⟨W29, u29, h29⟩ := h28.put ⟨#[101, 118, 97, 108]⟩ (by rw [hml]; decide) (by rw [hml]; simp) ⟨1, 1, false, false⟩
  obtain ⟨W30, u30, h30⟩ := h29.put ⟨#[118, 97, 108, 117, 101]⟩ (by rw [hml]; decide) (by rw [hml]; simp) ⟨1, 1, false, false⟩
  obtain ⟨W31, u31, h31⟩ := h30.put ⟨#[111, 114, 105, 103, 105, 110]⟩ (by rw [hml]; decide) (by rw [hml]; simp) ⟨1, 1, false, false⟩
  obtain ⟨W32, u32, h32⟩ := h31.put ⟨#[102, 108, 97, 118, 111, 114]⟩ (by rw [hml]; decide) (by rw [hml]; simp) ⟨1, 1, false, false⟩
  obtain ⟨W33, u33, h33⟩ := h32.put ⟨#[101, 114, 114, 111, 114]⟩ (by rw [hml]; decide) (by rw [hml]; simp) ⟨1, 1, false, false⟩
  obtain ⟨W34, u34, h34⟩ := h33.put ⟨#[119, 97, 114, 110, 105, 110, 103]⟩ (by rw [hml]; decide) (by rw [hml]; simp) ⟨1, 1, false, false⟩
  obtain ⟨W35, u35, h35⟩ := h34.put ⟨#[105, 110, 102, 111]⟩ (by rw [hml]; decide) (by rw [hml]; simp) ⟨1, 1, false, false⟩
  have HM : Hid (Made w W35 tab) := h35
  have hmm := @run_makeMap Tryd.prog
  clear hml h0 h1 h2 h3 h4 h5 h6 h7 h8 h9 h10 h11 h12 h13 h14 h15 h16 h17 h18 h19 h20 h21 h22 h23 h24 h25 h26 h27 h28 h29 h30 h31 h32 h33 h34 h35
  simp only [infV] at u1
  simp only [infV] at u2
  simp only [infV] at u3
  simp only [infV] at u4
  simp only [infV] at u5
  simp only [infV] at u6
  simp only [infV] at u7
  simp only [infV] at u8
  simp only [infV] at u9
  simp only [infV] at u10
  simp only [infV] at u11
  simp only [infV] at u12
  simp only [infV] at u13
  simp only [infV] at u14
  simp only [infV] at u15
  simp only [infV] at u16
  simp only [infV] at u17
  simp only [infV] at u18
  simp only [infV] at u19
  simp only [infV] at u20
  simp only [infV] at u21
  simp only [infV] at u22
  simp only [infV] at u23
  simp only [infV] at u24
  simp only [infV] at u25
  simp only [infV] at u26
  simp only [infV] at u27
  simp only [infV] at u28
  simp only [infV] at u29
  simp only [infV] at u30
  simp only [infV] at u31
  simp only [infV] at u32
  simp only [infV] at u33
  simp only [infV] at u34
  simp only [infV] at u35
  go_enter Tryd.func54, Tryd.ntmps54
  go_wp2

  go_ret
  exact ⟨rfl, HM.out⟩

end Go.Proofs.YtpphkaolonjjdaaDoor.Fmp

/- The program's Find. -/
namespace Go.Proofs.YtpphkaolonjjdaaDoor.Ufind
open Go Go.RowKit Go.Maps Go.Sort Go.Proofs.YtpphkaolonjjdaaDoor.Strs Go.Proofs.YtpphkaolonjjdaaDoor.Srt Go.Proofs.YtpphkaolonjjdaaDoor.Fpl Go.Proofs.YtpphkaolonjjdaaDoor.Fmp
open Go.Proofs.YtpphkaolonjjdaaDoor.Pure (bs)

/-- what Find answers -/
def findV (x : ByteArray) : Value := .tuple #[infV ((lookI tab x.data.toList).getD zero), .bool (lookI tab x.data.toList).isSome]

set_option maxRecDepth 100000 in
set_option maxHeartbeats 4000000 in
theorem find_is (s : ByteArray) (w : World) (hs : s.size ≤ maxLen) :
    Calls Tryd.prog 50 #[.string s] w fun e W' => e = .returned (findV s) ∧ Below w.heap.size w W' := by
  have HF := functions_is (w.alloc (.cells #[.int .i64 0, .int .i64 0, .bool false, .bool false] 92))
  have HL := Lib.hid (fun W (h : Made (w.alloc (.cells #[.int .i64 0, .int .i64 0, .bool false, .bool false] 92)) W tab) => h.lookup s hs)
  unfold findV
  unfold infV at HL ⊢
  generalize (lookI tab s.data.toList).getD zero = q at *
  generalize (lookI tab s.data.toList).isSome = r at *
  have HF := Lib.hid HF
  go_enter Tryd.func50, Tryd.ntmps50
  go_wp2_with fail
  refine HF.out.mono ?_
  rintro e W2 ⟨rfl, hm2⟩
  have hl := HL.out W2 hm2
  have hb2 := hm2.1
  have hg : W2.heap[w.heap.size]? = some (.cells #[.int .i64 0, .int .i64 0, .bool false, .bool false] 92 (0, 0)) := (hb2.block _ (by simp)).trans (heap_alloc_new w _)
  have hs2 := hb2.size
  rw [World.size_alloc] at hs2
  have hgo := (Lib.alloc_old W2 (.cells #[.int .i64 q.mn, .int .i64 q.mx, .bool q.lz, .bool q.pu] 92) w.heap.size (by omega)).trans hg
  have k0 : (W2.alloc (.cells #[.int .i64 q.mn, .int .i64 q.mx, .bool q.lz, .bool q.pu] 92)).cell? ⟨w.heap.size, 0, none⟩ = some (.int .i64 0) := by rw [Lib.cell_of_heap hgo]; rfl
  have k1 : (W2.alloc (.cells #[.int .i64 q.mn, .int .i64 q.mx, .bool q.lz, .bool q.pu] 92)).cell? ⟨w.heap.size, 1, none⟩ = some (.int .i64 0) := by rw [Lib.cell_of_heap hgo]; rfl
  have k2 : (W2.alloc (.cells #[.int .i64 q.mn, .int .i64 q.mx, .bool q.lz, .bool q.pu] 92)).cell? ⟨w.heap.size, 2, none⟩ = some (.bool false) := by rw [Lib.cell_of_heap hgo]; rfl
  have k3 : (W2.alloc (.cells #[.int .i64 q.mn, .int .i64 q.mx, .bool q.lz, .bool q.pu] 92)).cell? ⟨w.heap.size, 3, none⟩ = some (.bool false) := by rw [Lib.cell_of_heap hgo]; rfl
  have f0 : (W2.alloc (.cells #[.int .i64 q.mn, .int .i64 q.mx, .bool q.lz, .bool q.pu] 92)).frozen? ⟨w.heap.size, 0, none⟩ = false := Lib.frozen_of_heap hgo 0
  have f1 : (W2.alloc (.cells #[.int .i64 q.mn, .int .i64 q.mx, .bool q.lz, .bool q.pu] 92)).frozen? ⟨w.heap.size, 1, none⟩ = false := Lib.frozen_of_heap hgo 1
  have f2 : (W2.alloc (.cells #[.int .i64 q.mn, .int .i64 q.mx, .bool q.lz, .bool q.pu] 92)).frozen? ⟨w.heap.size, 2, none⟩ = false := Lib.frozen_of_heap hgo 2
  have f3 : (W2.alloc (.cells #[.int .i64 q.mn, .int .i64 q.mx, .bool q.lz, .bool q.pu] 92)).frozen? ⟨w.heap.size, 3, none⟩ = false := Lib.frozen_of_heap hgo 3
  have HB := Lib.hid ((alloc_below w (.cells #[.int .i64 0, .int .i64 0, .bool false, .bool false] 92)).trans (hb2.mono (by simp)))
  clear hb2 HF hg hgo HL hm2 hs
  rw [World.size_alloc] at hl
  go_wp2
  exact bodyPost_ret (v := .tuple #[.agg #[.int .i64 q.mn, .int .i64 q.mx, .bool q.lz, .bool q.pu], .bool r]) (by simp [results, Tryd.results50, go_sem, k0, k1, k2, k3]) rfl
    ⟨rfl, ((((HB.out.alloc (by omega) _).setCell (p := ⟨_, _, none⟩) (Nat.le_refl _) _).setCell (p := ⟨_, _, none⟩) (Nat.le_refl _) _).setCell (p := ⟨_, _, none⟩) (Nat.le_refl _) _).setCell (p := ⟨_, _, none⟩) (Nat.le_refl _) _⟩

end Go.Proofs.YtpphkaolonjjdaaDoor.Ufind
