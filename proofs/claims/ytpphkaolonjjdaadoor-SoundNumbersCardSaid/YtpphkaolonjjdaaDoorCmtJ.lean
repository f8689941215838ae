/- The document's node: a Text (written by wip/tools/mkref12.py) -/
import Derived.Test.YtpphkaolonjjdaaDoorCmnJ
namespace Go.Proofs.YtpphkaolonjjdaaDoor.Cmt
open Go Go.RowKit Go.Proofs.YtpphkaolonjjdaaDoor.Spl Go.Proofs.YtpphkaolonjjdaaDoor.Nodm Go.Proofs.YtpphkaolonjjdaaDoor.Nz Go.Proofs.YtpphkaolonjjdaaDoor.Cpl Go.Proofs.YtpphkaolonjjdaaDoor.Cin Go.Proofs.YtpphkaolonjjdaaDoor.Cops Go.Proofs.YtpphkaolonjjdaaDoor.Cmc Go.Proofs.YtpphkaolonjjdaaDoor.Cmm Go.Proofs.YtpphkaolonjjdaaDoor.Cnm Go.Proofs.YtpphkaolonjjdaaDoor.Cpu Go.Proofs.YtpphkaolonjjdaaDoor.Cmr Go.Proofs.YtpphkaolonjjdaaDoor.Cmn
open Go.Proofs.YtpphkaolonjjdaaDoor.Pure (bs)

set_option maxRecDepth 100000 in
set_option maxHeartbeats 16000000 in
theorem node_text (S : Nat → Prop) (w0 : World) (h cb b m : Nat) (Y : Nat → Prop) (B : List (List Opp)) (s : T) (A : Option Addr) (c : Nat) (w : World) (hst : StR S w0 h cb Y w B) (hbx : b < B.length) (hr : ∀ r ∈ B, r.length ≤ 1000000) :
    Calls Tryd.prog 24 #[.pointer (some ⟨cb, 0, none⟩), .int .i64 (b : Int), .agg #[.int .i64 1, .string (bs s), .slice A m c]] w fun e W' => e = .returned (.tuple #[]) ∧ StR S w0 h cb Y W' (Cpl.put B b ⟨1, 0, s, []⟩) ∧ Kp h (XR cb) w W' ∧ Stay Y w W' := by
  obtain ⟨i0, hi0, hz0, hz1, hz2⟩ := info_parts infoOp
  obtain ⟨w1, hw1⟩ : ∃ w1, w.alloc (.cells #[.int .i64 1, .string (bs s), .slice A m c] 31) = w1 := ⟨_, rfl⟩
  have hb1 : Below w.heap.size w w1 := by rw [← hw1]; exact (Below.refl _ _).alloc (Nat.le_refl _) _
  have hx1 : w1.heap[w.heap.size]? = some (.cells #[.int .i64 1, .string (bs s), .slice A m c] 31) := by rw [← hw1]; exact heap_alloc_new w _
  have hsx := hst.on hb1
  have HW1 := Lib.hid hw1
  have HK0 : Hid (Kp h (XR cb) w w1) := Kp.of hb1 hst.1.size _
  have HY0 : Hid (Stay Y w w1) := hst.stay hb1
  have hrx := hr
  obtain ⟨n0, n1, n2⟩ := cells_3 hx1
  clear hw1 hb1 hst hx1 hr
  go_enter Tryd.func24, Tryd.ntmps24
  go_upto_region 1 with fail
  rw [HW1.out]
  go_upto_region 3 with fail
  obtain ⟨gB, q, capB, p, cr, Ar, lr, G, hc, hG, hY, hq, hi, hp, hpl, hbq, hgl, hro, hrow⟩ := opened hsx hbx hrx
  have a0 := one_cell hc.box
  have hvi : (G.map (·.1))[b]? = some (.slice Ar p cr) := by rw [List.getElem?_map, hi]; rfl
  have b0 := (hrow.cellAt b (by omega)).trans hvi
  have hbq' : (b : Int) < (q : Int) := by omega
  have hcl := (Array.getElem?_eq_some_iff.1 hc.box).1
  obtain ⟨ob, hob⟩ : ∃ ob, ob = Obj.cells #[.int .i64 1, .int .i64 0, .string (bs s), .slice none 0 0] 40 := ⟨_, rfl⟩
  have HPE := Lib.hid (put_fin hc hG hY hq hi hp hsx.1.size ⟨1, 0, s, []⟩ (.slice none 0 0) (World.ownsRow_nil ..) ob)
  have A0 : (w1.alloc (.cells #[.int .i64 1, .int .i64 0, .string (bs s), .slice none 0 0] 40)).cell? ⟨cb, 0, none⟩ = some (.slice (some ⟨gB, 0, none⟩) q capB) := one_cell ((Lib.alloc_old w1 _ cb hcl).trans hc.box)
  have B0 : (w1.alloc (.cells #[.int .i64 1, .int .i64 0, .string (bs s), .slice none 0 0] 40)).cell? ⟨gB, b, none⟩ = some (.slice Ar p cr) := ((hrow.alloc _).cellAt b (by omega)).trans hvi
  have hnB : (Value.slice Ar p cr).ownBlock ≠ some cb := own_not hro hc.box (by decide)
  have hrB : (Value.slice Ar p cr).ownBlock ≠ some gB := (own_type hro hrow (by decide)).elim (fun e1 e2 => by rw [e1] at e2; cases e2) id
  have HBx := Lib.hid hc.box
  have HRo := Lib.hid hro
  have HRow := Lib.hid hrow
  have HnB := Lib.hid hnB
  have HrB := Lib.hid hrB
  have HV := Lib.hid hvi
  have HOB := Lib.hid hob
  have HWr := Lib.hid hsx.1
  have hzz := hsx.1.size
  have HZn := Lib.hid (four_new w1.drew (.int .i64 1) (.int .i64 0) (.string (bs s)) (.slice none 0 0) 40)
  have hfl := flat4_len lr
  rw [← hp] at hfl
  generalize flat4 lr = fr at *
  generalize G.map (·.1) = vs at *
  clear hsx hc hG hY hq hi hp hro hrow hvi hob hnB hrB hrx
  go_region_law (refine step_append_lies _ rfl _ _ 38 rfl h 40 i0 (.agg #[.int .i64 0, .int .i64 0, .string .empty, .slice none 0 0]) 4 56 Tryd.underlying38 hi0 hz0 hz1 hz2 rfl (by decide) (.slice Ar p cr) p _ (by first | rfl | simp [Act.eval, Act.put]) (HRo.out.drew.alloc _) ⟨w1.heap.size, 0, none⟩ 1 1 [.int .i64 1, .int .i64 0, .string (bs s), .slice none 0 0] (by first | rfl | simp [Act.eval, Act.put]) rfl HZn.out (by simp [Value.oneCell']) (by decide) (by unfold maxLen; omega) (by omega) (by simp; omega) (w1.heap.size + 1) (World.size_alloc ..) ?_; intro g cap w5 hown5 hgrow5 hat5 hlt5; have hb5 : w5.heap[cb]? = _ := (hgrow5.block cb (by simp; omega) (fun e => HnB.out e.symm)).trans ((Lib.alloc_old w1.drew _ cb hcl).trans HBx.out); have z0 := one_cell hb5; have hr5 := (HRow.out.drew.alloc _).kept hgrow5 (.inr (fun e => HrB.out e.symm)); have z1 := (hr5.cellAt b (by omega)).trans HV.out; have t0 := hr5.frozenAt b; have HFin := Lib.hid (HPE.out g cap w5 hown5 (by rw [HOB.out]; exact ⟨hgrow5.os, hgrow5.tape, hgrow5.output, hgrow5.size, hgrow5.block⟩) hat5); clear hown5 hgrow5 hat5 hb5 hr5)
  all_goals go_wp2
  all_goals exact bodyPost_ret (v := .tuple #[]) (by simp [results, Tryd.results24, go_sem]) rfl ⟨rfl, ⟨HWr.out.s (HFin.out.2.1.mono fun _ _ h => .inr h), HFin.out.1⟩, HK0.out.trans (HFin.out.2.1.mono fun _ _ h => .inr h), HY0.out.trans HFin.out.2.2⟩

end Go.Proofs.YtpphkaolonjjdaaDoor.Cmt

/- The document's node: a Ref (written by wip/tools/mkref12.py) -/
namespace Go.Proofs.YtpphkaolonjjdaaDoor.Cmg
open Go Go.RowKit Go.Proofs.YtpphkaolonjjdaaDoor.Spl Go.Proofs.YtpphkaolonjjdaaDoor.Nodm Go.Proofs.YtpphkaolonjjdaaDoor.Nz Go.Proofs.YtpphkaolonjjdaaDoor.Cpl Go.Proofs.YtpphkaolonjjdaaDoor.Cin Go.Proofs.YtpphkaolonjjdaaDoor.Cops Go.Proofs.YtpphkaolonjjdaaDoor.Cmc Go.Proofs.YtpphkaolonjjdaaDoor.Cmm Go.Proofs.YtpphkaolonjjdaaDoor.Cnm Go.Proofs.YtpphkaolonjjdaaDoor.Cpu Go.Proofs.YtpphkaolonjjdaaDoor.Cmr Go.Proofs.YtpphkaolonjjdaaDoor.Cmn
open Go.Proofs.YtpphkaolonjjdaaDoor.Pure (bs)

set_option maxRecDepth 100000 in
set_option maxHeartbeats 16000000 in
theorem node_ref (S : Nat → Prop) (w0 : World) (h cb b : Nat) (Y : Nat → Prop) (B : List (List Opp)) (s : T) (l : List Nz) (A : Option Addr) (c : Nat) (w : World) (HI : KidsR S w0 h cb b l) (hst : StR S w0 h cb Y w B) (hn : NzsIn S w0 A c l) (hb : b < B.length) (ho : opsP B + sizs l < 400000) (hB : B.length + sizs l ≤ 400000) :
    Calls Tryd.prog 24 #[.pointer (some ⟨cb, 0, none⟩), .int .i64 (b : Int), .agg #[.int .i64 2, .string (bs s), .slice A l.length c]] w fun e W' => e = .returned (.tuple #[]) ∧ StR S w0 h cb Y W' (Cpl.put (nodesP l b B) b ⟨2, 0, [], []⟩) ∧ Kp h (XR cb) w W' ∧ Stay Y w W' := by
  obtain ⟨i0, hi0, hz0, hz1, hz2⟩ := info_parts infoOp
  obtain ⟨m, hm⟩ : ∃ m, m = l.length := ⟨_, rfl⟩
  have hml := sizs_len l
  rw [← hm] at hml ⊢
  obtain ⟨w1, hw1⟩ : ∃ w1, w.alloc (.cells #[.int .i64 2, .string (bs s), .slice A m c] 31) = w1 := ⟨_, rfl⟩
  have hb1 : Below w.heap.size w w1 := by rw [← hw1]; exact (Below.refl _ _).alloc (Nat.le_refl _) _
  have hx1 : w1.heap[w.heap.size]? = some (.cells #[.int .i64 2, .string (bs s), .slice A m c] 31) := by rw [← hw1]; exact heap_alloc_new w _
  have HW1 := Lib.hid hw1
  have HS1 := Lib.hid (hst.on hb1)
  have HK1 : Hid (Kp h (XR cb) w w1) := Kp.of hb1 hst.1.size _
  have HY1 : Hid (Stay Y w w1) := hst.stay hb1
  have HX1 := Lib.hid hx1
  have HM := Lib.hid hm
  have HKi := Lib.hid HI
  have HNs := Lib.hid hn
  obtain ⟨n0, n1, n2⟩ := cells_3 hx1
  clear hw1 hb1 hst hx1 HI hn hm
  go_enter Tryd.func24, Tryd.ntmps24
  go_upto_region 1 with fail
  rw [HW1.out]
  obtain ⟨w3, hw3⟩ : ∃ w3, w3 = w1 := ⟨_, rfl⟩
  have hs3 := HS1.out
  have hk3 : Kp h (XR cb) w1 w1 := Kp.refl _ _ _
  rw [← hw3]
  rw [← hw3] at hs3
  have hk3 : Kp h (XR cb) w1 w3 := by rw [hw3]; exact hk3
  have hy3 : Stay Y w1 w3 := by rw [hw3]; exact Stay.refl _ _
  clear hw3
  have HS3 := Lib.hid hs3
  have HK3 := Lib.hid hk3
  have HY3 := Lib.hid hy3
  obtain ⟨n0, n1, n2⟩ := cells_3 (hk3.keep _ _ HX1.out xr_not)
  clear hs3 hk3 hy3
  go_upto_region 9 with fail
  go_loopw [8] (fun iv wr => ∃ j : Nat, j ≤ m ∧ iv = .int .i64 (j : Int) ∧ Hid (StR S w0 h cb Y wr (nodesP (l.take j) b B)) ∧ Hid (Kp h (XR cb) w1 wr) ∧ Hid (Stay Y w1 wr)) (fun iv _ => m - (intOf iv).toNat)
  case atStart => exact ⟨0, Nat.zero_le _, rfl, by rw [List.take_zero, nodesP]; exact HS3, HK3, HY3⟩
  case round =>
    obtain ⟨j, hj, rfl, HSr, HKr, HYr⟩ := hrel
    obtain ⟨n0, n1, n2⟩ := cells_3 (HKr.out.keep _ _ HX1.out xr_not)
    by_cases hlt : j < m
    · obtain ⟨x, hx⟩ : ∃ x, l[j]? = some x := ⟨_, List.getElem?_eq_getElem (by have := HM.out; omega)⟩
      have hjm : (j : Int) < (m : Int) := by omega
      have HC0 := kid HKi.out HNs.out hx HSr.out hb ho hB
      obtain ⟨k', s', l'⟩ := x
      obtain ⟨bb, oo, A', c', rfl, hbb, hSb, hin, hcw⟩ := HNs.out.at_ hx
      obtain ⟨d0, d1, d2⟩ := hcw wr (HSr.out.1.block hSb hbb)
      have HC := Lib.hid (HC0 _ hin)
      obtain ⟨q', hq'⟩ : ∃ q', q' = l'.length := ⟨_, rfl⟩
      rw [← hq'] at HC d2
      have HT := Lib.hid (nodes_take l b B hx)
      clear hcw hin hx hq' HC0
      go_wp2_with (go_at_call 24; refine HC.out.mono ?_; rintro e w4 ⟨rfl, hs4, hk4, hy4⟩; have HS4 := Lib.hid hs4; have HK4 := Lib.hid (HKr.out.trans hk4); have HY4 := Lib.hid (HYr.out.trans hy4); clear hs4 hk4 hy4)
      go_roundw
      case rel => exact ⟨j + 1, hlt, by go_num, by rw [HT.out]; exact HS4, HK4, HY4⟩
      case measure => simp [intOf]; omega
    · obtain rfl : m = j := by omega
      have hsx : StR S w0 h cb Y wr (nodesP l b B) := by
        have h1 := HSr.out
        rw [show l.take m = l by rw [HM.out]; exact List.take_length] at h1
        exact h1
      have hbx : b < (nodesP l b B).length := by rw [nodes_len]; omega
      have hrx : ∀ r ∈ nodesP l b B, r.length ≤ 1000000 := fun r hr => rows_in l b B hb ho r hr
      have HK0 := Lib.hid (HK1.out.trans HKr.out)
      have HY0 := Lib.hid (HY1.out.trans HYr.out)
      have hxl := (Array.getElem?_eq_some_iff.1 (HKr.out.keep _ _ HX1.out xr_not)).1
      go_upto_region 15 with fail
      obtain ⟨gB, q, capB, p, cr, Ar, lr, G, hc, hG, hY, hq, hi, hp, hpl, hbq, hgl, hro, hrow⟩ := opened hsx hbx hrx
      have a0 := one_cell hc.box
      have hvi : (G.map (·.1))[b]? = some (.slice Ar p cr) := by rw [List.getElem?_map, hi]; rfl
      have b0 := (hrow.cellAt b (by omega)).trans hvi
      have hbq' : (b : Int) < (q : Int) := by omega
      have hcl := (Array.getElem?_eq_some_iff.1 hc.box).1
      obtain ⟨ob, hob⟩ : ∃ ob, ob = Obj.cells #[.int .i64 2, .int .i64 0, .string ⟨#[]⟩, .slice none 0 0] 40 := ⟨_, rfl⟩
      have HPE := Lib.hid (put_fin hc hG hY hq hi hp hsx.1.size ⟨2, 0, [], []⟩ (.slice none 0 0) (World.ownsRow_nil ..) ob)
      have A0 : (wr.alloc (.cells #[.int .i64 2, .int .i64 0, .string ⟨#[]⟩, .slice none 0 0] 40)).cell? ⟨cb, 0, none⟩ = some (.slice (some ⟨gB, 0, none⟩) q capB) := one_cell ((Lib.alloc_old wr _ cb hcl).trans hc.box)
      have B0 : (wr.alloc (.cells #[.int .i64 2, .int .i64 0, .string ⟨#[]⟩, .slice none 0 0] 40)).cell? ⟨gB, b, none⟩ = some (.slice Ar p cr) := ((hrow.alloc _).cellAt b (by omega)).trans hvi
      have hnB : (Value.slice Ar p cr).ownBlock ≠ some cb := own_not hro hc.box (by decide)
      have hrB : (Value.slice Ar p cr).ownBlock ≠ some gB := (own_type hro hrow (by decide)).elim (fun e1 e2 => by rw [e1] at e2; cases e2) id
      have HBx := Lib.hid hc.box
      have HRo := Lib.hid hro
      have HRow := Lib.hid hrow
      have HnB := Lib.hid hnB
      have HrB := Lib.hid hrB
      have HV := Lib.hid hvi
      have HOB := Lib.hid hob
      have HWr := Lib.hid hsx.1
      have hzz := hsx.1.size
      have HZn := Lib.hid (four_new wr.drew (.int .i64 2) (.int .i64 0) (.string ⟨#[]⟩) (.slice none 0 0) 40)
      have hfl := flat4_len lr
      rw [← hp] at hfl
      generalize flat4 lr = fr at *
      generalize G.map (·.1) = vs at *
      clear hsx hc hG hY hq hi hp hro hrow hvi hob hnB hrB hrx
      go_region_law (refine step_append_lies _ rfl _ _ 38 rfl h 40 i0 (.agg #[.int .i64 0, .int .i64 0, .string .empty, .slice none 0 0]) 4 56 Tryd.underlying38 hi0 hz0 hz1 hz2 rfl (by decide) (.slice Ar p cr) p _ (by first | rfl | simp [Act.eval, Act.put]) (HRo.out.drew.alloc _) ⟨wr.heap.size, 0, none⟩ 1 1 [.int .i64 2, .int .i64 0, .string ⟨#[]⟩, .slice none 0 0] (by first | rfl | simp [Act.eval, Act.put]) rfl HZn.out (by simp [Value.oneCell']) (by decide) (by unfold maxLen; omega) (by omega) (by simp; omega) (wr.heap.size + 1) (World.size_alloc ..) ?_; intro g cap w5 hown5 hgrow5 hat5 hlt5; have hb5 : w5.heap[cb]? = _ := (hgrow5.block cb (by simp; omega) (fun e => HnB.out e.symm)).trans ((Lib.alloc_old wr.drew _ cb hcl).trans HBx.out); have z0 := one_cell hb5; have hr5 := (HRow.out.drew.alloc _).kept hgrow5 (.inr (fun e => HrB.out e.symm)); have z1 := (hr5.cellAt b (by omega)).trans HV.out; have t0 := hr5.frozenAt b; have HFin := Lib.hid (HPE.out g cap w5 hown5 (by rw [HOB.out]; exact ⟨hgrow5.os, hgrow5.tape, hgrow5.output, hgrow5.size, hgrow5.block⟩) hat5); clear hown5 hgrow5 hat5 hb5 hr5)
      all_goals go_wp2
      all_goals exact bodyPost_end (v := .tuple #[]) (by simp [results, Tryd.results24, go_sem]) rfl ⟨rfl, ⟨HWr.out.s (HFin.out.2.1.mono fun _ _ h => .inr h), HFin.out.1⟩, HK0.out.trans (HFin.out.2.1.mono fun _ _ h => .inr h), HY0.out.trans HFin.out.2.2⟩

end Go.Proofs.YtpphkaolonjjdaaDoor.Cmg

/- The document's node: a Sub (written by wip/tools/mkref12.py) -/
namespace Go.Proofs.YtpphkaolonjjdaaDoor.Cms
open Go Go.RowKit Go.Proofs.YtpphkaolonjjdaaDoor.Spl Go.Proofs.YtpphkaolonjjdaaDoor.Nodm Go.Proofs.YtpphkaolonjjdaaDoor.Nz Go.Proofs.YtpphkaolonjjdaaDoor.Cpl Go.Proofs.YtpphkaolonjjdaaDoor.Cin Go.Proofs.YtpphkaolonjjdaaDoor.Cops Go.Proofs.YtpphkaolonjjdaaDoor.Cmc Go.Proofs.YtpphkaolonjjdaaDoor.Cmm Go.Proofs.YtpphkaolonjjdaaDoor.Cnm Go.Proofs.YtpphkaolonjjdaaDoor.Cpu Go.Proofs.YtpphkaolonjjdaaDoor.Cmr Go.Proofs.YtpphkaolonjjdaaDoor.Cmn
open Go.Proofs.YtpphkaolonjjdaaDoor.Pure (bs)

set_option maxRecDepth 100000 in
set_option maxHeartbeats 16000000 in
theorem node_sub (S : Nat → Prop) (w0 : World) (h cb b : Nat) (Y : Nat → Prop) (B : List (List Opp)) (s : T) (l : List Nz) (A : Option Addr) (c : Nat) (w : World) (HI : KidsR S w0 h cb b l) (hst : StR S w0 h cb Y w B) (hn : NzsIn S w0 A c l) (hb : b < B.length) (ho : opsP B + sizs l < 400000) (hB : B.length + sizs l ≤ 400000) :
    Calls Tryd.prog 24 #[.pointer (some ⟨cb, 0, none⟩), .int .i64 (b : Int), .agg #[.int .i64 3, .string (bs s), .slice A l.length c]] w fun e W' => e = .returned (.tuple #[]) ∧ StR S w0 h cb Y W' (Cpl.put (nodesP l b B) b ⟨3, 0, [], []⟩) ∧ Kp h (XR cb) w W' ∧ Stay Y w W' := by
  obtain ⟨i0, hi0, hz0, hz1, hz2⟩ := info_parts infoOp
  obtain ⟨m, hm⟩ : ∃ m, m = l.length := ⟨_, rfl⟩
  have hml := sizs_len l
  rw [← hm] at hml ⊢
  obtain ⟨w1, hw1⟩ : ∃ w1, w.alloc (.cells #[.int .i64 3, .string (bs s), .slice A m c] 31) = w1 := ⟨_, rfl⟩
  have hb1 : Below w.heap.size w w1 := by rw [← hw1]; exact (Below.refl _ _).alloc (Nat.le_refl _) _
  have hx1 : w1.heap[w.heap.size]? = some (.cells #[.int .i64 3, .string (bs s), .slice A m c] 31) := by rw [← hw1]; exact heap_alloc_new w _
  have HW1 := Lib.hid hw1
  have HS1 := Lib.hid (hst.on hb1)
  have HK1 : Hid (Kp h (XR cb) w w1) := Kp.of hb1 hst.1.size _
  have HY1 : Hid (Stay Y w w1) := hst.stay hb1
  have HX1 := Lib.hid hx1
  have HM := Lib.hid hm
  have HKi := Lib.hid HI
  have HNs := Lib.hid hn
  obtain ⟨n0, n1, n2⟩ := cells_3 hx1
  clear hw1 hb1 hst hx1 HI hn hm
  go_enter Tryd.func24, Tryd.ntmps24
  go_upto_region 1 with fail
  rw [HW1.out]
  obtain ⟨w3, hw3⟩ : ∃ w3, w3 = w1 := ⟨_, rfl⟩
  have hs3 := HS1.out
  have hk3 : Kp h (XR cb) w1 w1 := Kp.refl _ _ _
  rw [← hw3]
  rw [← hw3] at hs3
  have hk3 : Kp h (XR cb) w1 w3 := by rw [hw3]; exact hk3
  have hy3 : Stay Y w1 w3 := by rw [hw3]; exact Stay.refl _ _
  clear hw3
  have HS3 := Lib.hid hs3
  have HK3 := Lib.hid hk3
  have HY3 := Lib.hid hy3
  obtain ⟨n0, n1, n2⟩ := cells_3 (hk3.keep _ _ HX1.out xr_not)
  clear hs3 hk3 hy3
  go_upto_region 9 with fail
  go_loopw [8] (fun iv wr => ∃ j : Nat, j ≤ m ∧ iv = .int .i64 (j : Int) ∧ Hid (StR S w0 h cb Y wr (nodesP (l.take j) b B)) ∧ Hid (Kp h (XR cb) w1 wr) ∧ Hid (Stay Y w1 wr)) (fun iv _ => m - (intOf iv).toNat)
  case atStart => exact ⟨0, Nat.zero_le _, rfl, by rw [List.take_zero, nodesP]; exact HS3, HK3, HY3⟩
  case round =>
    obtain ⟨j, hj, rfl, HSr, HKr, HYr⟩ := hrel
    obtain ⟨n0, n1, n2⟩ := cells_3 (HKr.out.keep _ _ HX1.out xr_not)
    by_cases hlt : j < m
    · obtain ⟨x, hx⟩ : ∃ x, l[j]? = some x := ⟨_, List.getElem?_eq_getElem (by have := HM.out; omega)⟩
      have hjm : (j : Int) < (m : Int) := by omega
      have HC0 := kid HKi.out HNs.out hx HSr.out hb ho hB
      obtain ⟨k', s', l'⟩ := x
      obtain ⟨bb, oo, A', c', rfl, hbb, hSb, hin, hcw⟩ := HNs.out.at_ hx
      obtain ⟨d0, d1, d2⟩ := hcw wr (HSr.out.1.block hSb hbb)
      have HC := Lib.hid (HC0 _ hin)
      obtain ⟨q', hq'⟩ : ∃ q', q' = l'.length := ⟨_, rfl⟩
      rw [← hq'] at HC d2
      have HT := Lib.hid (nodes_take l b B hx)
      clear hcw hin hx hq' HC0
      go_wp2_with (go_at_call 24; refine HC.out.mono ?_; rintro e w4 ⟨rfl, hs4, hk4, hy4⟩; have HS4 := Lib.hid hs4; have HK4 := Lib.hid (HKr.out.trans hk4); have HY4 := Lib.hid (HYr.out.trans hy4); clear hs4 hk4 hy4)
      go_roundw
      case rel => exact ⟨j + 1, hlt, by go_num, by rw [HT.out]; exact HS4, HK4, HY4⟩
      case measure => simp [intOf]; omega
    · obtain rfl : m = j := by omega
      have hsx : StR S w0 h cb Y wr (nodesP l b B) := by
        have h1 := HSr.out
        rw [show l.take m = l by rw [HM.out]; exact List.take_length] at h1
        exact h1
      have hbx : b < (nodesP l b B).length := by rw [nodes_len]; omega
      have hrx : ∀ r ∈ nodesP l b B, r.length ≤ 1000000 := fun r hr => rows_in l b B hb ho r hr
      have HK0 := Lib.hid (HK1.out.trans HKr.out)
      have HY0 := Lib.hid (HY1.out.trans HYr.out)
      have hxl := (Array.getElem?_eq_some_iff.1 (HKr.out.keep _ _ HX1.out xr_not)).1
      go_upto_region 17 with fail
      obtain ⟨gB, q, capB, p, cr, Ar, lr, G, hc, hG, hY, hq, hi, hp, hpl, hbq, hgl, hro, hrow⟩ := opened hsx hbx hrx
      have a0 := one_cell hc.box
      have hvi : (G.map (·.1))[b]? = some (.slice Ar p cr) := by rw [List.getElem?_map, hi]; rfl
      have b0 := (hrow.cellAt b (by omega)).trans hvi
      have hbq' : (b : Int) < (q : Int) := by omega
      have hcl := (Array.getElem?_eq_some_iff.1 hc.box).1
      obtain ⟨ob, hob⟩ : ∃ ob, ob = Obj.cells #[.int .i64 3, .int .i64 0, .string ⟨#[]⟩, .slice none 0 0] 40 := ⟨_, rfl⟩
      have HPE := Lib.hid (put_fin hc hG hY hq hi hp hsx.1.size ⟨3, 0, [], []⟩ (.slice none 0 0) (World.ownsRow_nil ..) ob)
      have A0 : (wr.alloc (.cells #[.int .i64 3, .int .i64 0, .string ⟨#[]⟩, .slice none 0 0] 40)).cell? ⟨cb, 0, none⟩ = some (.slice (some ⟨gB, 0, none⟩) q capB) := one_cell ((Lib.alloc_old wr _ cb hcl).trans hc.box)
      have B0 : (wr.alloc (.cells #[.int .i64 3, .int .i64 0, .string ⟨#[]⟩, .slice none 0 0] 40)).cell? ⟨gB, b, none⟩ = some (.slice Ar p cr) := ((hrow.alloc _).cellAt b (by omega)).trans hvi
      have hnB : (Value.slice Ar p cr).ownBlock ≠ some cb := own_not hro hc.box (by decide)
      have hrB : (Value.slice Ar p cr).ownBlock ≠ some gB := (own_type hro hrow (by decide)).elim (fun e1 e2 => by rw [e1] at e2; cases e2) id
      have HBx := Lib.hid hc.box
      have HRo := Lib.hid hro
      have HRow := Lib.hid hrow
      have HnB := Lib.hid hnB
      have HrB := Lib.hid hrB
      have HV := Lib.hid hvi
      have HOB := Lib.hid hob
      have HWr := Lib.hid hsx.1
      have hzz := hsx.1.size
      have HZn := Lib.hid (four_new wr.drew (.int .i64 3) (.int .i64 0) (.string ⟨#[]⟩) (.slice none 0 0) 40)
      have hfl := flat4_len lr
      rw [← hp] at hfl
      generalize flat4 lr = fr at *
      generalize G.map (·.1) = vs at *
      clear hsx hc hG hY hq hi hp hro hrow hvi hob hnB hrB hrx
      go_region_law (refine step_append_lies _ rfl _ _ 38 rfl h 40 i0 (.agg #[.int .i64 0, .int .i64 0, .string .empty, .slice none 0 0]) 4 56 Tryd.underlying38 hi0 hz0 hz1 hz2 rfl (by decide) (.slice Ar p cr) p _ (by first | rfl | simp [Act.eval, Act.put]) (HRo.out.drew.alloc _) ⟨wr.heap.size, 0, none⟩ 1 1 [.int .i64 3, .int .i64 0, .string ⟨#[]⟩, .slice none 0 0] (by first | rfl | simp [Act.eval, Act.put]) rfl HZn.out (by simp [Value.oneCell']) (by decide) (by unfold maxLen; omega) (by omega) (by simp; omega) (wr.heap.size + 1) (World.size_alloc ..) ?_; intro g cap w5 hown5 hgrow5 hat5 hlt5; have hb5 : w5.heap[cb]? = _ := (hgrow5.block cb (by simp; omega) (fun e => HnB.out e.symm)).trans ((Lib.alloc_old wr.drew _ cb hcl).trans HBx.out); have z0 := one_cell hb5; have hr5 := (HRow.out.drew.alloc _).kept hgrow5 (.inr (fun e => HrB.out e.symm)); have z1 := (hr5.cellAt b (by omega)).trans HV.out; have t0 := hr5.frozenAt b; have HFin := Lib.hid (HPE.out g cap w5 hown5 (by rw [HOB.out]; exact ⟨hgrow5.os, hgrow5.tape, hgrow5.output, hgrow5.size, hgrow5.block⟩) hat5); clear hown5 hgrow5 hat5 hb5 hr5)
      all_goals go_wp2
      all_goals exact bodyPost_end (v := .tuple #[]) (by simp [results, Tryd.results24, go_sem]) rfl ⟨rfl, ⟨HWr.out.s (HFin.out.2.1.mono fun _ _ h => .inr h), HFin.out.1⟩, HK0.out.trans (HFin.out.2.1.mono fun _ _ h => .inr h), HY0.out.trans HFin.out.2.2⟩

end Go.Proofs.YtpphkaolonjjdaaDoor.Cms
