/- The document's put: a node behind others (no Cat). -/
import Derived.OwnWalk
import Derived.Laws.OwnMore
import Derived.StillTailTactics
import Derived.Deep.AppendLies
import Derived.Deep.DeepCutAuto
import Derived.Deep.RegionHeld3
import Derived.Test.YtfenlhbkdfmneaaStrs
import Derived.Test.YtfenlhbkdfmneaaNod
namespace Go.Proofs.Ytfenlhbkdfmneaa.Qput
open Go.RowKit Go.Proofs.Ytfenlhbkdfmneaa.Spl Go.Proofs.Ytfenlhbkdfmneaa.Nodm
open Go.Proofs.Ytfenlhbkdfmneaa.Pure (bs)

theorem infoNode : (Try.prog.info? 30).map (fun i => (i.zero, i.size, i.bytes)) = some (some (.agg #[.int .i64 0, .string .empty, .slice none 0 0]), 3, 48) := by kernel_rfl
/-- a row of the call's own whose things are expansions that lie elsewhere -/
structure Row (S : Nat → Prop) (B : Nat) (w : World) (u : Value) (l : List Nod) : Prop where
  row : ∃ vs, w.ownsRow B 30 3 u l.length (cells3 vs) ∧ vs.length = l.length ∧ ∀ (j : Nat) (x : Value × Value × Value) (m : Nod), vs[j]? = some x → l[j]? = some m → NodeIn (fun b => S b ∧ u.ownBlock ≠ some b) w (.agg #[x.1, x.2.1, x.2.2]) m
theorem Row.nil (S : Nat → Prop) (B : Nat) (w : World) : Row S B w (.slice none 0 0) [] := ⟨[], World.ownsRow_nil _ _ _ _, rfl, fun j x m h => by cases h⟩
theorem Row.on {S : Nat → Prop} {B : Nat} {w W : World} {u : Value} {l : List Nod} (h : Row S B w u l) (hb : Below w.heap.size w W) : Row S B W u l := by
  obtain ⟨vs, h1, h2, h3⟩ := h.row
  refine ⟨vs, ?_, h2, fun j x m hx hm => (h3 j x m hx hm).on hb⟩
  rcases h1 with ⟨h4, h5 | ⟨g, cap, cur, e1, e2, e3, e4⟩⟩
  · exact ⟨h4, .inl h5⟩
  · exact ⟨h4, .inr ⟨g, cap, cur, e1, e2, (hb.block g (Array.getElem?_eq_some_iff.1 e3).1).trans e3, e4⟩⟩
/-- one more, behind -/
theorem Row.snoc {S : Nat → Prop} {B : Nat} {w W : World} {o : Obj} {u : Value} {l : List Nod} {n : Nod} {x y z : Value} {g cap : Nat} {vs : List (Value × Value × Value)}
    (hl : vs.length = l.length) (hn : ∀ (j : Nat) (x : Value × Value × Value) (m : Nod), vs[j]? = some x → l[j]? = some m → NodeIn (fun b => S b ∧ u.ownBlock ≠ some b) w (.agg #[x.1, x.2.1, x.2.2]) m) (hv : NodeIn (fun b => S b ∧ u.ownBlock ≠ some b) w (.agg #[x, y, z]) n)
    (hown : W.ownsRow B 30 3 (.slice (some ⟨g, 0, none⟩) (l.length + 1) cap) (l.length + 1) (cells3 vs ++ [x, y, z])) (hg : (w.alloc o).grownBy W u.ownBlock) (hlies : u.ownBlock = some g ∨ g = (w.alloc o).heap.size) : Row S B W (.slice (some ⟨g, 0, none⟩) (l.length + 1) cap) (l ++ [n]) := by
  refine ⟨vs ++ [(x, y, z)], ?_, by rw [List.length_append, List.length_append, hl]; rfl, fun j t m hj hm => ?_⟩
  · rw [cells3_app, List.length_append]
    exact hown
  · by_cases hjl : j < vs.length
    · rw [List.getElem?_append_left hjl] at hj
      rw [List.getElem?_append_left (by omega)] at hm
      exact grown_away (hn j t m hj hm) hg hlies
    · have hjv := (List.getElem?_eq_some_iff.1 hj).1
      rw [List.length_append, List.length_singleton] at hjv
      obtain rfl : j = vs.length := by omega
      rw [List.getElem?_append_right (Nat.le_refl _), Nat.sub_self] at hj
      rw [hl, List.getElem?_append_right (Nat.le_refl _), Nat.sub_self] at hm
      cases hj
      cases hm
      exact grown_away hv hg hlies

theorem Row.snocn {S : Nat → Prop} {B : Nat} {w W : World} {o : Obj} {u : Value} {l : List Nod} {n : Nod} {x y z : Value} {g cap q : Nat} {vs : List (Value × Value × Value)} (hq : l.length = q)
    (hl : vs.length = l.length) (hn : ∀ (j : Nat) (x : Value × Value × Value) (m : Nod), vs[j]? = some x → l[j]? = some m → NodeIn (fun b => S b ∧ u.ownBlock ≠ some b) w (.agg #[x.1, x.2.1, x.2.2]) m) (hv : NodeIn (fun b => S b ∧ u.ownBlock ≠ some b) w (.agg #[x, y, z]) n)
    (hown : W.ownsRow B 30 3 (.slice (some ⟨g, 0, none⟩) (q + 1) cap) (q + 1) (cells3 vs ++ [x, y, z])) (hg : (w.alloc o).grownBy W u.ownBlock) (hlies : u.ownBlock = some g ∨ g = (w.alloc o).heap.size) : Row S B W (.slice (some ⟨g, 0, none⟩) (q + 1) cap) (l ++ [n]) := by
  subst hq
  exact Row.snoc hl hn hv hown hg hlies

theorem below_row {B e n : Nat} {w wr w1 : World} {v : Value} {xs : List Value} {o : Obj} (hB : Below B w wr) (hBs : B ≤ w.heap.size) (hown : wr.ownsRow B e 3 v n xs) (hg : (wr.alloc o).grownBy w1 v.ownBlock) : Below B w w1 :=
  (hB.alloc (Nat.le_trans hBs hB.size) o).grown hg (by have := hB.size; simp; omega) (fun k e => (hown.lt k e).1)
def putP (l : List Nod) : Nod → List Nod
  | .mk k s m => if k = 1 then (if s = [] then l else match l.getLast? with
      | some (.mk 1 t r) => l.dropLast ++ [.mk 1 (t ++ s) r]
      | _ => l ++ [.mk k s m]) else l ++ [.mk k s m]

theorem news3 (w : World) (x y z : Value) (t : TypeId) : ∀ (j : Nat) u, ([x, y, z] : List Value)[j]? = some u → (w.alloc (.cells #[x, y, z] t)).cell? ((⟨w.heap.size, 0, none⟩ : Addr).add j) = some u := fun j u hu => by
  rw [addr_add, Nat.zero_add, Lib.cell_of_heap (heap_alloc_new w _)]
  rw [← hu, ← List.getElem?_toArray]

set_option maxRecDepth 100000 in
set_option maxHeartbeats 4000000 in
/-- no text: behind all others -/
theorem put_other (S : Nat → Prop) (B : Nat) (u : Value) (l : List Nod) (k : Nat) (s : T) (m : List Nod) (A : Option Addr) (c : Nat) (w : World) (hB : B ≤ w.heap.size) (h : Row S B w u l) (hl : l.length ≤ 1000000) (hn : NodeIn (fun b => S b ∧ u.ownBlock ≠ some b) w (.agg #[.int .i64 (k : Int), .string (bs s), .slice A m.length c]) (.mk k s m)) (hk1 : k ≠ 1) (hk5 : k ≠ 5) :
    Calls Try.prog 32 #[u, .agg #[.int .i64 (k : Int), .string (bs s), .slice A m.length c]] w fun e W' => ∃ u', e = .returned u' ∧ Row S B W' u' (l ++ [.mk k s m]) ∧ Below B w W' := by
  obtain ⟨i0, hi, hz0, hz1, hz2⟩ := info_parts infoNode
  obtain ⟨vs, hown, hvl, hvn⟩ := h.row
  have HV := Lib.hid (fun (w1 : World) (hb : Below w.heap.size w w1) => (⟨fun j x n hx hn => (hvn j x n hx hn).on hb, hn.on hb⟩ : (∀ (j : Nat) (x : Value × Value × Value) (m : Nod), vs[j]? = some x → l[j]? = some m → NodeIn (fun b => S b ∧ u.ownBlock ≠ some b) w1 (.agg #[x.1, x.2.1, x.2.2]) m) ∧ NodeIn (fun b => S b ∧ u.ownBlock ≠ some b) w1 (.agg #[.int .i64 (k : Int), .string (bs s), .slice A m.length c]) (.mk k s m)))
  have HVl := Lib.hid hvl
  have k1 : (((k : Nat) : Int) == 1) = false := by rw [beq_eq_false_iff_ne]; omega
  have k5 : (((k : Nat) : Int) == 5) = false := by rw [beq_eq_false_iff_ne]; omega
  have hown2 : (w.alloc (.cells #[.int .i64 (k : Int), .string (bs s), .slice A m.length c] 30)).ownsRow B 30 3 u l.length (cells3 vs) := hown.alloc _
  obtain ⟨w1, hw1⟩ : ∃ w1, w1 = w.alloc (.cells #[.int .i64 (k : Int), .string (bs s), .slice A m.length c] 30) := ⟨_, rfl⟩
  have HB1 : Hid (Below B w w1) := by
    show Below _ _ _
    rw [hw1]; exact (Below.refl _ _).alloc hB _
  have HV1 := Lib.hid (HV.out w1 (by rw [hw1]; exact (Below.refl _ _).alloc (Nat.le_refl _) _))
  rw [← hw1] at hown2
  have hs1 : B ≤ w1.heap.size := Nat.le_trans hB HB1.out.size
  have HW := Lib.hid hw1
  have HNw := Lib.hid (news3 w1 (.int .i64 (k : Int)) (.string (bs s)) (.slice A m.length c) 30)
  clear hvl hvn hn h hown hw1 HV
  go_enter Try.func32, Try.ntmps32
  go_upto_region 16 with fail
  have d0 : w1.cell? ⟨w.heap.size, 0, none⟩ = some (.int .i64 (k : Int)) := by rw [HW.out, Lib.cell_of_heap (heap_alloc_new w _)]; rfl
  have d1 : w1.cell? ⟨w.heap.size, 1, none⟩ = some (.string (bs s)) := by rw [HW.out, Lib.cell_of_heap (heap_alloc_new w _)]; rfl
  have d2 : w1.cell? ⟨w.heap.size, 2, none⟩ = some (.slice A m.length c) := by rw [HW.out, Lib.cell_of_heap (heap_alloc_new w _)]; rfl
  rw [← HW.out]
  clear HW
  go_wp2_with (at_builtin; refine wpList_append_lies _ rfl _ _ 28 rfl B 30 i0 (.agg #[.int .i64 0, .string .empty, .slice none 0 0]) 3 48 Try.underlying28 hi hz0 hz1 hz2 rfl (by decide) _ _ _ rfl (hown2.alloc _) ⟨w1.heap.size, 0, none⟩ 1 1 [.int .i64 (k : Int), .string (bs s), .slice A m.length c] rfl rfl HNw.out (by simp [Value.oneCell']) (by omega) (by unfold maxLen; omega) (by omega) (by simp; omega) _ rfl ?_; intro g' cap' wA hown' hgrow hlies _; have HR := Lib.hid (Row.snoc HVl.out HV1.out.1 HV1.out.2 hown' hgrow hlies); have HGA := Lib.hid (below_row HB1.out hB hown2 hgrow); clear hown' hgrow hlies)
  go_ret
  exact ⟨_, rfl, HR.out, HGA.out⟩

/-- the last of a row: its cells -/
theorem Row.last {S : Nat → Prop} {B : Nat} {w : World} {u : Value} {l : List Nod} (h : Row S B w u l) (hne : l ≠ []) : ∃ g cap, u = .slice (some ⟨g, 0, none⟩) l.length cap ∧ B ≤ g ∧ g < w.heap.size := by
  obtain ⟨vs, hown, _⟩ := h.row
  exact hown.form (List.length_pos_iff.2 hne)
theorem last_get (l : List Nod) : l[l.length - 1]? = l.getLast? := by rw [List.getLast?_eq_getElem?]

set_option maxRecDepth 100000 in
set_option maxHeartbeats 4000000 in
/-- no text's bytes: nothing -/
theorem put_none (S : Nat → Prop) (B : Nat) (u : Value) (l : List Nod) (A : Option Addr) (c : Nat) (w : World) (hB : B ≤ w.heap.size) (h : Row S B w u l) :
    Calls Try.prog 32 #[u, .agg #[.int .i64 1, .string (bs []), .slice A 0 c]] w fun e W' => ∃ u', e = .returned u' ∧ Row S B W' u' l ∧ Below B w W' := by
  have HR := Lib.hid (h.on ((Below.refl _ w).alloc (Nat.le_refl _) (.cells #[.int .i64 1, .string (bs []), .slice A 0 c] 30)))
  have HB := Lib.hid ((Below.refl B w).alloc hB (.cells #[.int .i64 1, .string (bs []), .slice A 0 c] 30))
  have he : ((bs []).toList == []) = true := by rw [Lib.toList_data]; rfl
  clear h hB
  go_enter Try.func32, Try.ntmps32
  go_wp2
  go_ret
  exact ⟨_, rfl, HR.out, HB.out⟩

set_option maxRecDepth 100000 in
set_option maxHeartbeats 4000000 in
/-- a text's bytes, with no text ahead -/
theorem put_fresh (S : Nat → Prop) (B : Nat) (u : Value) (l : List Nod) (s : T) (A : Option Addr) (c : Nat) (w : World) (hB : B ≤ w.heap.size) (h : Row S B w u l) (hl : l.length ≤ 1000000) (hs : s ≠ []) (hlast : ∀ t r, l.getLast? ≠ some (.mk 1 t r)) :
    Calls Try.prog 32 #[u, .agg #[.int .i64 1, .string (bs s), .slice A 0 c]] w fun e W' => ∃ u', e = .returned u' ∧ Row S B W' u' (l ++ [.mk 1 s []]) ∧ Below B w W' := by
  obtain ⟨i0, hi, hz0, hz1, hz2⟩ := info_parts infoNode
  obtain ⟨vs, hown, hvl, hvn⟩ := h.row
  have HVl := Lib.hid hvl
  have hleaf : NodeIn (fun b => S b ∧ u.ownBlock ≠ some b) w (.agg #[.int .i64 1, .string (bs s), .slice A 0 c]) (.mk 1 s []) := NodeIn.leaf _ w 1 s A c
  have HV := Lib.hid (fun (w1 : World) (hb : Below w.heap.size w w1) => (⟨fun j x n hx hn => (hvn j x n hx hn).on hb, hleaf.on hb⟩ : (∀ (j : Nat) (x : Value × Value × Value) (m : Nod), vs[j]? = some x → l[j]? = some m → NodeIn (fun b => S b ∧ u.ownBlock ≠ some b) w1 (.agg #[x.1, x.2.1, x.2.2]) m) ∧ NodeIn (fun b => S b ∧ u.ownBlock ≠ some b) w1 (.agg #[.int .i64 1, .string (bs s), .slice A 0 c]) (.mk 1 s [])))
  have he : ((bs s).toList == []) = false := by
    rw [Lib.toList_data, show (bs s).data.toList = s from rfl]
    cases s with
    | nil => exact absurd rfl hs
    | cons x r => rfl
  have hown2 : (w.alloc (.cells #[.int .i64 1, .string (bs s), .slice A 0 c] 30)).ownsRow B 30 3 u l.length (cells3 vs) := hown.alloc _
  obtain ⟨w1, hw1⟩ : ∃ w1, w1 = w.alloc (.cells #[.int .i64 1, .string (bs s), .slice A 0 c] 30) := ⟨_, rfl⟩
  have HB1 : Hid (Below B w w1) := by
    show Below _ _ _
    rw [hw1]; exact (Below.refl _ _).alloc hB _
  have HV1 := Lib.hid (HV.out w1 (by rw [hw1]; exact (Below.refl _ _).alloc (Nat.le_refl _) _))
  rw [← hw1] at hown2
  have hs1 : B ≤ w1.heap.size := Nat.le_trans hB HB1.out.size
  have HNw := Lib.hid (news3 w1 (.int .i64 1) (.string (bs s)) (.slice A 0 c) 30)
  have d0 : w1.cell? ⟨w.heap.size, 0, none⟩ = some (.int .i64 1) := by rw [hw1, Lib.cell_of_heap (heap_alloc_new w _)]; rfl
  have d1 : w1.cell? ⟨w.heap.size, 1, none⟩ = some (.string (bs s)) := by rw [hw1, Lib.cell_of_heap (heap_alloc_new w _)]; rfl
  have d2 : w1.cell? ⟨w.heap.size, 2, none⟩ = some (.slice A 0 c) := by rw [hw1, Lib.cell_of_heap (heap_alloc_new w _)]; rfl
  have HW := Lib.hid hw1
  by_cases hl0 : l = []
  · subst hl0
    obtain rfl : vs = [] := List.eq_nil_of_length_eq_zero hvl
    obtain ⟨A0, c0, rfl⟩ : ∃ A0 c0, u = .slice A0 0 c0 := by
      rcases hown.2 with ⟨h1, _⟩ | ⟨g, cap, cur, h1, _⟩
      · exact ⟨none, 0, h1⟩
      · exact ⟨_, cap, h1⟩
    clear hvl hvn hleaf h hown hw1 HV hlast hs
    go_enter Try.func32, Try.ntmps32
    go_upto_region 9 with fail
    rw [← HW.out]
    clear HW
    go_wp2_with (at_builtin; refine wpList_append_lies _ rfl _ _ 28 rfl B 30 i0 (.agg #[.int .i64 0, .string .empty, .slice none 0 0]) 3 48 Try.underlying28 hi hz0 hz1 hz2 rfl (by decide) _ _ _ rfl (hown2.alloc _) ⟨w1.heap.size, 0, none⟩ 1 1 [.int .i64 1, .string (bs s), .slice A 0 c] rfl rfl HNw.out (by simp [Value.oneCell']) (by omega) (by unfold maxLen; omega) (by omega) (by simp; omega) _ rfl ?_; intro g' cap' wA hown' hgrow hlies _; have HR := Lib.hid (Row.snoc HVl.out HV1.out.1 HV1.out.2 hown' hgrow hlies); have HGA := Lib.hid (below_row HB1.out hB hown2 hgrow); clear hown' hgrow hlies)
    go_ret
    exact ⟨_, rfl, HR.out, HGA.out⟩
  · obtain ⟨g, cap, rfl, hBg, hgl⟩ := h.last hl0
    have hpos := List.length_pos_iff.2 hl0
    obtain ⟨q, hq⟩ : ∃ q, l.length = q + 1 := ⟨l.length - 1, by omega⟩
    obtain ⟨⟨k', t', r'⟩, hlq⟩ : ∃ n, l[q]? = some n := ⟨l[q]'(by omega), List.getElem?_eq_getElem _⟩
    have hk' : k' ≠ 1 := fun e => hlast t' r' (by rw [← last_get l, hq, Nat.add_sub_cancel, hlq, e])
    obtain ⟨x, hx⟩ : ∃ x, vs[q]? = some x := ⟨vs[q]'(by omega), List.getElem?_eq_getElem _⟩
    obtain ⟨A', c', hv', _⟩ := (hvn q x _ hx hlq).inv
    have hx1 : x.1 = .int .i64 (k' : Int) := by
      simp only [Value.agg.injEq, Array.mk.injEq, List.cons.injEq, and_true] at hv'
      exact hv'.1
    have e1 : w1.cell? ⟨g, q * 3, none⟩ = some (.int .i64 (k' : Int)) := by
      have := hown2.cells (g := g) rfl _ _ (cells3_at vs q x hx).1
      rw [addr_add, Nat.zero_add, hx1] at this
      exact this
    have hkb : (((k' : Nat) : Int) == 1) = false := by rw [beq_eq_false_iff_ne]; omega
    clear hvl hvn hleaf h hown hw1 HV hlast hs hv' hx1 hx hlq
    have HQ := Lib.hid hq
    rw [hq] at hown2 hl
    rw [hq]
    clear hq hgl hBg hpos hk' hl0
    go_enter Try.func32, Try.ntmps32
    go_upto_region 9 with fail
    rw [← HW.out]
    clear HW
    go_wp2_with (at_builtin; refine wpList_append_lies _ rfl _ _ 28 rfl B 30 i0 (.agg #[.int .i64 0, .string .empty, .slice none 0 0]) 3 48 Try.underlying28 hi hz0 hz1 hz2 rfl (by decide) _ _ _ rfl (hown2.alloc _) ⟨w1.heap.size, 0, none⟩ 1 1 [.int .i64 1, .string (bs s), .slice A 0 c] rfl rfl HNw.out (by simp [Value.oneCell']) (by omega) (by unfold maxLen; omega) (by omega) (by simp; omega) _ rfl ?_; intro g' cap' wA hown' hgrow hlies _; have HR := Lib.hid (Row.snocn HQ.out HVl.out HV1.out.1 HV1.out.2 hown' hgrow hlies); have HGA := Lib.hid (below_row HB1.out hB hown2 hgrow); clear hown' hgrow hlies)
    go_ret
    exact ⟨_, rfl, HR.out, HGA.out⟩

theorem cells3_set : ∀ (vs : List (Value × Value × Value)) (q : Nat) (x : Value × Value × Value) (u : Value), vs[q]? = some x → (cells3 vs).set (q * 3 + 1) u = cells3 (vs.set q (x.1, u, x.2.2))
  | [], q, x, u, h => by cases h
  | y :: r, 0, x, u, h => by cases h; rfl
  | y :: r, q + 1, x, u, h => by
    have h' : r[q]? = some x := by simpa using h
    have := cells3_set r q x u h'
    show ([y.1, y.2.1, y.2.2] ++ cells3 r).set ((q + 1) * 3 + 1) u = [y.1, y.2.1, y.2.2] ++ cells3 (r.set q (x.1, u, x.2.2))
    rw [← this, show (q + 1) * 3 + 1 = (q * 3 + 1) + 3 by omega]
    rfl
theorem cells3_one : ∀ (vs : List (Value × Value × Value)), (∀ x ∈ vs, x.1.oneCell' = true ∧ x.2.1.oneCell' = true ∧ x.2.2.oneCell' = true) → ∀ u ∈ cells3 vs, u.oneCell' = true
  | [], _, u, h => by cases h
  | y :: r, hv, u, h => by
    have h2 : u ∈ [y.1, y.2.1, y.2.2] ++ cells3 r := h
    rcases List.mem_append.1 h2 with h3 | h3
    · obtain ⟨a, b, c⟩ := hv y (List.mem_cons_self ..)
      simp only [List.mem_cons, List.not_mem_nil, or_false] at h3
      rcases h3 with rfl | rfl | rfl <;> assumption
    · exact cells3_one r (fun x hx => hv x (List.mem_cons_of_mem _ hx)) u h3
theorem set_last (l : List Nod) (q : Nat) (n : Nod) (hq : l.length = q + 1) : l.dropLast ++ [n] = l.set q n := by
  obtain rfl | ⟨a, b, rfl⟩ := List.eq_nil_or_concat l
  · simp at hq
  · have : q = a.length := by simp at hq; omega
    subst this
    simp
theorem add_bs (a b : T) (W : World) (h : a.length + b.length ≤ 1099511627776) : (Op.stringOp .add (bs a) (bs b)).run Try.prog W = .ok (.string (bs (a ++ b))) W := by
  have e : bs a ++ bs b = bs (a ++ b) := ByteArray.ext (by rw [ByteArray.data_append]; apply Array.ext'; rw [Array.toList_append]; rfl)
  rw [← e]
  refine run_string_add_sum W _ _ ?_
  have ha : (bs a).size = a.length := by rw [Lib.size_eq]; rfl
  have hb : (bs b).size = b.length := by rw [Lib.size_eq]; rfl
  omega

set_option maxRecDepth 100000 in
set_option maxHeartbeats 4000000 in
/-- a text's bytes behind a text: the row anew -/
theorem put_merge (S : Nat → Prop) (B : Nat) (u : Value) (l : List Nod) (s : T) (A : Option Addr) (c : Nat) (w : World) (hB : B ≤ w.heap.size) (h : Row S B w u l) (hl : l.length ≤ 1000000) (hs : s ≠ []) (t : T) (r : List Nod) (hlast : l.getLast? = some (.mk 1 t r)) (hts : t.length + s.length ≤ 1099511627776) :
    Calls Try.prog 32 #[u, .agg #[.int .i64 1, .string (bs s), .slice A 0 c]] w fun e W' => ∃ u', e = .returned u' ∧ Row S B W' u' (l.dropLast ++ [.mk 1 (t ++ s) r]) ∧ Below B w W' := by
  obtain ⟨i0, hi, hz0, hz1, hz2⟩ := info_parts infoNode
  obtain ⟨vs, hown, hvl, hvn⟩ := h.row
  have hl0 : l ≠ [] := by rintro rfl; cases hlast
  have he : ((bs s).toList == []) = false := by
    rw [Lib.toList_data, show (bs s).data.toList = s from rfl]
    cases s with
    | nil => exact absurd rfl hs
    | cons x r => rfl
  obtain ⟨w1, hw1⟩ : ∃ w1, w1 = w.alloc (.cells #[.int .i64 1, .string (bs s), .slice A 0 c] 30) := ⟨_, rfl⟩
  have hB0 : Below w.heap.size w w1 := by rw [hw1]; exact (Below.refl _ _).alloc (Nat.le_refl _) _
  have hz1' : w1.heap.size = w.heap.size + 1 := by rw [hw1, World.size_alloc]
  have hown2 : w1.ownsRow B 30 3 u l.length (cells3 vs) := by rw [hw1]; exact hown.alloc _
  have d1 : w1.cell? ⟨w.heap.size, 1, none⟩ = some (.string (bs s)) := by rw [hw1, Lib.cell_of_heap (heap_alloc_new w _)]; rfl
  have d0 : w1.cell? ⟨w.heap.size, 0, none⟩ = some (.int .i64 1) := by rw [hw1, Lib.cell_of_heap (heap_alloc_new w _)]; rfl
  obtain ⟨g, cap, rfl, hBg, hgl⟩ := h.last hl0
  obtain ⟨q, hq⟩ : ∃ q, l.length = q + 1 := ⟨l.length - 1, by have := List.length_pos_iff.2 hl0; omega⟩
  have hlq : l[q]? = some (.mk 1 t r) := by rw [← hlast, ← last_get l, hq, Nat.add_sub_cancel]
  obtain ⟨x, hx⟩ : ∃ x, vs[q]? = some x := ⟨vs[q]'(by omega), List.getElem?_eq_getElem _⟩
  obtain ⟨A', c', hv', hin⟩ := (hvn q x _ hx hlq).inv
  simp only [Value.agg.injEq, Array.mk.injEq, List.cons.injEq, and_true] at hv'
  obtain ⟨hx1, hx2, hx3⟩ := hv'
  have hone : ∀ z ∈ cells3 vs, z.oneCell' = true := cells3_one vs fun y hy => by
    obtain ⟨j, hj, e⟩ := List.getElem_of_mem hy
    have hj' : vs[j]? = some y := by rw [← e]; exact List.getElem?_eq_getElem _
    obtain ⟨⟨k2, t2, r2⟩, hm⟩ : ∃ n, l[j]? = some n := ⟨l[j]'(by omega), List.getElem?_eq_getElem _⟩
    obtain ⟨A2, c2, e2, _⟩ := (hvn j y _ hj' hm).inv
    simp only [Value.agg.injEq, Array.mk.injEq, List.cons.injEq, and_true] at e2
    rw [e2.1, e2.2.1, e2.2.2]
    exact ⟨rfl, rfl, rfl⟩
  have e1 : w1.cell? ⟨g, q * 3, none⟩ = some (.int .i64 1) := by
    have := hown2.cells (g := g) rfl _ _ (cells3_at vs q x hx).1
    rw [addr_add, Nat.zero_add, hx1] at this
    exact this
  have hnews : ∀ j u, (cells3 vs)[j]? = some u → w1.cell? ((⟨g, 0, none⟩ : Addr).add j) = some u := hown2.cells (g := g) rfl
  have hlen : (cells3 vs).length = (q + 1) * 3 := by rw [cells3_len, hvl, hq]
  have HF := Lib.hid (fun (g' cap' : Nat) (wA : World) (e0 : g' = w1.heap.size) (ho : wA.ownsRow B 30 3 (.slice (some ⟨g', 0, none⟩) (q + 1) cap') (q + 1) (cells3 vs)) (hg : w1.grownBy wA none) =>
    (by
        have hst := ho.stored (q * 3 + 1) (.string (bs (t ++ s)))
        have hbA : Below w1.heap.size w1 wA := (Below.refl _ _).grown hg (Nat.le_refl _) (fun k e => by cases e)
        have hbS : Below w1.heap.size w1 (wA.setCell ⟨g', q * 3 + 1, none⟩ (.string (bs (t ++ s)))) := hbA.grown hst.2 hbA.size (fun k e => by cases e; omega)
        have hbW : Below w.heap.size w (wA.setCell ⟨g', q * 3 + 1, none⟩ (.string (bs (t ++ s)))) := hB0.trans (hbS.mono (by omega))
        refine ⟨⟨⟨vs.set q (x.1, .string (bs (t ++ s)), x.2.2), ?_, by rw [List.length_set, set_last l q _ hq, List.length_set, hvl], ?_⟩⟩, hbW.mono hB⟩
        · rw [set_last l q _ hq, List.length_set, hq, ← cells3_set vs q x _ hx]
          exact hst.1
        · intro j y m hj hm
          rw [set_last l q _ hq] at hm
          by_cases hjq : j = q
          · subst hjq
            rw [List.getElem?_set_self (by omega)] at hj hm
            cases hj
            cases hm
            rw [hx1, hx3]
            exact (hin.move (fun b hSb hlt => ⟨⟨hSb.1, fun e => by (have e2 : g' = b := by simpa [Value.ownBlock] using e); omega⟩, hbW.block b hlt⟩) hbW.size).node 1 (t ++ s)
          · rw [List.getElem?_set_ne (fun e => hjq e.symm)] at hj hm
            exact (hvn j y m hj hm).move (fun b hSb hlt => ⟨⟨hSb.1, fun e => by (have e2 : g' = b := by simpa [Value.ownBlock] using e); omega⟩, hbW.block b hlt⟩) hbW.size : Row S B (wA.setCell ⟨g', q * 3 + 1, none⟩ (.string (bs (t ++ s)))) (.slice (some ⟨g', 0, none⟩) (q + 1) cap') (l.dropLast ++ [.mk 1 (t ++ s) r]) ∧ Below B w (wA.setCell ⟨g', q * 3 + 1, none⟩ (.string (bs (t ++ s))))))
  have HC := Lib.hid (fun (g' cap' : Nat) (wA : World) (ho : wA.ownsRow B 30 3 (.slice (some ⟨g', 0, none⟩) (q + 1) cap') (q + 1) (cells3 vs)) (hg : w1.grownBy wA none) =>
    (⟨by
        have := ho.cells (g := g') rfl _ _ (cells3_at vs q x hx).2.1
        rw [addr_add, Nat.zero_add, hx2] at this
        exact this, ho.frozenAt _, by
        rw [World.cell?_of_block (a := ⟨w.heap.size, 1, none⟩) (hg.block w.heap.size (by omega) (fun e => by cases e))]; exact d1⟩ : wA.cell? ⟨g', q * 3 + 1, none⟩ = some (.string (bs t)) ∧ wA.frozen? ⟨g', q * 3 + 1, none⟩ = false ∧ wA.cell? ⟨w.heap.size, 1, none⟩ = some (.string (bs s))))
  have HW := Lib.hid hw1
  rw [hq] at hl
  rw [hq]
  have hbs1 : B ≤ w1.heap.size := by omega
  have hnil : w1.ownsRow B 30 3 (.slice none 0 0) 0 [] := World.ownsRow_nil _ _ _ _
  clear hvl hvn h hown hw1 hlast hs hx1 hx2 hx3 hx hlq hin hown2 hB0 hz1' hq hgl hBg hl0 hB
  go_enter Try.func32, Try.ntmps32
  go_upto_region 9 with fail
  rw [← HW.out]
  clear HW
  go_upto_region 14 with (at_builtin; refine wpList_append_lies _ rfl _ _ 28 rfl B 30 i0 (.agg #[.int .i64 0, .string .empty, .slice none 0 0]) 3 48 Try.underlying28 hi hz0 hz1 hz2 rfl (by decide) _ _ _ rfl hnil ⟨g, 0, none⟩ (q + 1) cap (cells3 vs) rfl hlen hnews hone (by omega) (by unfold maxLen; omega) (by omega) hbs1 _ rfl ?_; intro g' cap' wA hown' hgrow hlies _; have hown2 := (by simpa using hown' : wA.ownsRow B 30 3 (.slice (some ⟨g', 0, none⟩) (q + 1) cap') (q + 1) (cells3 vs)); have hgr : w1.grownBy wA none := hgrow; have HR := Lib.hid (HF.out g' cap' wA (by rcases hlies with h | h; (· cases h); exact h) hown2 hgr); obtain ⟨f0, f1, f2⟩ := HC.out g' cap' wA hown2 hgr; clear hown' hgrow hlies hown2 hgr)
  obtain ⟨W, hW⟩ : ∃ W, W = wA.setCell ⟨g', q * 3 + 1, none⟩ (.string (bs (t ++ s))) := ⟨_, rfl⟩
  rw [← hW] at HR
  have HWs := Lib.hid hW
  clear hW HF HC hnews hone
  have hadd := add_bs t s wA.drew hts
  clear hts he
  go_region
  have hf := HWs.out
  rw [← hf]
  clear hf HWs f0 f1 f2 hadd e1 d0 d1
  go_wp2
  go_ret
  exact ⟨_, rfl, HR.out.1.on ((Below.refl _ _).drew), HR.out.2.drew⟩

end Go.Proofs.Ytfenlhbkdfmneaa.Qput
