/- The program's Print of an expansion whose rows lie in blocks in which nothing is marked as a string's. -/
import Derived.Test.YtmcdefkpkpaceaaGreatDoorShelf2
import Derived.Test.YtmcdefkpkpaceaaGreatDoorKrtJ
import Derived.Test.YtmcdefkpkpaceaaGreatDoorKw3J
import Derived.Test.YtmcdefkpkpaceaaGreatDoorQsameJ
import Derived.Test.YtmcdefkpkpaceaaGreatDoorKgdJ
import Derived.Test.YtmcdefkpkpaceaaGreatDoorUparseJ
namespace Go.Proofs.YtmcdefkpkpaceaaGreatDoor.Kprint
open Go Go.RowKit Go.Proofs.YtmcdefkpkpaceaaGreatDoor.Spl Go.Proofs.YtmcdefkpkpaceaaGreatDoor.Nodm Go.Proofs.YtmcdefkpkpaceaaGreatDoor.Nz Go.Proofs.YtmcdefkpkpaceaaGreatDoor.Qwhole Go.Proofs.YtmcdefkpkpaceaaGreatDoor.Qtp Go.Proofs.YtmcdefkpkpaceaaGreatDoor.Qsame Go.Proofs.YtmcdefkpkpaceaaGreatDoor.Qprt Go.Proofs.YtmcdefkpkpaceaaGreatDoor.Kpl Go.Proofs.YtmcdefkpkpaceaaGreatDoor.Kkd Go.Proofs.YtmcdefkpkpaceaaGreatDoor.Kmp Go.Proofs.YtmcdefkpkpaceaaGreatDoor.Kru Go.Proofs.YtmcdefkpkpaceaaGreatDoor.Kbld Go.Proofs.YtmcdefkpkpaceaaGreatDoor.Kwa Go.Proofs.YtmcdefkpkpaceaaGreatDoor.Kwf
open Go.Proofs.YtmcdefkpkpaceaaGreatDoor.Pure (bs)

set_option maxRecDepth 100000 in
set_option maxHeartbeats 4000000 in
/-- it may not be written: its shape, its depth -/
theorem print_no (x : Nz) (S : Nat → Prop) (hS0 : ¬ S 0) (v : Value) (w : World) (hx : NzIn S w v x) (hw : wt x ≤ 68719476736) (hf : fit x 2147483647 81 = false) :
    Calls Tryz.prog 7 #[v] w fun e W' => e = .returned (.tuple #[.string (bs []), .bool false]) ∧ Below w.heap.size w W' := by
  have HN := Lib.hid (fun (mb : Nat) => Krt.node_is S hS0 w mb (siz x) x (Nat.le_refl _) hw)
  have HX := Lib.hid hx
  have HF := Lib.hid hf
  obtain ⟨k, s, l⟩ := x
  obtain ⟨A, c, rfl, _⟩ := hx.inv
  obtain ⟨q, hq⟩ : ∃ q, q = l.length := ⟨_, rfl⟩
  rw [← hq] at HX ⊢
  obtain ⟨w1, hw1⟩ : ∃ w1, w.alloc (.cells #[.int .i64 k, .string (bs s), .slice A q c] 25) = w1 := ⟨_, rfl⟩
  have hx1 : w1.heap[w.heap.size]? = some (.cells #[.int .i64 k, .string (bs s), .slice A q c] 25) := by rw [← hw1]; exact heap_alloc_new w _
  have hb1 : Below w.heap.size w w1 := by rw [← hw1]; exact alloc_below w _
  have hz1 : w1.heap.size = w.heap.size + 1 := by rw [← hw1, World.size_alloc]
  obtain ⟨w2, hw2⟩ : ∃ w2, w1.alloc (.map #[] 0) = w2 := ⟨_, rfl⟩
  have hb2 : Below w1.heap.size w1 w2 := by rw [← hw2]; exact alloc_below w1 _
  obtain ⟨a0, a1, a2⟩ := cells_three hx1
  have hzl : w.heap.size < w1.heap.size := by omega
  have HRs : Rs S w w1.heap.size w2 := ⟨hb1.trans (hb2.mono hb1.size), by omega, by rw [← hw2]; exact Table.made _ w1⟩
  have hn := HN.out w1.heap.size _ w2 2147483647 81 HX.out HRs (Nat.le_refl _) (by omega)
  rw [hf] at hn
  have HNd := Lib.hid hn
  have HW1 := Lib.hid hw1
  have HW2 := Lib.hid hw2
  have HB2 := Lib.hid (hb1.trans (hb2.mono hb1.size))
  clear hn HRs hw1 hx1 hw2 hb2 hx hq hb1 hz1 hf
  generalize bs s = xs at *
  have hmm := @run_makeMap Tryz.prog
  go_enter Tryz.func7, Tryz.ntmps7
  go_upto_region 1 with fail
  rw [HW1.out]
  go_upto_region 2 with (go_at_call 12; first | rw [HW2.out] | skip; refine HNd.out.mono ?_; rintro e w3 ⟨⟨n, m, rfl, _⟩, hr3, _⟩; have HR3 := Lib.hid hr3.bel; clear hr3)
  clear hmm
  go_wp2
  go_ret2
  exact ⟨rfl, HR3.out.trans (alloc_below w3 _ |>.mono HR3.out.size)⟩

theorem fit_le {x : Nz} {R L : Nat} (hf : fit x R L = true) : lenZ x ≤ R ∧ levZ x ≤ L := by
  unfold fit at hf
  rw [Bool.and_eq_true, Bool.and_eq_true, decide_eq_true_eq, decide_eq_true_eq] at hf
  exact ⟨hf.2.2, hf.2.1⟩
theorem ownF_below {w W : World} {B e : Nat} {v : Value} {n : Nat} {xs : List Value} (h : w.ownsRowF B e 1 v n xs) (hb : Below w.heap.size w W) : W.ownsRowF B e 1 v n xs := by
  refine ⟨h.1, ?_⟩
  rcases h.2 with h0 | ⟨g, cap, cu, fz, hv, hB, hg, hr⟩
  · exact .inl h0
  · exact .inr ⟨g, cap, cu, fz, hv, hB, (hb.block g (Array.getElem?_eq_some_iff.1 hg).1).trans hg, hr⟩
theorem atF_below {T e : TypeId} {B b : Nat} {p : Value} {xs : List Value} {w W : World} (h : Lib.BuilderAtF T e B b p xs w) (hb : Below w.heap.size w W) : Lib.BuilderAtF T e B b p xs W := by
  obtain ⟨h1, v, h2, h3, h4⟩ := h
  exact ⟨h1, v, (hb.block b (Array.getElem?_eq_some_iff.1 h2).1).trans h2, ownF_below h3 hb, h4⟩
/-- a builder whose text was taken already -/
def HoldsF (B b : Nat) (l : List UInt8) (w : World) : Prop := Lib.IsBuilderF 50 5 B b (Lib.byteCells l) w
theorem holdsF_on {B b : Nat} {l : T} {w W : World} (h : HoldsF B b l w) (hb : Below w.heap.size w W) : HoldsF B b l W := Or.imp (atF_below · hb) (atF_below · hb) h
theorem text_f (B b : Nat) (l : T) (w : World) (h : HoldsF B b l w) (hBw : B ≤ w.heap.size) :
    Calls Tryz.prog 16 #[.pointer (some ⟨b, 0, none⟩)] w fun e w' => e = .returned (.string (bs l)) ∧ HoldsF B b l w' ∧ Below B w w' :=
  Tryz.Builder_String_any_f B b l w h hBw

set_option maxRecDepth 100000 in
set_option maxHeartbeats 8000000 in
/-- it has its shape, and is not too deep: it is written and read again -/
theorem print_yes (x : Nz) (S : Nat → Prop) (hS0 : ¬ S 0) (v : Value) (w : World) (hx : NzIn S w v x) (hw : wt x ≤ 1000000000) (hsz : siz x ≤ 131072) (ht : (textZ x).length ≤ 999999) (ho : okZ x = true) (hf : fit x 2147483647 81 = true) :
    Calls Tryz.prog 7 #[v] w fun e W' => e = .returned (.tuple #[.string (bs (prT x)), .bool (prB x)]) ∧ Below w.heap.size w W' := by
  have HN := Lib.hid (fun (mb : Nat) => Krt.node_is S hS0 w mb (siz x) x (Nat.le_refl _) (by omega))
  have HX := Lib.hid hx
  have hlen := text_ok ho
  have HWr := Lib.hid (fun (b : Nat) => Kwt.write_is b b (siz x) x (Nat.le_refl _) ho hw)
  have HPa := Lib.hid (fun W => Uparse.parse_is (textZ x) W ht)
  have HSm := Lib.hid (fun (m : Nod) (S' : Nat → Prop) (u : Value) (W : World) (hu : NodeIn S' W u m) (hW : Below w.heap.size w W) => Ksd.same_is x (toZ m) S S' v u W (hx.on hW) (Nz.NodeIn.toZ hu) hsz)
  have HPB : Hid (prB x = match parse (textZ x) with | .ok m => sameB (toZ m) x | .bad _ => false) := by show _ = _; unfold prB; rfl
  have HPT : Hid (prT x = if prB x then textZ x else []) := by show _ = _; unfold prT; rfl
  have HSw : Hid (∀ m, sameB x (toZ m) = sameB (toZ m) x) := fun m => by
    rw [Bool.eq_iff_iff, same_iff, same_iff]
    exact eq_comm
  obtain ⟨pt, hpt⟩ : ∃ pt, pt = prT x := ⟨_, rfl⟩
  obtain ⟨pb, hpb⟩ : ∃ pb, pb = prB x := ⟨_, rfl⟩
  rw [← hpt, ← hpb] at HPT
  rw [← hpb] at HPB
  rw [← hpt, ← hpb]
  have HLn := Lib.hid hlen
  have HTl := Lib.hid ht
  obtain ⟨tx, htx⟩ : ∃ tx, tx = textZ x := ⟨_, rfl⟩
  rw [← htx] at HPT HPB HPa HLn HTl
  have HTx := Lib.hid htx
  have HF := Lib.hid hf
  have HV := Lib.hid (fit_le hf)
  clear hpt hpb htx hlen ht
  obtain ⟨k, s, l⟩ := x
  obtain ⟨A, c, rfl, _⟩ := hx.inv
  obtain ⟨q, hq⟩ : ∃ q, q = l.length := ⟨_, rfl⟩
  rw [← hq] at HX HSm ⊢
  obtain ⟨w1, hw1⟩ : ∃ w1, w.alloc (.cells #[.int .i64 k, .string (bs s), .slice A q c] 25) = w1 := ⟨_, rfl⟩
  have hx1 : w1.heap[w.heap.size]? = some (.cells #[.int .i64 k, .string (bs s), .slice A q c] 25) := by rw [← hw1]; exact heap_alloc_new w _
  have hb1 : Below w.heap.size w w1 := by rw [← hw1]; exact alloc_below w _
  have hz1 : w1.heap.size = w.heap.size + 1 := by rw [← hw1, World.size_alloc]
  obtain ⟨w2, hw2⟩ : ∃ w2, w1.alloc (.map #[] 0) = w2 := ⟨_, rfl⟩
  have hb2 : Below w1.heap.size w1 w2 := by rw [← hw2]; exact alloc_below w1 _
  obtain ⟨a0, a1, a2⟩ := cells_three hx1
  have hzl : w.heap.size < w1.heap.size := by omega
  have HRs : Rs S w w1.heap.size w2 := ⟨hb1.trans (hb2.mono hb1.size), by omega, by rw [← hw2]; exact Table.made _ w1⟩
  have hn := HN.out w1.heap.size _ w2 2147483647 81 HX.out HRs (Nat.le_refl _) (by omega)
  rw [hf] at hn
  have HNd := Lib.hid hn
  have HW1 := Lib.hid hw1
  have HW2 := Lib.hid hw2
  have HB2 := Lib.hid (hb1.trans (hb2.mono hb1.size))
  have HX2 := Lib.hid ((hb2.block w.heap.size hzl).trans hx1)
  have HZ1 := Lib.hid hz1
  have HZ2 : Hid (w1.heap.size ≤ w2.heap.size) := hb2.size
  clear hn HRs hw1 hx1 hw2 hb2 hx hq hb1 hz1 hf HN hw hsz ho
  generalize bs s = xs at *
  have hmm := @run_makeMap Tryz.prog
  go_enter Tryz.func7, Tryz.ntmps7
  go_upto_region 1 with fail
  rw [HW1.out]
  go_upto_region 2 with (go_at_call 12; first | rw [HW2.out] | skip; refine HNd.out.mono ?_; rintro e w3 ⟨⟨n, m, rfl, hnm⟩, hr3, hf3⟩; have HR3 := Lib.hid hr3.bel; have HF3 := Lib.hid hf3; have HNM := Lib.hid (hnm rfl); clear hr3 hf3 hnm)
  clear hmm a0 a1 a2
  have HZ3 : Hid (w2.heap.size ≤ w3.heap.size) := HF3.out.size
  have HX3 := Lib.hid ((HF3.out.block w.heap.size (by have := HZ2.out; omega) (by omega)).trans HX2.out)
  obtain ⟨w4, hw4⟩ : ∃ w4, w4 = w3.alloc (.cells #[.int .i64 (n : Int), .int .i64 (m : Int)] 41) := ⟨_, rfl⟩
  obtain ⟨e1, he1⟩ : ∃ e1, e1 = w3.heap.size := ⟨_, rfl⟩
  rw [← hw4, ← he1]
  have hb4 : Below w3.heap.size w3 w4 := by rw [hw4]; exact alloc_below w3 _
  have hg4 : w4.heap[e1]? = some (.cells #[.int .i64 (n : Int), .int .i64 (m : Int)] 41) := by rw [hw4, he1]; exact heap_alloc_new w3 _
  have HX4 := Lib.hid ((hb4.block w.heap.size (by have := HZ2.out; have := HZ3.out; omega)).trans HX3.out)
  have HG4 := Lib.hid hg4
  have HB4 := Lib.hid (HR3.out.trans (hb4.mono HR3.out.size))
  clear hw4 hb4 hg4 he1
  go_upto_region 5 with fail
  obtain ⟨w5, hw5⟩ : ∃ w5, w5 = w4.alloc (.cells #[.pointer none, .slice none 0 0] 50) := ⟨_, rfl⟩
  obtain ⟨bb, hbb⟩ : ∃ bb, bb = w4.heap.size := ⟨_, rfl⟩
  rw [← hw5, ← hbb]
  have hb5 : Below w4.heap.size w4 w5 := by rw [hw5]; exact alloc_below w4 _
  have hg5 : w5.heap[bb]? = some (.cells #[.pointer none, .slice none 0 0] 50 (0, 0)) := by rw [hw5, hbb]; exact heap_alloc_new w4 _
  have hs5 : w5.heap.size = bb + 1 := by rw [hw5, World.size_alloc, hbb]
  have hlx : w.heap.size < bb := by rw [hbb]; exact (Array.getElem?_eq_some_iff.1 HX4.out).1
  have hle : e1 < bb := by rw [hbb]; exact (Array.getElem?_eq_some_iff.1 HG4.out).1
  have HX5 := Lib.hid ((hb5.block w.heap.size (by omega)).trans HX4.out)
  obtain ⟨d0, d1⟩ := two_cells ((hb5.block e1 (by omega)).trans HG4.out)
  have HB5 := Lib.hid (HB4.out.trans (hb5.mono HB4.out.size))
  have hnb : n ≤ 281474976710656 := by have := HNM.out.1; have := HV.out.1; omega
  have HGr := Lib.hid (Tryz.Builder_Grow_fresh bb bb n w5 (Nat.le_refl _) hg5 (by omega) hnb)
  clear hw5 hb5 hg5 hbb hnb
  go_upto_region 6 with (go_at_call 13; refine HGr.out.mono ?_; rintro e w6 ⟨rfl, h6, hb6⟩; have HH6 : Hid (Holds bb bb [] w6) := .inr h6; have HB6 := Lib.hid hb6; clear h6 hb6)
  clear d0 d1
  have HX6 := Lib.hid ((HB6.out.block w.heap.size hlx).trans HX5.out)
  obtain ⟨a0, a1, a2⟩ := cells_three HX6.out
  have hs6 : bb ≤ w6.heap.size := by have := HB6.out.size; omega
  have hin6 : NzIn (fun g => g < bb) w6 (.agg #[.int .i64 k, .string xs, .slice A q c]) (.mk k s l) := HX.out.move (fun b _ hlt => ⟨by omega, (HB6.out.block b (by omega)).trans (HB5.out.block b hlt)⟩) (Nat.le_trans HB5.out.size HB6.out.size)
  have hwr := HWr.out bb _ [] w6 hin6 HH6.out hs6 (by rw [← HTx.out]; have := HTl.out; show 0 + _ ≤ _; omega)
  rw [← HTx.out] at hwr
  have HWw := Lib.hid hwr
  clear hin6 hwr
  go_upto_region 7 with (go_at_call 14; refine HWw.out.mono ?_; rintro e w7 ⟨rfl, h7, hb7, _⟩; have HH7 : Hid (Holds bb bb tx w7) := h7; have HB7 := Lib.hid (HB6.out.trans hb7); clear h7 hb7)
  clear a0 a1 a2
  have HX7 := Lib.hid ((HB7.out.block w.heap.size hlx).trans HX5.out)
  have hs7 : bb ≤ w7.heap.size := by have := HB7.out.size; omega
  have HF7 : Hid (HoldsF bb bb tx w7) := Lib.IsBuilderF.of HH7.out
  have HT7 := Lib.hid (text_f bb bb tx w7 HF7.out hs7)
  have HB57 : Hid (Below w.heap.size w w7) := HB5.out.trans (HB7.out.mono (by omega))
  have HLX := Lib.hid (And.intro hlx hs5)
  clear hs6 hs7 hs5
  generalize hR : parse tx = R at *
  cases R with
  | bad er =>
    have hpb : pb = false := HPB.out
    have hpt : pt = [] := by rw [HPT.out, hpb]; rfl
    obtain ⟨ne, hne⟩ : ∃ ne, ne = Uall.errN er := ⟨_, rfl⟩
    have hn1 : ¬ ne = 0 := by rw [hne]; cases er <;> decide
    have hn2 : ¬ ((ne : Nat) : Int) = 0 := by omega
    have hn0 : (((ne : Nat) : Int) == 0) = false := by rw [beq_eq_false_iff_ne]; exact hn2
    have hn3 : (((ne : Nat) : Int) != 0) = true := by rw [bne_iff_ne]; exact hn2
    have HPa2 : Hid (∀ W : World, Calls Tryz.prog 15 #[.string (bs tx)] W fun e W' => e = .returned (.tuple #[.agg #[.int .i64 0, .string .empty, .slice none 0 0], .int .i64 (ne : Int)]) ∧ Below W.heap.size W W') := fun W => (HPa.out W).mono fun e W' ⟨u, hb⟩ => ⟨by rw [hne]; exact u, hb⟩
    have HPb := Lib.hid (And.intro hpb hpt)
    clear hne hpb hpt HPa
    go_upto_region 8 with (first
      | (go_at_call 16; refine HT7.out.mono ?_; rintro e w8 ⟨rfl, h8, hb8⟩; have HF8 := Lib.hid h8; have HB8 := Lib.hid hb8; clear h8 hb8)
      | (go_at_call 15; refine (HPa2.out w8).mono ?_; rintro e w9 ⟨rfl, hb9⟩; have HB9 := Lib.hid hb9; clear hb9))
    have HBf : Hid (Below w.heap.size w w9) := HB57.out.trans ((HB8.out.mono (by have := HLX.out; omega)).trans (HB9.out.mono (Nat.le_trans HB57.out.size HB8.out.size)))
    go_wp2
    go_ret2
    exact ⟨by rw [HPb.out.1, HPb.out.2]; rfl, HBf.out.trans ((alloc_below w9 _).mono HBf.out.size)⟩
  | ok md =>
    have hpb : pb = sameB (toZ md) (.mk k s l) := HPB.out
    obtain ⟨kk, ss, ll⟩ := md
    obtain ⟨lz, hlz⟩ : ∃ lz, lz = ll.length := ⟨_, rfl⟩
    have HPa2 : Hid (∀ W : World, Calls Tryz.prog 15 #[.string (bs tx)] W fun e W' => ∃ A2 c2, e = .returned (.tuple #[.agg #[.int .i64 (kk : Int), .string (bs ss), .slice A2 lz c2], .int .i64 0]) ∧ NodeIn (Unod.SF W.heap.size W') W' (.agg #[.int .i64 (kk : Int), .string (bs ss), .slice A2 lz c2]) (.mk kk ss ll) ∧ Below W.heap.size W W') := fun W => (HPa.out W).mono fun e W' ⟨⟨u, he, hu⟩, hb⟩ => by
      obtain ⟨A2, c2, rfl, _⟩ := hu.inv
      rw [hlz]
      exact ⟨A2, c2, he, hu, hb⟩
    have HPb := Lib.hid hpb
    clear hpb hlz HPa
    generalize hxx : bs ss = xx at *
    go_upto_region 8 with (first
      | (go_at_call 16; refine HT7.out.mono ?_; rintro e w8 ⟨rfl, h8, hb8⟩; have HF8 := Lib.hid h8; have HB8 := Lib.hid hb8; clear h8 hb8)
      | (go_at_call 15; refine (HPa2.out w8).mono ?_; rintro e w9 ⟨A2, c2, rfl, hn9, hb9⟩; have HN9 := Lib.hid hn9; have HB9 := Lib.hid hb9; clear hn9 hb9))
    have HB79 : Hid (Below bb w7 w9) := HB8.out.trans (HB9.out.mono (Nat.le_trans (by have := HLX.out; have := HB7.out.size; omega) HB8.out.size))
    have HF9 := Lib.hid (holdsF_on HF8.out HB9.out)
    obtain ⟨wa, hwa⟩ : ∃ wa, wa = w9.alloc (.cells #[.int .i64 (kk : Int), .string xx, .slice A2 lz c2] 25) := ⟨_, rfl⟩
    obtain ⟨G, hG⟩ : ∃ G, G = w9.heap.size := ⟨_, rfl⟩
    rw [← hwa, ← hG]
    have hba : Below w9.heap.size w9 wa := by rw [hwa]; exact alloc_below w9 _
    have hga : wa.heap[G]? = some (.cells #[.int .i64 (kk : Int), .string xx, .slice A2 lz c2] 25) := by rw [hwa, hG]; exact heap_alloc_new w9 _
    have hs9 : bb ≤ w9.heap.size := by have := HLX.out; have := HB7.out.size; have := HB79.out.size; omega
    have hlx := HLX.out.1
    have HXa := Lib.hid ((hba.block w.heap.size (by omega)).trans ((HB79.out.block w.heap.size hlx).trans HX7.out))
    have HFa := Lib.hid (holdsF_on HF9.out hba)
    have HBa : Hid (Below w.heap.size w wa) := (HB57.out.trans (HB79.out.mono (by omega))).trans (hba.mono (by omega))
    have HNa := Lib.hid (HN9.out.on hba)
    have HSa := Lib.hid (HSm.out (.mk kk ss ll) _ _ wa HNa.out HBa.out)
    have hba2 : Hid (bb ≤ wa.heap.size) := Nat.le_trans hs9 hba.size
    obtain ⟨a0, a1, a2⟩ := cells_three HXa.out
    obtain ⟨b0, b1, b2⟩ := cells_three hga
    have hsx : sameB (.mk k s l) (toZ (.mk kk ss ll)) = pb := by rw [HSw.out, HPb.out]
    rw [hsx] at HSa
    clear hwa hG hba hga hs9 hsx
    cases pb with
    | true =>
      have hpt : pt = tx := HPT.out
      have HPt := Lib.hid hpt
      clear hpt
      go_upto_region 10 with (go_at_call 17; refine HSa.out.mono ?_; rintro e wb ⟨rfl, hbb⟩; have HBb := Lib.hid hbb; clear hbb)
      have HFb := Lib.hid (holdsF_on HFa.out HBb.out)
      have HTb := Lib.hid (text_f bb bb tx wb HFb.out (Nat.le_trans hba2.out HBb.out.size))
      clear a0 a1 a2 b0 b1 b2
      go_wp2_with (go_at_call 16; refine HTb.out.mono ?_; rintro e wc ⟨rfl, _, hbc⟩; have HBc := Lib.hid hbc; clear hbc)
      go_ret2
      exact ⟨by rw [HPt.out]; rfl, (HBa.out.trans (HBb.out.mono HBa.out.size)).trans (HBc.out.mono (by omega))⟩
    | false =>
      have hpt : pt = [] := HPT.out
      have HPt := Lib.hid hpt
      clear hpt
      go_wp2_with (go_at_call 17; refine HSa.out.mono ?_; rintro e wb ⟨rfl, hbb⟩; have HBb := Lib.hid hbb; clear hbb)
      go_ret2
      exact ⟨by rw [HPt.out]; rfl, HBa.out.trans (HBb.out.mono HBa.out.size)⟩

/-- the program's Print -/
theorem print_is (x : Nz) (S : Nat → Prop) (hS0 : ¬ S 0) (v : Value) (w : World) (hx : NzIn S w v x) (hw : wt x ≤ 1000000000) (hsz : siz x ≤ 131072) (ht : (textZ x).length ≤ 999999) :
    Calls Tryz.prog 7 #[v] w fun e W' => e = .returned (.tuple #[.string (bs (prT x)), .bool (prB x)]) ∧ Below w.heap.size w W' := by
  by_cases hf : fit x 2147483647 81 = true
  · refine print_yes x S hS0 v w hx hw hsz ht ?_ hf
    unfold fit at hf
    rw [Bool.and_eq_true] at hf
    exact hf.1
  · have hf : fit x 2147483647 81 = false := by simpa using hf
    have hp : prB x = false := by
      cases h : prB x with
      | false => rfl
      | true =>
        obtain ⟨h1, h2⟩ := pr_ok h
        have h3 := text_ok h1
        exfalso
        unfold fit at hf
        rw [h1, Bool.true_and, decide_eq_true h2, Bool.true_and, decide_eq_false_iff_not] at hf
        omega
    have hq : prT x = [] := by unfold prT; rw [hp]; rfl
    rw [hp, hq]
    exact print_no x S hS0 v w hx (by omega) hf

end Go.Proofs.YtmcdefkpkpaceaaGreatDoor.Kprint
