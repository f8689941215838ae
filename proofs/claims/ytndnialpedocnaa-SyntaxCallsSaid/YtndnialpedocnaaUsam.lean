/- The document's Same, of two leaves; the law's awake. -/
import Derived.Test.YtndnialpedocnaaUsiz
import Derived.Test.YtndnialpedocnaaSpf
namespace Go.Proofs.Ytndnialpedocnaa.Usam
open Go.RowKit Go.Proofs.Ytndnialpedocnaa.Spl Go.Proofs.Ytndnialpedocnaa.Nodm Go.Proofs.Ytndnialpedocnaa.Unod Go.Proofs.Ytndnialpedocnaa.Uall Go.Proofs.Ytndnialpedocnaa.Uref Go.Proofs.Ytndnialpedocnaa.Uparse Go.Proofs.Ytndnialpedocnaa.Usiz
open Go.Proofs.Ytndnialpedocnaa.Pure (bs)

theorem parse_bad (s : T) (x : Er) (k : Nat) (h : parse s = .bad x) (hk : errN x = k) (w : World) (hs : s.length ≤ 999999) :
    Calls Try.prog 7 #[.string (bs s)] w fun e W' => e = .returned (.tuple #[.agg #[.int .i64 0, .string .empty, .slice none 0 0], .int .i64 (k : Int)]) ∧ Below w.heap.size w W' := by
  have h1 := parse_is s w hs
  rw [h] at h1
  rw [← hk]
  exact h1
theorem parse_ok (s : T) (n : Nod) (h : parse s = .ok n) (w : World) (hs : s.length ≤ 999999) :
    Calls Try.prog 7 #[.string (bs s)] w fun e W' => (∃ v, e = .returned (.tuple #[v, .int .i64 0]) ∧ NodeIn (SF w.heap.size W') W' v n) ∧ Below w.heap.size w W' := by
  have h1 := parse_is s w hs
  rw [h] at h1
  exact h1

set_option maxRecDepth 100000 in
set_option maxHeartbeats 1000000 in
theorem same_leaf (k : Nat) (s : T) (A A' : Option Addr) (c c' : Nat) (w : World) :
    Calls Try.prog 11 #[.agg #[.int .i64 (k : Int), .string (bs s), .slice A 0 c], .agg #[.int .i64 (k : Int), .string (bs s), .slice A' 0 c']] w fun e W' => e = .returned (.bool true) ∧ Below w.heap.size w W' := by
  have HB := Lib.hid (((Below.refl w.heap.size w).alloc (Nat.le_refl _) (.cells #[.int .i64 (k : Int), .string (bs s), .slice A 0 c] 25)).alloc (by rw [World.size_alloc]; omega) (.cells #[.int .i64 (k : Int), .string (bs s), .slice A' 0 c'] 25))
  generalize bs s = x at *
  go_enter Try.func11, Try.ntmps11
  go_wp2
  go_loop [5] (fun i => i = .int .i64 0) (fun _ => 0)
  case atStart => rfl
  case round =>
    subst hrel
    go_wp2
    go_ret
    exact ⟨rfl, HB.out⟩

set_option maxRecDepth 100000 in
set_option maxHeartbeats 2000000 in
theorem awake_is (w : World) : Calls Try.prog 8 #[] w fun e W' => e = .returned (.bool true) ∧ Below w.heap.size w W' := by
  have H1 := Lib.hid (fun W => parse_ok [36, 40, 97, 58, 46, 99, 61, 46, 111, 41] _ Spf.parse_sub W (by decide))
  have H2 := Lib.hid (fun W => parse_bad [36, 40, 97] .form 2 Spf.parse_open rfl W (by decide))
  have H3 := Lib.hid (fun W => parse_ok [120, 36, 36, 121] _ Spf.parse_dollar W (by decide))
  have q1 : ((bs [46, 111]).toList == [46, 111]) = true := by rw [Lib.toList_data]; rfl
  have q2 : ((bs [120, 36, 121]).toList == [120, 36, 121]) = true := by rw [Lib.toList_data]; rfl
  go_enter Try.func8, Try.ntmps8
  go_upto_region 2 with (go_at_call 7; refine (H1.out _).mono ?_; rintro e W1 ⟨⟨v1, rfl, hv1⟩, hb1⟩; obtain ⟨A1, c1, rfl, hn1⟩ := hv1.inv; have HN1 := Lib.hid hn1; have HB1 := Lib.hid hb1; clear hv1 hn1 hb1)
  obtain ⟨W2, hW2⟩ : ∃ W2, W2 = W1.alloc (.cells #[.int .i64 3, .string (bs []), .slice A1 3 c1] 25) := ⟨_, rfl⟩
  rw [← hW2]
  have hz2 : W2.heap.size = W1.heap.size + 1 := by rw [hW2, World.size_alloc]
  have hx2 : W2.heap[W1.heap.size]? = some (.cells #[.int .i64 3, .string (bs []), .slice A1 3 c1] 25) := by rw [hW2]; exact heap_alloc_new W1 _
  have hb12 : Below W1.heap.size W1 W2 := by rw [hW2]; exact (Below.refl _ _).alloc (Nat.le_refl _) _
  have HB12 := Lib.hid hb12
  have HX2 := Lib.hid hx2
  clear hW2 hb12 hx2
  go_upto_region 3 with (go_at_call 7; refine (H2.out _).mono ?_; rintro e W3 ⟨rfl, hb3⟩; have HB3 := Lib.hid hb3; clear hb3)
  obtain ⟨W4, hW4⟩ : ∃ W4, W4 = W3.alloc (.cells #[.int .i64 0, .string ByteArray.empty, .slice none 0 0] 25) := ⟨_, rfl⟩
  rw [← hW4]
  have hz4 : W4.heap.size = W3.heap.size + 1 := by rw [hW4, World.size_alloc]
  have hb34 : Below W3.heap.size W3 W4 := by rw [hW4]; exact (Below.refl _ _).alloc (Nat.le_refl _) _
  have HB34 := Lib.hid hb34
  clear hW4 hb34
  go_upto_region 4 with (go_at_call 7; refine (H3.out _).mono ?_; rintro e W5 ⟨⟨v5, rfl, hv5⟩, hb5⟩; obtain ⟨A5, c5, rfl, hn5⟩ := hv5.inv; have HB5 := Lib.hid hb5; clear hv5 hb5 hn5)
  obtain ⟨W6, hW6⟩ : ∃ W6, W6 = W5.alloc (.cells #[.int .i64 1, .string (bs [120, 36, 121]), .slice A5 0 c5] 25) := ⟨_, rfl⟩
  first | rw [← hW6] | (show Code.wp _ _ _ _ (W5.alloc (.cells #[.int .i64 1, .string (bs [120, 36, 121]), .slice A5 0 c5] 25)); rw [← hW6])
  have hz6 : W6.heap.size = W5.heap.size + 1 := by rw [hW6, World.size_alloc]
  have hx6 : W6.heap[W5.heap.size]? = some (.cells #[.int .i64 1, .string (bs [120, 36, 121]), .slice A5 0 c5] 25) := by rw [hW6]; exact heap_alloc_new W5 _
  have hb56 : Below W5.heap.size W5 W6 := by rw [hW6]; exact (Below.refl _ _).alloc (Nat.le_refl _) _
  have hb1 := HB1.out
  have hb3 := HB3.out
  have hb5 := HB5.out
  have s1 := hb1.size
  have s3 := hb3.size
  have s5 := hb5.size
  have hb26 : Below W2.heap.size W2 W6 := hb3.trans ((HB34.out.mono (by omega)).trans ((hb5.mono (by omega)).trans (hb56.mono (by omega))))
  have hb16 : Below W1.heap.size W1 W6 := HB12.out.trans (hb26.mono (by omega))
  have hx26 : W6.heap[W1.heap.size]? = some (.cells #[.int .i64 3, .string (bs []), .slice A1 3 c1] 25) := (hb26.block _ (by omega)).trans HX2.out
  have hn6 : NodesIn (fun _ => True) W6 A1 c1 [Nod.mk 1 [97] [], Nod.mk 1 [46, 99] [], Nod.mk 1 [46, 111] []] := HN1.out.move (fun b _ hl => ⟨trivial, hb16.block b hl⟩) hb16.size
  have HSz := Lib.hid (size_flat 3 [] A1 c1 _ _ W6 hn6 (by
    intro n hn
    simp only [List.mem_cons, List.not_mem_nil, or_false] at hn
    rcases hn with rfl | rfl | rfl <;> exact ⟨_, _, rfl⟩) (by decide))
  obtain ⟨b, o, A', c', rfl, hbl, _, _, hcell⟩ := hn6.at_ (j := 2) rfl
  obtain ⟨d0, d1, d2⟩ := hcell W6 rfl
  have HBf := Lib.hid (hb1.trans (hb16.mono hb1.size))
  obtain ⟨e0, e1, e2⟩ := cells_three hx26
  obtain ⟨f0, f1, f2⟩ := cells_three hx6
  clear hcell hn6 hx26 hb16 hb26 hb56 hb1 hb3 hb5 hx6 hW6 H1 H2 H3 HN1 HB12 HX2 HB34
  have hs6 : w.heap.size ≤ W6.heap.size := HBf.out.size
  go_wp2_with (go_at_call 10; refine HSz.out.mono ?_; rintro e W7 ⟨rfl, hb7⟩; have HB7 := Lib.hid hb7; clear hb7)
  go_ret
  exact ⟨rfl, HBf.out.trans (HB7.out.mono hs6)⟩

end Go.Proofs.Ytndnialpedocnaa.Usam
