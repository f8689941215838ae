/- Texts by numbers: one piece of a text. -/
import Derived.Test.YtcopddepnphfmaaDoorTidx
namespace Go.Proofs.YtcopddepnphfmaaDoor.Tone
open Go.RowKit Go.Proofs.YtcopddepnphfmaaDoor.Pure Go.Proofs.YtcopddepnphfmaaDoor.Place Go.Proofs.YtcopddepnphfmaaDoor.Nums Go.Proofs.YtcopddepnphfmaaDoor.Range Go.Proofs.YtcopddepnphfmaaDoor.Tnum Go.Proofs.YtcopddepnphfmaaDoor.Tidx

/-- the answer: a text of at most M bytes, and the text under way has gone on -/
def Said (M : Nat) (tp : Nat) (A : Option Addr) (n c : Nat) (zs : List Int) (a : Nat) (w : World) (e : Ending) (W : World) : Prop := ∃ s : ByteArray, s.size ≤ M ∧ e = .returned (.string s) ∧ After tp A n c zs a w W
section
variable {tp : Nat} {A : Option Addr} {n c : Nat} {zs : List Int} {a : Nat} {w W V : World}
theorem aft_below (h : After tp A n c zs a w W) (hb : Below W.heap.size W V) : After tp A n c zs a w V := by
  obtain ⟨a1, l1, p1, t1, o1⟩ := h
  exact ⟨a1, l1, p1, t1.below hb, o1.trans (Out.of_below hb)⟩
theorem aft_comp {a1 : Nat} (l1 : a ≤ a1) (p1 : a < n → a < a1) (o1 : Out [tp] w W) (h : After tp A n c zs a1 W V) : After tp A n c zs a w V := by
  obtain ⟨a2, l2, p2, t2, o2⟩ := h
  exact ⟨a2, by omega, fun h => by have := p1 h; omega, t2, o1.trans o2⟩
end

theorem below_drew {B : Nat} {a w : World} (h : Below B a w) (n : Nat) : Below B a (w.drewN n) := ⟨h.os, h.tape, h.output, h.size, h.block⟩
/-- two numbers in a fresh block, as words -/
theorem two_said (W : World) (m : Nat) (j k : Nat) (hj : j ≤ 1000) (hk : k ≤ 1000) (hm : m = W.heap.size) (r : World) (hr : r = W.alloc (.cells #[.int .i64 (k : Int), .int .i64 (j : Int)] 3)) :
    Calls Tryd.prog 55 #[.slice (some ⟨m, 0, none⟩) 2 2] r fun e V => ∃ s : ByteArray, s.size ≤ 42 ∧ e = .returned (.string s) ∧ Below W.heap.size W V := by
  subst hm hr
  refine (words_two W.heap.size k j 2 _ hk hj ?_ ?_).mono ?_
  · exact (Lib.cell_of_heap (World.alloc_heap_new W _) 0).trans rfl
  · exact (Lib.cell_of_heap (World.alloc_heap_new W _) 1).trans rfl
  · rintro e V ⟨s, hs, rfl, rfl⟩
    exact ⟨s, hs, rfl, (Below.refl _ _).alloc (Nat.le_refl _) _⟩

set_option maxRecDepth 100000 in
set_option maxHeartbeats 2000000 in
/-- at depth 0 -/
theorem one_zero (tp : Nat) (A : Option Addr) (n c : Nat) (zs : List Int) (a : Nat) (w : World) (h : TS tp A n c zs a w) :
    Calls Tryd.prog 66 #[.pointer (some ⟨tp, 0, none⟩), .int .i64 0] w (Said 42 tp A n c zs a w) := by
  have HN := Lib.hid (num_is tp A n c zs a 40 w (by omega) (by omega) h)
  go_enter Tryd.func66, Tryd.ntmps66
  go_wp2_with fail
  refine HN.out.mono ?_
  rintro e w1 ⟨p, hp, rfl, haf⟩
  have HA := Lib.hid haf
  clear haf HN
  have hq : ((p : Int)).tdiv 3 = ((p / 3 : Nat) : Int) := by rw [Int.tdiv_eq_ediv_of_nonneg (by omega)]; simp
  have hd : decide ((0 : Int) = 0) = true := rfl
  go_wp2_with fail
  go_quiet (fail)
  go_wp2_with fail
  refine (two_said (w1.drewN nq) _ (p / 3) p (by omega) (by omega) rfl _ rfl).mono ?_
  rintro e w2 ⟨s, hs, rfl, hb⟩
  have HB := Lib.hid hb
  have HS := Lib.hid hs
  clear hb hs
  go_wp2
  go_ret
  exact ⟨s, HS.out, rfl, aft_below HA.out ((below_drew (Below.refl _ _) nq).trans HB.out)⟩

end Go.Proofs.YtcopddepnphfmaaDoor.Tone
