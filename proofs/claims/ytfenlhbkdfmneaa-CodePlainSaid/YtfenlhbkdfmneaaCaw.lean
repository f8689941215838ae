/- law12's awake: the document's example. -/
import Derived.Test.YtfenlhbkdfmneaaCcm
import Derived.Test.YtfenlhbkdfmneaaCsf
import Derived.Test.YtfenlhbkdfmneaaQparse
namespace Go.Proofs.Ytfenlhbkdfmneaa.Caw
open Go.RowKit Go.Proofs.Ytfenlhbkdfmneaa.Spl Go.Proofs.Ytfenlhbkdfmneaa.Nodm Go.Proofs.Ytfenlhbkdfmneaa.Nz Go.Proofs.Ytfenlhbkdfmneaa.Qwhole Go.Proofs.Ytfenlhbkdfmneaa.Qlist Go.Proofs.Ytfenlhbkdfmneaa.Cpl Go.Proofs.Ytfenlhbkdfmneaa.Cin Go.Proofs.Ytfenlhbkdfmneaa.Cops Go.Proofs.Ytfenlhbkdfmneaa.Cmc Go.Proofs.Ytfenlhbkdfmneaa.Cse Go.Proofs.Ytfenlhbkdfmneaa.Csf Go.Proofs.Ytfenlhbkdfmneaa.Ccm
open Go.Proofs.Ytfenlhbkdfmneaa.Pure (bs)

def ifN : Nod := .mk 4 [105, 102] [.mk 1 [97] [], .mk 1 [98] []]
def ifB : List (List Opp) := [[⟨6, 0, [105, 102], [1, 2]⟩], [⟨1, 0, [97], []⟩], [⟨1, 0, [98], []⟩]]
theorem parse_if : parse [36, 40, 105, 102, 32, 97, 44, 98, 41] = .ok ifN := by kernel_rfl
theorem comp_if : compP (toZ ifN) = ifB := by kernel_rfl
theorem siz_if : siz (toZ ifN) = 3 := by kernel_rfl
theorem frm_if : frmZ (toZ ifN) = true := by kernel_rfl
theorem short_if : Short ifB := by unfold Short; decide

set_option maxRecDepth 100000 in
set_option maxHeartbeats 2000000 in
theorem awake_is (w : World) : Calls Try.prog 7 #[] w fun e W' => e = .returned (.bool true) ∧ Below w.heap.size w W' := by
  have HP := Lib.hid (fun W => Qparse.refParse_is [36, 40, 105, 102, 32, 97, 44, 98, 41] W (by decide))
  have HC := Lib.hid (fun S v W (h : NodeIn S W v ifN) => compile_is S v (toZ ifN) W (Nz.NodeIn.toZ h) frm_if (by rw [siz_if]; decide))
  have HO := Lib.hid (fun S v W (h : CodeIn S W v ifB) => ops_is ifB S v W h (by decide) (by decide))
  have HS := Lib.hid (fun S v W (h : CodeIn S W v ifB) => same_self S v ifB W h short_if)
  rw [parse_if] at HP
  rw [comp_if] at HC
  have HPb : Hid (∀ W : World, Calls Try.prog 8 #[.string (bs [36, 40, 105, 102, 32, 97, 44, 98, 41])] W fun e W' => ∃ A3 c3, e = .returned (.tuple #[.agg #[.int .i64 4, .string (bs [105, 102]), .slice A3 2 c3], .int .i64 0]) ∧ NodeIn (fun b => W.heap.size ≤ b) W' (.agg #[.int .i64 4, .string (bs [105, 102]), .slice A3 2 c3]) ifN ∧ Below W.heap.size W W') := fun W => (HP.out W).mono fun e W' ⟨u, he, hu, hb⟩ => by
    have hu : NodeIn (fun b => W.heap.size ≤ b) W' u ifN := hu
    obtain ⟨A3, c3, rfl, _⟩ := NodeIn.inv (show NodeIn _ W' u (.mk 4 [105, 102] [.mk 1 [97] [], .mk 1 [98] []]) from hu)
    exact ⟨A3, c3, he, hu, hb⟩
  have HCb : Hid (∀ S v W, NodeIn S W v ifN → Calls Try.prog 15 #[v] W fun e W' => ∃ A c, e = .returned (.agg #[.slice A 3 c]) ∧ CodeIn (fun b => W.heap.size ≤ b) W' (.agg #[.slice A 3 c]) ifB ∧ Below W.heap.size W W') := HC.out
  have HOb : Hid (∀ S v W, CodeIn S W v ifB → Calls Try.prog 13 #[v] W fun e W' => e = .returned (.int .i64 3) ∧ Below W.heap.size W W') := HO.out
  have HSb : Hid (∀ S v W, CodeIn S W v ifB → Calls Try.prog 11 #[v, v] W fun e W' => e = .returned (.bool true) ∧ Below W.heap.size W W') := HS.out
  clear HP HC HO HS
  go_enter Try.func7, Try.ntmps7
  go_upto_region 2 with (go_at_call 8; refine (HPb.out _).mono ?_; rintro e W1 ⟨A3, c3, rfl, hn1, hb1⟩; have HN1 := Lib.hid hn1; have HB1 := Lib.hid hb1; clear hn1 hb1)
  obtain ⟨W2, hW2⟩ : ∃ W2, W1.alloc (.cells #[.int .i64 4, .string (bs [105, 102]), .slice A3 2 c3] 30) = W2 := ⟨_, rfl⟩
  have hx2 : W2.heap[W1.heap.size]? = some (.cells #[.int .i64 4, .string (bs [105, 102]), .slice A3 2 c3] 30) := by rw [← hW2]; exact heap_alloc_new W1 _
  have hb12 : Below W1.heap.size W1 W2 := by rw [← hW2]; exact (Below.refl _ _).alloc (Nat.le_refl _) _
  rw [hW2]
  obtain ⟨d0, d1, d2⟩ := cells_three hx2
  have HC2 := Lib.hid (HCb.out _ _ W2 (HN1.out.on hb12))
  have HB2 := Lib.hid (HB1.out.trans (hb12.mono HB1.out.size))
  clear hW2 hx2 hb12 HN1 HB1 HCb HPb
  go_upto_region 3 with (go_at_call 15; refine HC2.out.mono ?_; rintro e W3 ⟨A, c, rfl, hc3, hb3⟩; have HC3 := Lib.hid hc3; have HB3 := Lib.hid (HB2.out.trans (hb3.mono HB2.out.size)); clear hc3 hb3)
  obtain ⟨W4, hW4⟩ : ∃ W4, W3.alloc (.cells #[.slice A 3 c] 25) = W4 := ⟨_, rfl⟩
  obtain ⟨G, hG⟩ : ∃ G, G = W3.heap.size := ⟨_, rfl⟩
  have hx4 : W4.heap[G]? = some (.cells #[.slice A 3 c] 25) := by rw [← hW4, hG]; exact heap_alloc_new W3 _
  have hb34 : Below G W3 W4 := by rw [← hW4, hG]; exact (Below.refl _ _).alloc (Nat.le_refl _) _
  have hz4 : W4.heap.size = G + 1 := by rw [← hW4, hG]; exact World.size_alloc _ _
  rw [hW4, ← hG]
  have e0 := one_cell hx4
  obtain ⟨A0, c0, hv, _, hr⟩ := HC3.out
  cases hv
  obtain ⟨b, o, rfl, hb, A1, c1, hc1, hr1, e1⟩ := hr.get (j := 0) rfl
  obtain ⟨b1, o1, rfl, hbb, Q, c2, _, _, e2, _⟩ := hr1.get (j := 0) rfl
  have HC4 := Lib.hid (HC3.out.on (hG ▸ hb34))
  have HX4 := Lib.hid hx4
  have HE1 := Lib.hid e1
  have HE2 := Lib.hid e2
  have HB4 := Lib.hid (HB3.out.trans (hb34.mono (by rw [hG]; exact HB3.out.size)))
  have HB34 := Lib.hid hb34
  have HL : Hid (G < W4.heap.size ∧ b < G ∧ b1 < G) := by show _ ∧ _; exact ⟨by omega, by rw [hG]; exact hb, by rw [hG]; exact hbb⟩
  clear hW4 hG hx4 hb34 hz4 hr hr1 e1 e2 hb hbb d0 d1 d2
  go_wp2_with (first
    | (go_at_call 13
       refine (HOb.out _ _ W4 HC4.out).mono ?_
       rintro e W5 ⟨rfl, hb5⟩
       have HC5 := Lib.hid (HC4.out.on hb5)
       have HX5 := Lib.hid ((hb5.block G HL.out.1).trans HX4.out)
       have e5 := one_cell HX5.out
       have HB5 := Lib.hid hb5
       clear hb5 e0)
    | (go_at_call 11
       refine (HSb.out _ _ W5 HC5.out).mono ?_
       rintro e W6 ⟨rfl, hb6⟩
       have hb46 : Below W4.heap.size W4 W6 := HB5.out.trans (hb6.mono HB5.out.size)
       have hb36 : Below G W3 W6 := HB34.out.trans (hb46.mono (Nat.le_of_lt HL.out.1))
       have e6 := one_cell ((hb46.block G HL.out.1).trans HX4.out)
       have e7 : W6.cell? ⟨b, o, none⟩ = some (.slice (some ⟨b1, o1, none⟩) 1 c1) := (World.cell?_of_block (a := ⟨b, o + 0, none⟩) (hb36.block b HL.out.2.1)).trans HE1.out
       have e8 : W6.cell? ⟨b1, o1, none⟩ = some (.int .i64 6) := (World.cell?_of_block (a := ⟨b1, o1 + 0 * 4, none⟩) (hb36.block b1 HL.out.2.2)).trans HE2.out
       have HB6 := Lib.hid (HB4.out.trans (hb46.mono HB4.out.size))
       clear hb6 hb46 hb36 e5))
  go_ret
  exact ⟨rfl, HB6.out⟩

end Go.Proofs.Ytfenlhbkdfmneaa.Caw
