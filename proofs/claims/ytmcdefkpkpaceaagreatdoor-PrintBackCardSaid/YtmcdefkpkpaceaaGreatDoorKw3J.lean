/- The program's write at a node of kind 3. -/
import Derived.Handy
import Derived.Test.YtmcdefkpkpaceaaGreatDoorKrtJ
import Derived.Test.YtmcdefkpkpaceaaGreatDoorKknJ
import Derived.Test.YtmcdefkpkpaceaaGreatDoorKw1J
namespace Go.Proofs.YtmcdefkpkpaceaaGreatDoor.Kw3
open Go Go.RowKit Go.Proofs.YtmcdefkpkpaceaaGreatDoor.Spl Go.Proofs.YtmcdefkpkpaceaaGreatDoor.Nodm Go.Proofs.YtmcdefkpkpaceaaGreatDoor.Nz Go.Proofs.YtmcdefkpkpaceaaGreatDoor.Qtp Go.Proofs.YtmcdefkpkpaceaaGreatDoor.Qwhole Go.Proofs.YtmcdefkpkpaceaaGreatDoor.Kpl Go.Proofs.YtmcdefkpkpaceaaGreatDoor.Kkd Go.Proofs.YtmcdefkpkpaceaaGreatDoor.Kkn Go.Proofs.YtmcdefkpkpaceaaGreatDoor.Kbld Go.Proofs.YtmcdefkpkpaceaaGreatDoor.Kwa
open Go.Proofs.YtmcdefkpkpaceaaGreatDoor.Pure (bs)

set_option maxRecDepth 100000 in
set_option maxHeartbeats 4000000 in
theorem write_3 (B b : Nat) (s : T) (l : List Nz) (ho : shapeZ (.mk 3 s l) = true) (hsl : s.length ≤ 1000000000) (hll : l.length ≤ 1099511627776) (hW : ∀ x ∈ l, WriteIs B b x) : WriteIs B b (.mk 3 s l) := by
  intro v cur w hx hh hB hn
  obtain ⟨A, c, rfl, hl⟩ := hx.inv
  have hK := Lib.hid (fun (U : World) (hU : Below B w U) => (show Calls Tryz.prog 25 #[.agg #[.int .i64 3, .string (bs s), .slice A l.length c]] U fun e W' => ∃ y, e = .returned (.tuple #[.iface 79 (.agg #[.slice A l.length c]), .bool y]) ∧ Below U.heap.size U W' from (kind_3 (bs s) A l.length c _ _ rfl rfl U).mono fun _ _ h => ⟨_, h⟩))
  have hmov := Lib.hid (fun (U : World) (hU : Below B w U) => (show NzsIn (fun g => g < B) U A c l from hl.move (fun g h1 h2 => ⟨h1, hU.block g h1⟩) hU.size))
  obtain ⟨x1, x2, x3, rfl⟩ : ∃ x1 x2 x3, l = [x1, x2, x3] := by
    rcases shape_cases ho with ⟨h, _⟩ | ⟨h, _⟩ | ⟨_, _, h⟩ | ⟨h, _⟩ | ⟨h, _⟩
    · exact absurd h (by decide)
    · exact absurd h (by decide)
    · exact h
    · exact absurd h (by decide)
    · exact absurd h (by decide)
  obtain ⟨b', o', rfl, hb', hbB, hc3, hcut⟩ := cut_three hl
  have hc3' : (2 : Int) ≤ (c : Int) := by omega
  have ht : textZ (.mk 3 s [x1, x2, x3]) = [36, 40] ++ textZ x1 ++ [58] ++ textZ x2 ++ [61] ++ textZ x3 ++ [41] := by rw [textZ, if_neg (by decide), if_neg (by decide), if_pos rfl]; rfl
  rw [ht] at hn ⊢
  have hj2 : joinL [58] (textsZ [x1, x2]) = textZ x1 ++ [58] ++ textZ x2 := by simp [textsZ, joinL]
  have hj1 : joinL [] (textsZ [x3]) = textZ x3 := by simp [textsZ, joinL]
  have HA := Lib.hid (fun (U : World) (hU : Below B w U) (h : Holds B b cur U) => all_is B b [36, 40] [58] [61] (some ⟨b', o', none⟩) c [x1, x2] cur U (hcut.1.move (fun g h1 h2 => ⟨h1, hU.block g h1⟩) hU.size) h (Nat.le_trans hB hU.size) (fun x hx => hW x (by rcases List.mem_cons.1 hx with rfl | hx <;> simp_all)) (by rw [hj2]; simp only [List.length_append] at hn ⊢; omega) (by decide) (by show 2 ≤ _; decide))
  have HC := Lib.hid (fun (U : World) (hU : Below B w U) (h : Holds B b (cur ++ [36, 40] ++ (textZ x1 ++ [58] ++ textZ x2) ++ [61]) U) => all_is B b [] [] [41] (some ⟨b', o' + 2 * 3, none⟩) (c - 2) [x3] (cur ++ [36, 40] ++ (textZ x1 ++ [58] ++ textZ x2) ++ [61]) U (hcut.2.move (fun g h1 h2 => ⟨h1, hU.block g h1⟩) hU.size) h (Nat.le_trans hB hU.size) (fun x hx => hW x (by simp_all)) (by rw [hj1]; simp only [List.length_append, List.length_nil] at hn ⊢; omega) (by decide) (by show 1 ≤ _; decide))
  rw [hj2] at HA
  rw [hj1] at HC
  have HE : Hid (cur ++ [36, 40] ++ (textZ x1 ++ [58] ++ textZ x2) ++ [61] ++ [] ++ textZ x3 ++ [41] = cur ++ ([36, 40] ++ textZ x1 ++ [58] ++ textZ x2 ++ [61] ++ textZ x3 ++ [41])) := by show _ = _; simp only [List.append_assoc, List.nil_append]
  rw [HE.out] at HC
  have _hu := And.intro hll hsl
  clear _hu hmov hn ht hll hW hsl ho hl hcut hj1 hj2
  generalize (cur ++ ([36, 40] ++ textZ x1 ++ [58] ++ textZ x2 ++ [61] ++ textZ x3 ++ [41])) = tx at *
  generalize (cur ++ [36, 40] ++ (textZ x1 ++ [58] ++ textZ x2) ++ [61]) = ty at *
  generalize bs s = x at *
  have HH := Lib.hid hh
  have hb0 : b < w.heap.size := by rcases hh with ⟨_, v, h8, _⟩ | ⟨_, v, h8, _⟩ <;> exact (Array.getElem?_eq_some_iff.1 h8).1
  obtain ⟨w1, hw1⟩ : ∃ w1, w.alloc (.cells #[.int .i64 3, .string x, .slice (some ⟨b', o', none⟩) 3 c] 25) = w1 := ⟨_, rfl⟩
  have hx1 : w1.heap[w.heap.size]? = some (.cells #[.int .i64 3, .string x, .slice (some ⟨b', o', none⟩) 3 c] 25) := by rw [← hw1]; exact heap_alloc_new w _
  have hb1 : Below w.heap.size w w1 := by rw [← hw1]; exact alloc_below w _
  obtain ⟨a0, a1, a2⟩ := cells_three hx1
  have HW1 := Lib.hid hw1
  have HB1 := Lib.hid (hb1.mono hB)
  have HK1 := Lib.hid (Kept.of (b := b) hb1)
  have HH1 := Lib.hid (holds_on hh hb1)
  have hBz1 := Lib.hid (Nat.le_trans hB hb1.size)
  clear hw1 hx1 hb1 hx hh
  have ta1 : ∀ W, (Instr.typeAssert (.iface 79 (.agg #[.slice (some ⟨b', o', none⟩) 3 c])) 62 70 true).run Tryz.prog W = .ok (.tuple #[.agg #[.slice none 0 0, .string .empty], .bool false]) W := fun W => by kernel_rfl
  have ta2 : ∀ W, (Instr.typeAssert (.iface 79 (.agg #[.slice (some ⟨b', o', none⟩) 3 c])) 62 77 true).run Tryz.prog W = .ok (.tuple #[.agg #[.slice none 0 0], .bool false]) W := fun W => by kernel_rfl
  have ta3 : ∀ W, (Instr.typeAssert (.iface 79 (.agg #[.slice (some ⟨b', o', none⟩) 3 c])) 62 79 true).run Tryz.prog W = .ok (.tuple #[.agg #[.slice (some ⟨b', o', none⟩) 3 c], .bool true]) W := fun W => by kernel_rfl
  go_enter Tryz.func14, Tryz.ntmps14
  go_upto_region 1 with fail
  rw [HW1.out]
  go_upto_region 11 with (go_at_call 25; refine (hK.out _ HB1.out).mono ?_; rintro e w2 ⟨y, rfl, hb2⟩; have HB2 := Lib.hid (HB1.out.trans (hb2.mono hBz1.out)); have HK2 := Lib.hid (HK1.out.trans (Kept.of hb2)); have HH2 := Lib.hid (holds_on HH1.out hb2); clear hb2)
  clear a0 a1 a2
  obtain ⟨w3, hw3⟩ : ∃ w3, w3 = w2.alloc (.cells #[.slice (some ⟨b', o', none⟩) 3 c] 79) := ⟨_, rfl⟩
  obtain ⟨G, hG⟩ : ∃ G, G = w2.heap.size := ⟨_, rfl⟩
  rw [← hw3, ← hG]
  have hb3 : Below w2.heap.size w2 w3 := by rw [hw3]; exact alloc_below w2 _
  have hg3 : w3.heap[G]? = some (.cells #[.slice (some ⟨b', o', none⟩) 3 c] 79) := by rw [hw3, hG]; exact heap_alloc_new w2 _
  have HG3 := Lib.hid hg3
  have HB3 := Lib.hid (HB2.out.trans (hb3.mono (Nat.le_trans hB HB2.out.size)))
  have HK3 := Lib.hid (HK2.out.trans (Kept.of hb3))
  have HH3 := Lib.hid (holds_on HH2.out hb3)
  have HZ3 := Lib.hid (Nat.le_trans hB HB3.out.size)
  have HGb : Hid (G ≠ b) := fun e => by
    have := HB2.out.size
    omega
  clear hw3 hb3 hg3 hG
  have e0 := Kru.one_cell HG3.out
  go_upto_region 12 with (go_at_call 31; refine (HA.out w3 HB3.out HH3.out).mono ?_; rintro e w5 ⟨rfl, h5, hb5, hk5⟩; have HH5 := Lib.hid h5; have HB5 := Lib.hid (HB3.out.trans hb5); have HK5 := Lib.hid hk5; clear h5 hb5 hk5)
  have e1 := Kru.one_cell ((HK5.out G _ _ _ HG3.out (by decide) HGb.out).trans HG3.out)
  clear e0
  go_wp2_with (go_at_call 31; refine (HC.out w5 HB5.out HH5.out).mono ?_; rintro e w6 ⟨rfl, h6, hb6, hk6⟩; have HH6 := Lib.hid h6; have HB6 := Lib.hid (HB5.out.trans hb6); have HK6 := Lib.hid ((HK3.out.trans HK5.out).trans hk6); clear h6 hb6 hk6)
  exact bodyPost_end (v := .tuple #[]) (by simp [results, Tryz.results14, go_sem]) rfl ⟨rfl, HH6.out, HB6.out, HK6.out⟩

end Go.Proofs.YtmcdefkpkpaceaaGreatDoor.Kw3

/- The program's write at a node of kind 4. -/
namespace Go.Proofs.YtmcdefkpkpaceaaGreatDoor.Kw4
open Go Go.RowKit Go.Proofs.YtmcdefkpkpaceaaGreatDoor.Spl Go.Proofs.YtmcdefkpkpaceaaGreatDoor.Nodm Go.Proofs.YtmcdefkpkpaceaaGreatDoor.Nz Go.Proofs.YtmcdefkpkpaceaaGreatDoor.Qtp Go.Proofs.YtmcdefkpkpaceaaGreatDoor.Qwhole Go.Proofs.YtmcdefkpkpaceaaGreatDoor.Kpl Go.Proofs.YtmcdefkpkpaceaaGreatDoor.Kkd Go.Proofs.YtmcdefkpkpaceaaGreatDoor.Kkn Go.Proofs.YtmcdefkpkpaceaaGreatDoor.Kbld Go.Proofs.YtmcdefkpkpaceaaGreatDoor.Kwa
open Go.Proofs.YtmcdefkpkpaceaaGreatDoor.Pure (bs)

set_option maxRecDepth 100000 in
set_option maxHeartbeats 4000000 in
theorem write_4 (B b : Nat) (s : T) (l : List Nz) (ho : shapeZ (.mk 4 s l) = true) (hsl : s.length ≤ 1000000000) (hll : l.length ≤ 1099511627776) (hW : ∀ x ∈ l, WriteIs B b x) : WriteIs B b (.mk 4 s l) := by
  intro v cur w hx hh hB hn
  obtain ⟨A, c, rfl, hl⟩ := hx.inv
  have hK := Lib.hid (fun (U : World) (hU : Below B w U) => (show Calls Tryz.prog 25 #[.agg #[.int .i64 4, .string (bs s), .slice A l.length c]] U fun e W' => ∃ y, e = .returned (.tuple #[.iface 81 (.agg #[.slice A l.length c, .string (bs s)]), .bool y]) ∧ Below U.heap.size U W' from (kind_4 (bs s) A l.length c _ rfl U).mono fun _ _ h => ⟨_, h⟩))
  have hmov := Lib.hid (fun (U : World) (hU : Below B w U) => (show NzsIn (fun g => g < B) U A c l from hl.move (fun g h1 h2 => ⟨h1, hU.block g h1⟩) hU.size))
  have ht : textZ (.mk 4 s l) = [36, 40] ++ s ++ [32] ++ joinL [44] (textsZ l) ++ [41] := by rw [textZ, if_neg (by decide), if_neg (by decide), if_neg (by decide), if_pos rfl]
  rw [ht] at hn ⊢
  have hnl : cur.length + (([36, 40] ++ s ++ [32]) : T).length + (joinL [44] (textsZ l)).length + ([41] : T).length ≤ 1000000000 := by
    simp only [List.length_append] at hn ⊢; omega
  have HA := Lib.hid (fun (U : World) (hU : Below B w U) (h : Holds B b cur U) => all_is B b ([36, 40] ++ s ++ [32]) [44] [41] A c l cur U (hmov.out U hU) h (Nat.le_trans hB hU.size) hW hnl (by decide) hll)
  have HE : Hid (cur ++ ([36, 40] ++ s ++ [32]) ++ joinL [44] (textsZ l) ++ [41] = cur ++ ([36, 40] ++ s ++ [32] ++ joinL [44] (textsZ l) ++ [41])) := by show _ = _; simp only [List.append_assoc]
  rw [HE.out] at HA
  have HSL := Lib.hid hsl
  have _hu := And.intro ho HSL
  clear _hu hmov hn hnl ht hll hW hsl ho
  generalize ([36, 40] ++ s ++ [32] ++ joinL [44] (textsZ l) ++ [41]) = tx at *
  have hadd1 : ∀ W, (Op.stringOp .add ⟨#[36, 40]⟩ (bs s)).run Tryz.prog W = .ok (.string (bs ([36, 40] ++ s))) W := fun W => by
    rw [run_string_add_sum W _ _ (by show 2 + s.length ≤ _; have := HSL.out; omega)]
    congr 2
  have hadd2 : ∀ W, (Op.stringOp .add (bs ([36, 40] ++ s)) ⟨#[32]⟩).run Tryz.prog W = .ok (.string (bs ([36, 40] ++ s ++ [32]))) W := fun W => by
    rw [run_string_add_sum W _ _ (by show ([36, 40] ++ s : T).length + 1 ≤ _; rw [List.length_append]; have := HSL.out; show 2 + _ + 1 ≤ _; omega)]
    congr 2
  generalize bs ([36, 40] ++ s ++ [32]) = xa at *
  generalize bs ([36, 40] ++ s) = xb at *
  generalize l.length = q at *
  generalize bs s = x at *
  have HH := Lib.hid hh
  have hb0 : b < w.heap.size := by rcases hh with ⟨_, v, h8, _⟩ | ⟨_, v, h8, _⟩ <;> exact (Array.getElem?_eq_some_iff.1 h8).1
  obtain ⟨w1, hw1⟩ : ∃ w1, w.alloc (.cells #[.int .i64 4, .string x, .slice A q c] 25) = w1 := ⟨_, rfl⟩
  have hx1 : w1.heap[w.heap.size]? = some (.cells #[.int .i64 4, .string x, .slice A q c] 25) := by rw [← hw1]; exact heap_alloc_new w _
  have hb1 : Below w.heap.size w w1 := by rw [← hw1]; exact alloc_below w _
  obtain ⟨a0, a1, a2⟩ := cells_three hx1
  have HW1 := Lib.hid hw1
  have HB1 := Lib.hid (hb1.mono hB)
  have HK1 := Lib.hid (Kept.of (b := b) hb1)
  have HH1 := Lib.hid (holds_on hh hb1)
  have hBz1 := Lib.hid (Nat.le_trans hB hb1.size)
  clear hw1 hx1 hb1 hx hh hl
  have ta1 : ∀ W, (Instr.typeAssert (.iface 81 (.agg #[.slice A q c, .string x])) 62 70 true).run Tryz.prog W = .ok (.tuple #[.agg #[.slice none 0 0, .string .empty], .bool false]) W := fun W => by kernel_rfl
  have ta2 : ∀ W, (Instr.typeAssert (.iface 81 (.agg #[.slice A q c, .string x])) 62 77 true).run Tryz.prog W = .ok (.tuple #[.agg #[.slice none 0 0], .bool false]) W := fun W => by kernel_rfl
  have ta3 : ∀ W, (Instr.typeAssert (.iface 81 (.agg #[.slice A q c, .string x])) 62 79 true).run Tryz.prog W = .ok (.tuple #[.agg #[.slice none 0 0], .bool false]) W := fun W => by kernel_rfl
  have ta4 : ∀ W, (Instr.typeAssert (.iface 81 (.agg #[.slice A q c, .string x])) 62 81 true).run Tryz.prog W = .ok (.tuple #[.agg #[.slice A q c, .string x], .bool true]) W := fun W => by kernel_rfl
  go_enter Tryz.func14, Tryz.ntmps14
  go_upto_region 1 with fail
  rw [HW1.out]
  go_upto_region 15 with (go_at_call 25; refine (hK.out _ HB1.out).mono ?_; rintro e w2 ⟨y, rfl, hb2⟩; have HB2 := Lib.hid (HB1.out.trans (hb2.mono hBz1.out)); have HK2 := Lib.hid (HK1.out.trans (Kept.of hb2)); have HH2 := Lib.hid (holds_on HH1.out hb2); clear hb2)
  clear a0 a1 a2
  obtain ⟨w3, hw3⟩ : ∃ w3, w3 = w2.alloc (.cells #[.slice A q c, .string x] 81) := ⟨_, rfl⟩
  obtain ⟨G, hG⟩ : ∃ G, G = w2.heap.size := ⟨_, rfl⟩
  rw [← hw3, ← hG]
  have hb3 : Below w2.heap.size w2 w3 := by rw [hw3]; exact alloc_below w2 _
  have hg3 : w3.heap[G]? = some (.cells #[.slice A q c, .string x] 81) := by rw [hw3, hG]; exact heap_alloc_new w2 _
  have HG3 := Lib.hid hg3
  have HB3 := Lib.hid (HB2.out.trans (hb3.mono (Nat.le_trans hB HB2.out.size)))
  have HK3 := Lib.hid (HK2.out.trans (Kept.of hb3))
  have HH3 := Lib.hid (holds_on HH2.out hb3)
  have HZ3 := Lib.hid (Nat.le_trans hB HB3.out.size)
  have HGb : Hid (G ≠ b) := fun e => by
    have := HB2.out.size
    omega
  clear hw3 hb3 hg3 hG
  obtain e0 := (Kru.two_cells HG3.out).1
  have e1 := (Kru.two_cells HG3.out).2
  go_wp2_with (first
    | (go_at_call 31; refine (HA.out w3 HB3.out HH3.out).mono ?_; rintro e w5 ⟨rfl, h5, hb5, hk5⟩; have HH5 := Lib.hid h5; have HB5 := Lib.hid (HB3.out.trans hb5); have HK5 := Lib.hid (HK3.out.trans hk5); clear h5 hb5 hk5))
  exact bodyPost_end (v := .tuple #[]) (by simp [results, Tryz.results14, go_sem]) rfl ⟨rfl, HH5.out, HB5.out, HK5.out⟩

end Go.Proofs.YtmcdefkpkpaceaaGreatDoor.Kw4

/- The program's write at a node of kind 5. -/
namespace Go.Proofs.YtmcdefkpkpaceaaGreatDoor.Kw5
open Go Go.RowKit Go.Proofs.YtmcdefkpkpaceaaGreatDoor.Spl Go.Proofs.YtmcdefkpkpaceaaGreatDoor.Nodm Go.Proofs.YtmcdefkpkpaceaaGreatDoor.Nz Go.Proofs.YtmcdefkpkpaceaaGreatDoor.Qtp Go.Proofs.YtmcdefkpkpaceaaGreatDoor.Qwhole Go.Proofs.YtmcdefkpkpaceaaGreatDoor.Kpl Go.Proofs.YtmcdefkpkpaceaaGreatDoor.Kkd Go.Proofs.YtmcdefkpkpaceaaGreatDoor.Kkn Go.Proofs.YtmcdefkpkpaceaaGreatDoor.Kbld Go.Proofs.YtmcdefkpkpaceaaGreatDoor.Kwa
open Go.Proofs.YtmcdefkpkpaceaaGreatDoor.Pure (bs)

set_option maxRecDepth 100000 in
set_option maxHeartbeats 4000000 in
theorem write_5 (B b : Nat) (s : T) (l : List Nz) (ho : shapeZ (.mk 5 s l) = true) (hsl : s.length ≤ 1000000000) (hll : l.length ≤ 1099511627776) (hW : ∀ x ∈ l, WriteIs B b x) : WriteIs B b (.mk 5 s l) := by
  intro v cur w hx hh hB hn
  obtain ⟨A, c, rfl, hl⟩ := hx.inv
  have hK := Lib.hid (fun (U : World) (hU : Below B w U) => (show Calls Tryz.prog 25 #[.agg #[.int .i64 5, .string (bs s), .slice A l.length c]] U fun e W' => ∃ y, e = .returned (.tuple #[.iface 82 (.agg #[.slice A l.length c]), .bool y]) ∧ Below U.heap.size U W' from (kind_5 (fun g => g < B) (bs s) A c l _ _ rfl rfl U (hl.move (fun g h1 h2 => ⟨h1, hU.block g h1⟩) hU.size) hll).mono fun _ _ h => ⟨_, h⟩))
  have hmov := Lib.hid (fun (U : World) (hU : Below B w U) => (show NzsIn (fun g => g < B) U A c l from hl.move (fun g h1 h2 => ⟨h1, hU.block g h1⟩) hU.size))
  have ht : textZ (.mk 5 s l) = joinL [] (textsZ l) := by rw [textZ, if_neg (by decide), if_neg (by decide), if_neg (by decide), if_neg (by decide), if_pos rfl]
  rw [ht] at hn ⊢
  have hnl : cur.length + ([] : T).length + (joinL [] (textsZ l)).length + ([] : T).length ≤ 1000000000 := by
    show cur.length + 0 + _ + 0 ≤ _; omega
  have HA := Lib.hid (fun (U : World) (hU : Below B w U) (h : Holds B b cur U) => all_is B b [] [] [] A c l cur U (hmov.out U hU) h (Nat.le_trans hB hU.size) hW hnl (by decide) hll)
  have HE : Hid (cur ++ [] ++ joinL [] (textsZ l) ++ [] = cur ++ (joinL [] (textsZ l))) := by show _ = _; simp only [List.append_nil]
  rw [HE.out] at HA
  have HSL := Lib.hid hsl
  have _hu := And.intro ho HSL
  clear _hu hmov hn hnl ht hll hW hsl ho
  generalize (joinL [] (textsZ l)) = tx at *
  generalize l.length = q at *
  generalize bs s = x at *
  have HH := Lib.hid hh
  have hb0 : b < w.heap.size := by rcases hh with ⟨_, v, h8, _⟩ | ⟨_, v, h8, _⟩ <;> exact (Array.getElem?_eq_some_iff.1 h8).1
  obtain ⟨w1, hw1⟩ : ∃ w1, w.alloc (.cells #[.int .i64 5, .string x, .slice A q c] 25) = w1 := ⟨_, rfl⟩
  have hx1 : w1.heap[w.heap.size]? = some (.cells #[.int .i64 5, .string x, .slice A q c] 25) := by rw [← hw1]; exact heap_alloc_new w _
  have hb1 : Below w.heap.size w w1 := by rw [← hw1]; exact alloc_below w _
  obtain ⟨a0, a1, a2⟩ := cells_three hx1
  have HW1 := Lib.hid hw1
  have HB1 := Lib.hid (hb1.mono hB)
  have HK1 := Lib.hid (Kept.of (b := b) hb1)
  have HH1 := Lib.hid (holds_on hh hb1)
  have hBz1 := Lib.hid (Nat.le_trans hB hb1.size)
  clear hw1 hx1 hb1 hx hh hl
  have ta1 : ∀ W, (Instr.typeAssert (.iface 82 (.agg #[.slice A q c])) 62 70 true).run Tryz.prog W = .ok (.tuple #[.agg #[.slice none 0 0, .string .empty], .bool false]) W := fun W => by kernel_rfl
  have ta2 : ∀ W, (Instr.typeAssert (.iface 82 (.agg #[.slice A q c])) 62 77 true).run Tryz.prog W = .ok (.tuple #[.agg #[.slice none 0 0], .bool false]) W := fun W => by kernel_rfl
  have ta3 : ∀ W, (Instr.typeAssert (.iface 82 (.agg #[.slice A q c])) 62 79 true).run Tryz.prog W = .ok (.tuple #[.agg #[.slice none 0 0], .bool false]) W := fun W => by kernel_rfl
  have ta4 : ∀ W, (Instr.typeAssert (.iface 82 (.agg #[.slice A q c])) 62 81 true).run Tryz.prog W = .ok (.tuple #[.agg #[.slice none 0 0, .string .empty], .bool false]) W := fun W => by kernel_rfl
  have ta5 : ∀ W, (Instr.typeAssert (.iface 82 (.agg #[.slice A q c])) 62 82 true).run Tryz.prog W = .ok (.tuple #[.agg #[.slice A q c], .bool true]) W := fun W => by kernel_rfl
  go_enter Tryz.func14, Tryz.ntmps14
  go_upto_region 1 with fail
  rw [HW1.out]
  go_upto_region 18 with (go_at_call 25; refine (hK.out _ HB1.out).mono ?_; rintro e w2 ⟨y, rfl, hb2⟩; have HB2 := Lib.hid (HB1.out.trans (hb2.mono hBz1.out)); have HK2 := Lib.hid (HK1.out.trans (Kept.of hb2)); have HH2 := Lib.hid (holds_on HH1.out hb2); clear hb2)
  clear a0 a1 a2
  obtain ⟨w3, hw3⟩ : ∃ w3, w3 = w2.alloc (.cells #[.slice A q c] 82) := ⟨_, rfl⟩
  obtain ⟨G, hG⟩ : ∃ G, G = w2.heap.size := ⟨_, rfl⟩
  rw [← hw3, ← hG]
  have hb3 : Below w2.heap.size w2 w3 := by rw [hw3]; exact alloc_below w2 _
  have hg3 : w3.heap[G]? = some (.cells #[.slice A q c] 82) := by rw [hw3, hG]; exact heap_alloc_new w2 _
  have HG3 := Lib.hid hg3
  have HB3 := Lib.hid (HB2.out.trans (hb3.mono (Nat.le_trans hB HB2.out.size)))
  have HK3 := Lib.hid (HK2.out.trans (Kept.of hb3))
  have HH3 := Lib.hid (holds_on HH2.out hb3)
  have HZ3 := Lib.hid (Nat.le_trans hB HB3.out.size)
  have HGb : Hid (G ≠ b) := fun e => by
    have := HB2.out.size
    omega
  clear hw3 hb3 hg3 hG
  obtain e0 := Kru.one_cell HG3.out
  go_wp2_with (first
    | (go_at_call 31; refine (HA.out w3 HB3.out HH3.out).mono ?_; rintro e w5 ⟨rfl, h5, hb5, hk5⟩; have HH5 := Lib.hid h5; have HB5 := Lib.hid (HB3.out.trans hb5); have HK5 := Lib.hid (HK3.out.trans hk5); clear h5 hb5 hk5))
  exact bodyPost_end (v := .tuple #[]) (by simp [results, Tryz.results14, go_sem]) rfl ⟨rfl, HH5.out, HB5.out, HK5.out⟩

end Go.Proofs.YtmcdefkpkpaceaaGreatDoor.Kw5

/- The program's write at every node that has its shape, by induction. -/
namespace Go.Proofs.YtmcdefkpkpaceaaGreatDoor.Kwt
open Go Go.RowKit Go.Proofs.YtmcdefkpkpaceaaGreatDoor.Spl Go.Proofs.YtmcdefkpkpaceaaGreatDoor.Nodm Go.Proofs.YtmcdefkpkpaceaaGreatDoor.Nz Go.Proofs.YtmcdefkpkpaceaaGreatDoor.Qtp Go.Proofs.YtmcdefkpkpaceaaGreatDoor.Kpl Go.Proofs.YtmcdefkpkpaceaaGreatDoor.Kwa
open Go.Proofs.YtmcdefkpkpaceaaGreatDoor.Pure (bs)

theorem write_is (B b : Nat) : ∀ (N : Nat) (x : Nz), siz x ≤ N → okZ x = true → wt x ≤ 1000000000 → WriteIs B b x
  | 0, x, h, _, _ => by have := siz_pos x; omega
  | N + 1, .mk k s l, h, ho, hw => by
    rw [siz] at h
    rw [wt] at hw
    rw [ok_mk, Bool.and_eq_true] at ho
    have hN : ∀ x ∈ l, WriteIs B b x := fun x hx => write_is B b N x (by have := sizs_le hx; omega) (oks_at ho.2 hx) (by have := wts_le hx; omega)
    have hll : l.length ≤ 1099511627776 := by have := wts_len l; omega
    have hsl : s.length ≤ 1000000000 := by omega
    rcases shape_cases ho.1 with ⟨rfl, _⟩ | ⟨rfl, _⟩ | ⟨rfl, _⟩ | ⟨rfl, _⟩ | ⟨rfl, _⟩
    · exact Kw1.write_1 B b s l ho.1 hsl hll hN
    · exact Kw2.write_2 B b s l ho.1 hsl hll hN
    · exact Kw3.write_3 B b s l ho.1 hsl hll hN
    · exact Kw4.write_4 B b s l ho.1 hsl hll hN
    · exact Kw5.write_5 B b s l ho.1 hsl hll hN

end Go.Proofs.YtmcdefkpkpaceaaGreatDoor.Kwt
