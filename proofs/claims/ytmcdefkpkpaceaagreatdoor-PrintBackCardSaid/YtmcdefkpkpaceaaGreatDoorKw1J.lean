/- The program's write at a node of kind 1. -/
import Derived.Handy
import Derived.Test.YtmcdefkpkpaceaaGreatDoorKrtJ
import Derived.Test.YtmcdefkpkpaceaaGreatDoorKknJ
namespace Go.Proofs.YtmcdefkpkpaceaaGreatDoor.Kw1
open Go Go.RowKit Go.Proofs.YtmcdefkpkpaceaaGreatDoor.Spl Go.Proofs.YtmcdefkpkpaceaaGreatDoor.Nodm Go.Proofs.YtmcdefkpkpaceaaGreatDoor.Nz Go.Proofs.YtmcdefkpkpaceaaGreatDoor.Qtp Go.Proofs.YtmcdefkpkpaceaaGreatDoor.Qwhole Go.Proofs.YtmcdefkpkpaceaaGreatDoor.Kpl Go.Proofs.YtmcdefkpkpaceaaGreatDoor.Kkd Go.Proofs.YtmcdefkpkpaceaaGreatDoor.Kkn Go.Proofs.YtmcdefkpkpaceaaGreatDoor.Kbld Go.Proofs.YtmcdefkpkpaceaaGreatDoor.Kwa
open Go.Proofs.YtmcdefkpkpaceaaGreatDoor.Pure (bs)

set_option maxRecDepth 100000 in
set_option maxHeartbeats 4000000 in
theorem write_1 (B b : Nat) (s : T) (l : List Nz) (ho : shapeZ (.mk 1 s l) = true) (hsl : s.length ≤ 1000000000) (hll : l.length ≤ 1099511627776) (hW : ∀ x ∈ l, WriteIs B b x) : WriteIs B b (.mk 1 s l) := by
  intro v cur w hx hh hB hn
  obtain ⟨A, c, rfl, hl⟩ := hx.inv
  have hK := Lib.hid (fun (U : World) (hU : Below B w U) => (show Calls Tryz.prog 25 #[.agg #[.int .i64 1, .string (bs s), .slice A l.length c]] U fun e W' => ∃ y, e = .returned (.tuple #[.iface 70 (.agg #[.slice none 0 0, .string (bs s)]), .bool y]) ∧ Below U.heap.size U W' from (kind_1 (bs s) A l.length c _ rfl U).mono fun _ _ h => ⟨_, h⟩))
  have hmov := Lib.hid (fun (U : World) (hU : Below B w U) => (show NzsIn (fun g => g < B) U A c l from hl.move (fun g h1 h2 => ⟨h1, hU.block g h1⟩) hU.size))
  have ht : textZ (.mk 1 s l) = Spf.twice s := by rw [textZ, if_pos rfl]
  rw [ht] at hn ⊢
  have HR := Lib.hid (fun U => Krp.all_is s U hsl)
  have HW := Lib.hid (fun (U : World) (h : Holds B b cur U) (h2 : B ≤ U.heap.size) => write_text B b cur (bs (Spf.twice s)) U h (by show _ + (Spf.twice s).length ≤ _; omega) h2)
  have _hu := And.intro ho (And.intro hll hW)
  clear _hu hmov hn ht hll hW hsl ho
  have HD : Hid ((bs (Spf.twice s)).data.toList = Spf.twice s) := rfl
  generalize l.length = q at *
  generalize bs (Spf.twice s) = xt at *
  generalize bs s = x at *
  have HH := Lib.hid hh
  have hb0 : b < w.heap.size := by rcases hh with ⟨_, v, h8, _⟩ | ⟨_, v, h8, _⟩ <;> exact (Array.getElem?_eq_some_iff.1 h8).1
  obtain ⟨w1, hw1⟩ : ∃ w1, w.alloc (.cells #[.int .i64 1, .string x, .slice A q c] 25) = w1 := ⟨_, rfl⟩
  have hx1 : w1.heap[w.heap.size]? = some (.cells #[.int .i64 1, .string x, .slice A q c] 25) := by rw [← hw1]; exact heap_alloc_new w _
  have hb1 : Below w.heap.size w w1 := by rw [← hw1]; exact alloc_below w _
  obtain ⟨a0, a1, a2⟩ := cells_three hx1
  have HW1 := Lib.hid hw1
  have HB1 := Lib.hid (hb1.mono hB)
  have HK1 := Lib.hid (Kept.of (b := b) hb1)
  have HH1 := Lib.hid (holds_on hh hb1)
  have hBz1 := Lib.hid (Nat.le_trans hB hb1.size)
  clear hw1 hx1 hb1 hx hh hl
  have ta1 : ∀ W, (Instr.typeAssert (.iface 70 (.agg #[.slice none 0 0, .string x])) 62 70 true).run Tryz.prog W = .ok (.tuple #[.agg #[.slice none 0 0, .string x], .bool true]) W := fun W => by kernel_rfl
  go_enter Tryz.func14, Tryz.ntmps14
  go_upto_region 1 with fail
  rw [HW1.out]
  go_upto_region 5 with (go_at_call 25; refine (hK.out _ HB1.out).mono ?_; rintro e w2 ⟨y, rfl, hb2⟩; have HB2 := Lib.hid (HB1.out.trans (hb2.mono hBz1.out)); have HK2 := Lib.hid (HK1.out.trans (Kept.of hb2)); have HH2 := Lib.hid (holds_on HH1.out hb2); clear hb2)
  clear a0 a1 a2
  obtain ⟨w3, hw3⟩ : ∃ w3, w3 = w2.alloc (.cells #[.slice none 0 0, .string x] 70) := ⟨_, rfl⟩
  obtain ⟨G, hG⟩ : ∃ G, G = w2.heap.size := ⟨_, rfl⟩
  rw [← hw3, ← hG]
  have hb3 : Below w2.heap.size w2 w3 := by rw [hw3]; exact alloc_below w2 _
  have hg3 : w3.heap[G]? = some (.cells #[.slice none 0 0, .string x] 70) := by rw [hw3, hG]; exact heap_alloc_new w2 _
  have HG3 := Lib.hid hg3
  have HB3 := Lib.hid (HB2.out.trans (hb3.mono (Nat.le_trans hB HB2.out.size)))
  have HK3 := Lib.hid (HK2.out.trans (Kept.of hb3))
  have HH3 := Lib.hid (holds_on HH2.out hb3)
  have HZ3 := Lib.hid (Nat.le_trans hB HB3.out.size)
  have HGb : Hid (G ≠ b) := fun e => by
    have := HB2.out.size
    omega
  clear hw3 hb3 hg3 hG
  obtain ⟨e0, e1⟩ := Kru.two_cells HG3.out
  go_wp2_with (first
    | (go_at_call 30; refine (HR.out _).mono ?_; rintro e w4 ⟨rfl, hb4⟩; have HB4 := Lib.hid (HB3.out.trans (hb4.mono HZ3.out)); have HK4 := Lib.hid (HK3.out.trans (Kept.of hb4)); have HH4 := Lib.hid (holds_on HH3.out hb4); clear hb4)
    | (go_at_call 29; refine (HW.out w4 HH4.out (Nat.le_trans hB HB4.out.size)).mono ?_; rintro e w5 ⟨rfl, h5, hb5, hk5⟩; have HH5 := Lib.hid h5; have HB5 := Lib.hid (HB4.out.trans hb5); have HK5 := Lib.hid (HK4.out.trans hk5); clear h5 hb5 hk5))
  have h9 := HH5.out
  rw [HD.out] at h9
  exact bodyPost_end (v := .tuple #[]) (by simp [results, Tryz.results14, go_sem]) rfl ⟨rfl, h9, HB5.out, HK5.out⟩


end Go.Proofs.YtmcdefkpkpaceaaGreatDoor.Kw1

/- The program's write at a node of kind 2. -/
namespace Go.Proofs.YtmcdefkpkpaceaaGreatDoor.Kw2
open Go Go.RowKit Go.Proofs.YtmcdefkpkpaceaaGreatDoor.Spl Go.Proofs.YtmcdefkpkpaceaaGreatDoor.Nodm Go.Proofs.YtmcdefkpkpaceaaGreatDoor.Nz Go.Proofs.YtmcdefkpkpaceaaGreatDoor.Qtp Go.Proofs.YtmcdefkpkpaceaaGreatDoor.Qwhole Go.Proofs.YtmcdefkpkpaceaaGreatDoor.Kpl Go.Proofs.YtmcdefkpkpaceaaGreatDoor.Kkd Go.Proofs.YtmcdefkpkpaceaaGreatDoor.Kkn Go.Proofs.YtmcdefkpkpaceaaGreatDoor.Kbld Go.Proofs.YtmcdefkpkpaceaaGreatDoor.Kwa
open Go.Proofs.YtmcdefkpkpaceaaGreatDoor.Pure (bs)

set_option maxRecDepth 100000 in
set_option maxHeartbeats 4000000 in
theorem write_2 (B b : Nat) (s : T) (l : List Nz) (ho : shapeZ (.mk 2 s l) = true) (hsl : s.length ≤ 1000000000) (hll : l.length ≤ 1099511627776) (hW : ∀ x ∈ l, WriteIs B b x) : WriteIs B b (.mk 2 s l) := by
  intro v cur w hx hh hB hn
  obtain ⟨A, c, rfl, hl⟩ := hx.inv
  have hK := Lib.hid (fun (U : World) (hU : Below B w U) => (show Calls Tryz.prog 25 #[.agg #[.int .i64 2, .string (bs s), .slice A l.length c]] U fun e W' => ∃ y, e = .returned (.tuple #[.iface 77 (.agg #[.slice A l.length c]), .bool y]) ∧ Below U.heap.size U W' from (kind_2 (bs s) A l.length c _ _ rfl rfl U).mono fun _ _ h => ⟨_, h⟩))
  have hmov := Lib.hid (fun (U : World) (hU : Below B w U) => (show NzsIn (fun g => g < B) U A c l from hl.move (fun g h1 h2 => ⟨h1, hU.block g h1⟩) hU.size))
  have ht : textZ (.mk 2 s l) = [36, 40] ++ joinL [] (textsZ l) ++ [41] := by rw [textZ, if_neg (by decide), if_pos rfl]
  rw [ht] at hn ⊢
  have hnl : cur.length + ([36, 40] : T).length + (joinL [] (textsZ l)).length + ([41] : T).length ≤ 1000000000 := by
    simp only [List.length_append] at hn ⊢; omega
  have HA := Lib.hid (fun (U : World) (hU : Below B w U) (h : Holds B b cur U) => all_is B b [36, 40] [] [41] A c l cur U (hmov.out U hU) h (Nat.le_trans hB hU.size) hW hnl (by decide) hll)
  have HE : Hid (cur ++ [36, 40] ++ joinL [] (textsZ l) ++ [41] = cur ++ ([36, 40] ++ joinL [] (textsZ l) ++ [41])) := by show _ = _; simp only [List.append_assoc]
  rw [HE.out] at HA
  have HSL := Lib.hid hsl
  have _hu := And.intro ho HSL
  clear _hu hmov hn hnl ht hll hW hsl ho
  generalize ([36, 40] ++ joinL [] (textsZ l) ++ [41]) = tx at *
  generalize l.length = q at *
  generalize bs s = x at *
  have HH := Lib.hid hh
  have hb0 : b < w.heap.size := by rcases hh with ⟨_, v, h8, _⟩ | ⟨_, v, h8, _⟩ <;> exact (Array.getElem?_eq_some_iff.1 h8).1
  obtain ⟨w1, hw1⟩ : ∃ w1, w.alloc (.cells #[.int .i64 2, .string x, .slice A q c] 25) = w1 := ⟨_, rfl⟩
  have hx1 : w1.heap[w.heap.size]? = some (.cells #[.int .i64 2, .string x, .slice A q c] 25) := by rw [← hw1]; exact heap_alloc_new w _
  have hb1 : Below w.heap.size w w1 := by rw [← hw1]; exact alloc_below w _
  obtain ⟨a0, a1, a2⟩ := cells_three hx1
  have HW1 := Lib.hid hw1
  have HB1 := Lib.hid (hb1.mono hB)
  have HK1 := Lib.hid (Kept.of (b := b) hb1)
  have HH1 := Lib.hid (holds_on hh hb1)
  have hBz1 := Lib.hid (Nat.le_trans hB hb1.size)
  clear hw1 hx1 hb1 hx hh hl
  have ta1 : ∀ W, (Instr.typeAssert (.iface 77 (.agg #[.slice A q c])) 62 70 true).run Tryz.prog W = .ok (.tuple #[.agg #[.slice none 0 0, .string .empty], .bool false]) W := fun W => by kernel_rfl
  have ta2 : ∀ W, (Instr.typeAssert (.iface 77 (.agg #[.slice A q c])) 62 77 true).run Tryz.prog W = .ok (.tuple #[.agg #[.slice A q c], .bool true]) W := fun W => by kernel_rfl
  go_enter Tryz.func14, Tryz.ntmps14
  go_upto_region 1 with fail
  rw [HW1.out]
  go_upto_region 8 with (go_at_call 25; refine (hK.out _ HB1.out).mono ?_; rintro e w2 ⟨y, rfl, hb2⟩; have HB2 := Lib.hid (HB1.out.trans (hb2.mono hBz1.out)); have HK2 := Lib.hid (HK1.out.trans (Kept.of hb2)); have HH2 := Lib.hid (holds_on HH1.out hb2); clear hb2)
  clear a0 a1 a2
  obtain ⟨w3, hw3⟩ : ∃ w3, w3 = w2.alloc (.cells #[.slice A q c] 77) := ⟨_, rfl⟩
  obtain ⟨G, hG⟩ : ∃ G, G = w2.heap.size := ⟨_, rfl⟩
  rw [← hw3, ← hG]
  have hb3 : Below w2.heap.size w2 w3 := by rw [hw3]; exact alloc_below w2 _
  have hg3 : w3.heap[G]? = some (.cells #[.slice A q c] 77) := by rw [hw3, hG]; exact heap_alloc_new w2 _
  have HG3 := Lib.hid hg3
  have HB3 := Lib.hid (HB2.out.trans (hb3.mono (Nat.le_trans hB HB2.out.size)))
  have HK3 := Lib.hid (HK2.out.trans (Kept.of hb3))
  have HH3 := Lib.hid (holds_on HH2.out hb3)
  have HZ3 := Lib.hid (Nat.le_trans hB HB3.out.size)
  have HGb : Hid (G ≠ b) := fun e => by
    have := HB2.out.size
    omega
  clear hw3 hb3 hg3 hG
  obtain e0 := Kru.one_cell HG3.out
  go_wp2_with (first
    | (go_at_call 31; refine (HA.out w3 HB3.out HH3.out).mono ?_; rintro e w5 ⟨rfl, h5, hb5, hk5⟩; have HH5 := Lib.hid h5; have HB5 := Lib.hid (HB3.out.trans hb5); have HK5 := Lib.hid (HK3.out.trans hk5); clear h5 hb5 hk5))
  exact bodyPost_end (v := .tuple #[]) (by simp [results, Tryz.results14, go_sem]) rfl ⟨rfl, HH5.out, HB5.out, HK5.out⟩

end Go.Proofs.YtmcdefkpkpaceaaGreatDoor.Kw2
