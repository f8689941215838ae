/- The walk of the law TableShapes. -/
import Derived.Laws.RangeAny
import Derived.Laws.BytesArg
import Derived.Test.YtlnpahajkhdpjaaFaw
import Derived.Test.YtlnpahajkhdpjaaWplace
namespace Go.Proofs.Ytlnpahajkhdpjaa.TableShapes
open Go Go.RowKit Go.Proofs.Ytlnpahajkhdpjaa.Strs Go.Proofs.Ytlnpahajkhdpjaa.Srt Go.Proofs.Ytlnpahajkhdpjaa.Fpl Go.Proofs.Ytlnpahajkhdpjaa.Fmp Go.Proofs.Ytlnpahajkhdpjaa.Fnm Go.Proofs.Ytlnpahajkhdpjaa.Faw Go.Proofs.Ytlnpahajkhdpjaa.Place
open Go.Proofs.Ytlnpahajkhdpjaa.Pure (bs)

def infOf (x : T) : Inf := (lookI tab x).getD zero
theorem find_name {x : T} (h : x ∈ names) : findV (bs x) = .tuple #[.agg #[.int .i64 (infOf x).mn, .int .i64 (infOf x).mx, .bool (infOf x).lz, .bool (infOf x).pu], .bool true] := by
  unfold findV
  rw [show (bs x).data.toList = x from rfl, look_tab, decide_eq_true h]; rfl
theorem find_none {x : T} (h : x ∉ names) : findV (bs x) = .tuple #[.agg #[.int .i64 0, .int .i64 0, .bool false, .bool false], .bool false] := by
  unfold findV
  have h1 : lookI tab x = none := by
    have h2 := look_tab x
    rw [decide_eq_false h] at h2
    exact Option.isNone_iff_eq_none.1 (by rw [← Option.not_isSome, h2]; rfl)
  rw [show (bs x).data.toList = x from rfl, h1]; rfl

def okB (x : T) : Bool := decide (x.length ≤ 10) && x.all (fun c => decide (c = 45) || (decide (97 ≤ c.toNat) && decide (c.toNat ≤ 122))) && !decide (x ++ [120] ∈ names) && !decide (32 :: x ∈ names)
  && decide (1 ≤ (infOf x).mn) && (decide ((infOf x).mx = 0) || decide ((infOf x).mn ≤ (infOf x).mx)) && !((infOf x).lz && (infOf x).pu)
structure Okay (x : T) : Prop where
  size : x.length ≤ 10
  letters : ∀ c ∈ x, c = 45 ∨ (97 ≤ c.toNat ∧ c.toNat ≤ 122)
  behind : x ++ [120] ∉ names
  ahead : 32 :: x ∉ names
  least : 1 ≤ (infOf x).mn
  most : (infOf x).mx = 0 ∨ (infOf x).mn ≤ (infOf x).mx
  lazy : ¬ ((infOf x).lz = true ∧ (infOf x).pu = true)
theorem okay {x : T} (h : x ∈ names) : Okay x := by
  have h1 : (names.all okB) = true := by kernel_rfl
  have h2 := List.all_eq_true.1 h1 x h
  unfold okB at h2
  simp only [Bool.and_eq_true, Bool.or_eq_true, Bool.not_eq_true', decide_eq_true_iff, decide_eq_false_iff_not, List.all_eq_true, Bool.and_eq_false_iff] at h2
  obtain ⟨⟨⟨⟨⟨⟨a, b⟩, c⟩, d⟩, e⟩, f⟩, g⟩ := h2
  refine ⟨a, b, c, d, e, f, fun ⟨g1, g2⟩ => ?_⟩
  rcases g with g | g
  · rw [g1] at g; cases g
  · rw [g2] at g; cases g
theorem add_is (a b c : ByteArray) (W : World) (h : a ++ b = c) (hz : a.size + b.size ≤ 1099511627776) : (Op.stringOp .add a b).run Try.prog W = .ok (.string c) W := by
  rw [← h]; exact run_string_add_sum W _ _ (by omega)
theorem bs_app (a b : List UInt8) : bs a ++ bs b = bs (a ++ b) := Pure.ext_data (by rw [ByteArray.data_append, Array.toList_append]; rfl)

/-- a rune of a name -/
theorem rune {x : T} (h : Okay x) (pos : Nat) (hp : pos < (bs x).size) : ∃ r : Nat, Utf8.decode (bs x) pos = (r, 1) ∧ (r = 45 ∨ (97 ≤ r ∧ r ≤ 122)) := by
  have hl : pos < x.length := by rw [Pure.size_bs] at hp; exact hp
  have he : (bs x)[pos] = x[pos] := rfl
  have hc := h.letters x[pos] (List.getElem_mem hl)
  have ha : ((bs x)[pos]).toNat < 128 := by
    rw [he]
    rcases hc with e | ⟨_, e⟩
    · rw [e]; decide
    · omega
  refine ⟨_, decode_ascii (bs x) pos hp ha, ?_⟩
  show (x[pos]).toNat = 45 ∨ (97 ≤ (x[pos]).toNat ∧ (x[pos]).toNat ≤ 122)
  rcases hc with e | e
  · left; rw [e]; rfl
  · exact .inr e

set_option maxRecDepth 100000 in
set_option maxHeartbeats 8000000 in
theorem walk (a0 : Int) (w : World) (w0 : (Lit.int .i64 a0).wf = true) :
    Calls Try.prog 4 #[.int .i64 a0] w fun e W' => e = .returned (.bool true) ∧ Below w.heap.size w W' := by
  have hp := place_lt a0 35 (by omega)
  have HP := Lib.hid (show ∀ W : World, Calls Try.prog 9 #[.int .i64 a0, .int .i64 35] W fun e w' => e = .returned (.int .i64 ((place a0 35 : Nat) : Int)) ∧ W = w' from fun W => Wplace.place_is a0 35 W (by omega) (by omega) w0)
  have HM : Hid ((maxLen : Nat) = 9223372036854775807) := by unfold maxLen; exact Lib.hid rfl
  clear w0
  generalize place a0 35 = p at *
  have hpl : p < names.length := hp
  have hx : namesB[p]? = some (bs names[p]) := by
    unfold namesB
    rw [List.getElem?_map, List.getElem?_eq_getElem hpl]; rfl
  have hmem : names[p] ∈ names := List.getElem_mem hpl
  have HO := Lib.hid (okay hmem)
  have HF := Lib.hid (find_name hmem)
  have HFb := Lib.hid (find_none HO.out.behind)
  have HFa := Lib.hid (find_none HO.out.ahead)
  have HX := Lib.hid hx
  clear hx hmem
  generalize names[p] = x at *
  go_enter Try.func4, Try.ntmps4
  go_wp2_with fail
  refine (names_is _).mono ?_
  rintro e W1 ⟨A, c, rfl, hsl, hb1⟩
  obtain ⟨b, o, rfl, hbl, hcs⟩ := hsl.at_ HX.out
  have c1 := hcs W1 (Below.refl _ _)
  have HB1 := Lib.hid hb1
  clear hsl hb1 hcs hbl HX hpl
  go_wp2_with fail
  refine (HP.out _).mono ?_
  rintro e w' ⟨rfl, rfl⟩
  clear HP
  go_wp2_with fail
  refine (find_is _ _ (by rw [HM.out, Pure.size_bs]; have := HO.out.size; omega)).mono ?_
  rintro e W2 ⟨rfl, hb2⟩
  rw [HF.out]
  have HB2 := Lib.hid (HB1.out.trans (hb2.mono HB1.out.size))
  clear c1 HF hb2 HB1
  have HO' := Lib.hid HO.out
  have a1 : ∀ W, (Op.stringOp .add (bs x) ⟨#[120]⟩).run Try.prog W = .ok (.string (bs (x ++ [120]))) W := fun W => add_is _ _ _ W (bs_app x [120]) (by rw [Pure.size_bs]; have := HO.out.size; show _ + 1 ≤ _; omega)
  have a2 : ∀ W, (Op.stringOp .add ⟨#[32]⟩ (bs x)).run Try.prog W = .ok (.string (bs (32 :: x))) W := fun W => add_is _ _ _ W (bs_app [32] x) (by rw [Pure.size_bs]; have := HO.out.size; show 1 + _ ≤ _; omega)
  have hrun := Lib.hid (fun pos hp => rune HO.out pos hp)
  go_upto_region 6 with fail
  obtain ⟨q, hq⟩ : ∃ q, q = infOf x := ⟨_, rfl⟩
  rw [← hq]
  obtain ⟨w3, hw3⟩ : ∃ w3, w3 = W2.alloc (.cells #[.int .i64 q.mn, .int .i64 q.mx, .bool q.lz, .bool q.pu] 28) := ⟨_, rfl⟩
  rw [← hw3]
  have HW3 := Lib.hid hw3
  have HQ := Lib.hid hq
  clear hw3 hq
  go_wp2_with fail
  go_loopw [8] (fun _ wr => ∃ pos : Nat, wr = w3.iter (bs x) pos) (fun _ wr => (bs x).size - wr.iterPos w3.heap.size)
  case atStart => exact ⟨0, rfl⟩
  case round =>
    obtain ⟨pos, rfl⟩ := hrel
    by_cases hp : pos < (bs x).size
    · obtain ⟨r, hr, hrr⟩ := hrun.out pos hp
      have hnx : ∀ ty, (Instr.next (.pointer (some ⟨w3.heap.size, 0, none⟩)) true ty).run Try.prog (w3.iter (bs x) pos) = _ := fun ty => run_next_any w3 (bs x) pos ty hp
      rw [hr] at hnx
      rcases hrr with rfl | ⟨h97, h122⟩
      · go_wp2_with fail
        go_roundw
        case rel => exact ⟨pos + 1, rfl⟩
        case measure => simp; omega
      · have t1 : ¬ ((r : Nat) : Int) < 97 := by omega
        have t2 : ¬ (122 : Int) < ((r : Nat) : Int) := by omega
        go_wp2_with fail
        go_roundw
        case rel => exact ⟨pos + 1, rfl⟩
        case measure => simp; omega
    · have hnx : ∀ ty, (Instr.next (.pointer (some ⟨w3.heap.size, 0, none⟩)) true ty).run Try.prog (w3.iter (bs x) pos) = _ := fun ty => run_next_end w3 (bs x) pos ty hp
      have HWE : Hid (Below w.heap.size w (w3.iter (bs x) pos) ∧ W2.heap.size < (w3.iter (bs x) pos).heap.size ∧ (w3.iter (bs x) pos).heap[W2.heap.size]? = some (.cells #[.int .i64 q.mn, .int .i64 q.mx, .bool q.lz, .bool q.pu] 28 (0, 0))) := by
        have h1 := HB2.out.alloc HB2.out.size (.cells #[.int .i64 q.mn, .int .i64 q.mx, .bool q.lz, .bool q.pu] 28)
        rw [← HW3.out] at h1
        have hs : w3.heap.size = W2.heap.size + 1 := by rw [HW3.out]; simp
        have h2 : Below w3.heap.size w3 (w3.iter (bs x) pos) := (Below.refl _ w3).alloc (Nat.le_refl _) _
        refine ⟨h1.trans (h2.mono h1.size), Nat.lt_of_lt_of_le (by omega) h2.size, ?_⟩
        rw [h2.block _ (by omega), HW3.out]
        exact heap_alloc_new W2 _
      have HSz : Hid ((bs (x ++ [120])).size ≤ maxLen ∧ (bs (32 :: x)).size ≤ maxLen) := by
        have := HO.out.size
        refine ⟨?_, ?_⟩
        · rw [HM.out, Pure.size_bs, List.length_append, List.length_singleton]; omega
        · rw [HM.out, Pure.size_bs, List.length_cons]; omega
      have q1 := HO.out.least
      have q2 := HO.out.most
      have q3 := HO.out.lazy
      rw [← HQ.out] at q1 q2 q3
      clear HW3 HB2 HO HO' hrun HQ HM
      go_upto_region 11 with fail
      generalize w3.iter (bs x) pos = w4 at *
      clear hnx
      go_wp2_with fail
      refine (find_is _ _ HSz.out.1).mono ?_
      rintro e W5 ⟨rfl, hb5⟩
      rw [HFb.out]
      have HB5 := Lib.hid (HWE.out.1.trans (hb5.mono HWE.out.1.size))
      have HG5 : Hid (W2.heap.size < W5.heap.size ∧ W5.heap[W2.heap.size]? = some (.cells #[.int .i64 q.mn, .int .i64 q.mx, .bool q.lz, .bool q.pu] 28 (0, 0))) := ⟨Nat.lt_of_lt_of_le HWE.out.2.1 hb5.size, (hb5.block _ HWE.out.2.1).trans HWE.out.2.2⟩
      clear hb5 HWE HFb a1
      go_wp2_with fail
      refine (find_is _ _ HSz.out.2).mono ?_
      rintro e W6 ⟨rfl, hb6⟩
      rw [HFa.out]
      have HB6 := Lib.hid ((HB5.out.alloc HB5.out.size (.cells #[.int .i64 0, .int .i64 0, .bool false, .bool false] 28)).trans (hb6.mono (by have := HB5.out.size; simp; omega)))
      have hg6 : W6.heap[W2.heap.size]? = some (.cells #[.int .i64 q.mn, .int .i64 q.mx, .bool q.lz, .bool q.pu] 28 (0, 0)) := by
        rw [hb6.block _ (by have := HG5.out.1; simp; omega), Lib.alloc_old W5 _ W2.heap.size HG5.out.1]
        exact HG5.out.2
      have hl6 : W2.heap.size < W6.heap.size := by have := HG5.out.1; have := hb6.size; rw [World.size_alloc] at this; omega
      have hgo := (Lib.alloc_old W6 (.cells #[.int .i64 0, .int .i64 0, .bool false, .bool false] 28) W2.heap.size hl6).trans hg6
      have k0 : (W6.alloc (.cells #[.int .i64 0, .int .i64 0, .bool false, .bool false] 28)).cell? ⟨W2.heap.size, 0, none⟩ = some (.int .i64 q.mn) := by rw [Lib.cell_of_heap hgo]; rfl
      have k1 : (W6.alloc (.cells #[.int .i64 0, .int .i64 0, .bool false, .bool false] 28)).cell? ⟨W2.heap.size, 1, none⟩ = some (.int .i64 q.mx) := by rw [Lib.cell_of_heap hgo]; rfl
      have k2 : (W6.alloc (.cells #[.int .i64 0, .int .i64 0, .bool false, .bool false] 28)).cell? ⟨W2.heap.size, 2, none⟩ = some (.bool q.lz) := by rw [Lib.cell_of_heap hgo]; rfl
      have k3 : (W6.alloc (.cells #[.int .i64 0, .int .i64 0, .bool false, .bool false] 28)).cell? ⟨W2.heap.size, 3, none⟩ = some (.bool q.pu) := by rw [Lib.cell_of_heap hgo]; rfl
      clear hb6 hg6 hgo hl6 HG5 HSz HFa a2 hp
      have HB7 := Lib.hid (HB6.out.alloc HB6.out.size (.cells #[.int .i64 0, .int .i64 0, .bool false, .bool false] 28))
      clear HB5 HB6
      go_upto_region 13 with fail
      generalize (W6.alloc (.cells #[.int .i64 0, .int .i64 0, .bool false, .bool false] 28)) = w7 at *
      have q4 : q.lz = false ∨ (q.lz = true ∧ q.pu = false) := by
        cases h : q.lz with
        | false => exact .inl rfl
        | true => exact .inr ⟨rfl, by cases h2 : q.pu with
          | false => rfl
          | true => exact absurd ⟨h, h2⟩ q3⟩
      clear q3
      rcases q4 with q4 | ⟨q4, q5⟩ <;> rcases q2 with q2 | q2
      all_goals
        have e1 : q.mx = 0 ∨ ¬ q.mx = 0 := Decidable.em _
        rcases e1 with e1 | e1
      all_goals
        first | (exfalso; omega) | skip
      all_goals
        go_wp2_with fail
        refine (awake_is _).mono ?_
        rintro e W8 ⟨rfl, hb8⟩
        have HB8 := Lib.hid (HB7.out.trans (hb8.mono HB7.out.size))
        clear hb8
        go_wp2
        go_ret
        exact ⟨rfl, HB8.out⟩

end Go.Proofs.Ytlnpahajkhdpjaa.TableShapes
