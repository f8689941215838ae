/- (By weight; written by wip/tools/mkmu.py.) Texts by numbers: the whole text, of of a weight of at most 996,132. -/
import Derived.Test.YtpphkaolonjjdaaDoorYbigJ
namespace Go.Proofs.YtpphkaolonjjdaaDoor.Ytop
open Go.RowKit Go.Proofs.YtpphkaolonjjdaaDoor.Pure Go.Proofs.YtpphkaolonjjdaaDoor.Place Go.Proofs.YtpphkaolonjjdaaDoor.Ymu Go.Proofs.YtpphkaolonjjdaaDoor.Nums Go.Proofs.YtpphkaolonjjdaaDoor.Range Go.Proofs.YtpphkaolonjjdaaDoor.Tnum Go.Proofs.YtpphkaolonjjdaaDoor.Yidx Go.Proofs.YtpphkaolonjjdaaDoor.Yone Go.Proofs.YtpphkaolonjjdaaDoor.Ytext Go.Proofs.YtpphkaolonjjdaaDoor.Yctl Go.Proofs.YtpphkaolonjjdaaDoor.Ybig

theorem ts_new {w : World} {A : Option Addr} {n c : Nat} {zs : List Int} (hl : IntIs w A n c zs) (hn : n ≤ 9223372036854775807) :
    TS w.heap.size A n c zs 0 (w.alloc (.cells #[.slice A n c, .int .i64 0] 57)) := by
  have hne : 0 < n → ∀ b o, A = some ⟨b, o, none⟩ → b ≠ w.heap.size := by
    intro h0 b o h
    obtain ⟨h1, _, _, h4⟩ := hl
    rcases h4 with h4 | ⟨b', o', h', hb, _⟩
    · rw [h4] at h1
      simp at h1
      omega
    · rw [h] at h'
      cases h'
      omega
  exact ⟨World.alloc_heap_new w _, Nat.zero_le _, hn, intIs_out hl hne (Out.of_below ((Below.refl _ _).alloc (Nat.le_refl _) _)), hne⟩
/-- back at the caller: nothing but a block of one's own has changed -/
theorem fin_out {w W0 V : World} {tp : Nat} (h : Hid (Below w.heap.size w W0 ∧ tp = w.heap.size ∧ w.heap.size < W0.heap.size)) (ho : Out [tp] W0 V) : Below w.heap.size w V ∧ w.heap.size < V.heap.size := by
  obtain ⟨h1, rfl, h3⟩ := h.out
  refine ⟨?_, by have := ho.size; omega⟩
  exact ⟨ho.os.trans h1.os, ho.tape.trans h1.tape, ho.output.trans h1.output, by have := ho.size; omega, fun k hk => (ho.block k (by omega) (by simp; omega)).trans (h1.block k hk)⟩
theorem one_3 : OneIs 3 83010 := one_big 3 2 (by decide) rfl 27062 (by decide) text_2
/-- texts at depth 3 -/
theorem text_3 : TextIs 3 166022 := text_of (by decide) (by decide) one_3
theorem glue3 (x y : ByteArray) {a b : Nat} (hx : Hid (mu x ≤ a)) (hy : Hid (mu y ≤ b)) (h : a + b ≤ 100000000000) : ∃ z : ByteArray, Hid (mu z ≤ a + b) ∧ ∀ W, (Op.stringOp .add x y).run Tryd.prog W = .ok (.string z) W := by
  have h1 := hx.out
  have h2 := hy.out
  refine ⟨x ++ y, ?_, fun W => run_string_add_sum W _ _ (by have := mu_size x; have := mu_size y; omega)⟩
  show _ ≤ _
  rw [mu_append]; omega

set_option maxRecDepth 100000 in
set_option maxHeartbeats 4000000 in
/-- a text by numbers -/
theorem numText_is (A : Option Addr) (n c : Nat) (zs : List Int) (w : World) (hn : n ≤ 9223372036854775807) (hl : IntIs w A n c zs) :
    Calls Tryd.prog 15 #[.slice A n c] w fun e W => ∃ s : ByteArray, mu s ≤ 996132 ∧ e = .returned (.string s) ∧ Below w.heap.size w W ∧ w.heap.size < W.heap.size := by
  have HL := Lib.hid (ts_new hl hn)
  clear hl
  go_enter Tryd.func15, Tryd.ntmps15
  go_wp2_with fail
  obtain ⟨tp, htp⟩ : ∃ tp, tp = w.heap.size := ⟨_, rfl⟩
  obtain ⟨W0, hW0⟩ : ∃ W0, W0 = w.alloc (.cells #[.slice A n c, .int .i64 0] 57) := ⟨_, rfl⟩
  rw [← htp, ← hW0]
  have HT : Hid (TS tp A n c zs 0 W0) := by show TS _ _ _ _ _ _ _; rw [hW0, htp]; exact HL.out
  have HB : Hid (Below w.heap.size w W0 ∧ tp = w.heap.size ∧ w.heap.size < W0.heap.size) := by
    refine ⟨?_, htp, ?_⟩
    · rw [hW0]; exact (Below.refl _ _).alloc (Nat.le_refl _) _
    · rw [hW0]; simp
  clear hW0 htp HL
  go_loopw [4, 5] (fun s i wr => ∃ (S : ByteArray) (b k : Nat), s = .string S ∧ i = .int .i64 (k : Int) ∧ Hid (mu S ≤ 166022 * k) ∧ k ≤ 6 ∧ Hid (TS tp A n c zs b wr) ∧ Hid (Out [tp] W0 wr)) (fun _ i _ => 6 - (intOf i).toNat)
  case atStart => exact ⟨_, 0, 0, rfl, rfl, by show _ ≤ _; decide, by omega, HT, Out.of_below (Below.refl _ _)⟩
  case round =>
    obtain ⟨S, b, k, rfl, rfl, HS, hk, HT1, HO⟩ := hrel
    have h0 := HT1.out.c0
    have h1 := HT1.out.c1
    by_cases hb : b < n
    · have hd : decide ((b : Int) < (n : Int)) = true := decide_eq_true (by omega)
      have hd2 : decide (b < n) = true := decide_eq_true hb
      by_cases h6 : k < 6
      · have hd3 : decide ((k : Int) < 6) = true := decide_eq_true (by omega)
        have w1 : IntKind.i64.wrap ((k : Int) + 1) = ((k + 1 : Nat) : Int) := IntWalk.i64_in _ (by omega)
        have HK := Lib.hid h6
        clear hk h6
        go_wp2_with fail
        go_region
        go_wp2_with fail
        refine (text_3 tp A n c zs b _ (ts_drew HT1.out)).mono ?_
        rintro e w2 ⟨s, hs, rfl, haf⟩
        obtain ⟨P, y, a1⟩ := glue3 S s HS (Lib.hid hs) (by have := HK.out; omega)
        obtain ⟨b2, _, _, t2, o2⟩ := haf
        have HT2 := Lib.hid t2
        have HO2 := Lib.hid o2
        clear hs t2 o2 hd hd2 hd3
        go_wp2
        go_roundw
        case rel =>
          refine ⟨P, b2, k + 1, rfl, rfl, ?_, ?_, HT2, ?_⟩
          · have := y.out; show _ ≤ _; omega
          · have := HK.out; omega
          · exact HO.out.trans ((⟨rfl, rfl, rfl, Nat.le_refl _, fun _ _ _ => rfl⟩ : Out [tp] wr wr.drew).trans HO2.out)
        case measure =>
          have := HK.out
          simp only [intOf]
          omega
      · obtain rfl : k = 6 := by omega
        clear hk h6
        go_wp2_with fail
        go_region
        go_wp2
        go_ret
        refine ⟨S, ?_, rfl, ?_⟩
        · have := HS.out; omega
        · exact fin_out HB (HO.out.trans (⟨rfl, rfl, rfl, Nat.le_refl _, fun _ _ _ => rfl⟩ : Out [tp] wr wr.drew))
    · have hd : decide ((b : Int) < (n : Int)) = false := decide_eq_false (by omega)
      have hd2 : decide (b < n) = false := decide_eq_false hb
      clear hb
      go_wp2_with fail
      go_region
      go_wp2
      go_ret
      refine ⟨S, ?_, rfl, ?_⟩
      · have := HS.out; omega
      · exact fin_out HB (HO.out.trans (⟨rfl, rfl, rfl, Nat.le_refl _, fun _ _ _ => rfl⟩ : Out [tp] wr wr.drew))

end Go.Proofs.YtpphkaolonjjdaaDoor.Ytop
