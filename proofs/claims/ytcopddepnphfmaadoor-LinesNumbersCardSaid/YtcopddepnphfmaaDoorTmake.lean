/- Texts by numbers: a makefile; a text spoilt. -/
import Derived.Test.YtcopddepnphfmaaDoorTline
import Derived.Test.YtcopddepnphfmaaDoorWplace
namespace Go.Proofs.YtcopddepnphfmaaDoor.Tmake
open Go.RowKit Go.Proofs.YtcopddepnphfmaaDoor.Pure Go.Proofs.YtcopddepnphfmaaDoor.Place Go.Proofs.YtcopddepnphfmaaDoor.Nums Go.Proofs.YtcopddepnphfmaaDoor.Range Go.Proofs.YtcopddepnphfmaaDoor.Tnum Go.Proofs.YtcopddepnphfmaaDoor.Tidx Go.Proofs.YtcopddepnphfmaaDoor.Tone Go.Proofs.YtcopddepnphfmaaDoor.Ttext Go.Proofs.YtcopddepnphfmaaDoor.Tctl Go.Proofs.YtcopddepnphfmaaDoor.Tbig Go.Proofs.YtcopddepnphfmaaDoor.Tlh Go.Proofs.YtcopddepnphfmaaDoor.Tline

theorem ts_new {w : World} {A : Option Addr} {n c : Nat} {zs : List Int} (hl : IntIs w A n c zs) (hn : n ≤ 9223372036854775807) :
    TS w.heap.size A n c zs 0 (w.alloc (.cells #[.slice A n c, .int .i64 0] 68)) := by
  have hne : 0 < n → ∀ b o, A = some ⟨b, o, none⟩ → b ≠ w.heap.size := by
    intro h0 b o h
    obtain ⟨h1, _, _, h4⟩ := hl
    rcases h4 with h4 | ⟨b', o', h', hb, _⟩
    · rw [h4] at h1
      simp at h1
      omega
    · rw [h] at h'
      cases h'
      omega
  exact ⟨World.alloc_heap_new w _, Nat.zero_le _, hn, intIs_out hl hne (Out.of_below ((Below.refl _ _).alloc (Nat.le_refl _) _)), hne⟩
/-- back at the caller: nothing but a block of one's own has changed -/
theorem below_of_out {w v W : World} (h : Below w.heap.size w v) (ho : Out [w.heap.size] v W) (hs : w.heap.size ≤ v.heap.size) : Below w.heap.size w W :=
  ⟨ho.os.trans h.os, ho.tape.trans h.tape, ho.output.trans h.output, by have := ho.size; omega, fun k hk => (ho.block k (by omega) (by simp; omega)).trans (h.block k hk)⟩

theorem fin_out {w W0 V : World} {tp : Nat} (h : Hid (Below w.heap.size w W0 ∧ tp = w.heap.size ∧ w.heap.size ≤ W0.heap.size)) (ho : Out [tp] W0 V) : Below w.heap.size w V := by
  obtain ⟨h1, rfl, h3⟩ := h.out
  exact below_of_out h1 ho h3

set_option maxRecDepth 100000 in
set_option maxHeartbeats 4000000 in
/-- a makefile by numbers -/
theorem makefile_is (A : Option Addr) (n c : Nat) (zs : List Int) (w : World) (hn : n ≤ 17592186044416) (hl : IntIs w A n c zs) :
    Calls Tryd.prog 19 #[.slice A n c] w fun e W => ∃ s : ByteArray, s.size ≤ 1000000000000000000 ∧ e = .returned (.string s) ∧ Below w.heap.size w W := by
  have HL := Lib.hid (ts_new hl (by omega))
  have HN := Lib.hid hn
  clear hl
  go_enter Tryd.func19, Tryd.ntmps19
  go_wp2_with fail
  obtain ⟨tp, htp⟩ : ∃ tp, tp = w.heap.size := ⟨_, rfl⟩
  obtain ⟨W0, hW0⟩ : ∃ W0, W0 = w.alloc (.cells #[.slice A n c, .int .i64 0] 68) := ⟨_, rfl⟩
  rw [← htp, ← hW0]
  have HT : Hid (TS tp A n c zs 0 W0) := by show TS _ _ _ _ _ _ _; rw [hW0, htp]; exact HL.out
  have HB : Hid (Below w.heap.size w W0 ∧ tp = w.heap.size ∧ w.heap.size ≤ W0.heap.size) := by
    refine ⟨?_, htp, ?_⟩
    · rw [hW0]; exact (Below.refl _ _).alloc (Nat.le_refl _) _
    · rw [hW0]; simp
  clear hW0 htp HL hn
  go_loopw [4, 5] (fun s i wr => ∃ (S : ByteArray) (b k : Nat), s = .string S ∧ i = .int .i64 (k : Int) ∧ Hid (S.size ≤ 8200 * b + 4100 * k) ∧ k ≤ 12 ∧ Hid (TS tp A n c zs b wr) ∧ Hid (Out [tp] W0 wr)) (fun _ i _ => 12 - (intOf i).toNat)
  case atStart => exact ⟨_, 0, 0, rfl, rfl, by show _ ≤ _; decide, by omega, HT, Out.of_below (Below.refl _ _)⟩
  case round =>
    obtain ⟨S, b, k, rfl, rfl, HS, hk, HT1, HO⟩ := hrel
    have h0 := HT1.out.c0
    have h1 := HT1.out.c1
    have HR := Lib.hid HT1.out.le
    by_cases hb : b < n
    · have hd : decide ((b : Int) < (n : Int)) = true := decide_eq_true (by omega)
      have hd2 : decide (b < n) = true := decide_eq_true hb
      by_cases h12 : k < 12
      · have hd3 : decide ((k : Int) < 12) = true := decide_eq_true (by omega)
        have w1 : IntKind.i64.wrap ((k : Int) + 1) = ((k + 1 : Nat) : Int) := IntWalk.i64_in _ (by omega)
        have HK := Lib.hid h12
        clear hk h12
        go_wp2_with fail
        go_region
        go_wp2_with fail
        refine (line_is tp A n c zs HN.out (n - b) b (Nat.le_refl _) _ (ts_drew HT1.out)).mono ?_
        rintro e w2 ⟨s, b2, hs, rfl, hb2, t2, o2⟩
        obtain ⟨P, y, a1⟩ := glue2 S s HS (Lib.hid hs) (by have := HR.out; have := HK.out; have := HN.out; have := t2.le; omega)
        have HT2 := Lib.hid t2
        have HO2 := Lib.hid o2
        have HB2 := Lib.hid hb2
        clear hs t2 o2 hb2 hd hd2 hd3
        go_wp2
        go_roundw
        case rel =>
          refine ⟨P, b2, k + 1, rfl, rfl, ?_, ?_, HT2, ?_⟩
          · have := HB2.out; have := y.out; show _ ≤ _; omega
          · have := HK.out; omega
          · exact HO.out.trans ((⟨rfl, rfl, rfl, Nat.le_refl _, fun _ _ _ => rfl⟩ : Out [tp] wr wr.drew).trans HO2.out)
        case measure =>
          have := HK.out
          simp only [intOf]
          omega
      · obtain rfl : k = 12 := by omega
        clear hk h12
        go_wp2_with fail
        go_region
        go_wp2
        go_ret
        refine ⟨S, ?_, rfl, ?_⟩
        · have := HS.out; have := HR.out; have := HN.out; omega
        · exact fin_out HB (HO.out.trans (⟨rfl, rfl, rfl, Nat.le_refl _, fun _ _ _ => rfl⟩ : Out [tp] wr wr.drew))
    · have hd : decide ((b : Int) < (n : Int)) = false := decide_eq_false (by omega)
      have hd2 : decide (b < n) = false := decide_eq_false hb
      clear hb
      go_wp2_with fail
      go_region
      go_wp2
      go_ret
      refine ⟨S, ?_, rfl, ?_⟩
      · have := HS.out; have := HR.out; have := HN.out; omega
      · exact fin_out HB (HO.out.trans (⟨rfl, rfl, rfl, Nat.le_refl _, fun _ _ _ => rfl⟩ : Out [tp] wr wr.drew))

set_option maxRecDepth 100000 in
/-- a piece of one letter of what is put in -/
theorem cut_put (i : Nat) (hi : i < 14) : ∃ x : List UInt8, x.length ≤ 1 ∧ ∀ W, (Instr.slice 9 (.string ⟨#[36, 40, 41, 44, 58, 61, 35, 37, 92, 32, 9, 10, 97, 98]⟩) (some (.int .i64 (i : Int))) (some (.int .i64 ((i : Int) + 1))) none).run Tryd.prog W = .ok (.string (bs x)) W := by
  refine ⟨[([36, 40, 41, 44, 58, 61, 35, 37, 92, 32, 9, 10, 97, 98] : List UInt8).getD i 0], by simp, fun W => ?_⟩
  obtain rfl | rfl | rfl | rfl | rfl | rfl | rfl | rfl | rfl | rfl | rfl | rfl | rfl | rfl : i = 0 ∨ i = 1 ∨ i = 2 ∨ i = 3 ∨ i = 4 ∨ i = 5 ∨ i = 6 ∨ i = 7 ∨ i = 8 ∨ i = 9 ∨ i = 10 ∨ i = 11 ∨ i = 12 ∨ i = 13 := by omega
  all_goals (show _ = _; kernel_rfl)
theorem tmod_nat (a b : Nat) : ((a : Int)).tmod (b : Int) = ((a % b : Nat) : Int) := by rw [Int.tmod_eq_emod_of_nonneg (by omega)]; simp
theorem tdiv_nat (a b : Nat) : ((a : Int)).tdiv (b : Int) = ((a / b : Nat) : Int) := by rw [Int.tdiv_eq_ediv_of_nonneg (by omega)]; simp
theorem cut_to (s : ByteArray) (i : Nat) (h : i ≤ s.size) (W : World) : (Instr.slice 9 (.string s) none (some (.int .i64 (i : Int))) none).run Tryd.prog W = .ok (.string (s.extract 0 i)) W := by
  rw [run_slice_string_h W 9 s Tryd.underlying9 .i64 (i : Int) (by omega) (by omega)]
  rfl
theorem cut_off (s : ByteArray) (i : Nat) (h : i ≤ s.size) (W : World) (z : Int) (hz : z = (i : Int)) : (Instr.slice 9 (.string s) (some (.int .i64 z)) none none).run Tryd.prog W = .ok (.string (s.extract i s.size)) W := by
  subst hz
  rw [run_slice_string_l W 9 s Tryd.underlying9 .i64 (i : Int) (by omega) (by omega)]
  rfl

theorem wrap_mod (k m : Nat) (h0 : 0 < m) (hm : m ≤ 1000000000000000000) : IntKind.i64.wrap ((k / 12 % m : Nat) : Int) = ((k / 12 % m : Nat) : Int) := by
  have := Nat.mod_lt (k / 12) h0
  generalize k / 12 % m = z at *
  exact IntWalk.i64_in _ (by omega)
theorem wrap_mod1 (k m : Nat) (h0 : 0 < m) (hm : m ≤ 1000000000000000000) : IntKind.i64.wrap (((k / 12 % m : Nat) : Int) + 1) = ((k / 12 % m : Nat) : Int) + 1 := by
  have := Nat.mod_lt (k / 12) h0
  generalize k / 12 % m = z at *
  exact IntWalk.i64_in _ (by omega)
theorem empty_is (s : ByteArray) : (s.toList == []) = decide (s.size = 0) := by
  rw [Lib.toList_data]
  have : s.size = s.data.toList.length := by rw [← size_bs, bs_self]
  rw [this]
  cases s.data.toList with
  | nil => rfl
  | cons a l => simp

set_option maxRecDepth 100000 in
set_option maxHeartbeats 4000000 in
/-- a text spoilt -/
theorem spoilt_is (s : ByteArray) (hs : s.size ≤ 1000000000000000000) (v : Int) (hv : (Lit.int .i64 v).wf = true) (w : World) :
    Calls Tryd.prog 18 #[.string s, .int .i64 v] w fun e W => ∃ r : ByteArray, r.size ≤ s.size + 1 ∧ e = .returned (.string r) ∧ Below w.heap.size w W := by
  have HP := Lib.hid (fun W => Wplace.place_is v 1073741824 W (by omega) (by omega) hv)
  have hpl := place_lt v 1073741824 (by omega)
  obtain ⟨k, hk⟩ : ∃ k, place v 1073741824 = k := ⟨_, rfl⟩
  rw [hk] at HP hpl
  clear hk hv
  have E3 : Hid (∃ r : Nat, r < 3 ∧ (k : Int).tmod 3 = (r : Int) ∧ IntKind.i64.wrap (r : Int) = (r : Int)) := ⟨k % 3, by omega, tmod_nat k 3, IntWalk.i64_in _ (by omega)⟩
  obtain ⟨r, hr, er, wr3⟩ := E3.out
  clear E3
  by_cases h0 : s.size = 0
  · obtain rfl : s = ⟨#[]⟩ := ByteArray.size_eq_zero_iff.1 h0
    clear h0 er wr3 hr hpl hs
    go_enter Tryd.func18, Tryd.ntmps18
    go_wp2_with fail
    refine (HP.out w).mono ?_
    rintro e w1 ⟨rfl, rfl⟩
    go_wp2
    go_ret
    exact ⟨_, Nat.le_succ _, rfl, Below.refl _ _⟩
  have he : (s.toList == []) = false := by rw [empty_is]; exact decide_eq_false h0
  have hne : ¬ s = ByteArray.empty := fun h => h0 (ByteArray.size_eq_zero_iff.2 h)
  by_cases hr0 : 0 < r
  · have hd : decide ((0 : Int) < (r : Int)) = true := decide_eq_true (by omega)
    have hd2 : decide (0 < r) = true := decide_eq_true hr0
    clear h0 hr hpl hs hr0
    go_enter Tryd.func18, Tryd.ntmps18
    go_wp2_with fail
    refine (HP.out w).mono ?_
    rintro e w1 ⟨rfl, rfl⟩
    go_wp2
    go_ret
    exact ⟨s, by omega, rfl, Below.refl _ _⟩
  obtain rfl : r = 0 := by omega
  have hn0 : ((s.size : Int) == 0) = false := beq_eq_false_iff_ne.2 (by omega)
  have EI : Hid (∃ q i : Nat, i < s.size ∧ (k : Int).tdiv 12 = (q : Int) ∧ IntKind.i64.wrap (q : Int) = (q : Int) ∧ (q : Int).tmod (s.size : Int) = (i : Int) ∧ IntKind.i64.wrap (i : Int) = (i : Int) ∧ IntKind.i64.wrap ((i : Int) + 1) = (i : Int) + 1) :=
    ⟨k / 12, k / 12 % s.size, Nat.mod_lt _ (Nat.pos_of_ne_zero h0), tdiv_nat k 12, IntWalk.i64_in _ (by omega), tmod_nat _ _, wrap_mod k s.size (by omega) hs, wrap_mod1 k s.size (by omega) hs⟩
  have EJ : Hid (∃ q i : Nat, i < 14 ∧ (k : Int).tdiv 7 = (q : Int) ∧ IntKind.i64.wrap (q : Int) = (q : Int) ∧ (q : Int).tmod 14 = (i : Int) ∧ IntKind.i64.wrap (i : Int) = (i : Int) ∧ IntKind.i64.wrap ((i : Int) + 1) = (i : Int) + 1) :=
    ⟨k / 7, k / 7 % 14, Nat.mod_lt _ (by omega), tdiv_nat k 7, IntWalk.i64_in _ (by omega), tmod_nat _ 14, IntWalk.i64_in _ (by omega), IntWalk.i64_in _ (by omega)⟩
  have EM : Hid (∃ q i : Nat, i < 3 ∧ (k : Int).tdiv 3 = (q : Int) ∧ IntKind.i64.wrap (q : Int) = (q : Int) ∧ (q : Int).tmod 3 = (i : Int) ∧ IntKind.i64.wrap (i : Int) = (i : Int)) :=
    ⟨k / 3, k / 3 % 3, Nat.mod_lt _ (by omega), tdiv_nat k 3, IntWalk.i64_in _ (by omega), tmod_nat _ 3, IntWalk.i64_in _ (by omega)⟩
  obtain ⟨q, i, hi, e1, e2, e3, e4, e5⟩ := EI.out
  obtain ⟨g, j, hj, f1, f2, f3, f4, f5⟩ := EJ.out
  obtain ⟨d, m, hm, g1, g2, g3, g4⟩ := EM.out
  obtain ⟨x, hx, c4⟩ := cut_put j hj
  have Z4 := hid_len x hx
  have c1 := cut_to s i (by omega)
  have c2 := fun W => cut_off s (i + 1) (by omega) W ((i : Int) + 1) (by omega)
  have c3 := fun W => cut_off s i (by omega) W (i : Int) rfl
  have Z1 : Hid ((s.extract 0 i).size ≤ i) := by show _ ≤ _; rw [ByteArray.size_extract]; omega
  have Z2 : Hid ((s.extract (i + 1) s.size).size ≤ s.size - (i + 1)) := by show _ ≤ _; rw [ByteArray.size_extract]; omega
  have Z3 : Hid ((s.extract i s.size).size ≤ s.size - i) := by show _ ≤ _; rw [ByteArray.size_extract]; omega
  generalize s.extract 0 i = A1 at *
  generalize s.extract (i + 1) s.size = A2 at *
  generalize s.extract i s.size = A3 at *
  generalize bs x = X at *
  obtain ⟨P1, y1, a1⟩ := glue2 A1 A2 Z1 Z2 (by omega)
  obtain ⟨P2, y2, a2⟩ := glue2 A1 X Z1 Z4 (by omega)
  obtain ⟨P3, y3, a3⟩ := glue2 P2 A3 y2 Z3 (by omega)
  obtain ⟨P4, y4, a4⟩ := glue2 P2 A2 y2 Z2 (by omega)
  have HI := Lib.hid hi
  clear EI EJ EM hx hr hr0 h0 hi hj hpl hs
  obtain rfl | rfl | rfl : m = 0 ∨ m = 1 ∨ m = 2 := by omega
  all_goals clear hm
  · go_enter Tryd.func18, Tryd.ntmps18
    go_wp2_with fail
    refine (HP.out w).mono ?_
    rintro e w1 ⟨rfl, rfl⟩
    go_wp2_with fail
    go_quiet (fail)
    go_wp2
    go_ret
    refine ⟨P1, ?_, rfl, below_drew (Below.refl _ _) _⟩
    have := y1.out; have := HI.out; omega
  · go_enter Tryd.func18, Tryd.ntmps18
    go_wp2_with fail
    refine (HP.out w).mono ?_
    rintro e w1 ⟨rfl, rfl⟩
    go_wp2_with fail
    go_quiet (fail)
    go_wp2
    go_ret
    refine ⟨P3, ?_, rfl, below_drew (Below.refl _ _) _⟩
    have := y3.out; have := HI.out; omega
  · go_enter Tryd.func18, Tryd.ntmps18
    go_wp2_with fail
    refine (HP.out w).mono ?_
    rintro e w1 ⟨rfl, rfl⟩
    go_wp2_with fail
    go_quiet (fail)
    go_wp2
    go_ret
    refine ⟨P4, ?_, rfl, below_drew (Below.refl _ _) _⟩
    have := y4.out; have := HI.out; omega

end Go.Proofs.YtcopddepnphfmaaDoor.Tmake
