/- The program's call: a function's name and arguments, if a text calls one. -/
import Derived.WalkLawsBesides
import Derived.Test.YtndnialpedocnaaUargs
import Derived.Test.YtndnialpedocnaaUfind
namespace Go.Proofs.Ytndnialpedocnaa.Ucall
open Go.RowKit Go.Proofs.Ytndnialpedocnaa.Strs Go.Proofs.Ytndnialpedocnaa.Spl Go.Proofs.Ytndnialpedocnaa.Upl Go.Proofs.Ytndnialpedocnaa.Uout Go.Proofs.Ytndnialpedocnaa.Ulft Go.Proofs.Ytndnialpedocnaa.Uargs Go.Proofs.Ytndnialpedocnaa.Ufind
open Go.Proofs.Ytndnialpedocnaa.Pure (bs isBl left)
open Go.Proofs.Ytndnialpedocnaa.Fpl (lookI tab zero Inf)

/-- an error, told by a panic -/
def errPan (k : Nat) : Ending := .panicked [{ v := .iface 26 (.int .i64 (k : Int)), recovered := false }]

theorem left_cases (d : T) : ((left d).length = d.length ∧ (∀ b r, d = b :: r → isBl b = false)) ∨ ((left d).length < d.length ∧ ∃ b r, d = b :: r ∧ isBl b = true) := by
  cases d with
  | nil => exact .inl ⟨rfl, fun b r h => by cases h⟩
  | cons b r =>
    cases hb : isBl b with
    | false =>
      refine .inl ⟨?_, fun b' r' h => by cases h; exact hb⟩
      unfold left
      rw [List.dropWhile_cons, if_neg (by rw [hb]; exact Bool.false_ne_true)]
    | true =>
      refine .inr ⟨?_, b, r, rfl, hb⟩
      have h : left (b :: r) = left r := by
        unfold left
        rw [List.dropWhile_cons, if_pos hb]
      rw [h, List.length_cons]
      have := Pure.left_length r
      omega
theorem name_cases (s : T) : (nameP s = none ∧ (left (s.dropWhile letB)).length = (s.dropWhile letB).length) ∨ (nameP s = none ∧ (left (s.dropWhile letB)).length < (s.dropWhile letB).length ∧ lookI tab (lead s) = none) ∨ ∃ i, nameP s = some (lead s, s.dropWhile letB, i) ∧ (left (s.dropWhile letB)).length < (s.dropWhile letB).length ∧ lookI tab (lead s) = some i := by
  rcases left_cases (s.dropWhile letB) with ⟨h1, h2⟩ | ⟨h1, b, r, h2, h3⟩
  · refine .inl ⟨?_, h1⟩
    unfold nameP
    cases hd : s.dropWhile letB with
    | nil => rfl
    | cons b r =>
      cases lookI tab (s.takeWhile letB) with
      | none => rfl
      | some i =>
        dsimp only
        rw [h2 b r hd]
        rfl
  · refine .inr ?_
    unfold nameP lead
    rw [h2] at h1 ⊢
    cases hl : lookI tab (s.takeWhile letB) with
    | none => exact .inl ⟨rfl, h1, rfl⟩
    | some i =>
      refine .inr ⟨i, ?_, h1, rfl⟩
      dsimp only
      rw [h3]
      rfl
theorem drop_len (s : T) : s.length = (lead s).length + (s.dropWhile letB).length := by
  have e : lead s ++ s.dropWhile letB = s := List.takeWhile_append_dropWhile
  rw [← List.length_append, e]

set_option maxRecDepth 100000 in
set_option maxHeartbeats 1000000 in
/-- no call -/
theorem call_none (s : T) (o c : UInt8) (w : World) (hs : s.length ≤ 1000000) (hn : nameP s = none) :
    Calls Try.prog 39 #[.agg #[.string (bs [o]), .string (bs [c])], .string (bs s)] w fun e W' => e = .returned (.tuple #[.string .empty, .slice none 0 0, .bool false]) ∧ Below w.heap.size w W' := by
  have hdl := drop_len s
  have hp1 := part_to s (lead s).length
  have hp2 := part_from s (lead s).length
  rw [(lead_eq s).1] at hp1
  rw [(lead_eq s).2] at hp2
  have hsz : (bs s).size = s.length := Pure.size_bs s
  have hle := lead_len s
  have HN := Lib.hid (fun W => nameEnd_is s W hs)
  have hlb : Pure.leftB (bs (s.dropWhile letB)) = bs (left (s.dropWhile letB)) := rfl
  have HL := Lib.hid (fun W => left_any (bs (s.dropWhile letB)) W (by rw [Pure.size_bs]; unfold maxLen; omega))
  rw [hlb] at HL
  have hsz2 : (bs (left (s.dropWhile letB))).size = (left (s.dropWhile letB)).length := Pure.size_bs _
  have HB0 := Lib.hid ((Below.refl w.heap.size w).alloc (Nat.le_refl _) (.cells #[.string (bs [o]), .string (bs [c])] 59))
  rcases name_cases s with ⟨_, h1⟩ | ⟨_, h1, h2⟩ | ⟨i, h1, _⟩
  · generalize lead s = nm at *
    generalize left (s.dropWhile letB) = lf at *
    generalize s.dropWhile letB = d at *
    have q1 : (((lf.length : Nat) : Int) == ((s.length : Nat) : Int) - ((nm.length : Nat) : Int)) = true := by rw [beq_iff_eq]; omega
    clear hdl hlb hn
    go_enter Try.func39, Try.ntmps39
    go_wp2_with (first | (go_at_call 44; refine (HN.out _).mono ?_; rintro e W2 ⟨rfl, rfl⟩) | (go_at_call 45; refine (HL.out _).mono ?_; rintro e W3 ⟨rfl, rfl⟩))
    go_ret3
    exact ⟨rfl, HB0.out⟩
  · have HF := Lib.hid (fun W => find_is (bs (lead s)) W (by rw [Pure.size_bs]; unfold maxLen; omega))
    have hfv : findV (bs (lead s)) = .tuple #[.agg #[.int .i64 0, .int .i64 0, .bool false, .bool false], .bool false] := by
      unfold findV
      rw [show (bs (lead s)).data.toList = lead s from rfl, h2]
      rfl
    rw [hfv] at HF
    clear hfv h2
    generalize lead s = nm at *
    generalize left (s.dropWhile letB) = lf at *
    generalize s.dropWhile letB = d at *
    have q1 : (((lf.length : Nat) : Int) == ((s.length : Nat) : Int) - ((nm.length : Nat) : Int)) = false := by rw [beq_eq_false_iff_ne]; omega
    clear hdl hlb
    go_enter Try.func39, Try.ntmps39
    go_wp2_with (first | (go_at_call 44; refine (HN.out _).mono ?_; rintro e W2 ⟨rfl, rfl⟩) | (go_at_call 45; refine (HL.out _).mono ?_; rintro e W3 ⟨rfl, rfl⟩) | (go_at_call 46; refine (HF.out _).mono ?_; rintro e W4 ⟨rfl, hb4⟩; have HB4 := Lib.hid hb4; clear hb4))
    go_ret3
    have h4 := HB4.out
    have h5 := h4.size
    rw [World.size_alloc] at h4 h5
    exact ⟨rfl, (HB0.out.trans (h4.mono (by omega))).alloc (by omega) _⟩
  · rw [hn] at h1; cases h1

set_option maxRecDepth 100000 in
set_option maxHeartbeats 1000000 in
/-- a call -/
theorem call_some (s : T) (o c : UInt8) (w : World) (hs : s.length ≤ 1000000) (ho : (44 : UInt8) ≠ o) (hc : (44 : UInt8) ≠ c) (hne : c ≠ o) (f r : T) (n1 n2 : Nat) (lz pu : Bool) (hn : nameP s = some (f, r, ⟨n1, n2, lz, pu⟩)) (hb : n2 ≤ 100) :
    Calls Try.prog 39 #[.agg #[.string (bs [o]), .string (bs [c])], .string (bs s)] w fun e W' => (if (argsP o c 0 (more n2 0) [] (left r)).length < n1 then e = errPan 5 else ∃ A cp, e = .returned (.tuple #[.string (bs f), .slice A (argsP o c 0 (more n2 0) [] (left r)).length cp, .bool true]) ∧ SlIs W' A cp ((argsP o c 0 (more n2 0) [] (left r)).map bs)) ∧ Below w.heap.size w W' := by
  have hdl := drop_len s
  have hp1 := part_to s (lead s).length
  have hp2 := part_from s (lead s).length
  rw [(lead_eq s).1] at hp1
  rw [(lead_eq s).2] at hp2
  have hsz : (bs s).size = s.length := Pure.size_bs s
  have hle := lead_len s
  have HN := Lib.hid (fun W => nameEnd_is s W hs)
  have hlb : Pure.leftB (bs (s.dropWhile letB)) = bs (left (s.dropWhile letB)) := rfl
  have HL := Lib.hid (fun W => left_any (bs (s.dropWhile letB)) W (by rw [Pure.size_bs]; unfold maxLen; omega))
  rw [hlb] at HL
  have hsz2 : (bs (left (s.dropWhile letB))).size = (left (s.dropWhile letB)).length := Pure.size_bs _
  have HB0 := Lib.hid ((Below.refl w.heap.size w).alloc (Nat.le_refl _) (.cells #[.string (bs [o]), .string (bs [c])] 59))
  have HG0 := Lib.hid (heap_alloc_new w (.cells #[.string (bs [o]), .string (bs [c])] 59))
  rcases name_cases s with ⟨h1, _⟩ | ⟨h1, _⟩ | ⟨i, h1, h3, h2⟩
  · rw [hn] at h1; cases h1
  · rw [hn] at h1; cases h1
  · rw [hn] at h1
    simp only [Option.some.injEq, Prod.mk.injEq] at h1
    obtain ⟨rfl, rfl, rfl⟩ := h1
    have HF := Lib.hid (fun W => find_is (bs (lead s)) W (by rw [Pure.size_bs]; unfold maxLen; omega))
    have hfv : findV (bs (lead s)) = .tuple #[.agg #[.int .i64 n1, .int .i64 n2, .bool lz, .bool pu], .bool true] := by
      unfold findV
      rw [show (bs (lead s)).data.toList = lead s from rfl, h2]
      rfl
    rw [hfv] at HF
    clear hfv h2 hn
    have hll : (left (s.dropWhile letB)).length ≤ 1000000 := by omega
    have HA := Lib.hid (fun W => args_is (left (s.dropWhile letB)) n2 o c W hll hb ho hc hne)
    generalize lead s = nm at *
    generalize left (s.dropWhile letB) = lf at *
    generalize s.dropWhile letB = d at *
    generalize argsP o c 0 (more n2 0) [] lf = R at *
    have q1 : (((lf.length : Nat) : Int) == ((s.length : Nat) : Int) - ((nm.length : Nat) : Int)) = false := by rw [beq_eq_false_iff_ne]; omega
    clear hdl hlb
    go_enter Try.func39, Try.ntmps39
    go_upto_region 8 with (first | (go_at_call 44; refine (HN.out _).mono ?_; rintro e W2 ⟨rfl, rfl⟩) | (go_at_call 45; refine (HL.out _).mono ?_; rintro e W3 ⟨rfl, rfl⟩) | (go_at_call 46; refine (HF.out _).mono ?_; rintro e W4 ⟨rfl, hb4⟩; have HB4 := Lib.hid hb4; clear hb4))
    have hb4 := HB4.out
    have hz4 := hb4.size
    rw [World.size_alloc] at hz4
    have hg4 : W4.heap[w.heap.size]? = some (.cells #[.string (bs [o]), .string (bs [c])] 59) := (hb4.block _ (by rw [World.size_alloc]; omega)).trans HG0.out
    have hb04 : Below w.heap.size w W4 := HB0.out.trans (hb4.mono (by rw [World.size_alloc]; omega))
    obtain ⟨W5, hW5⟩ : ∃ W5, W5 = W4.alloc (.cells #[.int .i64 n1, .int .i64 n2, .bool lz, .bool pu] 83) := ⟨_, rfl⟩
    rw [← hW5]
    have hi5 : W5.heap[W4.heap.size]? = some (.cells #[.int .i64 n1, .int .i64 n2, .bool lz, .bool pu] 83) := by rw [hW5]; exact heap_alloc_new W4 _
    have hg5 : W5.heap[w.heap.size]? = some (.cells #[.string (bs [o]), .string (bs [c])] 59) := by rw [hW5]; exact (Lib.alloc_old W4 _ _ (by omega)).trans hg4
    have hz5 : W4.heap.size < W5.heap.size := by rw [hW5, World.size_alloc]; omega
    have hb05 : Below w.heap.size w W5 := by rw [hW5]; exact hb04.alloc (by omega) _
    have HB5 := Lib.hid hb05
    have HI5 := Lib.hid hi5
    have c0 : W5.cell? ⟨w.heap.size, 0, none⟩ = some (.string (bs [o])) := by rw [Lib.cell_of_heap hg5]; rfl
    have c1 : W5.cell? ⟨w.heap.size, 1, none⟩ = some (.string (bs [c])) := by rw [Lib.cell_of_heap hg5]; rfl
    have k0 : W5.cell? ⟨W4.heap.size, 0, none⟩ = some (.int .i64 n1) := by rw [Lib.cell_of_heap hi5]; rfl
    have k1 : W5.cell? ⟨W4.heap.size, 1, none⟩ = some (.int .i64 n2) := by rw [Lib.cell_of_heap hi5]; rfl
    clear hW5 hi5 hg5 hg4 hb4 hb04 hb05 HB4
    by_cases hfew : R.length < n1
    · have HFW := Lib.hid hfew
      have q2 : ((R.length : Nat) : Int) < ((n1 : Nat) : Int) := by omega
      go_wp2_with (go_at_call 47; refine (HA.out _).mono ?_; rintro e W6 ⟨A, cp, rfl, hsl, hb6⟩; have d0 : W6.cell? ⟨W4.heap.size, 0, none⟩ = some (.int .i64 n1) := (by rw [Lib.cell_of_heap ((hb6.block _ hz5).trans HI5.out)]; rfl); have HB6 := Lib.hid hb6; clear hsl hb6)
      refine ⟨rfl, ?_, HB5.out.trans (HB6.out.mono HB5.out.size)⟩
      first | rfl | (rw [if_pos HFW.out]; rfl)
    · have HFW := Lib.hid hfew
      have q2 : ¬ ((R.length : Nat) : Int) < ((n1 : Nat) : Int) := by omega
      go_wp2_with (go_at_call 47; refine (HA.out _).mono ?_; rintro e W6 ⟨A, cp, rfl, hsl, hb6⟩; have d0 : W6.cell? ⟨W4.heap.size, 0, none⟩ = some (.int .i64 n1) := (by rw [Lib.cell_of_heap ((hb6.block _ hz5).trans HI5.out)]; rfl); have HB6 := Lib.hid hb6; have HSl := Lib.hid hsl; clear hsl hb6)
      go_ret3
      refine ⟨?_, HB5.out.trans (HB6.out.mono HB5.out.size)⟩
      first | exact ⟨A, cp, rfl, HSl.out⟩ | (rw [if_neg HFW.out]; exact ⟨A, cp, rfl, HSl.out⟩)

end Go.Proofs.Ytndnialpedocnaa.Ucall
