/- The program's block: the most that is ever on a block's pile; 0: the block may not be. -/
import Derived.Test.YtpphkaolonjjdaaDoorJfmJ
import Derived.Test.YtpphkaolonjjdaaDoorJftJ
namespace Go.Proofs.YtpphkaolonjjdaaDoor.Jbk
open Go Go.RowKit Go.Proofs.YtpphkaolonjjdaaDoor.Spl Go.Proofs.YtpphkaolonjjdaaDoor.Nodm Go.Proofs.YtpphkaolonjjdaaDoor.Fpl Go.Proofs.YtpphkaolonjjdaaDoor.Fmp Go.Proofs.YtpphkaolonjjdaaDoor.Cpl Go.Proofs.YtpphkaolonjjdaaDoor.Cin Go.Proofs.YtpphkaolonjjdaaDoor.Cops Go.Proofs.YtpphkaolonjjdaaDoor.Dpl Go.Proofs.YtpphkaolonjjdaaDoor.Jkd Go.Proofs.YtpphkaolonjjdaaDoor.Jmp Go.Proofs.YtpphkaolonjjdaaDoor.Jbh
open Go.Proofs.YtpphkaolonjjdaaDoor.Jfn (cells_3)
open Go.Proofs.YtpphkaolonjjdaaDoor.Pure (bs)

/-- an instruction whose lengths and number are in reach -/
def Oko (o : Opp) : Prop := o.l.length ≤ 1000000000000000 ∧ o.s.length ≤ maxLen ∧ -9223372036854775808 ≤ o.n ∧ o.n ≤ 9223372036854775807
/-- what block answers: 0, if the block may not be -/
def most (own q : Nat) (l : List Opp) : Int := if blockP own q l < 0 then 0 else blockP own q l
def Answers (w0 : World) (own q f r : Nat) (w : World) (l : List Opp) (e : Ending) (W : World) : Prop := e = .returned (.int .i64 (most own q l)) ∧ Fr f r w W ∧ FTab f W ∧ (0 ≤ blockP own q l → St w0 own q f r W)

theorem block_none {own q : Nat} {l : List Opp} {j : Nat} {o : Opp} {x y : Int} (hj : l[j]? = some o) (h : runP own q (l.take j) 0 0 = some (x, y)) (hb : takesP own q o < 0 ∨ x < takesP own q o) : blockP own q l = -1 := by
  have h1 := run_step own q l hj h
  rw [if_pos hb] at h1
  unfold blockP
  rw [run_none own q l h1]
theorem most_none {own q : Nat} {l : List Opp} (h : blockP own q l = -1) : most own q l = 0 := by unfold most; rw [h]; rfl

set_option maxRecDepth 100000 in
set_option maxHeartbeats 8000000 in
theorem block_is (w0 : World) (own q f r : Nat) (A : Option Addr) (c : Nat) (l : List Opp) (w : World) (hK : Knd w0) (h : St w0 own q f r w) (hr : OpsRow (Unm w0) w0 A l) (hl : l.length ≤ 1000000000000000) (ho : ∀ o ∈ l, Oko o) :
    Calls Tryd.prog 19 #[walkV q f r, .slice A l.length c, .int .i64 (own : Int)] w (Answers w0 own q f r w l) := by
  obtain ⟨t, ht⟩ : ∃ t, t = l.length := ⟨_, rfl⟩
  rw [← ht] at hl ⊢
  obtain ⟨w1, hw1⟩ : ∃ w1, w.alloc (.cells #[.int .i64 (q : Int), .map (some f), .map (some r)] 51) = w1 := ⟨_, rfl⟩
  have hb1 : Below w.heap.size w w1 := by rw [← hw1]; exact (Below.refl _ _).alloc (Nat.le_refl _) _
  have hx1 : w1.heap[w.heap.size]? = some (.cells #[.int .i64 (q : Int), .map (some f), .map (some r)] 51) := by rw [← hw1]; exact heap_alloc_new w _
  have hz1 : w1.heap.size = w.heap.size + 1 := by rw [← hw1]; exact World.size_alloc _ _
  obtain ⟨g, hg⟩ : ∃ g, g = w.heap.size := ⟨_, rfl⟩
  rw [← hg] at hx1 hz1
  have hfg : f < g := by rw [hg]; exact h.lt.1
  have hrg : r < g := by rw [hg]; exact h.lt.2
  have HX : Hid (∀ W, Fr f r w1 W → W.cell? ⟨g, 0, none⟩ = some (.int .i64 (q : Int)) ∧ W.cell? ⟨g, 1, none⟩ = some (.map (some f)) ∧ W.cell? ⟨g, 2, none⟩ = some (.map (some r))) := fun W hW => cells_3 ((hW.block g (by omega) (by omega) (by omega)).trans hx1)
  have HOp : Hid (∀ (j : Nat), j < t → ∃ (o : Opp) (b p c' : Nat) (A' : Option Addr), l[j]? = some o ∧ A = some ⟨b, p, none⟩ ∧ Oko o ∧ NumRow (Unm w0) w0 A' o.l ∧ ∀ W, Below w0.heap.size w0 W → W.cell? ⟨b, p + j * 4, none⟩ = some (.int .i64 o.k) ∧ W.cell? ⟨b, p + j * 4 + 1, none⟩ = some (.int .i64 o.n) ∧ W.cell? ⟨b, p + j * 4 + 2, none⟩ = some (.string (bs o.s)) ∧ W.cell? ⟨b, p + j * 4 + 3, none⟩ = some (.slice A' o.l.length c')) := fun j hj => by
    have hy : l[j]? = some l[j] := List.getElem?_eq_getElem (by omega)
    obtain ⟨b, p, e1, hb, A', c', hc', hn, h0, h1, h2, h3⟩ := hr.get hy
    exact ⟨_, b, p, c', A', hy, e1, ho _ (List.mem_of_getElem? hy), hn, fun W hW => ⟨(hW.cell (p := ⟨b, _, none⟩) hb).trans h0, (hW.cell (p := ⟨b, _, none⟩) hb).trans h1, (hW.cell (p := ⟨b, _, none⟩) hb).trans h2, (hW.cell (p := ⟨b, _, none⟩) hb).trans h3⟩⟩
  have HW1 := Lib.hid hw1
  have HG := Lib.hid hg
  have HT := Lib.hid ht
  have HK := Lib.hid hK
  have HS1 : Hid (St w0 own q f r w1) := h.on hb1
  have HF1 : Hid (Fr f r w w1) := Fr.of hb1
  have HNo : Hid (∀ W, blockP own q l = -1 → Fr f r w1 W → FTab f W → Answers w0 own q f r w l (.returned (.int .i64 0)) W) := fun W h1 h2 h3 => ⟨by rw [most_none h1], HF1.out.trans h2, h3, fun h => by rw [h1] at h; omega⟩
  unfold walkV
  clear hw1 hb1 h hx1 hg hz1 hr ho ht hK
  go_enter Tryd.func19, Tryd.ntmps19
  go_upto_region 1 with fail
  rw [HW1.out, ← HG.out]
  go_upto_region 3 with fail
  go_loopw [7, 8, 13] (fun n m i wr => ∃ (j : Nat) (x y : Int), j ≤ t ∧ i = .int .i64 (j : Int) ∧ n = .int .i64 x ∧ m = .int .i64 y ∧ 0 ≤ x ∧ x ≤ (j : Int) ∧ 0 ≤ y ∧ y ≤ (j : Int) ∧ Hid (runP own q (l.take j) 0 0 = some (x, y)) ∧ Hid (St w0 own q f r wr ∧ Fr f r w1 wr)) (fun _ _ i _ => t - (intOf i).toNat)
  case atStart => exact ⟨0, 0, 0, Nat.zero_le _, rfl, rfl, rfl, by omega, by omega, by omega, by omega, rfl, HS1.out, Fr.refl _ _ _⟩
  case round =>
    obtain ⟨j, x, y, hj, rfl, rfl, rfl, hx0, hxj, hy0, hyj, HR, HS⟩ := hrel
    by_cases hlt : j < t
    · have hjt : (j : Int) < (t : Int) := by omega
      obtain ⟨o, b, p, c', A', hoj, rfl, hok, hnr, hcs⟩ := HOp.out j hlt
      obtain ⟨d0, d1, d2, d3⟩ := hcs wr HS.out.1.bel
      obtain ⟨wa, hwa⟩ : ∃ wa, wr.alloc (.cells #[.int .i64 o.k, .int .i64 o.n, .string (bs o.s), .slice A' o.l.length c'] 40) = wa := ⟨_, rfl⟩
      have hba : Below wr.heap.size wr wa := by rw [← hwa]; exact (Below.refl _ _).alloc (Nat.le_refl _) _
      have hxa : wa.heap[wr.heap.size]? = some (.cells #[.int .i64 o.k, .int .i64 o.n, .string (bs o.s), .slice A' o.l.length c'] 40) := by rw [← hwa]; exact heap_alloc_new wr _
      have hza : wa.heap.size = wr.heap.size + 1 := by rw [← hwa]; exact World.size_alloc _ _
      obtain ⟨ga, hga⟩ : ∃ ga, ga = wr.heap.size := ⟨_, rfl⟩
      rw [← hga] at hxa hza
      have hfa : f < ga := by rw [hga]; exact HS.out.1.lt.1
      have hra : r < ga := by rw [hga]; exact HS.out.1.lt.2
      have HXa : Hid (∀ W, Fr f r wa W → W.cell? ⟨ga, 0, none⟩ = some (.int .i64 o.k) ∧ W.cell? ⟨ga, 1, none⟩ = some (.int .i64 o.n) ∧ W.cell? ⟨ga, 2, none⟩ = some (.string (bs o.s)) ∧ W.cell? ⟨ga, 3, none⟩ = some (.slice A' o.l.length c')) := fun W hW => cells_four ((hW.block ga (by omega) (by omega) (by omega)).trans hxa)
      have HSa : Hid (St w0 own q f r wa ∧ Fr f r w1 wa) := ⟨HS.out.1.on hba, HS.out.2.then hba⟩
      have HFo : Hid (Calls Tryd.prog 25 #[.agg #[.int .i64 o.k, .int .i64 o.n, .string (bs o.s), .slice A' o.l.length c']] wa fun e W' => e = .returned (.bool (formB o)) ∧ Below wa.heap.size wa W') := Jfm.formed_is o A' c' wa (HK.out.on HSa.out.1.bel)
      have HFt := Lib.hid (fun (W : World) (hW : St w0 own q f r W) => Jft.fits_is w0 own q f r o A' c' W hW hok.2.1 hnr hok.1)
      have HTk := Lib.hid (fun (W : World) (hW : Below w0.heap.size w0 W) (hf : formB o = true) => Jfm.taken_is o A' c' W (HK.out.on hW) hf hok.2.2.1 hok.2.2.2)
      have HWa := Lib.hid hwa
      have HGa := Lib.hid hga
      have HBad : Hid (takesP own q o < 0 ∨ x < takesP own q o → blockP own q l = -1) := fun h => block_none hoj HR.out h
      have HNext : Hid (¬ (takesP own q o < 0 ∨ x < takesP own q o) → runP own q (l.take (j + 1)) 0 0 = some (x - takesP own q o + 1, max y (x - takesP own q o + 1))) := fun h => by
        have h1 := run_step own q l hoj HR.out
        rw [if_neg h] at h1
        exact h1
      have HTf : Hid (formB o = false → takesP own q o = -1) := fun h => takes_form h
      have HTg : Hid (formB o = true → (takesP own q o < 0 ↔ fitO own q o = false)) := fun h => takes_fit h
      have HTt : Hid (formB o = true → fitO own q o = true → takesP own q o = takenZ o) := fun h h2 => takes_taken h h2
      unfold walkV at HFt
      generalize o.k = k at *
      generalize o.n = n at *
      generalize bs o.s = s at *
      generalize o.l.length = m at *
      generalize takesP own q o = tk at *
      generalize takenZ o = tz at *
      generalize formB o = fo at *
      generalize fitO own q o = fi at *
      clear hoj hok hnr hcs hwa hba hxa hza hga
      go_upto_region 5 with fail
      rw [HWa.out, ← HGa.out]
      obtain ⟨x0, x1, x2⟩ := HX.out wa HSa.out.2
      obtain ⟨c0, c1, c2, c3⟩ := HXa.out wa (Fr.refl _ _ _)
      clear d0 d1 d2 d3
      cases fo
      · have HS0 : Hid (∀ W, Below wa.heap.size wa W → Answers w0 own q f r w l (.returned (.int .i64 0)) W) := fun W hW => HNo.out W (HBad.out (.inl (by rw [HTf.out rfl]; decide))) (HSa.out.2.then hW) (HSa.out.1.on hW).F
        clear HBad HNext HTf HTg HTt HFt HTk
        go_wp2_with (go_at_call 25; refine HFo.out.mono ?_; rintro e wb ⟨rfl, hbb⟩; have HSb := Lib.hid (HS0.out wb hbb); clear hbb)
        go_ret
        exact HSb.out
      · have HTg := Lib.hid (HTg.out rfl)
        have HTt := Lib.hid (HTt.out rfl)
        cases fi
        · have HS0 : Hid (∀ W, FTab f W → Fr f r w1 W → Answers w0 own q f r w l (.returned (.int .i64 0)) W) := fun W h1 h2 => HNo.out W (HBad.out (.inl (HTg.out.2 rfl))) h2 h1
          clear HBad HNext HTf HTk HTt
          go_wp2_with (first
            | (go_at_call 25; refine HFo.out.mono ?_; rintro e wb ⟨rfl, hbb⟩; have HSb := Lib.hid (And.intro (HSa.out.1.on hbb) (HSa.out.2.then hbb)); obtain ⟨x0, x1, x2⟩ := HX.out wb HSb.out.2; obtain ⟨c0, c1, c2, c3⟩ := HXa.out wb (Fr.of hbb); clear hbb HFo)
            | (go_at_call 26; refine (HFt.out wb HSb.out.1).mono ?_; rintro e wc ⟨rfl, hfc, htc, _⟩; have HSc := Lib.hid (HS0.out wc htc (HSb.out.2.trans hfc)); clear hfc htc))
          go_ret
          exact HSc.out
        · have htk := HTt.out rfl
          subst htk
          have hz0 : 0 ≤ tk := by
            by_cases hn : tk < 0
            · have := HTg.out.1 hn; cases this
            · omega
          clear HTg HTt HTf
          have K0 : Hid True := trivial
          by_cases hbig : x < tk
          · have HS0 : Hid (∀ W, FTab f W → Fr f r w1 W → Answers w0 own q f r w l (.returned (.int .i64 0)) W) := fun W h1 h2 => HNo.out W (HBad.out (.inr hbig)) h2 h1
            clear HNext HBad
            go_wp2_with (first
            | (go_at_call 25; refine HFo.out.mono ?_; rintro e wb ⟨rfl, hbb⟩; have HSb := Lib.hid (And.intro (HSa.out.1.on hbb) (And.intro (HSa.out.2.then hbb) (Fr.of (f := f) (r := r) hbb))); obtain ⟨x0, x1, x2⟩ := HX.out wb HSb.out.2.1; obtain ⟨c0, c1, c2, c3⟩ := HXa.out wb (Fr.of hbb); clear hbb HFo)
            | (go_at_call 26; refine (HFt.out wb HSb.out.1).mono ?_; rintro e wc ⟨rfl, hfc, _, hsc⟩; have HSc := Lib.hid (And.intro (hsc rfl) (And.intro (HSb.out.2.1.trans hfc) (HSb.out.2.2.trans hfc))); obtain ⟨c0, c1, c2, c3⟩ := HXa.out wc HSc.out.2.2; clear hfc hsc HFt)
            | (go_at_call 27; clear K0; refine (HTk.out wc HSc.out.1.bel (by first | rfl | trivial)).mono ?_; rintro e wd ⟨rfl, hbd⟩; have HSd := Lib.hid (And.intro (HSc.out.1.on hbd) (And.intro (HSc.out.2.1.then hbd) (HSc.out.2.2.then hbd))); obtain ⟨c0, c1, c2, c3⟩ := HXa.out wd HSd.out.2.2; clear hbd))
            go_ret
            exact HS0.out _ HSd.out.1.F HSd.out.2.1
          · have HN := Lib.hid (HNext.out (by omega))
            clear HNext HBad
            have hw1 : IntKind.i64.wrap (1 - tk) = 1 - tk := IntWalk.i64_in _ (by omega)
            have hw2 : IntKind.i64.wrap (x + (1 - tk)) = x + (1 - tk) := IntWalk.i64_in _ (by omega)
            go_wp2_with (first
            | (go_at_call 25; refine HFo.out.mono ?_; rintro e wb ⟨rfl, hbb⟩; have HSb := Lib.hid (And.intro (HSa.out.1.on hbb) (And.intro (HSa.out.2.then hbb) (Fr.of (f := f) (r := r) hbb))); obtain ⟨x0, x1, x2⟩ := HX.out wb HSb.out.2.1; obtain ⟨c0, c1, c2, c3⟩ := HXa.out wb (Fr.of hbb); clear hbb HFo)
            | (go_at_call 26; refine (HFt.out wb HSb.out.1).mono ?_; rintro e wc ⟨rfl, hfc, _, hsc⟩; have HSc := Lib.hid (And.intro (hsc rfl) (And.intro (HSb.out.2.1.trans hfc) (HSb.out.2.2.trans hfc))); obtain ⟨c0, c1, c2, c3⟩ := HXa.out wc HSc.out.2.2; clear hfc hsc HFt)
            | (go_at_call 27; clear K0; refine (HTk.out wc HSc.out.1.bel (by first | rfl | trivial)).mono ?_; rintro e wd ⟨rfl, hbd⟩; have HSd := Lib.hid (And.intro (HSc.out.1.on hbd) (And.intro (HSc.out.2.1.then hbd) (HSc.out.2.2.then hbd))); obtain ⟨c0, c1, c2, c3⟩ := HXa.out wd HSd.out.2.2; clear hbd)
            | (go_at_call 27; refine (HTk.out wd HSd.out.1.bel (by first | rfl | trivial)).mono ?_; rintro e we ⟨rfl, hbe⟩; have HSe := Lib.hid (And.intro (HSd.out.1.on hbe) (HSd.out.2.1.then hbe)); clear hbe))
            go_roundw
            case rel => exact ⟨j + 1, x - tk + 1, max y (x - tk + 1), by omega, by go_num, congrArg _ (by omega), congrArg _ (by split <;> omega), by omega, by omega, by omega, by omega, HN, HSe⟩
            case measure => simp [intOf]; omega
    · obtain rfl : t = j := by omega
      have hr := HR.out
      rw [show l.take t = l by rw [HT.out]; exact List.take_length] at hr
      have hb : blockP own q l = if x = 1 then y else -1 := by unfold blockP; rw [hr]
      by_cases h1 : x = 1
      · rw [if_pos h1] at hb
        have HE : Hid (Answers w0 own q f r w l (.returned (.int .i64 y)) wr) := ⟨by unfold most; rw [hb, if_neg (by omega)], HF1.out.trans HS.out.2, HS.out.1.F, fun _ => HS.out.1⟩
        subst h1
        clear hr hb
        go_wp2
        go_ret
        exact HE.out
      · rw [if_neg h1] at hb
        have HE := Lib.hid (HNo.out wr hb HS.out.2 HS.out.1.F)
        have h1b : (x == 1) = false := by rw [beq_eq_false_iff_ne]; exact h1
        clear hr hb
        go_wp2
        go_ret
        exact HE.out

end Go.Proofs.YtpphkaolonjjdaaDoor.Jbk
