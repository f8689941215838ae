/- The document's put. -/
import Derived.Deep.DeepCutAuto
import Derived.Test.YtghfmbmdfojapaaGreatDoorWownJ
namespace Go.Proofs.YtghfmbmdfojapaaGreatDoor.Wput
open Go.RowKit Go.Proofs.YtghfmbmdfojapaaGreatDoor.Pth Go.Proofs.YtghfmbmdfojapaaGreatDoor.Strs Go.Proofs.YtghfmbmdfojapaaGreatDoor.Vfs Go.Proofs.YtghfmbmdfojapaaGreatDoor.Vmap Go.Proofs.YtghfmbmdfojapaaGreatDoor.Vnames Go.Proofs.YtghfmbmdfojapaaGreatDoor.Vnew Go.Proofs.YtghfmbmdfojapaaGreatDoor.Vsort Go.Proofs.YtghfmbmdfojapaaGreatDoor.Vall Go.Proofs.YtghfmbmdfojapaaGreatDoor.Wfind Go.Proofs.YtghfmbmdfojapaaGreatDoor.Wfs Go.Proofs.YtghfmbmdfojapaaGreatDoor.Wown
open Go.Proofs.YtghfmbmdfojapaaGreatDoor.Prabs (refAbs_is refParts_is own_form flat_snoc flat_take_le sum2)

theorem abs_empty (s : ByteArray) (h : s.size = 0) : (s.toList == []) = true := by
  rw [Lib.toList_data, List.eq_nil_of_length_eq_zero (l := s.data.toList) h]; rfl
theorem abs_full (s : ByteArray) (h : s.size ≠ 0) : (s.toList == []) = false := by
  rw [Lib.toList_data, beq_eq_false_iff_ne]
  intro e
  exact h (by rw [← len_data, e]; rfl)

set_option maxRecDepth 100000 in
set_option maxHeartbeats 8000000 in
theorem put_is (w : World) (f base : Nat) (L : List Ent) (x : Raw) (m : Nat) (h : FOwn w base f (rows L)) (hi : Vfs.Inv L) (hx : RawSmall x) (hs : Small m L) (hm : m + (partsOf x.path).length ≤ 900000000) (hbase : base ≤ w.heap.size) :
    Calls Tryz.prog 16 #[.pointer (some ⟨f, 0, none⟩), .agg #[.string x.path, .bool x.dir, .string x.text]] w fun e W' => e = .returned (.tuple #[]) ∧ FOwn W' base f (rows (putE L x)) ∧ Below base w W' := by
  obtain ⟨i0, hi0, hz0, hz1, hz2⟩ := info_parts infoEnt
  have HX := Lib.hid hx
  have HI := Lib.hid hi
  have HH := Lib.hid h
  have HS := Lib.hid hs
  have hfl := h.lt
  have HAbs := Lib.hid (fun W => refAbs_is x.path W hx.path)
  have HT := Lib.hid (abs_text x.path)
  have HG := Lib.hid (partsOf_good x.path)
  have hL := hs.len
  clear h hi hs
  generalize hab : bs (absL x.path.data.toList) = ab at *
  clear hab
  go_enter Tryz.func16, Tryz.ntmps16
  go_wp2_with fail
  refine (HAbs.out _).mono ?_
  rintro e wa ⟨rfl, hba⟩
  have hbw : Below w.heap.size w wa := (alloc_below w _).trans (hba.mono (by simp))
  have hq0 := (hba.block w.heap.size (by simp)).trans (heap_alloc_new w (.cells #[.string x.path, .bool x.dir, .string x.text] 33))
  have c0 : wa.cell? ⟨w.heap.size, 0, none⟩ = some (.string x.path) := by rw [Lib.cell_of_heap hq0]; rfl
  have f0 : wa.frozen? ⟨w.heap.size, 0, none⟩ = false := frozen_of_row _ _ _ _ _ hq0
  have HB1 := Lib.hid (hbw.setCell (p := ⟨w.heap.size, 0, none⟩) (Nat.le_refl _) (.string ab))
  have HQ1 := Lib.hid (heap_setCell_same wa w.heap.size 0 #[.string x.path, .bool x.dir, .string x.text] 33 (.string ab) hq0)
  clear hba hbw hq0 HAbs
  go_upto_region 2 with fail
  generalize wa.setCell ⟨w.heap.size, 0, none⟩ (.string ab) = w1 at *
  clear c0 f0
  have hq1 : w1.heap[w.heap.size]? = some (.cells #[.string ab, .bool x.dir, .string x.text] 33 (0, 0)) := HQ1.out
  have c0 : w1.cell? ⟨w.heap.size, 0, none⟩ = some (.string ab) := by rw [Lib.cell_of_heap hq1]; rfl
  clear hq1
  have hrl : (rows L).length ≤ 1000000000 := by rw [rows_len]; omega
  have HF1 := Lib.hid (HH.out.below HB1.out)
  have hfind := find_is f (rows L) ab w1 HF1.out.fat hrl
  have HPA := Lib.hid hfind
  have HBB := Lib.hid (HB1.out.mono hbase)
  rcases Nat.eq_zero_or_pos ab.size with hz | hz
  · -- the empty text
    have he := abs_empty ab hz
    have HE : Hid (putE L x = L) := put_root L x (by
      rcases HT.out with h1 | ⟨_, h1⟩
      · exfalso
        rw [h1] at hz
        unfold absT orSlash at hz
        rw [size_bs] at hz
        split at hz
        · simp at hz
        · rename_i h2; rw [← h2, h2] at hz; simp at hz
      · exact h1)
    clear hfind hz HT HPA
    go_wp2
    exact bodyPost_ret (v := .tuple #[]) (by simp [results, Tryz.results16, go_sem]) rfl ⟨rfl, by rw [HE.out]; exact HF1.out, HBB.out⟩
  · have he := abs_full ab (by omega)
    have hT : ab = absT (partsOf x.path) := by
      rcases HT.out with h1 | ⟨h1, _⟩
      · exact h1
      · rw [h1] at hz; exact absurd hz (Nat.lt_irrefl _)
    clear HT HPA hz
    -- what find answers
    by_cases hp0 : partsOf x.path = []
    · have HE := Lib.hid (put_root L x hp0)
      rw [hp0] at hT
      have hix : ix (rows L) ab = 0 := ix_at (k := 0) (x := rawRoot) rfl (by rw [hT]; rfl) (fun j hj => absurd hj (Nat.not_lt_zero _))
      rw [hix] at hfind
      have HFi := Lib.hid hfind
      clear hfind hix hT
      go_wp2_with fail
      refine HFi.out.mono ?_
      rintro e wb ⟨rfl, rfl⟩
      go_wp2
      exact bodyPost_ret (v := .tuple #[]) (by simp [results, Tryz.results16, go_sem]) rfl ⟨rfl, by rw [HE.out]; exact HF1.out, HBB.out⟩
    · rw [absT_ne hp0] at hT
      cases hat : at_ L (partsOf x.path) with
      | some e0 =>
        obtain ⟨k, hk, _, hix⟩ := ix_yes HI.out HG.out hat
        rw [← hT] at hix
        rw [hix] at hfind
        have HFi := Lib.hid hfind
        have HE : Hid (putE L x = L) := put_stop HI.out x (j := (partsOf x.path).length) (e := e0) (by rw [List.take_length]; exact hat) (.inl (Nat.le_refl _))
        clear hfind hix hT hat
        go_wp2_with fail
        refine HFi.out.mono ?_
        rintro e wb ⟨rfl, rfl⟩
        go_wp2
        exact bodyPost_ret (v := .tuple #[]) (by simp [results, Tryz.results16, go_sem]) rfl ⟨rfl, by rw [HE.out]; exact HF1.out, HBB.out⟩
      | none =>
        have hix := ix_no HI.out HG.out hat
        rw [← hT] at hix
        rw [hix] at hfind
        have HFi := Lib.hid hfind
        clear hfind hix
        have hdat : ab.data.toList = flatL (partsOf x.path) := by rw [hT]; unfold pathB; rw [data_bs]
        have hzz := parts_small x.path hx.path
        have hsz : ab.size ≤ 2000003 := by rw [← len_data, hdat]; omega
        have hpts := refParts_is ab
        rw [hdat, ne_flat _ HG.out hp0] at hpts
        have HPt := Lib.hid (fun W => hpts W (by omega))
        have HAT := Lib.hid hat
        have HP0 := Lib.hid hp0
        have HAb : Hid (ab = pathB (partsOf x.path)) := hT
        have hn0 : 0 < (partsOf x.path).length := by
          cases hpp : partsOf x.path with
          | nil => exact absurd hpp hp0
          | cons a b => simp
        clear hT hat hp0 hdat hpts
        obtain ⟨n, hn⟩ : ∃ n, n = (partsOf x.path).length := ⟨_, rfl⟩
        have HN := Lib.hid hn
        rw [← hn] at hn0 hzz hm HPt
        go_wp2_with fail
        refine HFi.out.mono ?_
        rintro e wb ⟨rfl, rfl⟩
        clear HFi
        go_wp2_with fail
        refine (HPt.out _).mono ?_
        rintro e w2 ⟨v2, rfl, hown2, hb2⟩
        rw [hn] at hown2
        obtain ⟨Ap, cp, rfl, _, hA⟩ := own_form hown2
        rw [← hn]
        have HA := Lib.hid hA
        have HB2 := Lib.hid (HB1.out.trans (hb2.mono HB1.out.size))
        have HQ2 := Lib.hid ((hb2.block w.heap.size (Array.getElem?_eq_some_iff.1 HQ1.out).1).trans HQ1.out)
        have HPB := Lib.hid (And.intro hown2 hb2.size)
        clear hA hb2 hown2 HPt c0 he hn hx HF1 HBB
        go_wp2_with fail
        have HF2 := Lib.hid (HH.out.below HB2.out)
        go_loopw [5, 6, 7] (fun s5 s6 _ wr => ∃ j : Nat, j + 1 ≤ n ∧ s6 = .int .i64 j ∧ s5 = .string (bs (flatL ((partsOf x.path).take j))) ∧ Hid (∀ i, 0 < i → i ≤ j → ∀ e, at_ L ((partsOf x.path).take i) = some e → e.dir = true) ∧ w2 = wr) (fun _ i _ _ => n - (intOf i).toNat)
        case atStart => exact ⟨0, by omega, rfl, rfl, fun i h0 h1 => absurd h0 (by omega), rfl⟩
        case round =>
          obtain ⟨j, hj, rfl, rfl, HD, rfl⟩ := hrel
          by_cases hlt : j + 1 < n
          · obtain ⟨y, hy⟩ : ∃ y, (partsOf x.path)[j]? = some y := ⟨_, List.getElem?_eq_getElem (by have := HN.out; omega)⟩
            obtain ⟨g3, rfl, hg3, hc3⟩ := HA.out j y hy
            have hft := flat_take_le (partsOf x.path) j
            have HFs := Lib.hid (flat_snoc (partsOf x.path) j y hy)
            have hfs := flat_take_le (partsOf x.path) (j + 1)
            rw [HFs.out, List.length_append, List.length_cons] at hfs
            have HS2 := Lib.hid (sum2 (flatL ((partsOf x.path).take j)) y)
            have zt : (bs (flatL ((partsOf x.path).take j))).size ≤ 3000000 := by rw [size_bs]; omega
            have zy : (bs y).size ≤ 3000000 := by rw [size_bs]; omega
            rw [← HFs.out] at HS2
            have hfi := find_is f (rows L) (pathB ((partsOf x.path).take (j + 1))) w2 HF2.out.fat hrl
            have HGt := Lib.hid (take_good HG.out (j + 1))
            cases hat1 : at_ L ((partsOf x.path).take (j + 1)) with
            | none =>
              rw [ix_no HI.out HGt.out hat1] at hfi
              have HFi := Lib.hid hfi
              have HD2 : Hid (∀ i, 0 < i → i ≤ j + 1 → ∀ e, at_ L ((partsOf x.path).take i) = some e → e.dir = true) := fun i h0 h1 e he => by
                by_cases h2 : i ≤ j
                · exact HD.out i h0 h2 e he
                · obtain rfl : i = j + 1 := by omega
                  rw [hat1] at he; cases he
              unfold pathB at HFi
              clear HFs hfi hat1 HD hft hfs
              generalize bs (flatL ((partsOf x.path).take j)) = t at *
              generalize ht2 : bs (flatL ((partsOf x.path).take (j + 1))) = t2 at *
              have HT2 := Lib.hid ht2
              clear ht2
              generalize bs y = y2 at *
              have z1 : (⟨#[47]⟩ : ByteArray).size = 1 := rfl
              have z2 : (t ++ (⟨#[47]⟩ : ByteArray)).size ≤ 3000001 := by rw [ByteArray.size_append]; omega
              have a1 : ∀ W, (Op.stringOp .add t ⟨#[47]⟩).run Tryz.prog W = .ok (.string (t ++ (⟨#[47]⟩ : ByteArray))) W := fun W => run_string_add_sum W _ _ (by omega)
              have a2 : ∀ W, (Op.stringOp .add (t ++ (⟨#[47]⟩ : ByteArray)) y2).run Tryz.prog W = .ok (.string t2) W := fun W => by rw [run_string_add_sum W _ _ (by omega), HS2.out]
              go_wp2_with fail
              refine HFi.out.mono ?_
              rintro e wb ⟨rfl, rfl⟩
              go_wp2_with fail
              go_roundw
              case rel => exact ⟨j + 1, by omega, by go_num, by rw [HT2.out], HD2, trivial⟩
              case measure => simp [intOf]; omega
            | some e1 =>
              obtain ⟨k, hk, hkx, hix⟩ := ix_yes HI.out HGt.out hat1
              rw [hix] at hfi
              obtain ⟨hf2, A2, c2, hc2, hE2⟩ := HF2.out.fat
              obtain ⟨b2, o2, rfl, _, hcc⟩ := hE2.at_ hkx
              obtain ⟨_, c3, _⟩ := hcc w2 (Below.refl _ _)
              have hd0 : (rawOf e1).dir = e1.dir := rfl
              rw [hd0] at c3
              obtain ⟨k1, hk1⟩ : ∃ k1, k1 = k + 1 := ⟨_, rfl⟩
              rw [← hk1] at hfi c3
              have hk2 : k1 < (rows L).length := by rw [rows_len]; omega
              generalize (rows L).length = nr at *
              have HFi := Lib.hid hfi
              have HHs : Hid (e1.dir = false → putE L x = L) := fun hd => put_stop HI.out x (j := j + 1) (e := e1) hat1 (.inr hd)
              have HD2 : Hid (e1.dir = true → ∀ i, 0 < i → i ≤ j + 1 → ∀ e, at_ L ((partsOf x.path).take i) = some e → e.dir = true) := fun hd i h0 h1 e he => by
                by_cases h2 : i ≤ j
                · exact HD.out i h0 h2 e he
                · obtain rfl : i = j + 1 := by omega
                  rw [hat1] at he
                  rw [← Option.some.inj he]
                  exact hd
              unfold pathB at HFi
              clear HFs hfi hat1 HD hft hfs hcc hE2 hkx hix hk1 hk hd0
              generalize e1.dir = dd at *
              generalize bs (flatL ((partsOf x.path).take j)) = t at *
              generalize ht2 : bs (flatL ((partsOf x.path).take (j + 1))) = t2 at *
              have HT2 := Lib.hid ht2
              clear ht2
              generalize bs y = y2 at *
              have z1 : (⟨#[47]⟩ : ByteArray).size = 1 := rfl
              have z2 : (t ++ (⟨#[47]⟩ : ByteArray)).size ≤ 3000001 := by rw [ByteArray.size_append]; omega
              have a1 : ∀ W, (Op.stringOp .add t ⟨#[47]⟩).run Tryz.prog W = .ok (.string (t ++ (⟨#[47]⟩ : ByteArray))) W := fun W => run_string_add_sum W _ _ (by omega)
              have a2 : ∀ W, (Op.stringOp .add (t ++ (⟨#[47]⟩ : ByteArray)) y2).run Tryz.prog W = .ok (.string t2) W := fun W => by rw [run_string_add_sum W _ _ (by omega), HS2.out]
              have HB3 := Lib.hid (HB2.out.mono hbase)
              cases dd with
              | true =>
                go_wp2_with fail
                refine HFi.out.mono ?_
                rintro e wb ⟨rfl, rfl⟩
                go_wp2_with fail
                go_roundw
                case rel => exact ⟨j + 1, by omega, by go_num, by rw [HT2.out], HD2.out (by trivial), trivial⟩
                case measure => simp [intOf]; omega
              | false =>
                go_wp2_with fail
                refine HFi.out.mono ?_
                rintro e wb ⟨rfl, rfl⟩
                go_wp2
                exact bodyPost_ret (v := .tuple #[]) (by simp [results, Tryz.results16, go_sem]) rfl ⟨rfl, by rw [HHs.out (by trivial)]; exact HF2.out, HB3.out⟩
          · have HOn := Lib.hid (on_start HI.out x HS.out (fun i h0 h1 e he => HD.out i h0 (by have := HN.out; omega) e he) HAT.out)
            obtain ⟨v0, hfb0⟩ := HH.out.start HB2.out hbase
            have HFB0 := Lib.hid hfb0
            clear HD hfb0 HF2
            go_wp2_with fail
            go_loopw [5, 8] (fun s5 s8 wr => ∃ (i : Nat) (L' : List Ent) (v : Value), i + 1 ≤ n ∧ s8 = .int .i64 i ∧ s5 = .string (bs (flatL ((partsOf x.path).take i))) ∧ Hid (On L x (partsOf x.path) m L' i) ∧ Hid (FB w w2 base f (rows L') wr v)) (fun _ i _ => n - (intOf i).toNat)
            case atStart => exact ⟨0, L, v0, by omega, rfl, rfl, HOn, HFB0⟩
            case round =>
              obtain ⟨i, L', v, hin, rfl, rfl, HO, HFB⟩ := hrel
              have hL2 := HO.out.small.len
              have hrl2 : (rows L').length ≤ 1000000000 := by rw [rows_len]; omega
              by_cases hlt2 : i + 1 < n
              · obtain ⟨y, hy⟩ : ∃ y, (partsOf x.path)[i]? = some y := ⟨_, List.getElem?_eq_getElem (by have := HN.out; omega)⟩
                obtain ⟨g3, rfl, hg3, hc3⟩ := HA.out i y hy
                have hc4 : wr.cell? ⟨g3, i, none⟩ = some (.string (bs y)) := (World.cell?_of_block (a := ⟨g3, i, none⟩) (HFB.out.keep g3 (by have h1 := (HPB.out.1.lt g3 rfl).1; have h2 := HB1.out.size; omega) hg3)).trans hc3
                have hft := flat_take_le (partsOf x.path) i
                have HFs := Lib.hid (flat_snoc (partsOf x.path) i y hy)
                have hfs := flat_take_le (partsOf x.path) (i + 1)
                rw [HFs.out, List.length_append, List.length_cons] at hfs
                have HS2 := Lib.hid (sum2 (flatL ((partsOf x.path).take i)) y)
                have zt : (bs (flatL ((partsOf x.path).take i))).size ≤ 3000000 := by rw [size_bs]; omega
                have zy : (bs y).size ≤ 3000000 := by rw [size_bs]; omega
                rw [← HFs.out] at HS2
                have hfi := find_is f (rows L') (pathB ((partsOf x.path).take (i + 1))) wr HFB.out.fown.fat hrl2
                have HGt := Lib.hid (take_good HG.out (i + 1))
                cases hat1 : at_ L' ((partsOf x.path).take (i + 1)) with
                | some e1 =>
                  obtain ⟨k, hk, _, hix⟩ := ix_yes HO.out.inv HGt.out hat1
                  rw [hix] at hfi
                  have HO2 := Lib.hid (HO.out.there (by have := HN.out; omega) hat1)
                  have HFi := Lib.hid hfi
                  unfold pathB at HFi
                  clear HFs hfi hat1 hft hfs hix hc3 hrl2 HO
                  generalize bs (flatL ((partsOf x.path).take i)) = t at *
                  generalize ht2 : bs (flatL ((partsOf x.path).take (i + 1))) = t2 at *
                  have HT2 := Lib.hid ht2
                  clear ht2
                  generalize bs y = y2 at *
                  have z1 : (⟨#[47]⟩ : ByteArray).size = 1 := rfl
                  have z2 : (t ++ (⟨#[47]⟩ : ByteArray)).size ≤ 3000001 := by rw [ByteArray.size_append]; omega
                  have a1 : ∀ W, (Op.stringOp .add t ⟨#[47]⟩).run Tryz.prog W = .ok (.string (t ++ (⟨#[47]⟩ : ByteArray))) W := fun W => run_string_add_sum W _ _ (by omega)
                  have a2 : ∀ W, (Op.stringOp .add (t ++ (⟨#[47]⟩ : ByteArray)) y2).run Tryz.prog W = .ok (.string t2) W := fun W => by rw [run_string_add_sum W _ _ (by omega), HS2.out]
                  go_wp2_with fail
                  refine HFi.out.mono ?_
                  rintro e wb ⟨rfl, rfl⟩
                  go_wp2_with fail
                  go_roundw
                  case rel => exact ⟨i + 1, L', v, by omega, by go_num, by rw [HT2.out], HO2, HFB⟩
                  case measure => simp [intOf]; omega
                | none =>
                  rw [ix_no HO.out.inv HGt.out hat1] at hfi
                  have HO2 := Lib.hid (HO.out.made HG.out (by have := HN.out; omega) (by have := HN.out; omega) hat1)
                  have HFi := Lib.hid hfi
                  unfold pathB at HFi
                  obtain ⟨g0, c0, rfl⟩ := HFB.out.form (by rw [rows_len]; omega)
                  have HRW : Hid (rows L' ++ [⟨pathB ((partsOf x.path).take (i + 1)), true, ⟨#[]⟩⟩] = rows (L' ++ [⟨(partsOf x.path).take (i + 1), true, ⟨#[]⟩⟩])) := (rows_snoc L' ⟨(partsOf x.path).take (i + 1), true, ⟨#[]⟩⟩).symm
                  unfold pathB at HRW
                  have hnr : (rows L').length ≤ 900000001 := by rw [rows_len]; omega
                  have HOW := Lib.hid HFB.out.own
                  have hlc := HFB.out.cell
                  have c1 : wr.cell? ⟨f, 0, none⟩ = some (.slice (some ⟨g0, 0, none⟩) (rows L').length c0) := by rw [Lib.cell_of_heap hlc]; rfl
                  obtain ⟨nr, hnr0⟩ : ∃ nr, nr = (rows L').length := ⟨_, rfl⟩
                  rw [← hnr0] at c1 hnr HOW HFB
                  have HNR := Lib.hid hnr0
                  have hbs2 : base ≤ wr.heap.size := by have h1 := HFB.out.base0; have h2 := HFB.out.hlo; have h3 := HFB.out.size; omega
                  clear HFs hfi hat1 hft hfs hc3 hrl2 HO hlc hnr0 hL2
                  generalize bs (flatL ((partsOf x.path).take i)) = t at *
                  generalize ht2 : bs (flatL ((partsOf x.path).take (i + 1))) = t2 at *
                  have HT2 := Lib.hid ht2
                  clear ht2
                  generalize bs y = y2 at *
                  have z1 : (⟨#[47]⟩ : ByteArray).size = 1 := rfl
                  have z2 : (t ++ (⟨#[47]⟩ : ByteArray)).size ≤ 3000001 := by rw [ByteArray.size_append]; omega
                  have a1 : ∀ W, (Op.stringOp .add t ⟨#[47]⟩).run Tryz.prog W = .ok (.string (t ++ (⟨#[47]⟩ : ByteArray))) W := fun W => run_string_add_sum W _ _ (by omega)
                  have a2 : ∀ W, (Op.stringOp .add (t ++ (⟨#[47]⟩ : ByteArray)) y2).run Tryz.prog W = .ok (.string t2) W := fun W => by rw [run_string_add_sum W _ _ (by omega), HS2.out]
                  have hz3 : (encR ⟨t2, true, ⟨#[]⟩⟩).length = 1 * 3 := rfl
                  have HNW := Lib.hid (news3 wr ⟨t2, true, ⟨#[]⟩⟩ 33)
                  go_wp2_with fail
                  refine HFi.out.mono ?_
                  rintro e wb ⟨rfl, rfl⟩
                  go_wp2_with (at_builtin; go_loud (refine wpList_append_lies _ rfl _ _ 23 rfl base 33 i0 (.agg #[.string .empty, .bool false, .string .empty]) 3 40 Tryz.underlying23 hi0 hz0 hz1 hz2 rfl (by decide) (.slice (some ⟨g0, 0, none⟩) nr c0) nr _ rfl (HOW.out.alloc _) ⟨wr.heap.size, 0, none⟩ 1 1 (encR ⟨t2, true, ⟨#[]⟩⟩) rfl hz3 HNW.out (encR_one _) (by decide) (by unfold maxLen; omega) (by omega) (by simp; omega) (wr.heap.size + 1) (World.size_alloc ..) ?_; intro g cap w5 hown5 hgrow hat5 hlt5; have hm5 := HFB.out.mid hgrow; have c5 : w5.cell? ⟨f, 0, none⟩ = some (.slice (some ⟨g0, 0, none⟩) nr c0) := (by rw [Lib.cell_of_heap hm5]; rfl); have f5 : w5.frozen? ⟨f, 0, none⟩ = false := frozen_of_row _ _ _ _ _ hm5; have HFB5 := Lib.hid (FB.step HFB.out ⟨t2, true, ⟨#[]⟩⟩ (by rw [← HNR.out]; exact hown5) hgrow hat5); clear hown5 hgrow hat5 hlt5 hm5))
                  go_roundw
                  case rel => exact ⟨i + 1, _, _, by omega, by go_num, by rw [HT2.out], HO2, by rw [← HRW.out]; rw [← HNR.out] at HFB5; exact HFB5⟩
                  case measure => simp [intOf]; omega
              · have HLast : Hid (rows (putE L x) = rows L' ++ [⟨ab, x.dir, textOf x⟩]) := by
                  show _ = _
                  rw [HO.out.last (by have := HN.out; omega), rows_snoc, HAb.out]; rfl
                have hqlt : w.heap.size < w2.heap.size := (Array.getElem?_eq_some_iff.1 HQ2.out).1
                have hqr := (HFB.out.keep w.heap.size (Nat.le_refl _) hqlt).trans HQ2.out
                have c1 : wr.cell? ⟨w.heap.size, 1, none⟩ = some (.bool x.dir) := by rw [Lib.cell_of_heap hqr]; rfl
                have c2 : wr.cell? ⟨w.heap.size, 2, none⟩ = some (.string x.text) := by rw [Lib.cell_of_heap hqr]; rfl
                have f2 : wr.frozen? ⟨w.heap.size, 2, none⟩ = false := frozen_of_row _ _ _ _ _ hqr
                have HQR := Lib.hid hqr
                have HQL := Lib.hid hqlt
                have HNL := Lib.hid hL2
                clear hqr hqlt HO HPB HA HQ2 HQ1 hrl2 hL2
                go_upto_region 18 with fail
                go_cut [85, 86] (fun _ s86 wx => ∃ d : Bool, s86 = .bool d ∧ Hid (x.dir = d) ∧ wr = wx)
                case first =>
                  go_wp2_with fail
                  go_meet
                  exact ⟨x.dir, rfl, rfl, rfl⟩
                obtain ⟨dd, rfl, HDD, rfl⟩ := hcut
                go_upto_if 86 with fail
                go_cut [4] (fun _ wx => ∃ v', Hid (FB w w base f (rows L') wx v') ∧ Hid (wx.heap[w.heap.size]? = some (.cells #[.string ab, .bool x.dir, .string (textOf x)] 33 (0, 0))))
                case first =>
                  cases dd with
                  | true =>
                    have HTx : Hid (textOf x = ⟨#[]⟩) := textOf_bare x HDD.out
                    have HBx := Lib.hid (HFB.out.box (i := 2) (u := .string ⟨#[]⟩) (Nat.le_refl _) HQL.out)
                    have HQx := Lib.hid (heap_setCell_same wr w.heap.size 2 #[.string ab, .bool x.dir, .string x.text] 33 (.string ⟨#[]⟩) HQR.out)
                    clear HDD
                    go_wp2_with fail
                    go_meet
                    exact ⟨v, HBx, by rw [HTx.out]; exact HQx⟩
                  | false =>
                    have HTx : Hid (textOf x = x.text) := by show _ = _; unfold textOf; rw [HDD.out]; rfl
                    clear HDD
                    go_wp2_with fail
                    go_meet
                    exact ⟨v, HFB.out.weak, by rw [HTx.out]; exact HQR⟩
                case rest =>
                  obtain ⟨v', HFW, HQW⟩ := hcut
                  obtain ⟨g0, c0, rfl⟩ := HFW.out.form (by rw [rows_len]; omega)
                  have hlc := HFW.out.cell
                  have hqr := HQW.out
                  have d0 : wc.cell? ⟨f, 0, none⟩ = some (.slice (some ⟨g0, 0, none⟩) (rows L').length c0) := by rw [Lib.cell_of_heap hlc]; rfl
                  have d1 : wc.cell? ⟨w.heap.size, 0, none⟩ = some (.string ab) := by rw [Lib.cell_of_heap hqr]; rfl
                  have d2 : wc.cell? ⟨w.heap.size, 1, none⟩ = some (.bool x.dir) := by rw [Lib.cell_of_heap hqr]; rfl
                  have d3 : wc.cell? ⟨w.heap.size, 2, none⟩ = some (.string (textOf x)) := by rw [Lib.cell_of_heap hqr]; rfl
                  have HOW : Hid (wc.drew.ownsRow base 33 3 (.slice (some ⟨g0, 0, none⟩) (rows L').length c0) (rows L').length (cells (rows L'))) := HFW.out.drew.own
                  have HNW := Lib.hid (news3 wc.drew ⟨ab, x.dir, textOf x⟩ 33)
                  have hnr : (rows L').length ≤ 900000001 := by have := HNL.out; rw [rows_len]; omega
                  have hbs2 : base ≤ wc.heap.size := by have h1 := HFW.out.base0; have h2 := HFW.out.size; omega
                  obtain ⟨nr, hnr0⟩ : ∃ nr, nr = (rows L').length := ⟨_, rfl⟩
                  rw [← hnr0] at d0 hnr HOW HFW
                  have HNR := Lib.hid hnr0
                  have hz3 : (encR ⟨ab, x.dir, textOf x⟩).length = 1 * 3 := rfl
                  clear hlc hqr HQW hnr0 c1 c2 f2
                  have hfw : f < wc.heap.size := (Array.getElem?_eq_some_iff.1 HFW.out.cell).1
                  generalize textOf x = tx at *
                  have d4 : (wc.drew.alloc (.cells #[.string ab, .bool x.dir, .string tx] 33)).cell? ⟨f, 0, none⟩ = some (.slice (some ⟨g0, 0, none⟩) nr c0) := by rw [Lib.cell_of_heap ((Below.heap_alloc wc.drew _ f hfw).trans HFW.out.cell)]; rfl
                  go_upto_region 20 with fail
                  go_region_law (refine step_append_lies _ rfl _ _ 23 rfl base 33 i0 (.agg #[.string .empty, .bool false, .string .empty]) 3 40 Tryz.underlying23 hi0 hz0 hz1 hz2 rfl (by decide) (.slice (some ⟨g0, 0, none⟩) nr c0) nr _ (by simp [Act.eval]) (HOW.out.alloc _) ⟨wc.heap.size, 0, none⟩ 1 1 (encR ⟨ab, x.dir, tx⟩) (by simp [Act.eval]) hz3 HNW.out (encR_one _) (by decide) (by unfold maxLen; omega) (by omega) (by simp; omega) (wc.heap.size + 1) (World.size_alloc ..) ?_; intro g cap w5 hown5 hgrow hat5 hlt5; have hm5 := HFW.out.drew.mid hgrow; have c5 : w5.cell? ⟨f, 0, none⟩ = some (.slice (some ⟨g0, 0, none⟩) nr c0) := (by rw [Lib.cell_of_heap hm5]; rfl); have f5 : w5.frozen? ⟨f, 0, none⟩ = false := frozen_of_row _ _ _ _ _ hm5; have HFB5 := Lib.hid (FB.step HFW.out.drew ⟨ab, x.dir, tx⟩ (by rw [← HNR.out]; exact hown5) hgrow hat5); clear hown5 hgrow hat5 hlt5 hm5)
                  all_goals rw [← HNR.out] at HFB5
                  all_goals exact bodyPost_end (v := .tuple #[]) (by simp [results, Tryz.results16, go_sem]) rfl ⟨rfl, by rw [HLast.out]; exact HFB5.out.fown, HFB5.out.below⟩

end Go.Proofs.YtghfmbmdfojapaaGreatDoor.Wput

/- The document's Look. -/
namespace Go.Proofs.YtghfmbmdfojapaaGreatDoor.Wlook
open Go.RowKit Go.Proofs.YtghfmbmdfojapaaGreatDoor.Pth Go.Proofs.YtghfmbmdfojapaaGreatDoor.Strs Go.Proofs.YtghfmbmdfojapaaGreatDoor.Vfs Go.Proofs.YtghfmbmdfojapaaGreatDoor.Vmap Go.Proofs.YtghfmbmdfojapaaGreatDoor.Vnames Go.Proofs.YtghfmbmdfojapaaGreatDoor.Vnew Go.Proofs.YtghfmbmdfojapaaGreatDoor.Vsort Go.Proofs.YtghfmbmdfojapaaGreatDoor.Vall Go.Proofs.YtghfmbmdfojapaaGreatDoor.Wfind
open Go.Proofs.YtghfmbmdfojapaaGreatDoor.Prabs (refAbs_is)

def lk (R : List Raw) (s : ByteArray) : Option Raw := if s.size = 0 then none else R.find? fun x => decide (x.path = bs (absL s.data.toList))
def zeroR : Raw := ⟨⟨#[]⟩, false, ⟨#[]⟩⟩
theorem ix_find (R : List Raw) (t : ByteArray) : (R.find? (fun x => decide (x.path = t)) = none ∧ ix R t = -1) ∨ ∃ k x, R[k]? = some x ∧ R.find? (fun x => decide (x.path = t)) = some x ∧ ix R t = ((k : Nat) : Int) := by
  induction R with
  | nil => exact .inl ⟨rfl, rfl⟩
  | cons y R ih =>
    by_cases h : y.path = t
    · exact .inr ⟨0, y, rfl, by simp [h], ix_at (k := 0) rfl h (fun j hj => absurd hj (Nat.not_lt_zero _))⟩
    · have e1 : (y :: R).find? (fun x => decide (x.path = t)) = R.find? (fun x => decide (x.path = t)) := by simp [h]
      rw [e1]
      rcases ih with ⟨h1, _⟩ | ⟨k, x, h1, h2, h3⟩
      · refine .inl ⟨h1, ix_none fun x hx => ?_⟩
        rcases List.mem_cons.1 hx with rfl | hx
        · exact h
        · simpa using List.find?_eq_none.1 h1 x hx
      · refine .inr ⟨k + 1, x, by rw [List.getElem?_cons_succ]; exact h1, h2, ?_⟩
        have e2 : ix (y :: R) t = ix R t + 1 := by
          unfold ix at h3 ⊢
          rw [List.findIdx?_cons]
          simp only [h, decide_false, Bool.false_eq_true, if_false]
          cases hf : R.findIdx? (fun x => decide (x.path = t)) with
          | none => rw [hf] at h3; simp at h3
          | some i => simp
        rw [e2, h3]; omega

set_option maxRecDepth 100000 in
set_option maxHeartbeats 4000000 in
theorem look_is (f : Nat) (R : List Raw) (s : ByteArray) (w : World) (h : FAt w f R) (hm : R.length ≤ 1000000000) (hs : s.size ≤ 1000000) :
    Calls Tryz.prog 29 #[.pointer (some ⟨f, 0, none⟩), .string s] w fun e W' => ∃ q r, Hid (q = (lk R s).getD zeroR ∧ r = (lk R s).isSome) ∧ e = .returned (.tuple #[.agg #[.string q.path, .bool q.dir, .string q.text], .bool r]) ∧ Below w.heap.size w W' := by
  have HH := Lib.hid h
  have HAbs := Lib.hid (fun W => refAbs_is s W hs)
  have HLk : Hid (lk R s = if s.size = 0 then none else R.find? fun x => decide (x.path = bs (absL s.data.toList))) := rfl
  generalize bs (absL s.data.toList) = ab at *
  clear h
  go_enter Tryz.func29, Tryz.ntmps29
  go_wp2_with fail
  refine (HAbs.out _).mono ?_
  rintro e W2 ⟨rfl, hb2⟩
  have hg : W2.heap[w.heap.size]? = some (.cells #[.string ⟨#[]⟩, .bool false, .string ⟨#[]⟩] 33 (0, 0)) := (hb2.block _ (by simp)).trans (heap_alloc_new w _)
  have k0 : W2.cell? ⟨w.heap.size, 0, none⟩ = some (.string ⟨#[]⟩) := by rw [Lib.cell_of_heap hg]; rfl
  have k1 : W2.cell? ⟨w.heap.size, 1, none⟩ = some (.bool false) := by rw [Lib.cell_of_heap hg]; rfl
  have k2 : W2.cell? ⟨w.heap.size, 2, none⟩ = some (.string ⟨#[]⟩) := by rw [Lib.cell_of_heap hg]; rfl
  have f0 : W2.frozen? ⟨w.heap.size, 0, none⟩ = false := Lib.frozen_of_heap hg 0
  have f1 : W2.frozen? ⟨w.heap.size, 1, none⟩ = false := Lib.frozen_of_heap hg 1
  have f2 : W2.frozen? ⟨w.heap.size, 2, none⟩ = false := Lib.frozen_of_heap hg 2
  have HB := Lib.hid ((alloc_below w (.cells #[.string ⟨#[]⟩, .bool false, .string ⟨#[]⟩] 33)).trans (hb2.mono (by simp)))
  have hfi := find_is f R ab W2 (HH.out.below HB.out) hm
  rcases ix_find R ab with ⟨hf, hx⟩ | ⟨k, x, hk, hf, hx⟩
  · have HQ : Hid (zeroR = (lk R s).getD zeroR ∧ false = (lk R s).isSome) := by
      rw [HLk.out, hf]
      split <;> exact ⟨rfl, rfl⟩
    rw [hx] at hfi
    have HFi := Lib.hid hfi
    clear hb2 hg hfi hf hx HLk HAbs
    go_wp2_with fail
    refine HFi.out.mono ?_
    rintro e wb ⟨rfl, rfl⟩
    by_cases h0 : s.size = 0
    · have he := Wput.abs_empty s h0
      clear h0
      go_wp2
      exact bodyPost_ret (v := .tuple #[.agg #[.string ⟨#[]⟩, .bool false, .string ⟨#[]⟩], .bool false]) (by simp [results, Tryz.results29, go_sem, k0, k1, k2]) rfl
        ⟨zeroR, false, HQ, rfl, ((HB.out.setCell (p := ⟨_, _, none⟩) (Nat.le_refl _) _).setCell (p := ⟨_, _, none⟩) (Nat.le_refl _) _).setCell (p := ⟨_, _, none⟩) (Nat.le_refl _) _⟩
    · have he := Wput.abs_full s h0
      clear h0
      go_wp2
      exact bodyPost_ret (v := .tuple #[.agg #[.string ⟨#[]⟩, .bool false, .string ⟨#[]⟩], .bool false]) (by simp [results, Tryz.results29, go_sem, k0, k1, k2]) rfl
        ⟨zeroR, false, HQ, rfl, ((HB.out.setCell (p := ⟨_, _, none⟩) (Nat.le_refl _) _).setCell (p := ⟨_, _, none⟩) (Nat.le_refl _) _).setCell (p := ⟨_, _, none⟩) (Nat.le_refl _) _⟩
  · have HF2 := HH.out.below HB.out
    obtain ⟨hfl, A, c, hcF, hE⟩ := HF2
    obtain ⟨b, o, rfl, hb, hcc⟩ := hE.at_ hk
    obtain ⟨c1, c2, c3⟩ := hcc W2 (Below.refl _ _)
    have hkl := (List.getElem?_eq_some_iff.1 hk).1
    have HQ1 : Hid (s.size = 0 → zeroR = (lk R s).getD zeroR ∧ false = (lk R s).isSome) := fun h0 => by
      rw [HLk.out, if_pos h0]; exact ⟨rfl, rfl⟩
    have HQ2 : Hid (s.size ≠ 0 → x = (lk R s).getD zeroR ∧ true = (lk R s).isSome) := fun h0 => by
      rw [HLk.out, if_neg h0, hf]; exact ⟨rfl, rfl⟩
    rw [hx] at hfi
    have HFi := Lib.hid hfi
    generalize R.length = nr at *
    clear hb2 hg hfi hf hx HLk HAbs hcc hE hk
    obtain ⟨px, dx, tx⟩ := x
    go_wp2_with fail
    refine HFi.out.mono ?_
    rintro e wb ⟨rfl, rfl⟩
    by_cases h0 : s.size = 0
    · have he := Wput.abs_empty s h0
      have HQ := Lib.hid (HQ1.out h0)
      clear h0
      go_wp2
      exact bodyPost_ret (v := .tuple #[.agg #[.string ⟨#[]⟩, .bool false, .string ⟨#[]⟩], .bool false]) (by simp [results, Tryz.results29, go_sem, k0, k1, k2]) rfl
        ⟨zeroR, false, HQ, rfl, ((HB.out.setCell (p := ⟨_, _, none⟩) (Nat.le_refl _) _).setCell (p := ⟨_, _, none⟩) (Nat.le_refl _) _).setCell (p := ⟨_, _, none⟩) (Nat.le_refl _) _⟩
    · have he := Wput.abs_full s h0
      have HQ := Lib.hid (HQ2.out h0)
      clear h0
      go_wp2
      exact bodyPost_ret (v := .tuple #[.agg #[.string px, .bool dx, .string tx], .bool true]) (by simp [results, Tryz.results29, go_sem, k0, k1, k2]) rfl
        ⟨⟨px, dx, tx⟩, true, HQ, rfl, ((HB.out.setCell (p := ⟨_, _, none⟩) (Nat.le_refl _) _).setCell (p := ⟨_, _, none⟩) (Nat.le_refl _) _).setCell (p := ⟨_, _, none⟩) (Nat.le_refl _) _⟩

end Go.Proofs.YtghfmbmdfojapaaGreatDoor.Wlook

/- The document's New. -/
namespace Go.Proofs.YtghfmbmdfojapaaGreatDoor.Wnew
open Go.RowKit Go.Proofs.YtghfmbmdfojapaaGreatDoor.Pth Go.Proofs.YtghfmbmdfojapaaGreatDoor.Strs Go.Proofs.YtghfmbmdfojapaaGreatDoor.Vfs Go.Proofs.YtghfmbmdfojapaaGreatDoor.Vmap Go.Proofs.YtghfmbmdfojapaaGreatDoor.Vnames Go.Proofs.YtghfmbmdfojapaaGreatDoor.Vnew Go.Proofs.YtghfmbmdfojapaaGreatDoor.Vsort Go.Proofs.YtghfmbmdfojapaaGreatDoor.Vall Go.Proofs.YtghfmbmdfojapaaGreatDoor.Wfind Go.Proofs.YtghfmbmdfojapaaGreatDoor.Wfs Go.Proofs.YtghfmbmdfojapaaGreatDoor.Wown

/-- what the first k entries make -/
def upL (l : List Raw) (k : Nat) : List Ent := (l.take k).foldl putE []
theorem upL_succ {l : List Raw} {k : Nat} {x : Raw} (h : l[k]? = some x) : upL l (k + 1) = putE (upL l k) x := by
  obtain ⟨hk, rfl⟩ := List.getElem?_eq_some_iff.1 h
  unfold upL
  rw [List.take_succ_eq_append_getElem hk, List.foldl_append]; rfl
theorem upL_inv (l : List Raw) (k : Nat) : Vfs.Inv (upL l k) := foldl_inv _ inv_nil
theorem upL_small (l : List Raw) (k : Nat) (h : ∀ x ∈ l, RawSmall x) (hk : k ≤ 200) : Small 400000400 (upL l k) :=
  (foldl_small (l.take k) small_nil (fun x hx => h x (List.mem_of_mem_take hx))).mono (by rw [List.length_take]; have : min k l.length ≤ k := Nat.min_le_left _ _; omega)
theorem upL_all (l : List Raw) (k : Nat) (h : k = l.length ∨ k = 200) (hk : k ≤ 200) : upL l k = newL l := by
  unfold upL newL
  rcases h with h | h
  · rw [List.take_of_length_le (by omega), List.take_of_length_le (by omega)]
  · rw [h]

theorem f_start (w : World) : FOwn ((w.alloc (.cells #[.string ⟨#[47]⟩, .bool true, .string ⟨#[]⟩] 33)).alloc (.cells #[.slice (some ⟨w.heap.size, 0, none⟩) 1 1] 50)) w.heap.size (w.heap.size + 1) (rows []) := by
  refine ⟨by omega, .slice (some ⟨w.heap.size, 0, none⟩) 1 1, ?_, ?_, ?_⟩
  · have := heap_alloc_new (w.alloc (.cells #[.string ⟨#[47]⟩, .bool true, .string ⟨#[]⟩] 33)) (.cells #[.slice (some ⟨w.heap.size, 0, none⟩) 1 1] 50)
    rwa [World.size_alloc] at this
  · intro e
    have : w.heap.size + 1 = w.heap.size := Option.some.inj e
    omega
  · exact (World.ownsRow_lit (base := w.heap.size) (e := 33) (size := 3) w #[.string ⟨#[47]⟩, .bool true, .string ⟨#[]⟩] 1 (Nat.le_refl _) (by decide) rfl).alloc _

set_option maxRecDepth 100000 in
set_option maxHeartbeats 4000000 in
theorem new_is (A : Option Addr) (n c : Nat) (l : List Raw) (w : World) (hn : l.length = n) (h : EnIs w A c l) (hsm : ∀ x ∈ l, RawSmall x) :
    Calls Tryz.prog 6 #[.slice A n c] w fun e W' => ∃ f, e = .returned (.pointer (some ⟨f, 0, none⟩)) ∧ FOwn W' w.heap.size f (rows (newL l)) ∧ Below w.heap.size w W' := by
  have HN := Lib.hid hn
  have HL := Lib.hid h
  have HSM := Lib.hid hsm
  have HS := Lib.hid (f_start w)
  have hb0 : Below w.heap.size w ((w.alloc (.cells #[.string ⟨#[47]⟩, .bool true, .string ⟨#[]⟩] 33)).alloc (.cells #[.slice (some ⟨w.heap.size, 0, none⟩) 1 1] 50)) := (alloc_below w _).alloc (by simp) _
  have HB := Lib.hid hb0
  clear hn h hsm hb0
  go_enter Tryz.func6, Tryz.ntmps6
  go_wp2
  obtain ⟨f, hf⟩ : ∃ f, f = w.heap.size + 1 := ⟨_, rfl⟩
  rw [← hf] at HS ⊢
  clear hf
  generalize (w.alloc (.cells #[.string ⟨#[47]⟩, .bool true, .string ⟨#[]⟩] 33)).alloc (.cells #[.slice (some ⟨w.heap.size, 0, none⟩) 1 1] 50) = w0 at *
  go_loopw [4] (fun i wr => ∃ k : Nat, k ≤ n ∧ k ≤ 200 ∧ i = .int .i64 k ∧ Hid (FOwn wr w.heap.size f (rows (upL l k))) ∧ Hid (Below w.heap.size w wr)) (fun i _ => n - (intOf i).toNat)
  case atStart => exact ⟨0, Nat.zero_le _, Nat.zero_le _, rfl, HS, HB⟩
  case round =>
    obtain ⟨k, hk, hk2, rfl, HF, HBr⟩ := hrel
    by_cases hlt : k < n
    · by_cases hlt2 : k < 200
      · have hl : k < l.length := by have := HN.out; omega
        have hx : l[k]? = some l[k] := List.getElem?_eq_getElem hl
        obtain ⟨b, o, rfl, hb, hcc⟩ := HL.out.at_ hx
        obtain ⟨c1, c2, c3⟩ := hcc wr HBr.out
        have hxs := HSM.out _ (List.mem_of_getElem? hx)
        have hpz := parts_small l[k].path hxs.path
        have hput := Wput.put_is wr f w.heap.size (upL l k) l[k] 400000400 HF.out (upL_inv l k) hxs (upL_small l k HSM.out (by omega)) (by omega) HBr.out.size
        rw [← upL_succ hx] at hput
        have HPut := Lib.hid hput
        clear hput hx hcc hxs hpz hb
        generalize l[k].path = p at *
        generalize l[k].dir = d at *
        generalize l[k].text = t at *
        go_wp2_with fail
        refine HPut.out.mono ?_
        rintro e w3 ⟨rfl, hF3, hb3⟩
        have HF3 := Lib.hid hF3
        have HB3 := Lib.hid (HBr.out.trans hb3)
        clear hF3 hb3 HPut c1 c2 c3
        go_wp2_with fail
        go_roundw
        case rel => exact ⟨k + 1, by omega, by omega, by go_num, HF3, HB3⟩
        case measure => simp [intOf]; omega
      · have HE := Lib.hid (upL_all l k (.inr (by omega)) hk2)
        have hlt3 : ¬ ((k : Int) < 200) := by omega
        go_wp2
        go_ret
        exact ⟨f, rfl, by rw [← HE.out]; exact HF.out, HBr.out⟩
    · have HE := Lib.hid (upL_all l k (.inl (by have := HN.out; omega)) hk2)
      go_wp2
      go_ret
      exact ⟨f, rfl, by rw [← HE.out]; exact HF.out, HBr.out⟩

end Go.Proofs.YtghfmbmdfojapaaGreatDoor.Wnew
