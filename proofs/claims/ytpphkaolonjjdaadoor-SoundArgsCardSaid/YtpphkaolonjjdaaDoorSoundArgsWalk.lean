/- SoundArgs: its walk. -/
import Derived.Deep.QuietTactic
import Derived.BigQuiet
import Derived.BigRegion
import Derived.Test.YtpphkaolonjjdaaDoorPlace
import Derived.Test.YtpphkaolonjjdaaDoorJar
namespace Go.Proofs.YtpphkaolonjjdaaDoor.SoundArgs
open Go Go.RowKit Go.Proofs.YtpphkaolonjjdaaDoor.Spl Go.Proofs.YtpphkaolonjjdaaDoor.Nodm Go.Proofs.YtpphkaolonjjdaaDoor.Cpl Go.Proofs.YtpphkaolonjjdaaDoor.Cin Go.Proofs.YtpphkaolonjjdaaDoor.Cops Go.Proofs.YtpphkaolonjjdaaDoor.Cmm Go.Proofs.YtpphkaolonjjdaaDoor.Dpl Go.Proofs.YtpphkaolonjjdaaDoor.Dpr Go.Proofs.YtpphkaolonjjdaaDoor.Dpi Go.Proofs.YtpphkaolonjjdaaDoor.Jkd Go.Proofs.YtpphkaolonjjdaaDoor.Jbk Go.Proofs.YtpphkaolonjjdaaDoor.Jdp Go.Proofs.YtpphkaolonjjdaaDoor.Jar Go.Proofs.YtpphkaolonjjdaaDoor.Place
open Go.Proofs.YtpphkaolonjjdaaDoor.Pure (bs)

theorem push_snoc (j : Nat) : flatL (List.replicate j pushO) ++ [.int .i64 1, .int .i64 0, .string ⟨#[]⟩, .slice none 0 0] = flatL (List.replicate (j + 1) pushO) := by
  rw [List.replicate_succ', flatL_app]; rfl
theorem do_snoc (i k : Nat) : flatL (List.replicate k pushO) ++ [.int .i64 5, .int .i64 (k : Int), .string (bs (nameA i)), .slice none 0 0] = flatL (List.replicate k pushO ++ [doO i k]) := by
  rw [flatL_app]; rfl
theorem one_new (w : World) (x : Value) (t : TypeId) : ∀ (j : Nat) (c : Value), [x][j]? = some c → (w.alloc (.cells #[x] t)).cell? ((⟨w.heap.size, 0, none⟩ : Addr).add j) = some c := by
  intro j c hu
  have h := Lib.cell_of_heap (heap_alloc_new w (.cells #[x] t)) 0
  match j, hu with
  | 0, hu => cases hu; rw [Strs.addr_add]; exact h.trans rfl
theorem two_last (w : World) (o : Obj) (x : Value) (t : TypeId) : ∀ (j : Nat) (c : Value), [x][j]? = some c → ((w.alloc o).alloc (.cells #[x] t)).cell? ((⟨w.heap.size + 1, 0, none⟩ : Addr).add j) = some c := by
  have h := one_new (w.alloc o) x t
  rw [World.size_alloc] at h
  exact h
theorem infoInt_at : ∃ i, Tryd.prog.info? 3 = some i ∧ i.zero = some (.int .i64 0) ∧ i.size = 1 ∧ i.bytes = 8 := by
  obtain ⟨i, hi, he⟩ := Option.map_eq_some_iff.1 (show (Tryd.prog.info? 3).map (fun i => (i.zero, i.size, i.bytes)) = some (some (.int .i64 0), 1, 8) by kernel_rfl)
  injection he with h1 h2
  injection h2 with h2 h3
  exact ⟨i, hi, h1, h2, h3⟩
theorem infoOps_at : ∃ i, Tryd.prog.info? 38 = some i ∧ i.zero = some (.slice none 0 0) ∧ i.size = 1 ∧ i.bytes = 24 := by
  obtain ⟨i, hi, he⟩ := Option.map_eq_some_iff.1 (show (Tryd.prog.info? 38).map (fun i => (i.zero, i.size, i.bytes)) = some (some (.slice none 0 0), 1, 24) by kernel_rfl)
  injection he with h1 h2
  injection h2 with h2 h3
  exact ⟨i, hi, h1, h2, h3⟩

set_option maxRecDepth 100000 in
set_option maxHeartbeats 8000000 in
theorem walk_do (a0 a1 : Int) (w : World) (w0 : (Lit.int .i64 a0).wf = true) (w1 : (Lit.int .i64 a1).wf = true) (hK : Knd w) :
    Calls Tryd.prog 6 #[.int .i64 a0, .int .i64 a1, .bool false] w fun e W' => e = .returned (.bool true) ∧ Below w.heap.size w W' := by
  obtain ⟨i0, hi0, hz0, hz1, hz2⟩ := infoOp_at
  obtain ⟨p, hp⟩ : ∃ p, p = place a0 8 := ⟨_, rfl⟩
  obtain ⟨k, hk⟩ : ∃ k, k = place a1 8 := ⟨_, rfl⟩
  have hp8 : p < 8 := by rw [hp]; exact place_lt a0 8 (by decide)
  have hk8 : k < 8 := by rw [hk]; exact place_lt a1 8 (by decide)
  have HP0 := Lib.hid (place_is a0 8 w (by decide) (by decide) w0)
  have HP1 := Lib.hid (place_is a1 8 w (by decide) (by decide) w1)
  rw [← hp] at HP0
  rw [← hk] at HP1
  obtain ⟨_, hchk, _, hok⟩ := args_at hp8 hk8
  have HChk := Lib.hid hchk
  have HOk := Lib.hid hok
  have i1 := index_name p hp8
  have i2 := index_low p hp8
  have i3 := index_high p hp8
  have HKn := Lib.hid (fun (W : World) (hW : Below w.heap.size w W) => hK.on hW)
  have hdo := do_snoc p k
  have HDo := Lib.hid hdo
  have K0 : Hid True := trivial
  obtain ⟨low, hlow⟩ : ∃ low, low = lowA p := ⟨_, rfl⟩
  obtain ⟨high, hhigh⟩ : ∃ high, high = highA p := ⟨_, rfl⟩
  unfold wantA at HChk
  rw [← hlow] at i2 HChk
  rw [← hhigh] at i3 HChk
  obtain ⟨s, hs⟩ : ∃ s, s = bs (nameA p) := ⟨_, rfl⟩
  rw [← hs] at i1 HDo
  clear hp hk w0 w1 hchk hok hK hdo hlow hhigh hs
  go_enter Tryd.func6, Tryd.ntmps6
  go_upto_region 3 with (first
    | (go_at_call 17; clear K0; refine HP0.out.mono ?_; rintro e W' ⟨rfl, rfl⟩; clear HP0)
    | (go_at_call 17; refine HP1.out.mono ?_; rintro e W' ⟨rfl, rfl⟩; clear HP1))
  go_region
  go_upto_region 5 with fail
  obtain ⟨w2, hw2⟩ : ∃ w2, (w.alloc (.cells #[.slice none 0 0] 24)).drew = w2 := ⟨_, rfl⟩
  rw [hw2]
  have hb2 : Below w.heap.size w w2 := by rw [← hw2]; exact ((Below.refl _ _).alloc (Nat.le_refl _) _).drew
  have hx2 : w2.heap[w.heap.size]? = some (.cells #[.slice none 0 0] 24) := by rw [← hw2]; exact heap_alloc_new w _
  have hz2' : w2.heap.size = w.heap.size + 1 := by rw [← hw2]; exact World.size_alloc _ _
  have HB2 := Lib.hid hb2
  have HX2 := Lib.hid hx2
  have HZ2 := Lib.hid hz2'
  clear hw2 hb2 hx2 hz2' i1 i2 i3
  go_upto_region 16 with fail
  go_loopw [15, 16] (fun v iv wr => ∃ j : Nat, j ≤ k ∧ iv = .int .i64 (j : Int) ∧ Hid (wr.ownsRow w2.heap.size 40 4 v j (flatL (List.replicate j pushO))) ∧ Hid (Below w2.heap.size w2 wr)) (fun _ iv _ => k - (intOf iv).toNat)
  case atStart => exact ⟨0, Nat.zero_le _, rfl, World.ownsRow_nil .., Below.refl _ _⟩
  case round =>
    obtain ⟨j, hj, rfl, HO, HB⟩ := hrel
    have hown := HO.out
    have hbs := HB.out.size
    obtain ⟨Ar, cr, rfl⟩ := own_slice hown
    have hzl : (flatL (List.replicate j pushO)).length = j * 4 := by rw [flatL_len, List.length_replicate]
    by_cases hlt : j < k
    · have hjk : (j : Int) < (k : Int) := by omega
      go_wp2_with (at_builtin; refine wpList_append_own _ rfl _ _ 38 rfl w2.heap.size 40 i0 (.agg #[.int .i64 0, .int .i64 0, .string .empty, .slice none 0 0]) 4 56 Tryd.underlying38 hi0 hz0 hz1 hz2 rfl (by decide) _ _ _ rfl (hown.alloc _) ⟨wr.heap.size, 0, none⟩ 1 1 [.int .i64 1, .int .i64 0, .string ⟨#[]⟩, .slice none 0 0] rfl rfl (four_new _ _ _ _ _ _) (by simp [Value.oneCell']) (by unfold maxLen; omega) (by omega) (by simp; omega) ?_; intro v5 w5 hown5 hgrow5 _; have HO5 := Lib.hid hown5; have HB5 : Hid (Below w2.heap.size w2 w5) := (HB.out.alloc hbs _).grown hgrow5 (by rw [World.size_alloc]; omega) (fun k hk => (hown.lt k hk).1); clear hown5 hgrow5)
      go_roundw
      case rel => exact ⟨j + 1, hlt, by go_num, by rw [← push_snoc]; exact HO5, HB5⟩
      case measure => simp [intOf]; omega
    · obtain rfl : k = j := by omega
      have hxr : ∀ W, Below w2.heap.size w2 W → W.heap[w.heap.size]? = some (.cells #[.slice none 0 0] 24) := fun W hW => (hW.block _ (by have := HZ2.out; omega)).trans HX2.out
      have HXr := Lib.hid hxr
      clear hxr
      go_upto_region 20 with (at_builtin; refine wpList_append_own _ rfl _ _ 38 rfl w2.heap.size 40 i0 (.agg #[.int .i64 0, .int .i64 0, .string .empty, .slice none 0 0]) 4 56 Tryd.underlying38 hi0 hz0 hz1 hz2 rfl (by decide) _ _ _ rfl (hown.alloc _) ⟨wr.heap.size, 0, none⟩ 1 1 [.int .i64 5, .int .i64 (k : Int), .string s, .slice none 0 0] rfl rfl (four_new _ _ _ _ _ _) (by simp [Value.oneCell']) (by unfold maxLen; omega) (by omega) (by simp; omega) ?_; intro v5 w5 hown5 hgrow5 _; obtain ⟨A5, c5, rfl⟩ := own_slice hown5; have HO5 := Lib.hid hown5; have HB5 : Hid (Below w2.heap.size w2 w5) := (HB.out.alloc hbs _).grown hgrow5 (by rw [World.size_alloc]; omega) (fun k hk => (hown.lt k hk).1); have hx5 := HXr.out _ (HB5.out.alloc HB5.out.size (.cells #[.slice A5 (k + 1) c5] 38)); have b0 := one_cell hx5; have b1 := Lib.frozen_of_heap hx5 0; clear hown5 hgrow5 hx5)
      obtain ⟨V, hV⟩ : ∃ V, (w5.alloc (.cells #[.slice A5 (k + 1) c5] 38)).setCell ⟨w.heap.size, 0, none⟩ (.slice (some ⟨w5.heap.size, 0, none⟩) 1 1) = V := ⟨_, rfl⟩
      rw [hV]
      have hal := heap_alloc_new w5 (.cells #[.slice A5 (k + 1) c5] 38)
      have hz5 := HB5.out.size
      have hz2 := HZ2.out
      have hx5 := HXr.out _ (HB5.out.alloc hz5 (.cells #[.slice A5 (k + 1) c5] 38))
      have hvc : V.heap[w.heap.size]? = some (.cells #[.slice (some ⟨w5.heap.size, 0, none⟩) 1 1] 24) := by rw [← hV]; exact heap_setCell_same _ w.heap.size 0 _ _ (.slice (some ⟨w5.heap.size, 0, none⟩) 1 1) hx5
      have hvo : ∀ q, q ≠ w.heap.size → V.heap[q]? = (w5.alloc (.cells #[.slice A5 (k + 1) c5] 38)).heap[q]? := fun q hq => by rw [← hV]; exact heap_setCell_other _ ⟨w.heap.size, 0, none⟩ q _ hq
      have hvb : Below w.heap.size w V := by
        rw [← hV]
        exact ((HB2.out.trans ((HB5.out.mono (by omega)).alloc (by omega) _)).setCell (p := ⟨w.heap.size, 0, none⟩) (Nat.le_refl _) _)
      have hvr : V.ownsRow w2.heap.size 40 4 (.slice A5 (k + 1) c5) (k + 1) (flatL (List.replicate k pushO ++ [doO p k])) := by
        rw [← HDo.out]
        refine own_keep (HO5.out.alloc (.cells #[.slice A5 (k + 1) c5] 38)) fun q hq => hvo q ?_
        have := HO5.out.lt q hq
        omega
      have hcode : CodeU V (.agg #[.slice (some ⟨w5.heap.size, 0, none⟩) 1 1]) (codeD p k) := code_one (HKn.out V hvb) ((hvo _ (by omega)).trans hal) (by rw [List.length_append, List.length_replicate]; exact hvr) (fun o ho => by
        rcases List.mem_append.1 ho with h | h
        · rw [(List.mem_replicate.1 h).2]; rfl
        · rw [List.mem_singleton.1 h]; rfl)
      have hck := check_ok _ _ V hcode HOk.out
      rw [HChk.out] at hck
      have HCk := Lib.hid hck
      have HVB := Lib.hid hvb
      have e0 := one_cell hvc
      clear hV hal hx5 hvc hvo hvr hcode hck b0 b1 hown hbs hzl hvb hz2 hz5
      by_cases h1 : low ≤ k
      · have h1i : (low : Int) ≤ (k : Int) := by omega
        by_cases h2 : k ≤ high
        · have h2i : (k : Int) ≤ (high : Int) := by omega
          by_cases h3 : 4 ≤ p
          · have h3i : (4 : Int) ≤ (p : Int) := by omega
            rw [decide_eq_true h1, decide_eq_true h2, decide_eq_true h3] at HCk
            clear h1 HChk
            go_wp2_with (first
              | (go_at_call 10; refine HCk.out.mono ?_; rintro e V2 ⟨rfl, hb⟩; have HVB2 : Hid (Below w.heap.size w V2) := HVB.out.trans (hb.mono HVB.out.size); clear hb)
              | (go_at_call 9; refine (Daw.awake_is _ (HKn.out _ HVB2.out)).mono ?_; rintro e V3 ⟨rfl, hb⟩; have HVB3 : Hid (Below w.heap.size w V3) := HVB2.out.trans (hb.mono HVB2.out.size); clear hb))
            go_ret
            exact ⟨rfl, HVB3.out⟩
          · have h3i : ¬ (4 : Int) ≤ (p : Int) := by omega
            have HD3 := Lib.hid (decide_eq_false h3i)
            rw [decide_eq_true h1, decide_eq_true h2, decide_eq_false h3] at HCk
            clear h1 HChk
            go_wp2_with (first
              | (go_at_call 10; refine HCk.out.mono ?_; rintro e V2 ⟨rfl, hb⟩; have HVB2 : Hid (Below w.heap.size w V2) := HVB.out.trans (hb.mono HVB.out.size); clear hb)
              | (go_at_call 9; refine (Daw.awake_is _ (HKn.out _ HVB2.out)).mono ?_; rintro e V3 ⟨rfl, hb⟩; have HVB3 : Hid (Below w.heap.size w V3) := HVB2.out.trans (hb.mono HVB2.out.size); clear hb))
            go_ret
            exact ⟨by show Ending.returned (.bool (!decide ((4 : Int) ≤ (p : Int)))) = _; rw [HD3.out]; rfl, HVB3.out⟩
        · have h2i : ¬ (k : Int) ≤ (high : Int) := by omega
          rw [decide_eq_true h1, decide_eq_false h2] at HCk
          clear h1 HChk
          go_wp2_with (first
            | (go_at_call 10; refine HCk.out.mono ?_; rintro e V2 ⟨rfl, hb⟩; have HVB2 : Hid (Below w.heap.size w V2) := HVB.out.trans (hb.mono HVB.out.size); clear hb)
            | (go_at_call 9; refine (Daw.awake_is _ (HKn.out _ HVB2.out)).mono ?_; rintro e V3 ⟨rfl, hb⟩; have HVB3 : Hid (Below w.heap.size w V3) := HVB2.out.trans (hb.mono HVB2.out.size); clear hb))
          go_ret
          exact ⟨rfl, HVB3.out⟩
      · have h1i : ¬ (low : Int) ≤ (k : Int) := by omega
        rw [decide_eq_false h1] at HCk
        clear h1 HChk
        go_wp2_with (first
          | (go_at_call 10; refine HCk.out.mono ?_; rintro e V2 ⟨rfl, hb⟩; have HVB2 : Hid (Below w.heap.size w V2) := HVB.out.trans (hb.mono HVB.out.size); clear hb)
          | (go_at_call 9; refine (Daw.awake_is _ (HKn.out _ HVB2.out)).mono ?_; rintro e V3 ⟨rfl, hb⟩; have HVB3 : Hid (Below w.heap.size w V3) := HVB2.out.trans (hb.mono HVB2.out.size); clear hb))
        go_ret
        exact ⟨rfl, HVB3.out⟩

set_option maxRecDepth 100000 in
set_option maxHeartbeats 8000000 in
theorem walk_lazy (a0 a1 : Int) (w : World) (w0 : (Lit.int .i64 a0).wf = true) (w1 : (Lit.int .i64 a1).wf = true) (hK : Knd w) :
    Calls Tryd.prog 6 #[.int .i64 a0, .int .i64 a1, .bool true] w fun e W' => e = .returned (.bool true) ∧ Below w.heap.size w W' := by
  obtain ⟨i1', hi1, hy0, hy1, hy2⟩ := infoInt_at
  obtain ⟨i2', hi2, hx0, hx1, hx2'⟩ := infoOps_at
  obtain ⟨p, hp⟩ : ∃ p, p = place a0 8 := ⟨_, rfl⟩
  obtain ⟨k, hk⟩ : ∃ k, k = place a1 8 := ⟨_, rfl⟩
  have hp8 : p < 8 := by rw [hp]; exact place_lt a0 8 (by decide)
  have hk8 : k < 8 := by rw [hk]; exact place_lt a1 8 (by decide)
  have HP0 := Lib.hid (place_is a0 8 w (by decide) (by decide) w0)
  have HP1 := Lib.hid (place_is a1 8 w (by decide) (by decide) w1)
  rw [← hp] at HP0
  rw [← hk] at HP1
  obtain ⟨hchk, _, hok, _⟩ := args_at hp8 hk8
  have HChk := Lib.hid hchk
  have HOk := Lib.hid hok
  have i1 := index_name p hp8
  have i2 := index_low p hp8
  have i3 := index_high p hp8
  have HKw := Lib.hid hK
  have HKn := Lib.hid (fun (W : World) (hW : Below w.heap.size w W) => hK.on hW)
  have K0 : Hid True := trivial
  obtain ⟨low, hlow⟩ : ∃ low, low = lowA p := ⟨_, rfl⟩
  obtain ⟨high, hhigh⟩ : ∃ high, high = highA p := ⟨_, rfl⟩
  unfold wantA at HChk
  rw [← hlow] at i2 HChk
  rw [← hhigh] at i3 HChk
  obtain ⟨s, hs⟩ : ∃ s, s = bs (nameA p) := ⟨_, rfl⟩
  rw [← hs] at i1
  clear hp hk w0 w1 hchk hok hK hlow hhigh
  have HSs := Lib.hid hs
  clear hs
  go_enter Tryd.func6, Tryd.ntmps6
  go_upto_region 3 with (first
    | (go_at_call 17; clear K0; refine HP0.out.mono ?_; rintro e W' ⟨rfl, rfl⟩; clear HP0)
    | (go_at_call 17; refine HP1.out.mono ?_; rintro e W' ⟨rfl, rfl⟩; clear HP1))
  go_region
  go_upto_region 5 with fail
  obtain ⟨w2, hw2⟩ : ∃ w2, (w.alloc (.cells #[.slice none 0 0] 24)).drew = w2 := ⟨_, rfl⟩
  rw [hw2]
  have hb2 : Below w.heap.size w w2 := by rw [← hw2]; exact ((Below.refl _ _).alloc (Nat.le_refl _) _).drew
  have hx2 : w2.heap[w.heap.size]? = some (.cells #[.slice none 0 0] 24) := by rw [← hw2]; exact heap_alloc_new w _
  have hz2' : w2.heap.size = w.heap.size + 1 := by rw [← hw2]; exact World.size_alloc _ _
  have HL0 := Lib.hid (LA.start hb2 hz2' hx2 s)
  have b0 := one_cell hx2
  obtain ⟨w3, hw3⟩ : ∃ w3, (w2.alloc (.cells #[.int .i64 6, .int .i64 0, .string s, .slice none 0 0] 40)).alloc (.cells #[.slice none 0 0] 38) = w3 := ⟨_, rfl⟩
  have hx3 : ((w2.alloc (.cells #[.int .i64 6, .int .i64 0, .string s, .slice none 0 0] 40)).alloc (.cells #[.slice none 0 0] 38)).heap[w.heap.size]? = some (.cells #[.slice none 0 0] 24) := (Lib.alloc_old _ _ _ (by rw [World.size_alloc]; omega)).trans ((Lib.alloc_old _ _ _ (by omega)).trans hx2)
  have c0 := one_cell hx3
  have c1 := Lib.frozen_of_heap hx3 0
  rw [hw3] at HL0
  have HW3 := Lib.hid hw3
  have HZ2 := Lib.hid hz2'
  clear hw2 hb2 hx2 hz2' i1 i2 i3 hx3 hw3
  go_upto_region 8 with fail
  rw [HW3.out, HZ2.out]
  clear b0 c0 c1
  go_upto_region 9 with fail
  go_loopw [14] (fun iv wr => ∃ (j : Nat) (vB vN : Value) (P : List Rw), j ≤ k ∧ iv = .int .i64 (j : Int) ∧ Hid (LA w w.heap.size j j s vB vN P wr)) (fun iv _ => k - (intOf iv).toNat)
  case atStart => exact ⟨0, _, _, _, Nat.zero_le _, rfl, HL0⟩
  case round =>
    obtain ⟨j, vB, vN, P, hj, rfl, HL⟩ := hrel
    obtain ⟨AN, cN, rfl⟩ := own_slice HL.out.num
    obtain ⟨g, cB, rfl⟩ := HL.out.at_
    have hop := HL.out.op
    have hbox := HL.out.box
    have hsz := HL.out.size
    by_cases hlt : j < k
    · have hjk : (j : Int) < (k : Int) := by omega
      have hnum := HL.out.num
      have hol := ones_len j
      obtain ⟨a0', a1', a2', a3'⟩ := cells_four hop
      clear hop hbox
      go_upto_region 12 with (at_builtin; refine wpList_append_own _ rfl _ _ 28 rfl (w.heap.size + 2) 3 i1' (.int .i64 0) 1 8 Tryd.underlying28 hi1 hy0 hy1 hy2 rfl (by decide) _ _ _ rfl (hnum.alloc _) ⟨wr.heap.size, 0, none⟩ 1 1 [.int .i64 (1 + (j : Int))] rfl rfl (one_new _ _ _) (by simp [Value.oneCell']) (by unfold maxLen; omega) (by omega) (by simp; omega) ?_; intro v5 w5 hown5 hgrow5 _; obtain ⟨A5, c5, rfl⟩ := own_slice hown5; have hn := HL.out.numbered rfl hown5 hgrow5; have HL5 := Lib.hid hn.1; obtain ⟨d0, d1, d2, d3⟩ := cells_four hn.2; have e3 := Lib.frozen_of_heap hn.2 3; clear hown5 hgrow5 hn)
      obtain ⟨V5, hV5⟩ : ∃ V5, w5.setCell ⟨w.heap.size + 1, 3, none⟩ (.slice A5 (j + 1) c5) = V5 := ⟨_, rfl⟩
      rw [hV5] at HL5 ⊢
      clear hV5 d0 d1 d2 d3 e3 a0' a1' a2' a3' hnum
      have hrow := HL5.out.row
      have hPl : (.slice none 0 0 :: P.map (·.1) : List Value).length = j + 1 := by rw [List.length_cons, List.length_map, HL5.out.len]
      have x0 := one_cell HL5.out.box
      have hsz5 := HL5.out.size
      go_wp2_with (at_builtin; refine wpList_append_own _ rfl _ _ 22 rfl (w.heap.size + 2) 38 i2' (.slice none 0 0) 1 24 Tryd.underlying22 hi2 hx0 hx1 hx2' rfl (by decide) _ _ _ rfl ((hrow.alloc _).alloc _) ⟨V5.heap.size + 1, 0, none⟩ 1 1 [.slice (some ⟨V5.heap.size, 0, none⟩) 1 1] rfl rfl (two_last _ _ _ _) (by simp [Value.oneCell']) (by unfold maxLen; omega) (by omega) (by simp; omega) ?_; intro v7 w7 hown7 hgrow7 _; obtain ⟨A7, c7, rfl⟩ := own_slice hown7; have hn := HL5.out.pushed hown7 hgrow7; have HL7 := Lib.hid hn.1; have d0 := one_cell hn.2; have e0 := Lib.frozen_of_heap hn.2 0; clear hown7 hgrow7 hn)
      go_roundw
      case rel => exact ⟨j + 1, _, _, _, hlt, by go_num, HL7⟩
      case measure => simp [intOf]; omega
    · obtain rfl : k = j := by omega
      have hx := HL.out
      rw [HSs.out] at hx
      obtain ⟨hcode, hvb, hvx⟩ := hx.code rfl (HKw.out)
      rw [← HSs.out] at hcode hvb hvx
      have hck := check_ok _ _ _ hcode HOk.out
      rw [show checkP ([⟨6, 0, nameA p, (List.range' 1 k).map Int.ofNat⟩] :: List.replicate k [pushO]) = checkP (codeL p k) from rfl, HChk.out] at hck
      have hrow := HL.out.row.alloc (.cells #[.int .i64 6, .int .i64 0, .string s, .slice AN k cN] 40)
      have r0 : (wr.alloc (.cells #[.int .i64 6, .int .i64 0, .string s, .slice AN k cN] 40)).cell? ⟨g, 0, none⟩ = some (.slice none 0 0) := (hrow.cellAt 0 (by omega)).trans rfl
      have r1 := hrow.frozenAt 0
      obtain ⟨a0', a1', a2', a3'⟩ := cells_four hop
      have x0 := one_cell hbox
      obtain ⟨V, hV⟩ : ∃ V, (wr.alloc (.cells #[.int .i64 6, .int .i64 0, .string s, .slice AN k cN] 40)).setCell ⟨g, 0, none⟩ (.slice (some ⟨wr.heap.size, 0, none⟩) 1 1) = V := ⟨_, rfl⟩
      rw [hV] at hck hvb hvx
      have HCk := Lib.hid hck
      have HVB := Lib.hid hvb
      have e0 := one_cell hvx
      have HV := Lib.hid hV
      clear hx hcode hck hrow hop hbox hV hvb hvx
      go_upto_region 20 with fail
      rw [HV.out]
      clear r0 r1 a0' a1' a2' a3' x0
      by_cases h1 : low ≤ k
      · have h1i : (low : Int) ≤ (k : Int) := by omega
        by_cases h2 : k ≤ high
        · have h2i : (k : Int) ≤ (high : Int) := by omega
          by_cases h3 : 4 ≤ p
          · have h3i : (4 : Int) ≤ (p : Int) := by omega
            rw [decide_eq_true h1, decide_eq_true h2, decide_eq_true h3] at HCk
            clear h1 HChk
            go_wp2_with (first
              | (go_at_call 10; refine HCk.out.mono ?_; rintro e V2 ⟨rfl, hb⟩; have HVB2 : Hid (Below w.heap.size w V2) := HVB.out.trans (hb.mono HVB.out.size); clear hb)
              | (go_at_call 9; refine (Daw.awake_is _ (HKn.out _ HVB2.out)).mono ?_; rintro e V3 ⟨rfl, hb⟩; have HVB3 : Hid (Below w.heap.size w V3) := HVB2.out.trans (hb.mono HVB2.out.size); clear hb))
            go_ret
            exact ⟨rfl, HVB3.out⟩
          · have h3i : ¬ (4 : Int) ≤ (p : Int) := by omega
            have HD3 := Lib.hid (decide_eq_false h3i)
            rw [decide_eq_true h1, decide_eq_true h2, decide_eq_false h3] at HCk
            clear h1 HChk
            go_wp2_with (first
              | (go_at_call 10; refine HCk.out.mono ?_; rintro e V2 ⟨rfl, hb⟩; have HVB2 : Hid (Below w.heap.size w V2) := HVB.out.trans (hb.mono HVB.out.size); clear hb)
              | (go_at_call 9; refine (Daw.awake_is _ (HKn.out _ HVB2.out)).mono ?_; rintro e V3 ⟨rfl, hb⟩; have HVB3 : Hid (Below w.heap.size w V3) := HVB2.out.trans (hb.mono HVB2.out.size); clear hb))
            go_ret
            exact ⟨by show Ending.returned (.bool (!decide ((4 : Int) ≤ (p : Int)))) = _; rw [HD3.out]; rfl, HVB3.out⟩
        · have h2i : ¬ (k : Int) ≤ (high : Int) := by omega
          rw [decide_eq_true h1, decide_eq_false h2] at HCk
          clear h1 HChk
          go_wp2_with (first
            | (go_at_call 10; refine HCk.out.mono ?_; rintro e V2 ⟨rfl, hb⟩; have HVB2 : Hid (Below w.heap.size w V2) := HVB.out.trans (hb.mono HVB.out.size); clear hb)
            | (go_at_call 9; refine (Daw.awake_is _ (HKn.out _ HVB2.out)).mono ?_; rintro e V3 ⟨rfl, hb⟩; have HVB3 : Hid (Below w.heap.size w V3) := HVB2.out.trans (hb.mono HVB2.out.size); clear hb))
          go_ret
          exact ⟨rfl, HVB3.out⟩
      · have h1i : ¬ (low : Int) ≤ (k : Int) := by omega
        rw [decide_eq_false h1] at HCk
        clear h1 HChk
        go_wp2_with (first
          | (go_at_call 10; refine HCk.out.mono ?_; rintro e V2 ⟨rfl, hb⟩; have HVB2 : Hid (Below w.heap.size w V2) := HVB.out.trans (hb.mono HVB.out.size); clear hb)
          | (go_at_call 9; refine (Daw.awake_is _ (HKn.out _ HVB2.out)).mono ?_; rintro e V3 ⟨rfl, hb⟩; have HVB3 : Hid (Below w.heap.size w V3) := HVB2.out.trans (hb.mono HVB2.out.size); clear hb))
        go_ret
        exact ⟨rfl, HVB3.out⟩

theorem walk (a0 a1 : Int) (b2 : Bool) (w : World) (w0 : (Lit.int .i64 a0).wf = true) (w1 : (Lit.int .i64 a1).wf = true) (hK : Knd w) :
    Calls Tryd.prog 6 #[.int .i64 a0, .int .i64 a1, .bool b2] w fun e W' => e = .returned (.bool true) ∧ Below w.heap.size w W' := by
  cases b2
  · exact walk_do a0 a1 w w0 w1 hK
  · exact walk_lazy a0 a1 w w0 w1 hK

end Go.Proofs.YtpphkaolonjjdaaDoor.SoundArgs
