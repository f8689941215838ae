/- SoundPiles: its walk. -/
import Derived.Test.YtpphkaolonjjdaaDoorNums
import Derived.Test.YtpphkaolonjjdaaDoorPlace
import Derived.Test.YtpphkaolonjjdaaDoorDpi
import Derived.Test.YtpphkaolonjjdaaDoorDaw
namespace Go.Proofs.YtpphkaolonjjdaaDoor.SoundPiles
open Go Go.RowKit Go.Proofs.YtpphkaolonjjdaaDoor.Spl Go.Proofs.YtpphkaolonjjdaaDoor.Cpl Go.Proofs.YtpphkaolonjjdaaDoor.Cin Go.Proofs.YtpphkaolonjjdaaDoor.Cops Go.Proofs.YtpphkaolonjjdaaDoor.Dpl Go.Proofs.YtpphkaolonjjdaaDoor.Dpr Go.Proofs.YtpphkaolonjjdaaDoor.Dpi Go.Proofs.YtpphkaolonjjdaaDoor.Nums Go.Proofs.YtpphkaolonjjdaaDoor.Place Go.Proofs.YtpphkaolonjjdaaDoor.Nodm Go.Proofs.YtpphkaolonjjdaaDoor.Jkd Go.Proofs.YtpphkaolonjjdaaDoor.Jbk Go.Proofs.YtpphkaolonjjdaaDoor.Jdp
open Go.Proofs.YtpphkaolonjjdaaDoor.Pure (bs)

theorem push_snoc (j : Nat) : flatL (List.replicate j pushO) ++ [.int .i64 1, .int .i64 0, .string ⟨#[]⟩, .slice none 0 0] = flatL (List.replicate (j + 1) pushO) := by
  rw [List.replicate_succ', flatL_app]; rfl
theorem piles_snoc (k : Nat) (js : List Nat) (j : Nat) : flatL (pilesB k js) ++ [.int .i64 4, .int .i64 (j : Int), .string ⟨#[]⟩, .slice none 0 0] = flatL (pilesB k (js ++ [j])) := by
  unfold pilesB
  rw [List.map_append, ← List.append_assoc, flatL_app (List.replicate k pushO ++ List.map joinO js)]; rfl
theorem piles_plain (k : Nat) (js : List Nat) : ∀ o ∈ pilesB k js, o.l = [] := by
  intro o ho
  unfold pilesB at ho
  rcases List.mem_append.1 ho with h | h
  · rw [(List.mem_replicate.1 h).2]; rfl
  · obtain ⟨j, _, rfl⟩ := List.mem_map.1 h; rfl

theorem ints_at {w : World} {A : Option Addr} {n c k : Nat} {zs : List Int} (h : IntIs w A n c zs) (hk : k < n) :
    ∃ z b o, zs[k]? = some z ∧ A = some ⟨b, o, none⟩ ∧ (Lit.int .i64 z).wf = true ∧ ∀ W, Below w.heap.size w W → W.cell? ⟨b, o + k, none⟩ = some (.int .i64 z) := by
  have hl : k < zs.length := by have := h.1; omega
  rcases h.2.2.2 with h0 | ⟨b, o, rfl, hb, hc⟩
  · rw [h0] at hl; exact absurd hl (Nat.not_lt_zero _)
  · exact ⟨zs[k], b, o, List.getElem?_eq_getElem hl, rfl, h.2.2.1 _ (List.getElem_mem hl), fun W hW => (hW.cell (p := ⟨b, o + k, none⟩) hb).trans (hc k _ (List.getElem?_eq_getElem hl))⟩
theorem piles_ok {k : Nat} {js : List Nat} (h : k + js.length ≤ 16384) (hj : ∀ j ∈ js, j ≤ 1000000) : Okd [pilesB k js] := by
  refine ⟨by show 1 ≤ 1000000000000000; omega, by rw [opsP, piles_len]; show k + js.length + 0 ≤ _; omega, fun l hl o ho => ?_⟩
  rw [List.mem_singleton] at hl
  subst hl
  refine oko_of ?_
  unfold pilesB at ho
  rcases List.mem_append.1 ho with h | h
  · rw [(List.mem_replicate.1 h).2]; rfl
  · obtain ⟨j, hm, rfl⟩ := List.mem_map.1 h
    have := hj j hm
    exact decide_eq_true ⟨Nat.zero_le _, Nat.zero_le _, by show -1000000000000000000 ≤ (j : Int); omega, by show (j : Int) ≤ 1000000000000000000; omega⟩

set_option maxRecDepth 100000 in
set_option maxHeartbeats 8000000 in
theorem walk (a0 : Int) (A1 : Option Addr) (n1 c1 : Nat) (zs1 : List Int) (w : World) (w0 : (Lit.int .i64 a0).wf = true) (hl1 : IntIs w A1 n1 c1 zs1) (hm1 : n1 ≤ maxLen) (hK : Knd w) :
    Calls Tryd.prog 5 #[.int .i64 a0, .slice A1 n1 c1] w fun e W' => e = .returned (.bool true) ∧ Below w.heap.size w W' := by
  obtain ⟨i0, hi0, hz0, hz1, hz2⟩ := infoOp_at
  obtain ⟨k, hk⟩ : ∃ k, k = place a0 30 := ⟨_, rfl⟩
  have hk30 : k < 30 := by rw [hk]; exact place_lt a0 30 (by decide)
  have HP1 := Lib.hid (place_is a0 30 w (by decide) (by decide) w0)
  rw [← hk] at HP1
  have HP2 := Lib.hid (fun (z : Int) (W : World) (hz : (Lit.int .i64 z).wf = true) => place_is z 8 W (by decide) (by decide) hz)
  have HKn := Lib.hid (fun (W : World) (hW : Below w.heap.size w W) => hK.on hW)
  have HL := Lib.hid hl1
  have hn1 : n1 ≤ 9223372036854775807 := by unfold maxLen at hm1; omega
  clear hk w0 hl1 hm1 hK
  go_enter Tryd.func5, Tryd.ntmps5
  go_upto_region 4 with (go_at_call 17; refine HP1.out.mono ?_; rintro e W' ⟨rfl, rfl⟩; clear HP1)
  go_loopw [6, 7] (fun v iv wr => ∃ j : Nat, j ≤ k ∧ iv = .int .i64 (j : Int) ∧ Hid (wr.ownsRow w.heap.size 40 4 v j (flatL (List.replicate j pushO))) ∧ Hid (Below w.heap.size w wr)) (fun _ iv _ => k - (intOf iv).toNat)
  case atStart => exact ⟨0, Nat.zero_le _, rfl, World.ownsRow_nil .., Below.refl _ _⟩
  case round =>
    obtain ⟨j, hj, rfl, HO, HB⟩ := hrel
    by_cases hlt : j < k
    · have hjk : (j : Int) < (k : Int) := by omega
      obtain ⟨Ar, cr, rfl⟩ := own_slice HO.out
      have hown := HO.out
      have hbs := HB.out.size
      have hzl : (flatL (List.replicate j pushO)).length = j * 4 := by rw [flatL_len, List.length_replicate]
      go_wp2_with (at_builtin; refine wpList_append_own _ rfl _ _ 38 rfl w.heap.size 40 i0 (.agg #[.int .i64 0, .int .i64 0, .string .empty, .slice none 0 0]) 4 56 Tryd.underlying38 hi0 hz0 hz1 hz2 rfl (by decide) _ _ _ rfl (hown.alloc _) ⟨wr.heap.size, 0, none⟩ 1 1 [.int .i64 1, .int .i64 0, .string ⟨#[]⟩, .slice none 0 0] rfl rfl (four_new _ _ _ _ _ _) (by simp [Value.oneCell']) (by unfold maxLen; omega) (by omega) (by simp; omega) ?_; intro v5 w5 hown5 hgrow5 _; have HO5 := Lib.hid hown5; have HB5 : Hid (Below w.heap.size w w5) := (HB.out.alloc hbs _).grown hgrow5 (by rw [World.size_alloc]; omega) (fun k hk => (hown.lt k hk).1); clear hown5 hgrow5)
      go_roundw
      case rel => exact ⟨j + 1, hlt, by go_num, by rw [← push_snoc]; exact HO5, HB5⟩
      case measure => simp [intOf]; omega
    · obtain rfl : k = j := by omega
      obtain ⟨Av, cv, rfl⟩ := own_slice HO.out
      have hown0 := HO.out
      obtain ⟨wo, rfl⟩ : ∃ wo, wo = wr := ⟨wr, rfl⟩
      obtain ⟨f, hf⟩ : ∃ f : Nat → List Nat, f = fun j => (zs1.take j).map fun z => place z 8 := ⟨_, rfl⟩
      have HFs : Hid (∀ j z, zs1[j]? = some z → f (j + 1) = f j ++ [place z 8]) := fun j z hz => by rw [hf]; show ((zs1.take (j + 1)).map _) = _; rw [List.take_add_one, hz, List.map_append]; rfl
      have HFl : Hid (∀ j, (f j).length ≤ j) := fun j => by rw [hf]; show ((zs1.take j).map _).length ≤ j; rw [List.length_map, List.length_take]; omega
      have HFm : Hid (∀ j, ∀ x ∈ f j, x ≤ 1000000) := fun j x hx => by rw [hf] at hx; obtain ⟨z, _, rfl⟩ := List.mem_map.1 hx; have := place_lt z 8 (by decide); omega
      have hf0 : f 0 = [] := by rw [hf]; rfl
      have HO0 : Hid (wo.ownsRow w.heap.size 40 4 (.slice Av k cv) (pilesB k (f 0)).length (flatL (pilesB k (f 0)))) := by
        show World.ownsRow _ _ _ _ _ _ _
        rw [hf0, piles_len]
        unfold pilesB
        rw [List.map_nil, List.append_nil]
        exact hown0
      have HS0 : Hid (pileS (f 0) (k : Int) true = ((k : Int), true)) := by show _ = _; rw [hf0]; rfl
      clear hf hf0 hown0 HO
      go_upto_region 9 with fail
      go_loopw [6, 8, 9, 10] (fun v n ok iv wr => ∃ (j : Nat) (x : Int) (o : Bool), j ≤ 10 ∧ j ≤ n1 ∧ iv = .int .i64 (j : Int) ∧ n = .int .i64 x ∧ ok = .bool o ∧ -(100 * (j : Int)) ≤ x ∧ x ≤ 30 + (j : Int) ∧ Hid (pileS (f j) (k : Int) true = (x, o)) ∧ Hid (wr.ownsRow w.heap.size 40 4 v (pilesB k (f j)).length (flatL (pilesB k (f j)))) ∧ Hid (Below w.heap.size w wr)) (fun _ _ _ iv _ => 10 - (intOf iv).toNat)
      case atStart => exact ⟨0, (k : Int), true, by decide, Nat.zero_le _, rfl, rfl, rfl, by omega, by omega, HS0, HO0, HB⟩
      case round =>
        obtain ⟨j, x, o, hj10, hjn, rfl, rfl, rfl, hx1, hx2, HS, HO, HB2⟩ := hrel
        have hfl := HFl.out j
        have hbs := HB2.out.size
        have hpl := piles_len k (f j)
        by_cases hlt : j < n1
        · have hjn1 : (j : Int) < (n1 : Int) := by omega
          by_cases hlt10 : j < 10
          · have hj10i : (j : Int) < 10 := by omega
            obtain ⟨z, b, oo, hzj, rfl, hz, hc⟩ := ints_at HL.out hlt
            have d0 := hc wr HB2.out
            have hfs := HFs.out j z hzj
            have HPz := Lib.hid (fun W => HP2.out z W hz)
            have hp8 := place_lt z 8 (by decide)
            obtain ⟨p, hp⟩ : ∃ p, p = place z 8 := ⟨_, rfl⟩
            rw [← hp] at hfs HPz hp8
            obtain ⟨t, ht⟩ : ∃ t, t = (pilesB k (f j)).length := ⟨_, rfl⟩
            have hown := HO.out
            rw [← ht] at hown hpl
            obtain ⟨Ar, cr, rfl⟩ := own_slice hown
            have hw1 : IntKind.i64.wrap (x - (p : Int)) = x - (p : Int) := IntWalk.i64_in _ (by omega)
            have hw2 : IntKind.i64.wrap (x - (p : Int) + 1) = x - (p : Int) + 1 := IntWalk.i64_in _ (by omega)
            have hS2 : pileS (f (j + 1)) (k : Int) true = (x - (p : Int) + 1, o && decide ((p : Int) ≤ x)) := by rw [hfs, pile_snoc, HS.out]
            have hflat : flatL (pilesB k (f j)) ++ [.int .i64 4, .int .i64 (p : Int), .string ⟨#[]⟩, .slice none 0 0] = flatL (pilesB k (f (j + 1))) := by rw [hfs]; exact piles_snoc k (f j) p
            have hlen : t + 1 = (pilesB k (f (j + 1))).length := by rw [hfs, piles_len, List.length_append, List.length_singleton]; omega
            have HFlat := Lib.hid hflat
            have HLen := Lib.hid hlen
            have hzl : (flatL (pilesB k (f j))).length = t * 4 := by rw [flatL_len, ht]
            have ht40 : t ≤ 40 := by omega
            clear hc hzj hp hfs hz hflat hlen ht hpl hfl
            by_cases hpx : (p : Int) ≤ x
            · rw [decide_eq_true hpx, Bool.and_true] at hS2
              have HS2 := Lib.hid hS2
              clear hS2
              cases o
              · go_wp2_with (first
                | (go_at_call 17; refine (HPz.out _).mono ?_; rintro e W' ⟨rfl, rfl⟩; clear HPz)
                | (at_builtin; refine wpList_append_own _ rfl _ _ 38 rfl w.heap.size 40 i0 (.agg #[.int .i64 0, .int .i64 0, .string .empty, .slice none 0 0]) 4 56 Tryd.underlying38 hi0 hz0 hz1 hz2 rfl (by decide) _ _ _ rfl (hown.alloc _) ⟨wr.heap.size, 0, none⟩ 1 1 [.int .i64 4, .int .i64 (p : Int), .string ⟨#[]⟩, .slice none 0 0] rfl rfl (four_new _ _ _ _ _ _) (by simp [Value.oneCell']) (by unfold maxLen; omega) (by omega) (by simp; omega) ?_; intro v5 w5 hown5 hgrow5 _; have HO5 := Lib.hid hown5; have HB5 : Hid (Below w.heap.size w w5) := (HB2.out.alloc hbs _).grown hgrow5 (by rw [World.size_alloc]; omega) (fun k hk => (hown.lt k hk).1); clear hown5 hgrow5))
                go_roundw
                case rel => exact ⟨j + 1, x - (p : Int) + 1, _, by omega, by omega, by go_num, rfl, rfl, by omega, by omega, (by first | exact HS2 | (rw [HPd.out]; exact HS2)), by rw [← HLen.out, ← HFlat.out]; exact HO5, HB5⟩
                case measure => simp [intOf]; omega
              · go_wp2_with (first
                | (go_at_call 17; refine (HPz.out _).mono ?_; rintro e W' ⟨rfl, rfl⟩; clear HPz)
                | (at_builtin; refine wpList_append_own _ rfl _ _ 38 rfl w.heap.size 40 i0 (.agg #[.int .i64 0, .int .i64 0, .string .empty, .slice none 0 0]) 4 56 Tryd.underlying38 hi0 hz0 hz1 hz2 rfl (by decide) _ _ _ rfl (hown.alloc _) ⟨wr.heap.size, 0, none⟩ 1 1 [.int .i64 4, .int .i64 (p : Int), .string ⟨#[]⟩, .slice none 0 0] rfl rfl (four_new _ _ _ _ _ _) (by simp [Value.oneCell']) (by unfold maxLen; omega) (by omega) (by simp; omega) ?_; intro v5 w5 hown5 hgrow5 _; have HO5 := Lib.hid hown5; have HB5 : Hid (Below w.heap.size w w5) := (HB2.out.alloc hbs _).grown hgrow5 (by rw [World.size_alloc]; omega) (fun k hk => (hown.lt k hk).1); clear hown5 hgrow5))
                go_roundw
                case rel => exact ⟨j + 1, x - (p : Int) + 1, _, by omega, by omega, by go_num, rfl, rfl, by omega, by omega, (by first | exact HS2 | (rw [HPd.out]; exact HS2)), by rw [← HLen.out, ← HFlat.out]; exact HO5, HB5⟩
                case measure => simp [intOf]; omega
            · have hpd : decide ((p : Int) ≤ x) = false := decide_eq_false hpx
              have HPd := Lib.hid hpd
              rw [hpd, Bool.and_false] at hS2
              have HS2 := Lib.hid hS2
              clear hS2 hpd
              cases o
              · go_wp2_with (first
                | (go_at_call 17; refine (HPz.out _).mono ?_; rintro e W' ⟨rfl, rfl⟩; clear HPz)
                | (at_builtin; refine wpList_append_own _ rfl _ _ 38 rfl w.heap.size 40 i0 (.agg #[.int .i64 0, .int .i64 0, .string .empty, .slice none 0 0]) 4 56 Tryd.underlying38 hi0 hz0 hz1 hz2 rfl (by decide) _ _ _ rfl (hown.alloc _) ⟨wr.heap.size, 0, none⟩ 1 1 [.int .i64 4, .int .i64 (p : Int), .string ⟨#[]⟩, .slice none 0 0] rfl rfl (four_new _ _ _ _ _ _) (by simp [Value.oneCell']) (by unfold maxLen; omega) (by omega) (by simp; omega) ?_; intro v5 w5 hown5 hgrow5 _; have HO5 := Lib.hid hown5; have HB5 : Hid (Below w.heap.size w w5) := (HB2.out.alloc hbs _).grown hgrow5 (by rw [World.size_alloc]; omega) (fun k hk => (hown.lt k hk).1); clear hown5 hgrow5))
                go_roundw
                case rel => exact ⟨j + 1, x - (p : Int) + 1, _, by omega, by omega, by go_num, rfl, rfl, by omega, by omega, (by first | exact HS2 | (rw [HPd.out]; exact HS2)), by rw [← HLen.out, ← HFlat.out]; exact HO5, HB5⟩
                case measure => simp [intOf]; omega
              · go_wp2_with (first
                | (go_at_call 17; refine (HPz.out _).mono ?_; rintro e W' ⟨rfl, rfl⟩; clear HPz)
                | (at_builtin; refine wpList_append_own _ rfl _ _ 38 rfl w.heap.size 40 i0 (.agg #[.int .i64 0, .int .i64 0, .string .empty, .slice none 0 0]) 4 56 Tryd.underlying38 hi0 hz0 hz1 hz2 rfl (by decide) _ _ _ rfl (hown.alloc _) ⟨wr.heap.size, 0, none⟩ 1 1 [.int .i64 4, .int .i64 (p : Int), .string ⟨#[]⟩, .slice none 0 0] rfl rfl (four_new _ _ _ _ _ _) (by simp [Value.oneCell']) (by unfold maxLen; omega) (by omega) (by simp; omega) ?_; intro v5 w5 hown5 hgrow5 _; have HO5 := Lib.hid hown5; have HB5 : Hid (Below w.heap.size w w5) := (HB2.out.alloc hbs _).grown hgrow5 (by rw [World.size_alloc]; omega) (fun k hk => (hown.lt k hk).1); clear hown5 hgrow5))
                go_roundw
                case rel => exact ⟨j + 1, x - (p : Int) + 1, _, by omega, by omega, by go_num, rfl, rfl, by omega, by omega, (by first | exact HS2 | (rw [HPd.out]; exact HS2)), by rw [← HLen.out, ← HFlat.out]; exact HO5, HB5⟩
                case measure => simp [intOf]; omega
          · have hnj : ¬ (j : Int) < 10 := by omega
            have hown := HO.out
            obtain ⟨Ar, cr, rfl⟩ := own_slice hown
            obtain ⟨t, ht⟩ : ∃ t, t = (pilesB k (f j)).length := ⟨_, rfl⟩
            have hcode := fun W (hW : Below wr.heap.size wr W) => own_code (HKn.out W (HB2.out.trans (hW.mono hbs))) (own_stay hown hW) (piles_plain k (f j))
            have hok := piles_ok (k := k) (js := f j) (by omega) (HFm.out j)
            have hck := fun W (hW : Below wr.heap.size wr W) => check_ok _ _ _ (hcode W hW) hok
            have hdk := fun W (hW : Below wr.heap.size wr W) => depth_ok _ _ _ (hcode W hW) hok
            have hwant : wantB k (f j) = (o && decide (x = 1)) := by unfold wantB; rw [HS.out]
            have hyes := fun h => piles_yes (k := k) (js := f j) h (by omega)
            have hno := fun h => piles_no (k := k) (js := f j) h
            have hcp : checkP [pilesB k (f j)] = decide (0 < depthP [pilesB k (f j)]) := rfl
            rw [hcp] at hck
            rw [hwant] at hyes hno
            generalize depthP [pilesB k (f j)] = d at hck hdk hyes hno
            rw [← ht] at hck hdk ⊢
            have HCk1 := Lib.hid hck
            have HDk1 := Lib.hid hdk
            have HYes := Lib.hid hyes
            have HNo := Lib.hid hno
            clear hcode hok hck hdk hwant hyes hno hcp hown ht HO HS HFs HFl HFm hpl hfl
            have HKz : Hid (d = 0 → ((0 : Int) < d) = False) := fun e => by rw [e]; simp
            cases o
            · have hd := HNo.out rfl
              subst hd
              clear HNo HYes HKz
              rw [show decide ((0 : Int) < 0) = false from rfl] at HCk1
              by_cases hk0 : k = 0
              · have hk1 : ((k : Int) == 0) = true := by rw [hk0]; rfl
                have hk2 : (k : Int) ≤ 0 := by omega
                clear hk0
                go_wp2_with (first
                  | (go_at_call 10; refine (HCk1.out _ (Below.refl _ _)).mono ?_; rintro e W3 ⟨rfl, hb3⟩; have HB3 : Hid (Below wr.heap.size wr W3) := ((Below.refl _ wr).alloc (Nat.le_refl _) _).trans (hb3.mono (by rw [World.size_alloc]; omega)); clear hb3)
                  | (go_at_call 12; refine (HDk1.out _ HB3.out).mono ?_; rintro e W4 ⟨rfl, hb4⟩; have HB4 : Hid (Below wr.heap.size wr W4) := (HB3.out.alloc HB3.out.size _).trans (hb4.mono (by rw [World.size_alloc]; have := HB3.out.size; omega)); clear hb4)
                  | (go_at_call 9; refine (Daw.awake_is _ (HKn.out _ (HB2.out.trans (HB4.out.mono hbs)))).mono ?_; rintro e W5 ⟨rfl, hb5⟩; have HB5 : Hid (Below wr.heap.size wr W5) := HB4.out.trans (hb5.mono HB4.out.size); clear hb5))
                go_ret
                exact ⟨rfl, HB2.out.trans (HB5.out.mono hbs)⟩
              · have hk1 : ((k : Int) == 0) = false := by rw [beq_eq_false_iff_ne]; omega
                have hk2 : ¬ (k : Int) ≤ 0 := by omega
                clear hk0
                go_wp2_with (first
                  | (go_at_call 10; refine (HCk1.out _ (Below.refl _ _)).mono ?_; rintro e W3 ⟨rfl, hb3⟩; have HB3 : Hid (Below wr.heap.size wr W3) := ((Below.refl _ wr).alloc (Nat.le_refl _) _).trans (hb3.mono (by rw [World.size_alloc]; omega)); clear hb3)
                  | (go_at_call 12; refine (HDk1.out _ HB3.out).mono ?_; rintro e W4 ⟨rfl, hb4⟩; have HB4 : Hid (Below wr.heap.size wr W4) := (HB3.out.alloc HB3.out.size _).trans (hb4.mono (by rw [World.size_alloc]; have := HB3.out.size; omega)); clear hb4)
                  | (go_at_call 9; refine (Daw.awake_is _ (HKn.out _ (HB2.out.trans (HB4.out.mono hbs)))).mono ?_; rintro e W5 ⟨rfl, hb5⟩; have HB5 : Hid (Below wr.heap.size wr W5) := HB4.out.trans (hb5.mono HB4.out.size); clear hb5))
                go_ret
                exact ⟨rfl, HB2.out.trans (HB5.out.mono hbs)⟩
            · by_cases hx : x = 1
              · subst hx
                obtain ⟨d', rfl, hd1, hd2⟩ := HYes.out rfl
                have hd3 : (0 : Int) < d := by omega
                rw [decide_eq_true hd3] at HCk1
                clear HNo HYes HKz
                go_wp2_with (first
                  | (go_at_call 10; refine (HCk1.out _ (Below.refl _ _)).mono ?_; rintro e W3 ⟨rfl, hb3⟩; have HB3 : Hid (Below wr.heap.size wr W3) := ((Below.refl _ wr).alloc (Nat.le_refl _) _).trans (hb3.mono (by rw [World.size_alloc]; omega)); clear hb3)
                  | (go_at_call 12; refine (HDk1.out _ HB3.out).mono ?_; rintro e W4 ⟨rfl, hb4⟩; have HB4 : Hid (Below wr.heap.size wr W4) := (HB3.out.alloc HB3.out.size _).trans (hb4.mono (by rw [World.size_alloc]; have := HB3.out.size; omega)); clear hb4)
                  | (go_at_call 9; refine (Daw.awake_is _ (HKn.out _ (HB2.out.trans (HB4.out.mono hbs)))).mono ?_; rintro e W5 ⟨rfl, hb5⟩; have HB5 : Hid (Below wr.heap.size wr W5) := HB4.out.trans (hb5.mono HB4.out.size); clear hb5))
                go_ret
                exact ⟨rfl, HB2.out.trans (HB5.out.mono hbs)⟩
              · have hd := HNo.out (by rw [decide_eq_false hx]; rfl)
                subst hd
                have hx1 : (x == 1) = false := by rw [beq_eq_false_iff_ne]; exact hx
                clear HNo HYes HKz
                rw [show decide ((0 : Int) < 0) = false from rfl] at HCk1
                by_cases hk0 : k = 0
                · have hk1 : ((k : Int) == 0) = true := by rw [hk0]; rfl
                  have hk2 : (k : Int) ≤ 0 := by omega
                  clear hk0
                  go_wp2_with (first
                    | (go_at_call 10; refine (HCk1.out _ (Below.refl _ _)).mono ?_; rintro e W3 ⟨rfl, hb3⟩; have HB3 : Hid (Below wr.heap.size wr W3) := ((Below.refl _ wr).alloc (Nat.le_refl _) _).trans (hb3.mono (by rw [World.size_alloc]; omega)); clear hb3)
                    | (go_at_call 12; refine (HDk1.out _ HB3.out).mono ?_; rintro e W4 ⟨rfl, hb4⟩; have HB4 : Hid (Below wr.heap.size wr W4) := (HB3.out.alloc HB3.out.size _).trans (hb4.mono (by rw [World.size_alloc]; have := HB3.out.size; omega)); clear hb4)
                    | (go_at_call 9; refine (Daw.awake_is _ (HKn.out _ (HB2.out.trans (HB4.out.mono hbs)))).mono ?_; rintro e W5 ⟨rfl, hb5⟩; have HB5 : Hid (Below wr.heap.size wr W5) := HB4.out.trans (hb5.mono HB4.out.size); clear hb5))
                  go_ret
                  exact ⟨rfl, HB2.out.trans (HB5.out.mono hbs)⟩
                · have hk1 : ((k : Int) == 0) = false := by rw [beq_eq_false_iff_ne]; omega
                  have hk2 : ¬ (k : Int) ≤ 0 := by omega
                  clear hk0
                  go_wp2_with (first
                    | (go_at_call 10; refine (HCk1.out _ (Below.refl _ _)).mono ?_; rintro e W3 ⟨rfl, hb3⟩; have HB3 : Hid (Below wr.heap.size wr W3) := ((Below.refl _ wr).alloc (Nat.le_refl _) _).trans (hb3.mono (by rw [World.size_alloc]; omega)); clear hb3)
                    | (go_at_call 12; refine (HDk1.out _ HB3.out).mono ?_; rintro e W4 ⟨rfl, hb4⟩; have HB4 : Hid (Below wr.heap.size wr W4) := (HB3.out.alloc HB3.out.size _).trans (hb4.mono (by rw [World.size_alloc]; have := HB3.out.size; omega)); clear hb4)
                    | (go_at_call 9; refine (Daw.awake_is _ (HKn.out _ (HB2.out.trans (HB4.out.mono hbs)))).mono ?_; rintro e W5 ⟨rfl, hb5⟩; have HB5 : Hid (Below wr.heap.size wr W5) := HB4.out.trans (hb5.mono HB4.out.size); clear hb5))
                  go_ret
                  exact ⟨rfl, HB2.out.trans (HB5.out.mono hbs)⟩
        · have hnj : ¬ (j : Int) < (n1 : Int) := by omega
          have hown := HO.out
          obtain ⟨Ar, cr, rfl⟩ := own_slice hown
          obtain ⟨t, ht⟩ : ∃ t, t = (pilesB k (f j)).length := ⟨_, rfl⟩
          have hcode := fun W (hW : Below wr.heap.size wr W) => own_code (HKn.out W (HB2.out.trans (hW.mono hbs))) (own_stay hown hW) (piles_plain k (f j))
          have hok := piles_ok (k := k) (js := f j) (by omega) (HFm.out j)
          have hck := fun W (hW : Below wr.heap.size wr W) => check_ok _ _ _ (hcode W hW) hok
          have hdk := fun W (hW : Below wr.heap.size wr W) => depth_ok _ _ _ (hcode W hW) hok
          have hwant : wantB k (f j) = (o && decide (x = 1)) := by unfold wantB; rw [HS.out]
          have hyes := fun h => piles_yes (k := k) (js := f j) h (by omega)
          have hno := fun h => piles_no (k := k) (js := f j) h
          have hcp : checkP [pilesB k (f j)] = decide (0 < depthP [pilesB k (f j)]) := rfl
          rw [hcp] at hck
          rw [hwant] at hyes hno
          generalize depthP [pilesB k (f j)] = d at hck hdk hyes hno
          rw [← ht] at hck hdk ⊢
          have HCk1 := Lib.hid hck
          have HDk1 := Lib.hid hdk
          have HYes := Lib.hid hyes
          have HNo := Lib.hid hno
          clear hcode hok hck hdk hwant hyes hno hcp hown ht HO HS HFs HFl HFm hpl hfl
          have HKz : Hid (d = 0 → ((0 : Int) < d) = False) := fun e => by rw [e]; simp
          cases o
          · have hd := HNo.out rfl
            subst hd
            clear HNo HYes HKz
            rw [show decide ((0 : Int) < 0) = false from rfl] at HCk1
            by_cases hk0 : k = 0
            · have hk1 : ((k : Int) == 0) = true := by rw [hk0]; rfl
              have hk2 : (k : Int) ≤ 0 := by omega
              clear hk0
              go_wp2_with (first
                | (go_at_call 10; refine (HCk1.out _ (Below.refl _ _)).mono ?_; rintro e W3 ⟨rfl, hb3⟩; have HB3 : Hid (Below wr.heap.size wr W3) := ((Below.refl _ wr).alloc (Nat.le_refl _) _).trans (hb3.mono (by rw [World.size_alloc]; omega)); clear hb3)
                | (go_at_call 12; refine (HDk1.out _ HB3.out).mono ?_; rintro e W4 ⟨rfl, hb4⟩; have HB4 : Hid (Below wr.heap.size wr W4) := (HB3.out.alloc HB3.out.size _).trans (hb4.mono (by rw [World.size_alloc]; have := HB3.out.size; omega)); clear hb4)
                | (go_at_call 9; refine (Daw.awake_is _ (HKn.out _ (HB2.out.trans (HB4.out.mono hbs)))).mono ?_; rintro e W5 ⟨rfl, hb5⟩; have HB5 : Hid (Below wr.heap.size wr W5) := HB4.out.trans (hb5.mono HB4.out.size); clear hb5))
              go_ret
              exact ⟨rfl, HB2.out.trans (HB5.out.mono hbs)⟩
            · have hk1 : ((k : Int) == 0) = false := by rw [beq_eq_false_iff_ne]; omega
              have hk2 : ¬ (k : Int) ≤ 0 := by omega
              clear hk0
              go_wp2_with (first
                | (go_at_call 10; refine (HCk1.out _ (Below.refl _ _)).mono ?_; rintro e W3 ⟨rfl, hb3⟩; have HB3 : Hid (Below wr.heap.size wr W3) := ((Below.refl _ wr).alloc (Nat.le_refl _) _).trans (hb3.mono (by rw [World.size_alloc]; omega)); clear hb3)
                | (go_at_call 12; refine (HDk1.out _ HB3.out).mono ?_; rintro e W4 ⟨rfl, hb4⟩; have HB4 : Hid (Below wr.heap.size wr W4) := (HB3.out.alloc HB3.out.size _).trans (hb4.mono (by rw [World.size_alloc]; have := HB3.out.size; omega)); clear hb4)
                | (go_at_call 9; refine (Daw.awake_is _ (HKn.out _ (HB2.out.trans (HB4.out.mono hbs)))).mono ?_; rintro e W5 ⟨rfl, hb5⟩; have HB5 : Hid (Below wr.heap.size wr W5) := HB4.out.trans (hb5.mono HB4.out.size); clear hb5))
              go_ret
              exact ⟨rfl, HB2.out.trans (HB5.out.mono hbs)⟩
          · by_cases hx : x = 1
            · subst hx
              obtain ⟨d', rfl, hd1, hd2⟩ := HYes.out rfl
              have hd3 : (0 : Int) < d := by omega
              rw [decide_eq_true hd3] at HCk1
              clear HNo HYes HKz
              go_wp2_with (first
                | (go_at_call 10; refine (HCk1.out _ (Below.refl _ _)).mono ?_; rintro e W3 ⟨rfl, hb3⟩; have HB3 : Hid (Below wr.heap.size wr W3) := ((Below.refl _ wr).alloc (Nat.le_refl _) _).trans (hb3.mono (by rw [World.size_alloc]; omega)); clear hb3)
                | (go_at_call 12; refine (HDk1.out _ HB3.out).mono ?_; rintro e W4 ⟨rfl, hb4⟩; have HB4 : Hid (Below wr.heap.size wr W4) := (HB3.out.alloc HB3.out.size _).trans (hb4.mono (by rw [World.size_alloc]; have := HB3.out.size; omega)); clear hb4)
                | (go_at_call 9; refine (Daw.awake_is _ (HKn.out _ (HB2.out.trans (HB4.out.mono hbs)))).mono ?_; rintro e W5 ⟨rfl, hb5⟩; have HB5 : Hid (Below wr.heap.size wr W5) := HB4.out.trans (hb5.mono HB4.out.size); clear hb5))
              go_ret
              exact ⟨rfl, HB2.out.trans (HB5.out.mono hbs)⟩
            · have hd := HNo.out (by rw [decide_eq_false hx]; rfl)
              subst hd
              have hx1 : (x == 1) = false := by rw [beq_eq_false_iff_ne]; exact hx
              clear HNo HYes HKz
              rw [show decide ((0 : Int) < 0) = false from rfl] at HCk1
              by_cases hk0 : k = 0
              · have hk1 : ((k : Int) == 0) = true := by rw [hk0]; rfl
                have hk2 : (k : Int) ≤ 0 := by omega
                clear hk0
                go_wp2_with (first
                  | (go_at_call 10; refine (HCk1.out _ (Below.refl _ _)).mono ?_; rintro e W3 ⟨rfl, hb3⟩; have HB3 : Hid (Below wr.heap.size wr W3) := ((Below.refl _ wr).alloc (Nat.le_refl _) _).trans (hb3.mono (by rw [World.size_alloc]; omega)); clear hb3)
                  | (go_at_call 12; refine (HDk1.out _ HB3.out).mono ?_; rintro e W4 ⟨rfl, hb4⟩; have HB4 : Hid (Below wr.heap.size wr W4) := (HB3.out.alloc HB3.out.size _).trans (hb4.mono (by rw [World.size_alloc]; have := HB3.out.size; omega)); clear hb4)
                  | (go_at_call 9; refine (Daw.awake_is _ (HKn.out _ (HB2.out.trans (HB4.out.mono hbs)))).mono ?_; rintro e W5 ⟨rfl, hb5⟩; have HB5 : Hid (Below wr.heap.size wr W5) := HB4.out.trans (hb5.mono HB4.out.size); clear hb5))
                go_ret
                exact ⟨rfl, HB2.out.trans (HB5.out.mono hbs)⟩
              · have hk1 : ((k : Int) == 0) = false := by rw [beq_eq_false_iff_ne]; omega
                have hk2 : ¬ (k : Int) ≤ 0 := by omega
                clear hk0
                go_wp2_with (first
                  | (go_at_call 10; refine (HCk1.out _ (Below.refl _ _)).mono ?_; rintro e W3 ⟨rfl, hb3⟩; have HB3 : Hid (Below wr.heap.size wr W3) := ((Below.refl _ wr).alloc (Nat.le_refl _) _).trans (hb3.mono (by rw [World.size_alloc]; omega)); clear hb3)
                  | (go_at_call 12; refine (HDk1.out _ HB3.out).mono ?_; rintro e W4 ⟨rfl, hb4⟩; have HB4 : Hid (Below wr.heap.size wr W4) := (HB3.out.alloc HB3.out.size _).trans (hb4.mono (by rw [World.size_alloc]; have := HB3.out.size; omega)); clear hb4)
                  | (go_at_call 9; refine (Daw.awake_is _ (HKn.out _ (HB2.out.trans (HB4.out.mono hbs)))).mono ?_; rintro e W5 ⟨rfl, hb5⟩; have HB5 : Hid (Below wr.heap.size wr W5) := HB4.out.trans (hb5.mono HB4.out.size); clear hb5))
                go_ret
                exact ⟨rfl, HB2.out.trans (HB5.out.mono hbs)⟩

end Go.Proofs.YtpphkaolonjjdaaDoor.SoundPiles
