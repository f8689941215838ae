/- The law VfsTrees, walked. -/
import Derived.Deep.DeepCutAuto
import Derived.Laws.OwnMore
import Derived.Test.YthoijecpinplaaaDoorVawake
import Derived.Test.YthoijecpinplaaaDoorVtree
namespace Go.Proofs.YthoijecpinplaaaDoor.VfsTrees
open Go.RowKit Go.Proofs.YthoijecpinplaaaDoor.Pth Go.Proofs.YthoijecpinplaaaDoor.Strs Go.Proofs.YthoijecpinplaaaDoor.Vfs Go.Proofs.YthoijecpinplaaaDoor.Vmap Go.Proofs.YthoijecpinplaaaDoor.Vnames Go.Proofs.YthoijecpinplaaaDoor.Vnew Go.Proofs.YthoijecpinplaaaDoor.Vfind Go.Proofs.YthoijecpinplaaaDoor.Vlook Go.Proofs.YthoijecpinplaaaDoor.Vsort Go.Proofs.YthoijecpinplaaaDoor.Vall Go.Proofs.YthoijecpinplaaaDoor.Vawake Go.Proofs.YthoijecpinplaaaDoor.Vdig Go.Proofs.YthoijecpinplaaaDoor.Vtree
open Go.Proofs.YthoijecpinplaaaDoor.Place (place place_lt place_is)

theorem small_of (x : Raw) (h1 : x.path.size ≤ 1000) (h2 : x.text.size ≤ 1000) : RawSmall x := ⟨by omega, by omega⟩
theorem way_size (k : Nat) (hk : k ≤ 20) : (bs (flatL (way k))).size ≤ 500 := by rw [size_bs]; have := flat_way_len k (by omega); omega
theorem way_y_size (k : Nat) (hk : k ≤ 20) : (bs (flatL (way k) ++ [47, 121])).size ≤ 502 := by rw [size_bs, List.length_append]; have := flat_way_len k (by omega); simp; omega
theorem raw4_small (k : Nat) (hk : k ≤ 20) : ∀ x ∈ raw1 k ++ raw3 k, RawSmall x := fun x hx => by
  have h1 := way_size k hk
  have h2 := way_y_size k hk
  simp [raw1, raw3] at hx
  rcases hx with rfl | rfl | rfl | rfl
  · exact small_of _ (by show (bs _).size ≤ _; omega) (by show (⟨#[120]⟩ : ByteArray).size ≤ 1000; decide)
  · exact small_of _ (by show (bs _).size ≤ _; omega) (by show (⟨#[122]⟩ : ByteArray).size ≤ 1000; decide)
  · exact small_of _ (by show (bs _).size ≤ _; omega) (by show (⟨#[111, 116, 104, 101, 114]⟩ : ByteArray).size ≤ 1000; decide)
  · exact small_of _ (by show (bs _).size ≤ _; omega) (by show (⟨#[]⟩ : ByteArray).size ≤ 1000; decide)
theorem raw1_small (k : Nat) (hk : k ≤ 20) : ∀ x ∈ raw1 k, RawSmall x := fun x hx => raw4_small k hk x (List.mem_append_left _ hx)

theorem le_max (a b : Nat) (h : a + b ≤ 100) : a + b ≤ maxLen := by unfold maxLen; omega
theorem le_by (a b : Nat) (h : a + b ≤ 100) : (a + b) * 40 ≤ 140737488355328 := by omega
set_option maxRecDepth 100000 in
set_option maxHeartbeats 8000000 in
theorem walk_k (a0 : Int) (b1 : Bool) (k : Nat) (w : World) (hk0 : 0 < k) (hk : k ≤ 20)
    (hP : ∀ W : World, Calls Tryd.prog 20 #[.int .i64 a0, .int .i64 20] W fun e w' => e = .returned (.int .i64 ((k : Int) - 1)) ∧ W = w') :
    Calls Tryd.prog 5 #[.int .i64 a0, .bool b1] w fun e W' => e = .returned (.bool true) ∧ Below w.heap.size w W' := by
  obtain ⟨i0, hi0, hz0, hz1, hz2⟩ := info_parts infoEnt
  have HP := Lib.hid hP
  clear hP
  have qk : IntKind.i64.wrap (1 + ((k : Int) - 1)) = (k : Int) := by rw [show (1 + ((k : Int) - 1)) = (k : Int) by omega]; exact IntWalk.i64_in _ (by omega)
  go_enter Tryd.func5, Tryd.ntmps5
  go_wp2_with fail
  refine (HP.out _).mono ?_
  rintro e w' ⟨rfl, rfl⟩
  clear HP
  go_wp2_with fail
  clear qk
  go_loopw [6, 7] (fun v i wr => ∃ n m : Nat, n ≤ k ∧ i = .int .i64 n ∧ v = .string (bs (flatL (way n))) ∧ wr = w.drewN m) (fun _ i _ => k - (intOf i).toNat)
  case atStart => exact ⟨0, 0, Nat.zero_le _, rfl, rfl, rfl⟩
  case round =>
    obtain ⟨n, m, hn, rfl, rfl, rfl⟩ := hrel
    by_cases hlt : n < k
    · have HD := Lib.hid (fun W => dig_is n (by omega) W)
      have hs1 := way_size n (by omega)
      have hs2 : (bs (digN n)).size ≤ 25 := by rw [size_bs]; have := digN_len n; omega
      have e1 : bs (flatL (way n)) ++ (⟨#[47, 100]⟩ : ByteArray) ++ bs (digN n) = bs (flatL (way (n + 1))) := by
        rw [flat_way_succ, show (⟨#[47, 100]⟩ : ByteArray) = bs [47, 100] from rfl, ← bs_app, ← bs_app, List.append_assoc]; rfl
      have z2 : (bs (flatL (way n)) ++ (⟨#[47, 100]⟩ : ByteArray)).size ≤ 502 := by rw [ByteArray.size_append]; show _ + 2 ≤ _; omega
      have a1 : ∀ W, (Op.stringOp .add (bs (flatL (way n))) ⟨#[47, 100]⟩).run Tryd.prog W = .ok (.string (bs (flatL (way n)) ++ ⟨#[47, 100]⟩)) W := fun W => run_string_add_sum W _ _ (by show _ + 2 ≤ _; omega)
      have a2 : ∀ W, (Op.stringOp .add (bs (flatL (way n)) ++ ⟨#[47, 100]⟩) (bs (digN n))).run Tryd.prog W = .ok (.string (bs (flatL (way (n + 1))))) W := fun W => by rw [← e1]; exact run_string_add_sum W _ _ (by omega)
      clear e1 z2 hs1
      generalize bs (flatL (way n)) ++ (⟨#[47, 100]⟩ : ByteArray) = s2 at *
      generalize bs (flatL (way n)) = s1 at *
      generalize bs (digN n) = s3 at *
      generalize hs4 : bs (flatL (way (n + 1))) = s4 at *
      have HS4 := Lib.hid hs4
      clear hs4
      go_wp2_with fail
      refine (HD.out _).mono ?_
      rintro e w1 ⟨rfl, m1, rfl⟩
      clear HD
      go_wp2
      go_roundw
      case rel => exact ⟨n + 1, m + m1, by omega, by go_num, by rw [HS4.out], by simp⟩
      case measure => simp [intOf]; omega
    · obtain rfl : k = n := by omega
      have hps := way_size k hk
      have hys := way_y_size k hk
      have ey : bs (flatL (way k)) ++ (⟨#[47, 121]⟩ : ByteArray) = bs (flatL (way k) ++ [47, 121]) := by rw [show (⟨#[47, 121]⟩ : ByteArray) = bs [47, 121] from rfl, ← bs_app]
      have ay : ∀ W, (Op.stringOp .add (bs (flatL (way k))) ⟨#[47, 121]⟩).run Tryd.prog W = .ok (.string (bs (flatL (way k) ++ [47, 121]))) W := fun W => by rw [← ey]; exact run_string_add_sum W _ _ (by show _ + 2 ≤ _; omega)
      have HB0 : Hid (Below w.heap.size w (w.drewN m)) := below_drewN (Below.refl _ _) m
      have HC1 : Hid (cells (raw1 k) = [.string (bs (flatL (way k))), .bool false, .string ⟨#[120]⟩]) := by show _ = _; rfl
      have HC3 : Hid (cells (raw3 k) = [.string (bs (flatL (way k) ++ [47, 121])), .bool false, .string ⟨#[122]⟩, .string (bs (flatL (way k))), .bool false, .string ⟨#[111, 116, 104, 101, 114]⟩, .string (bs (flatL (way k))), .bool true, .string ⟨#[]⟩]) := by show _ = _; rfl
      have HL1 := Lib.hid (new1 k hk0)
      have HL4 := Lib.hid (new4 k hk0)
      have HR1 := Lib.hid (raw1_small k hk)
      have HR4 := Lib.hid (raw4_small k hk)
      have HLk := Lib.hid (look_tree k ⟨#[120]⟩ hk0)
      have HLy := Lib.hid (look_y k ⟨#[120]⟩)
      have HLf := Lib.hid (list_file k ⟨#[120]⟩ hk0)
      have HLt := Lib.hid (fun i h => list_tree k i ⟨#[120]⟩ h)
      have HInv := Lib.hid (tree_inv k ⟨#[120]⟩)
      have HLen := Lib.hid (tree_len k ⟨#[120]⟩)
      generalize w.drewN m = w1 at *
      clear ey hn hlt
      generalize bs (flatL (way k) ++ [47, 121]) = py at *
      generalize bs (flatL (way k)) = p at *
      go_upto_if 33 with fail
      go_cut [8] (fun v wx => ∃ (lr : List Raw) (A : Option Addr) (c n : Nat), lr.length = n ∧ v = .slice A n c ∧ EnIs wx A c lr ∧ (∀ x ∈ lr, RawSmall x) ∧ newL lr = tree k ⟨#[120]⟩ ∧ n ≤ 4 ∧ Hid (Below w.heap.size w wx))
      case first =>
        have hs1 := HB0.out.size
        cases b1 with
        | true =>
          have hown1 := World.ownsRow_lit (base := w.heap.size) (e := 30) (size := 3) w1 #[.string p, .bool false, .string ⟨#[120]⟩] 1 hs1 (by decide) rfl
          have HO1 := Lib.hid hown1
          have HNW : Hid (∀ (j : Nat) u, (cells (raw3 k))[j]? = some u → ((w1.alloc (.cells #[.string p, .bool false, .string ⟨#[120]⟩] 30)).alloc (.cells #[.string py, .bool false, .string ⟨#[122]⟩, .string p, .bool false, .string ⟨#[111, 116, 104, 101, 114]⟩, .string p, .bool true, .string ⟨#[]⟩] 30)).cell? ((⟨w1.heap.size + 1, 0, none⟩ : Addr).add j) = some u) := by
            intro j u hu
            have e := heap_alloc_new (w1.alloc (.cells #[.string p, .bool false, .string ⟨#[120]⟩] 30)) (.cells #[.string py, .bool false, .string ⟨#[122]⟩, .string p, .bool false, .string ⟨#[111, 116, 104, 101, 114]⟩, .string p, .bool true, .string ⟨#[]⟩] 30)
            rw [World.size_alloc] at e
            rw [addr_add, Nat.zero_add, Lib.cell_of_heap e]
            rw [HC3.out, ← List.getElem?_toArray] at hu
            exact hu
          have HB2 : Hid (Below w.heap.size w ((w1.alloc (.cells #[.string p, .bool false, .string ⟨#[120]⟩] 30)).alloc (.cells #[.string py, .bool false, .string ⟨#[122]⟩, .string p, .bool false, .string ⟨#[111, 116, 104, 101, 114]⟩, .string p, .bool true, .string ⟨#[]⟩] 30))) := (HB0.out.alloc hs1 _).alloc (by rw [World.size_alloc]; omega) _
          have hs2 : w.heap.size ≤ ((w1.alloc (.cells #[.string p, .bool false, .string ⟨#[120]⟩] 30)).alloc (.cells #[.string py, .bool false, .string ⟨#[122]⟩, .string p, .bool false, .string ⟨#[111, 116, 104, 101, 114]⟩, .string p, .bool true, .string ⟨#[]⟩] 30)).heap.size := HB2.out.size
          have HS2 := Lib.hid hs2
          clear hs2
          have HN1 : Hid (∀ u ∈ cells (raw3 k), u.oneCell' = true) := by
            intro u hu
            rw [HC3.out] at hu
            simp at hu
            rcases hu with rfl | rfl | rfl | rfl | rfl | rfl | rfl | rfl | rfl <;> rfl
          have hl9 : (cells (raw3 k)).length = 3 * 3 := by rw [HC3.out]; rfl
          clear hown1
          go_wp2_with (at_builtin; go_loud (refine wpList_append_own _ rfl _ _ 22 rfl w.heap.size 30 i0 (.agg #[.string .empty, .bool false, .string .empty]) 3 40 Tryd.underlying22 hi0 hz0 hz1 hz2 rfl (by decide) _ _ _ rfl (HO1.out.alloc _) ⟨w1.heap.size + 1, 0, none⟩ 3 3 (cells (raw3 k)) rfl hl9 HNW.out HN1.out (le_max 1 3 (by decide)) (le_by 1 3 (by decide)) HS2.out ?_; intro v' w4 hown' hgrow _; have HO := Lib.hid hown'; have HG : Hid (Below w.heap.size w w4) := HB2.out.grown hgrow HS2.out (fun k e => (HO1.out.lt k e).1); clear hown' hgrow))
          go_meet
          have hO := HO.out
          obtain ⟨A, c, rfl, hE, _⟩ := enIs_of_own (n := 4) (l := raw1 k ++ raw3 k) rfl (by rw [cells_app, HC1.out]; exact hO)
          exact ⟨raw1 k ++ raw3 k, A, c, 4, rfl, rfl, hE, HR4.out, HL4.out, by omega, HG.out⟩
        | false =>
          go_wp2_with fail
          go_meet
          refine ⟨raw1 k, some ⟨w1.heap.size, 0, none⟩, 1, 1, rfl, rfl, ?_, HR1.out, HL1.out, by omega, (HB0.out.alloc hs1 _)⟩
          have he := ents_is w1 (raw1 k)
          rw [HC1.out] at he
          exact he
      case rest =>
        obtain ⟨lr, A, c, n, hlr, rfl, hE, hsm, hnl, hn4, HBx⟩ := hcut
        have hnew := new_is A n c lr wc hlr hE hsm (by unfold maxLen; omega)
        rw [hnl] at hnew
        have HNew := Lib.hid hnew
        clear hnew hE hsm hlr hnl HR1 HR4 HL1 HL4 HC1 HC3 HB0
        go_wp2_with fail
        refine HNew.out.mono ?_
        rintro e w2 ⟨fa, B, bl, rfl, hF, hb2⟩
        have HF := Lib.hid hF
        have HB2 := Lib.hid (HBx.out.trans (hb2.mono HBx.out.size))
        have hal := all_is fa B bl (tree k ⟨#[120]⟩) w2 hF HInv.out (by rw [HLen.out]; omega) sortsNone
        rw [HLen.out] at hal
        have HAl := Lib.hid hal
        clear hF hb2 HNew HBx hal
        go_wp2_with fail
        refine HAl.out.mono ?_
        rintro e w3 ⟨A3, c3, M, rfl, _, _, _, hb3⟩
        have HF3 := Lib.hid (HF.out.below hb3)
        have HB3 := Lib.hid (HB2.out.trans (hb3.mono HB2.out.size))
        clear hb3 HAl HF HB2
        have hkk : ((k : Int) == (k : Int)) = true := by simp
        go_wp2_with fail
        go_loopw [10, 11] (fun q i wr => ∃ n : Nat, n ≤ k ∧ i = .int .i64 n ∧ q = .string (bs (flatL (way n) ++ [47])) ∧ Hid (Below w3.heap.size w3 wr)) (fun _ i _ => k - (intOf i).toNat)
        case atStart => exact ⟨0, Nat.zero_le _, rfl, rfl, Below.refl _ _⟩
        case round =>
          obtain ⟨n, hn, rfl, rfl, H⟩ := hrel
          by_cases hlt : n < k
          · have hs1 := way_size n (by omega)
            have hls := list_is fa B bl (tree k ⟨#[120]⟩) (bs (flatL (way n) ++ [47])) wr (HF3.out.below H.out) HInv.out (by rw [size_bs, List.length_append]; rw [size_bs] at hs1; simp; omega) (by rw [HLen.out]; omega)
            rw [HLt.out n hlt] at hls
            have HLs := Lib.hid hls
            have hc1 : (bs (cmp n)).size ≤ 30 := by rw [size_bs, cmp, List.length_cons]; have := digN_len n; omega
            have hq1 : (bs (flatL (way n) ++ [47])).size ≤ 501 := by rw [size_bs, List.length_append]; rw [size_bs] at hs1; simp; omega
            have a1 : ∀ W, (Op.stringOp .add ⟨#[100]⟩ (digI (n : Int))).run Tryd.prog W = .ok (.string (bs (cmp n))) W := fun W => by
              have e2 : digI (n : Int) = bs (digN n) := by
                unfold digI
                rw [show ((n : Int)).toNat = n by omega]
              have e3 : (⟨#[100]⟩ : ByteArray) ++ bs (digN n) = bs (cmp n) := (bs_app [100] _).symm
              have e4 : (bs (digN n)).size ≤ 30 := by rw [size_bs]; have := digN_len n; omega
              rw [e2, ← e3]; exact run_string_add_sum W _ _ (by show 1 + _ ≤ _; omega)
            have a2 : ∀ W, (Op.stringOp .add (bs (flatL (way n) ++ [47])) (bs (cmp n))).run Tryd.prog W = .ok (.string (bs (flatL (way n) ++ [47]) ++ bs (cmp n))) W := fun W => run_string_add_sum W _ _ (by omega)
            have e5 : bs (flatL (way n) ++ [47]) ++ bs (cmp n) ++ (⟨#[47]⟩ : ByteArray) = bs (flatL (way (n + 1)) ++ [47]) := by
              rw [flat_way_succ, show (⟨#[47]⟩ : ByteArray) = bs [47] from rfl, ← bs_app, ← bs_app]
              congr 1
              simp
            have z5 : (bs (flatL (way n) ++ [47]) ++ bs (cmp n)).size ≤ 600 := by rw [ByteArray.size_append]; omega
            have a3 : ∀ W, (Op.stringOp .add (bs (flatL (way n) ++ [47]) ++ bs (cmp n)) ⟨#[47]⟩).run Tryd.prog W = .ok (.string (bs (flatL (way (n + 1)) ++ [47]))) W := fun W => by rw [← e5]; exact run_string_add_sum W _ _ (by show _ + 1 ≤ _; omega)
            have HDg := Lib.hid digI_is
            have hn3 : (n : Int) ≤ 300 := by omega
            have HB := Lib.hid H.out
            clear hs1 hls e5 z5 H
            generalize bs (flatL (way n) ++ [47]) ++ bs (cmp n) = s5 at *
            generalize bs (flatL (way n) ++ [47]) = s4 at *
            generalize hs6 : bs (flatL (way (n + 1)) ++ [47]) = s6 at *
            have HS6 := Lib.hid hs6
            clear hs6
            generalize digI = dg at *
            go_wp2_with fail
            refine HLs.out.mono ?_
            rintro e w4 ⟨A4, c4, rfl, hsl, hb4⟩
            have hx : (([cmp n] : List (List UInt8)).map bs)[0]? = some (bs (cmp n)) := rfl
            obtain ⟨bA, oA, rfl, hbA, hcA⟩ := hsl.at_ hx
            have c1 := hcA w4 (Below.refl _ _)
            have c0 : w4.cell? ⟨bA, oA, none⟩ = some (.string (bs (cmp n))) := c1
            have HB4 := Lib.hid (HB.out.trans (hb4.mono HB.out.size))
            have hl1 : ([cmp n] : List (List UInt8)).length = 1 := rfl
            rw [hl1]
            clear hsl hx hb4 hcA hl1 HLs HB
            generalize bs (cmp n) = nb at *
            have hbe : (nb.toList == nb.toList) = true := by simp
            go_wp2_with fail
            go_quiet (first | (go_at_call 22; refine Calls.quiet_of (HDg.out _ (by omega) (by omega) _)))
            go_wp2_with fail
            go_roundw
            case rel => exact ⟨n + 1, by omega, by go_num, by rw [HS6.out], below_drewN HB4.out _⟩
            case measure => simp [intOf]; omega
          · obtain rfl : k = n := by omega
            have HB4 := Lib.hid (HB3.out.trans (H.out.mono HB3.out.size))
            have HF4 := Lib.hid (HF3.out.below H.out)
            have hlk1 := look_is fa B bl (tree k ⟨#[120]⟩) p wr HF4.out HInv.out (by omega) (by rw [HLen.out]; omega)
            rw [HLk.out] at hlk1
            have HL1 := Lib.hid hlk1
            have HL2 := Lib.hid (fun W (hW : Below wr.heap.size wr W) => look_is fa B bl (tree k ⟨#[120]⟩) py W (HF4.out.below hW) HInv.out (by omega) (by rw [HLen.out]; omega))
            have HL3 := Lib.hid (fun W (hW : Below wr.heap.size wr W) => list_is fa B bl (tree k ⟨#[120]⟩) p W (HF4.out.below hW) HInv.out (by omega) (by rw [HLen.out]; omega))
            rw [HLy.out] at HL2
            rw [HLf.out] at HL3
            clear hlk1 HF3 HB3 H HLk HLy HLf HF4 hn hlt
            generalize pathB (way k) = pb at *
            go_wp2_with fail
            refine HL1.out.mono ?_
            rintro e w4 ⟨rfl, hb4⟩
            unfold Nd.e
            have HC4 := Lib.hid hb4
            have HS4 := Lib.hid hb4.size
            clear hb4 HL1
            have HA5 : Hid (Below wr.heap.size wr (w4.alloc (.cells #[.string pb, .bool false, .string ⟨#[120]⟩] 30))) := HC4.out.alloc HS4.out _
            go_wp2_with fail
            refine (HL2.out _ HA5.out).mono ?_
            rintro e w5 ⟨rfl, hb5⟩
            unfold Nd.e
            have hsz5 : w4.heap.size + 1 ≤ w5.heap.size := by have := hb5.size; rw [World.size_alloc] at this; exact this
            have HB5 := Lib.hid (HA5.out.trans (hb5.mono HA5.out.size))
            have hcc : ∀ (j : Nat) (W : World), Below w5.heap.size w5 W → W.cell? ⟨w4.heap.size, j, none⟩ = (#[Value.string pb, .bool false, .string ⟨#[120]⟩])[j]? := fun j W hW => by
              rw [hW.cell (p := ⟨w4.heap.size, j, none⟩) (show w4.heap.size < _ by omega), hb5.cell (p := ⟨w4.heap.size, j, none⟩) (by rw [World.size_alloc]; exact Nat.lt_succ_self _), Lib.cell_of_heap (heap_alloc_new w4 _)]
            have HCC := Lib.hid hcc
            clear hb5 hcc HL2 hsz5
            go_upto_region 23 with fail
            have hb6 := (Below.refl w5.heap.size w5).alloc (Nat.le_refl _) (.cells #[Value.string ndZero.p, Value.bool ndZero.d, Value.string ndZero.t] 30)
            generalize w5.alloc (.cells #[Value.string ndZero.p, Value.bool ndZero.d, Value.string ndZero.t] 30) = w6 at *
            have c1 : w6.cell? ⟨w4.heap.size, 1, none⟩ = some (.bool false) := HCC.out 1 w6 hb6
            have c2 : w6.cell? ⟨w4.heap.size, 2, none⟩ = some (.string ⟨#[120]⟩) := HCC.out 2 w6 hb6
            have hq1 : ((⟨#[120]⟩ : ByteArray).toList == (⟨#[120]⟩ : ByteArray).toList) = true := by simp
            have HB6 := Lib.hid (HB5.out.trans (hb6.mono HB5.out.size))
            clear hb6 HCC HB5
            go_wp2_with fail
            refine (HL3.out _ HB6.out).mono ?_
            rintro e w7 ⟨A7, c7, rfl, _, hb7⟩
            have HB7 := Lib.hid (HB6.out.trans (hb7.mono HB6.out.size))
            have HB8 := Lib.hid (HB4.out.trans (HB7.out.mono HB4.out.size))
            have hl0 : ([] : List (List UInt8)).length = 0 := rfl
            rw [hl0]
            clear hb7 HB7 HB6 hl0 HL3 HB4
            go_wp2_with fail
            refine (awake_is _).mono ?_
            rintro e w9 ⟨rfl, hb9⟩
            have HB9 := Lib.hid (HB8.out.trans (hb9.mono HB8.out.size))
            clear hb9 HB8
            go_wp2
            go_ret
            exact ⟨rfl, HB9.out⟩

theorem walk (a0 : Int) (b1 : Bool) (w : World) (w0 : (Lit.int .i64 a0).wf = true) :
    Calls Tryd.prog 5 #[.int .i64 a0, .bool b1] w fun e W' => e = .returned (.bool true) ∧ Below w.heap.size w W' :=
  walk_k a0 b1 (place a0 20 + 1) w (by omega) (by have := place_lt a0 20 (by omega); omega) (fun W => by
    have h := place_is a0 20 W (by omega) (by omega) w0
    rwa [show (((place a0 20 + 1 : Nat) : Int) - 1) = ((place a0 20 : Nat) : Int) by omega])

end Go.Proofs.YthoijecpinplaaaDoor.VfsTrees
