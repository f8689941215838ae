/- What the document's Match, Magic and Plain answer. -/
import Derived.Lib.BufferRead
import Derived.Lib.SlBytesRow
import Derived.Test.YtghfmbmdfojapaaGreatDoorRmatchJ
import Derived.Test.YtghfmbmdfojapaaGreatDoorGbuildJ
namespace Go.Proofs.YtghfmbmdfojapaaGreatDoor.Rtop
open Go.RowKit Go.Proofs.YtghfmbmdfojapaaGreatDoor.Glb Go.Proofs.YtghfmbmdfojapaaGreatDoor.Gops Go.Proofs.YtghfmbmdfojapaaGreatDoor.Gread Go.Proofs.YtghfmbmdfojapaaGreatDoor.Gfit Go.Proofs.YtghfmbmdfojapaaGreatDoor.Gmatch Go.Proofs.YtghfmbmdfojapaaGreatDoor.Gmagic Go.Proofs.YtghfmbmdfojapaaGreatDoor.Rlaws Go.Proofs.YtghfmbmdfojapaaGreatDoor.Rfits Go.Proofs.YtghfmbmdfojapaaGreatDoor.Rset Go.Proofs.YtghfmbmdfojapaaGreatDoor.Rpure Go.Proofs.YtghfmbmdfojapaaGreatDoor.Rpieces Go.Proofs.YtghfmbmdfojapaaGreatDoor.Rmatch
open Go.Proofs.YtghfmbmdfojapaaGreatDoor.Gplain (plain_nil plain_step)

/-! ### how a text begins -/
theorem beg1 (s : ByteArray) (c : UInt8) (h : 0 < s.size) : begins [c] s.data.toList = (c == s[0]) := by
  rw [head_of s h]
  show (c == s[0] && [].isPrefixOf _) = _
  rw [List.isPrefixOf_nil_left, Bool.and_true]
theorem beg0 (s : ByteArray) (c : UInt8) (t : List UInt8) (h : s.size = 0) : begins (c :: t) s.data.toList = false := by
  have : s.data.toList = [] := List.eq_nil_of_length_eq_zero (by rw [← Lib.size_eq]; exact h)
  rw [this]; rfl
theorem beg2 (s : ByteArray) (c d : UInt8) (h : 1 < s.size) : begins [c, d] s.data.toList = (c == s[0] && d == s[1]) := by
  have e : s.data.toList = s[0] :: s[1] :: s.data.toList.drop 2 := by
    have h0 := drop_at s 0 (by omega)
    have h1 := drop_at s 1 h
    rw [List.drop_zero] at h0
    exact h0.trans (congrArg (s[0] :: ·) h1)
  rw [e]
  show (c == s[0] && (d == s[1] && [].isPrefixOf _)) = _
  rw [List.isPrefixOf_nil_left, Bool.and_true]
theorem beg2s (s : ByteArray) (c d : UInt8) (h : s.size = 1) : begins [c, d] s.data.toList = false := by
  rw [head_of s (by omega), List.drop_eq_nil_of_le (by rw [len_data]; omega)]
  show (c == s[0] && false) = false
  rw [Bool.and_false]
theorem flip_beq (a b : UInt8) : (a == b) = (b == a) := by rw [Bool.eq_iff_iff, beq_iff_eq, beq_iff_eq]; exact eq_comm
theorem lit46 (c : UInt8) : (((c.toNat : Nat) : Int) == 46) = (46 == c) := (u8_eq c 46).trans (flip_beq c 46)

set_option maxRecDepth 100000 in
set_option maxHeartbeats 4000000 in
/-- the document's Match -/
theorem refMatch_is (p s : ByteArray) (w : World) (hp : p.size ≤ 1000000) (hs : s.size ≤ 1000000) :
    Calls Tryz.prog 53 #[.string p, .string s] w fun e W' => e = .returned (.bool (matchL p.data.toList s.data.toList)) ∧ Below w.heap.size w W' := by
  have HB : Hid (barred p.data.toList s.data.toList = (begins [46] s.data.toList && !begins [46] p.data.toList && !begins [92, 46] p.data.toList)) := rfl
  go_enter Tryz.func53, Tryz.ntmps53
  go_upto_region 1 with fail
  go_cut [38] (fun b wx => b = .bool (barred p.data.toList s.data.toList) ∧ w = wx)
  case first =>
    by_cases hz : 0 < s.size
    · have X1 := Lib.hid (beg1 s 46 hz)
      by_cases h1 : ((s[0].toNat : Nat) : Int) = 46
      · have X2 : Hid (begins [46] s.data.toList = true) := by show _ = _; rw [X1.out, ← lit46, h1]; rfl
        by_cases hpz : 0 < p.size
        · have X3 := Lib.hid (beg1 p 46 hpz)
          by_cases h2 : ((p[0].toNat : Nat) : Int) = 46
          · have X4 : Hid (begins [46] p.data.toList = true) := by show _ = _; rw [X3.out, ← lit46, h2]; rfl
            go_wp2_with fail
            go_meet
            exact ⟨by rw [HB.out, X2.out, X4.out]; rfl, rfl⟩
          · have h2' : (((p[0].toNat : Nat) : Int) == 46) = false := by simpa using h2
            have X4 : Hid (begins [46] p.data.toList = false) := by show _ = _; rw [X3.out, ← lit46, h2']
            clear h2
            by_cases hp1 : 1 < p.size
            · have X5 := Lib.hid (beg2 p 92 46 hp1)
              by_cases h3 : ((p[0].toNat : Nat) : Int) = 92
              · have X6 : Hid (((92 : UInt8) == p[0]) = true) := by show _ = _; rw [flip_beq, ← lit92, h3]; rfl
                have X7 := Lib.hid (lit46 p[1])
                go_wp2_with fail
                go_meet
                exact ⟨by rw [HB.out, X2.out, X4.out, X5.out, X6.out, X7.out]; simp, rfl⟩
              · have h3' : (((p[0].toNat : Nat) : Int) == 92) = false := by simpa using h3
                have X6 : Hid (((92 : UInt8) == p[0]) = false) := by show _ = _; rw [flip_beq, ← lit92, h3']
                clear h3
                go_wp2_with fail
                go_meet
                exact ⟨by rw [HB.out, X2.out, X4.out, X5.out, X6.out]; rfl, rfl⟩
            · have X5 := Lib.hid (beg2s p 92 46 (by omega))
              go_wp2_with fail
              go_meet
              exact ⟨by rw [HB.out, X2.out, X4.out, X5.out]; rfl, rfl⟩
        · have X3 := Lib.hid (beg0 p 46 [] (by omega))
          have X4 := Lib.hid (beg0 p 92 [46] (by omega))
          go_wp2_with fail
          go_meet
          exact ⟨by rw [HB.out, X2.out, X3.out, X4.out]; rfl, rfl⟩
      · have h1' : (((s[0].toNat : Nat) : Int) == 46) = false := by simpa using h1
        have X2 : Hid (begins [46] s.data.toList = false) := by show _ = _; rw [X1.out, ← lit46, h1']
        clear h1
        go_wp2_with fail
        go_meet
        exact ⟨by rw [HB.out, X2.out]; rfl, rfl⟩
    · have X1 := Lib.hid (beg0 s 46 [] (by omega))
      go_wp2_with fail
      go_meet
      exact ⟨by rw [HB.out, X1.out]; rfl, rfl⟩
  case rest =>
    obtain ⟨rfl, rfl⟩ := hcut
    clear HB
    cases hb : barred p.data.toList s.data.toList with
    | true =>
      have HM : Hid (matchL p.data.toList s.data.toList = false) := by show _ = _; rw [matchL, hb]; rfl
      clear hb
      go_wp2_with fail
      go_ret
      exact ⟨ret_bool HM.out.symm, Below.refl _ _⟩
    | false =>
      have HM : Hid (matchL p.data.toList s.data.toList = fitL (pieces p.data.toList) s.data.toList) := by show _ = _; rw [matchL, hb]; rfl
      clear hb
      go_wp2_with fail
      refine (pieces_is p _ hp).mono ?_
      rintro e w1 ⟨s3, rfl, css, qs, hown, hcl, hrows, hbel, heq⟩
      obtain ⟨A, c, hv, hsl⟩ := slT_of hown (fun c hc => by
        obtain ⟨j, hj⟩ := List.mem_iff_getElem?.1 hc
        obtain ⟨x, hx⟩ : ∃ x, qs[j]? = some x := ⟨_, List.getElem?_eq_getElem (by rw [← hrows.len]; exact (List.getElem?_eq_some_iff.1 hj).1)⟩
        exact (hrows.each j c x hj hx).size)
      have HQ : Hid (qs = pieces p.data.toList) := by
        show _ = _
        rw [pieces_same, ← heq, drop_nil (by rw [len_data]; exact Nat.lt_irrefl _)]
        simp [pcsF]
      have HBE := Lib.hid hbel
      have HSL := Lib.hid hsl
      clear hown heq hbel hsl
      rw [hv]
      clear hv
      go_wp2_with fail
      refine (Rmatch.match_is A css.length c css qs s w1 HSL.out hrows (by omega) hs).mono ?_
      rintro e w2 ⟨rfl, hb2⟩
      go_wp2_with fail
      go_ret
      exact ⟨ret_bool (by rw [HM.out, HQ.out]), HBE.out.trans (hb2.mono HBE.out.size)⟩

set_option maxRecDepth 100000 in
set_option maxHeartbeats 4000000 in
/-- the document's Magic -/
theorem refMagic_is (p : ByteArray) (w : World) (hp : p.size ≤ 1000000) :
    Calls Tryz.prog 27 #[.string p] w fun e W' => e = .returned (.bool (magicL p.data.toList)) ∧ Below w.heap.size w W' := by
  go_enter Tryz.func27, Tryz.ntmps27
  go_wp2_with fail
  refine (pieces_is p _ hp).mono ?_
  rintro e w1 ⟨s3, rfl, css, qs, hown, hcl, hrows, hbel, heq⟩
  obtain ⟨A, c, hv, hsl⟩ := slT_of hown (fun c hc => by
    obtain ⟨j, hj⟩ := List.mem_iff_getElem?.1 hc
    obtain ⟨x, hx⟩ : ∃ x, qs[j]? = some x := ⟨_, List.getElem?_eq_getElem (by rw [← hrows.len]; exact (List.getElem?_eq_some_iff.1 hj).1)⟩
    exact (hrows.each j c x hj hx).size)
  have HQ : Hid (qs = pieces p.data.toList) := by
    show _ = _
    rw [pieces_same, ← heq, drop_nil (by rw [len_data]; exact Nat.lt_irrefl _)]
    simp [pcsF]
  have HBE := Lib.hid hbel
  obtain ⟨hlm, hmc, hc63, hlc⟩ := hsl
  clear hown heq hbel hlm
  rw [hv]
  clear hv
  have hqm := hrows.len
  go_wp2_with fail
  go_loopg [4] (css.length + 1) (fun g s4 wx => ∃ i : Nat, s4 = .int .i64 i ∧ i ≤ css.length ∧ css.length - i < g ∧ w1 = wx ∧ Hid ((qs.take i).any (·.wild) = false))
  case atStart => exact ⟨0, rfl, Nat.zero_le _, by omega, rfl, rfl⟩
  case round =>
    obtain ⟨i, rfl, hi, hg, rfl, H⟩ := hrel
    obtain ⟨g, rfl⟩ : ∃ g, gk = g + 1 := ⟨gk - 1, by omega⟩
    by_cases hlt : i < css.length
    · obtain ⟨x, hx⟩ : ∃ x, qs[i]? = some x := ⟨_, List.getElem?_eq_getElem (by omega)⟩
      obtain ⟨cs, hcs⟩ : ∃ x, css[i]? = some x := ⟨_, List.getElem?_eq_getElem (by omega)⟩
      have hrt := hrows.each i cs x hcs hx
      rcases hlc with h0 | ⟨b, o, rfl, hbw, hcells⟩
      · omega
      obtain ⟨kd, hk0, _, hk3⟩ := rt_kind hrt
      have hkc : w1.cell? ⟨b, o + i * 258, none⟩ = some (.int .i64 kd) := by have := hcells i cs hcs 0 (.int .i64 kd) (by simpa using hk0); simpa using this
      have HX := Lib.hid (take_snoc hx)
      clear hcells hrt hcs hx hk0
      cases hw : x.wild with
      | true =>
        rw [hw] at hk3
        have HM : Hid (magicL p.data.toList = true) := by
          show (pieces p.data.toList).any _ = true
          rw [← HQ.out, List.any_eq_true]
          refine ⟨x, ?_, hw⟩
          have : x ∈ qs.take (i + 1) := by rw [HX.out]; simp
          exact List.mem_of_mem_take this
        have hk4 : (kd == 0) = false := by rw [hk3]; rfl
        clear hk3 hw
        go_wp2_with fail
        go_ret
        exact ⟨ret_bool HM.out.symm, HBE.out⟩
      | false =>
        rw [hw] at hk3
        obtain rfl : kd = 0 := by simpa using hk3
        have HN : Hid ((qs.take (i + 1)).any (·.wild) = false) := by
          show _ = _
          rw [HX.out, List.any_append, H.out]
          simp [hw]
        clear hk3 hw
        go_wp2_with fail
        go_roundg g
        case measure => omega
        case rel => exact ⟨i + 1, by go_num, by omega, by omega, rfl, HN.out⟩
    · have HM : Hid (magicL p.data.toList = false) := by
        show (pieces p.data.toList).any _ = false
        rw [← HQ.out]
        have := H.out
        rw [List.take_of_length_le (by omega)] at this
        exact this
      go_wp2_with fail
      go_ret
      exact ⟨ret_bool HM.out.symm, HBE.out⟩

theorem infoByte : (Tryz.prog.info? 5).map (fun i => (i.zero, i.size, i.bytes)) = some (some (.int .u8 0), 1, 1) := by kernel_rfl
theorem conv_is {w : World} {B : Nat} {v : Value} {acc : List UInt8} (h : w.ownsRow B 5 1 v acc.length (Lib.byteCells acc)) : (convert 92 9 v).run Tryz.prog w = .ok (.string (bs acc)) w := by
  rcases h.2 with ⟨h0, h1⟩ | ⟨g, cap, cur, hv, hb, hg, hn, hm, hc, ht⟩
  · rw [h0, List.eq_nil_of_length_eq_zero h1]
    exact Lib.run_convert_nil_bytes w _ _ _ 0 Tryz.underlying92 Tryz.underlying5 Tryz.underlying9
  · rw [hv, ← size_bs acc]
    refine Lib.run_convert_whole w _ _ _ Tryz.underlying92 Tryz.underlying5 Tryz.underlying9 g 0 (bs acc) (fun i hi => ?_) cap
    have hi2 : i < acc.length := by rw [← size_bs]; exact hi
    have h2 := h.cells (g := g) (by rw [hv]; rfl) i (.int .u8 (acc[i].toNat : Nat)) (by simp [Lib.byteCells, hi2])
    rw [Addr.add_mid] at h2
    exact h2

set_option maxRecDepth 100000 in
set_option maxHeartbeats 4000000 in
/-- the document's Plain -/
theorem refPlain_is (p : ByteArray) (w : World) (hp : p.size ≤ 1000000) :
    Calls Tryz.prog 28 #[.string p] w fun e W' => e = .returned (.string (bs (plainL p.data.toList))) ∧ Below w.heap.size w W' := by
  obtain ⟨i0, bi, hz0, hz1, hz2⟩ := info_parts infoByte
  go_enter Tryz.func28, Tryz.ntmps28
  go_wp2_with fail
  go_loopg [3, 4] (p.size + 1) (fun g s3 s4 wx => ∃ (i n : Nat) (acc : List UInt8), s4 = .int .i64 i ∧ i ≤ p.size ∧ p.size - i < g ∧ p.size - i ≤ n ∧ acc.length ≤ i ∧ Hid (wx.ownsRow w.heap.size 5 1 s3 acc.length (Lib.byteCells acc) ∧ Below w.heap.size w wx ∧ acc ++ plain n (p.data.toList.drop i) = plainL p.data.toList))
  case atStart => exact ⟨0, p.size, [], rfl, Nat.zero_le _, by omega, by omega, Nat.le_refl _, ⟨World.ownsRow_nil _ _ _ _, Below.refl _ _, by rw [plainL, len_data]; rfl⟩⟩
  case round =>
    obtain ⟨i, n, acc, rfl, hi, hg, hn, hal, H⟩ := hrel
    obtain ⟨g, rfl⟩ : ∃ g, gk = g + 1 := ⟨gk - 1, by omega⟩
    by_cases hz : i < p.size
    · have HO := Lib.hid (fun W => one_is p i W hz hp)
      have hn1 := oneN_gt p.data.toList i
      have hn2 := oneN_le p.data.toList i (by rw [len_data]; exact hz)
      rw [len_data] at hn2
      have HP : Hid (acc ++ unqC (p.data.toList.drop i) :: plain (n - 1) (p.data.toList.drop (oneN p.data.toList i)) = plainL p.data.toList) := by
        have h := H.out.2.2
        obtain ⟨m, rfl⟩ : ∃ m, n = m + 1 := ⟨n - 1, by omega⟩
        rw [drop_at p i hz, plain, ← drop_at p i hz, ← oneN_drop p.data.toList i (by rw [len_data]; exact hz)] at h
        exact h
      have HOW := Lib.hid H.out.1
      have HBE := Lib.hid H.out.2.1
      clear H
      go_wp2_with fail
      refine (HO.out _).mono ?_
      rintro e w' ⟨rfl, rfl⟩
      clear HO
      generalize unqC (p.data.toList.drop i) = ch at HP
      generalize oneN p.data.toList i = nx at HP hn1 hn2
      have hcl : (Lib.byteCells acc).length = acc.length := List.length_map _
      clear hcl
      go_wp2_with (at_builtin; refine wpList_append_own _ rfl _ _ 92 rfl w.heap.size 5 i0 (.int .u8 0) 1 1 Tryz.underlying92 bi hz0 hz1 hz2 rfl (by decide) _ acc.length (Lib.byteCells acc) rfl ?own ⟨wr.heap.size, 0, none⟩ 1 1 [.int .u8 (ch.toNat : Nat)] rfl rfl (cell_one_new _ _ _) (by simp [Value.oneCell']) ?c3 ?c4 ?c5 ?_)
      case own => exact HOW.out.alloc _
      case c3 => unfold maxLen; omega
      case c4 => omega
      case c5 => have := HBE.out.size; simp; omega
      intro v' w2 hown' hgrow _
      have B2 : Hid (Below w.heap.size w w2) := (HBE.out.alloc HBE.out.size _).grown hgrow (by have := HBE.out.size; simp; omega) (fun k hk => (HOW.out.lt k hk).1)
      have HO2 : Hid (w2.ownsRow w.heap.size 5 1 v' (acc ++ [ch]).length (Lib.byteCells (acc ++ [ch]))) := by
        have e1 : Lib.byteCells (acc ++ [ch]) = Lib.byteCells acc ++ [.int .u8 (ch.toNat : Nat)] := List.map_append
        show World.ownsRow _ _ _ _ _ _ _
        rw [e1, List.length_append]
        exact hown'
      clear hown' hgrow
      go_wp2_with fail
      go_roundg g
      case measure => omega
      case rel => exact ⟨nx, n - 1, acc ++ [ch], rfl, by omega, by omega, by omega, by simp; omega, ⟨HO2.out, B2.out, by rw [List.append_assoc]; exact HP.out⟩⟩
    · have HE : Hid (acc = plainL p.data.toList) := by
        have h := H.out.2.2
        rw [drop_nil (by rw [len_data]; exact hz)] at h
        show _ = _
        rw [← h]
        cases n <;> simp [plain]
      have hcv := conv_is H.out.1
      go_wp2_with fail
      go_ret
      exact ⟨by rw [← HE.out]; rfl, H.out.2.1⟩
end Go.Proofs.YtghfmbmdfojapaaGreatDoor.Rtop
