/- The document's Expand. -/
import Derived.Deep.QuietTactic
import Derived.BigQuiet
import Derived.BigRegion
import Derived.Test.YtghfmbmdfojapaaGreatDoorWdoJ
namespace Go.Proofs.YtghfmbmdfojapaaGreatDoor.Wdx
open Go.RowKit Go.Proofs.YtghfmbmdfojapaaGreatDoor.Pth Go.Proofs.YtghfmbmdfojapaaGreatDoor.Strs Go.Proofs.YtghfmbmdfojapaaGreatDoor.Vfs Go.Proofs.YtghfmbmdfojapaaGreatDoor.Vmap Go.Proofs.YtghfmbmdfojapaaGreatDoor.Vnames Go.Proofs.YtghfmbmdfojapaaGreatDoor.Vnew Go.Proofs.YtghfmbmdfojapaaGreatDoor.Vfind Go.Proofs.YtghfmbmdfojapaaGreatDoor.Vlook Go.Proofs.YtghfmbmdfojapaaGreatDoor.Wfind Go.Proofs.YtghfmbmdfojapaaGreatDoor.Wfs Go.Proofs.YtghfmbmdfojapaaGreatDoor.Wdp Go.Proofs.YtghfmbmdfojapaaGreatDoor.Wst Go.Proofs.YtghfmbmdfojapaaGreatDoor.Wnm Go.Proofs.YtghfmbmdfojapaaGreatDoor.Wbb Go.Proofs.YtghfmbmdfojapaaGreatDoor.Wdo
open Go.Proofs.YtghfmbmdfojapaaGreatDoor.Srt (sortT)
open Go.Proofs.YtghfmbmdfojapaaGreatDoor.Prabs (ne)

/-- the ways behind the first j parts -/
def dG (L : List Ent) (s : T) (j : Nat) : List T := docGo L (!Lib.hasPrefix s [47]) [[]] ((ne (splitL s)).take j)
theorem docGo_snoc (L : List Ent) : ∀ (r : List T) (h : Bool) (ways : List T) (x : T), docGo L h ways (r ++ [x]) = docStep L (if r = [] then h else false) x (docGo L h ways r)
  | [], _, _, _ => rfl
  | y :: r, h, ways, x => by
    rw [List.cons_append, docGo, docGo_snoc L r false, if_neg (List.cons_ne_nil _ _), docGo]
    split <;> rfl
theorem dG_zero (L : List Ent) (s : T) : dG L s 0 = [[]] := rfl
theorem dG_succ {L : List Ent} {s : T} {j : Nat} (hj : j < (ne (splitL s)).length) : dG L s (j + 1) = docStep L (decide (j = 0) && !Lib.hasPrefix s [47]) (ne (splitL s))[j] (dG L s j) := by
  unfold dG
  rw [List.take_succ_eq_append_getElem hj, docGo_snoc]
  by_cases h0 : j = 0
  · subst h0; rfl
  · rw [if_neg (fun e => h0 (by
      have := congrArg List.length e
      rw [List.length_take, List.length_nil] at this; omega)), decide_eq_false h0, Bool.false_and]
/-- what the document's walk wants of a word -/
structure DocW (L : List Ent) (s : T) : Prop where
  len : s.length ≤ 400000
  part : ∀ x ∈ ne (splitL s), x.length ≤ 400000 ∧ (Glb.plainL x).length ≤ 400000
  flat : (flatL ((ne (splitL s)).map Glb.plainL)).length ≤ 400000
  num : (ne (splitL s)).length ≤ 1000000
  ways : ∀ j, j ≤ (ne (splitL s)).length → (dG L s j).length ≤ 1000000000 ∧ ∀ W ∈ dG L s j, W.length ≤ 399999

def plainU (ps : List T) (k : Nat) : T := flatL ((ps.take k).map Glb.plainL)
theorem plainU_succ {ps : List T} {k : Nat} (hk : k < ps.length) : plainU ps (k + 1) = plainU ps k ++ 47 :: Glb.plainL ps[k] := by
  unfold plainU
  rw [List.take_succ_eq_append_getElem hk, List.map_append, flatL_app, List.map_singleton, flatL_one]
theorem plainU_le (ps : List T) (k : Nat) : (plainU ps k).length ≤ (flatL (ps.map Glb.plainL)).length := by
  unfold plainU
  rw [List.map_take]
  exact Prabs.flat_take_le _ k
def magicU (ps : List T) (k : Nat) : Bool := (ps.take k).any Gmagic.magicL
theorem magicU_succ {ps : List T} {k : Nat} (hk : k < ps.length) : magicU ps (k + 1) = (magicU ps k || Gmagic.magicL ps[k]) := by
  unfold magicU
  rw [List.take_succ_eq_append_getElem hk, List.any_append, List.any_cons, List.any_nil, Bool.or_false]
def endU (L : List Ent) (dirs : Bool) (ways : List T) (k : Nat) : List T := docEnd L dirs (ways.take k)
theorem endU_succ {L : List Ent} {dirs : Bool} {ways : List T} {k : Nat} (hk : k < ways.length) : endU L dirs ways (k + 1) = endU L dirs ways k ++ endX L dirs ways[k] := by
  unfold endU docEnd
  rw [List.take_succ_eq_append_getElem hk, List.flatMap_append, List.flatMap_singleton]
theorem endX_le (L : List Ent) (dirs : Bool) (W : T) : (endX L dirs W).length ≤ 1 := by
  unfold endX
  split
  · split
    · exact Nat.zero_le _
    · split
      · exact Nat.le_refl _
      · exact Nat.zero_le _
  · exact Nat.le_refl _
theorem endU_le (L : List Ent) (dirs : Bool) (ways : List T) : ∀ k, (endU L dirs ways k).length ≤ k
  | 0 => Nat.le_refl _
  | k + 1 => by
    have ih := endU_le L dirs ways k
    by_cases hk : k < ways.length
    · rw [endU_succ hk, List.length_append]
      have := endX_le L dirs ways[k]
      omega
    · unfold endU at *
      rw [List.take_of_length_le (by omega)] at ih ⊢
      omega
theorem sort_vals (l : List T) : Wsort.sortB (l.map bs) = (sortT l).map bs := by
  unfold Wsort.sortB
  rw [List.map_map, show (fun x : ByteArray => x.data.toList) ∘ bs = id from rfl, List.map_id]

theorem u8_lit (c : UInt8) : (((c.toNat : Nat) : Int) == 47) = (c == 47) := by
  rw [Bool.eq_iff_iff, beq_iff_eq, beq_iff_eq, ← UInt8.toNat_inj]
  have : (47 : UInt8).toNat = 47 := rfl
  omega
theorem head_is (s : T) (h : 0 < s.length) : ((((s[0]).toNat : Nat) : Int) == 47) = Lib.hasPrefix s [47] := by
  rw [u8_lit]
  cases s with
  | nil => cases h
  | cons x r =>
    show (x == 47) = List.isPrefixOf [47] (x :: r)
    simp [List.isPrefixOf]
    rw [Bool.eq_iff_iff, beq_iff_eq, beq_iff_eq]; exact eq_comm
theorem last_is (s : T) (u : Nat) (h : s.length = u + 1) : ((((s[u]'(by omega)).toNat : Nat) : Int) == 47) = Lib.hasSuffix s [47] := by
  rw [u8_lit]
  have hne : s ≠ [] := fun e => by rw [e] at h; cases h
  obtain ⟨q, x, rfl⟩ : ∃ q x, s = q ++ [x] := ⟨s.dropLast, s.getLast hne, (List.dropLast_concat_getLast hne).symm⟩
  have hl : q.length = u := by rw [List.length_append] at h; simpa using h
  subst hl
  rw [List.getElem_append_right (Nat.le_refl _)]
  simp [Lib.hasSuffix, List.isSuffixOf, List.isPrefixOf]
  rw [Bool.eq_iff_iff, beq_iff_eq, beq_iff_eq]; exact eq_comm

set_option maxRecDepth 100000 in
set_option maxHeartbeats 8000000 in
theorem expandR_is (f : Nat) (L : List Ent) (s : T) (w : World) (hD : Doc w f L) (hs : DocW L s) :
    Calls Tryz.prog 11 #[.pointer (some ⟨f, 0, none⟩), .string (bs s)] w fun e W' => ∃ A n c, n = (expandR L s).length ∧ e = .returned (.slice A n c) ∧ SlIs W' A c ((expandR L s).map bs) ∧ Below w.heap.size w W' := by
  obtain ⟨i0, hi, hz0, hz1, hz2⟩ := info_parts infoString
  have HD := Lib.hid hD
  have HS := Lib.hid hs
  have HParts := Lib.hid (Prabs.refParts_is (bs s) w (by rw [size_bs]; have := hs.len; omega))
  rw [data_bs] at HParts
  have HE : Hid (expandR L s = if ne (splitL s) = [] then oneL (Lib.hasPrefix s [47]) [47]
    else if (ne (splitL s)).any Gmagic.magicL then sortT (docEnd L (Lib.hasSuffix s [47]) (docGo L (!Lib.hasPrefix s [47]) [[]] (ne (splitL s))))
    else oneL (lookN L (bs (flatL ((ne (splitL s)).map Glb.plainL)))).isSome s) := rfl
  have HG : Hid (∀ j, j < (ne (splitL s)).length → dG L s (j + 1) = docStep L (decide (j = 0) && !Lib.hasPrefix s [47]) ((ne (splitL s)).getD j []) (dG L s j)) := fun j hj => by
    rw [List.getD_eq_getElem?_getD, List.getElem?_eq_getElem hj]; exact dG_succ hj
  have HGa : Hid (dG L s (ne (splitL s)).length = docGo L (!Lib.hasPrefix s [47]) [[]] (ne (splitL s))) := by
    show _ = _
    unfold dG; rw [List.take_length]
  have HSP := Lib.hid hs.part
  have HSF := Lib.hid hs.flat
  have HSW := Lib.hid hs.ways
  have hnum := hs.num
  obtain ⟨ps, hps⟩ : ∃ ps, ps = ne (splitL s) := ⟨_, rfl⟩
  rw [← hps] at HParts HE HG HGa HSP HSF HSW hnum
  clear hD hs hps
  obtain ⟨n, hn⟩ : ∃ n, n = ps.length := ⟨_, rfl⟩
  rw [← hn] at HParts HG HGa HSW hnum
  have HN := Lib.hid hn
  clear hn
  obtain ⟨root, hroot⟩ : ∃ r, r = Lib.hasPrefix s [47] := ⟨_, rfl⟩
  obtain ⟨dirs, hdirs⟩ : ∃ r, r = Lib.hasSuffix s [47] := ⟨_, rfl⟩
  rw [← hroot] at HE HG HGa
  rw [← hdirs] at HE
  have HRoot := Lib.hid hroot
  have HDirs := Lib.hid hdirs
  clear hroot hdirs
  go_enter Tryz.func11, Tryz.ntmps11
  go_wp2_with fail
  refine HParts.out.mono ?_
  rintro e W1 ⟨v1, rfl, ho1, hb1⟩
  obtain ⟨A1, c1, rfl, hs1⟩ := slIs_of_own (w := W1) (xs := ps.map bs) (n := n) (by rw [List.length_map]; exact HN.out.symm) (show W1.ownsRow w.heap.size 9 1 v1 n ((ps.map bs).map Value.string) by rw [List.map_map]; exact ho1)
  have HPs := Lib.hid hs1
  have HB1 := Lib.hid hb1
  clear ho1 hb1 hs1 HParts
  go_upto_region 2 with fail
  go_cut [6, 7, 8, 9] (fun u6 u7 u8 u9 wx => u6 = .bool root ∧ u7 = .bool dirs ∧ u8 = .bool false ∧ u9 = .string ⟨#[]⟩ ∧ ∃ m : Nat, wx = W1.drewN m)
  case first =>
    by_cases h0 : s = []
    · subst h0
      obtain rfl : root = false := HRoot.out
      obtain rfl : dirs = false := HDirs.out
      go_wp2_with fail
      go_quiet (fail)
      go_wp2_with fail
      go_meet
      exact ⟨rfl, rfl, rfl, rfl, _, rfl⟩
    · obtain ⟨u, hu⟩ : ∃ u, s.length = u + 1 := ⟨s.length - 1, by have := List.length_pos_iff.2 h0; omega⟩
      have hsz : (bs s).size = u + 1 := by rw [size_bs]; exact hu
      have hb0 : ((((bs s)[0]'(by rw [hsz]; omega)).toNat : Nat) : Int) = (((s[0]'(by omega)).toNat : Nat) : Int) := rfl
      have hb1 : ((((bs s)[u]'(by rw [hsz]; omega)).toNat : Nat) : Int) = (((s[u]'(by omega)).toNat : Nat) : Int) := rfl
      have hub : u ≤ 400000 := by have := HS.out.len; omega
      have q1 : IntKind.i64.wrap (u : Int) = (u : Int) := IntWalk.i64_in _ (by omega)
      have e0 : ((((s[0]'(by omega)).toNat : Nat) : Int) == 47) = root := by
        rw [HRoot.out, head_is s (by omega)]
      have e1 : ((((s[u]'(by omega)).toNat : Nat) : Int) == 47) = dirs := by
        rw [HDirs.out, last_is s u hu]
      generalize s[0]'(by omega) = x0 at hb0 e0
      generalize s[u]'(by omega) = x1 at hb1 e1
      clear h0
      go_wp2_with fail
      go_quiet (fail)
      go_wp2_with fail
      go_meet
      exact ⟨rfl, rfl, rfl, rfl, _, rfl⟩
  case rest =>
    obtain ⟨rfl, rfl, rfl, rfl, m1, rfl⟩ := hcut
    have HPs1 := Lib.hid (HPs.out.below (below_drewN (Below.refl _ W1) m1))
    have HB2 := Lib.hid (below_drewN HB1.out m1)
    clear HB1 HPs HRoot HDirs
    generalize W1.drewN m1 = W2 at *
    have HM0 : Hid (magicU ps 0 = false ∧ plainU ps 0 = []) := ⟨rfl, rfl⟩
    have HMg := Lib.hid (fun (x : T) W (hx : x.length ≤ 400000) => Rtop.refMagic_is (bs x) W (by rw [size_bs]; omega))
    have HPl := Lib.hid (show ∀ (x : T) (W : World), x.length ≤ 400000 → Calls Tryz.prog 28 #[.string (bs x)] W fun e W' => e = .returned (.string (bs (Glb.plainL x))) ∧ Below W.heap.size W W' from fun x W hx => Rtop.refPlain_is (bs x) W (by rw [size_bs]; omega))
    simp only [data_bs] at HMg
    go_wp2_with fail
    go_loopw [8, 9, 10] (fun m p i wx => ∃ k : Nat, k ≤ n ∧ m = .bool (magicU ps k) ∧ p = .string (bs (plainU ps k)) ∧ i = .int .i64 k ∧ Hid (Below W2.heap.size W2 wx)) (fun _ _ i _ => n - (intOf i).toNat)
    case atStart => exact ⟨0, Nat.zero_le _, by rw [HM0.out.1], by rw [HM0.out.2]; rfl, rfl, Below.refl _ _⟩
    case round =>
      obtain ⟨k, hk, rfl, rfl, rfl, HB⟩ := hrel
      by_cases hlt : k < n
      · have hkl : k < ps.length := by rw [← HN.out]; exact hlt
        have HMk := Lib.hid (magicU_succ hkl)
        have HPk := Lib.hid (plainU_succ hkl)
        have HLk := Lib.hid (Nat.le_trans (plainU_le ps (k + 1)) HSF.out)
        have HXk := Lib.hid (HSP.out _ (List.getElem_mem hkl))
        have hg : (ps.map bs)[k]? = some (bs ps[k]) := by rw [List.getElem?_map, List.getElem?_eq_getElem hkl]; rfl
        obtain ⟨b, o, rfl, hbl, hcs⟩ := HPs1.out.at_ hg
        have c1 := hcs wr HB.out
        have HC1 := Lib.hid hcs
        rw [HPk.out] at HLk
        clear hg hcs hbl
        generalize ps[k] = x at *
        have hlk : (plainU ps k).length + 1 + (Glb.plainL x).length ≤ 400000 := by
          have := HLk.out
          rw [List.length_append, List.length_cons] at this
          omega
        have a1 : ∀ Wd, (Op.stringOp .add (bs (plainU ps k)) ⟨#[47]⟩).run Tryz.prog Wd = .ok (.string (bs (plainU ps k ++ [47]))) Wd := fun Wd => add_bs (plainU ps k) [47] _ Wd rfl (by show _ + 1 ≤ _; omega)
        have a2 : ∀ Wd, (Op.stringOp .add (bs (plainU ps k ++ [47])) (bs (Glb.plainL x))).run Tryz.prog Wd = .ok (.string (bs (plainU ps (k + 1)))) Wd := fun Wd => add_bs (plainU ps k ++ [47]) (Glb.plainL x) _ Wd (by rw [HPk.out, List.append_assoc]; rfl) (by rw [List.length_append, List.length_singleton]; omega)
        cases hmu : magicU ps k with
        | true =>
          have HMt : Hid (magicU ps (k + 1) = true) := by show _ = _; rw [HMk.out, hmu, Bool.true_or]
          clear hmu
          go_wp2_with fail
          refine (HPl.out x _ HXk.out.1).mono ?_
          rintro e W3 ⟨rfl, hb3⟩
          have HB3 := Lib.hid (HB.out.trans (hb3.mono HB.out.size))
          clear hb3
          go_wp2_with fail
          go_roundw
          case rel => exact ⟨k + 1, by omega, by rw [HMt.out], rfl, by go_num, HB3.out⟩
          case measure => simp [intOf]; omega
        | false =>
          have HMt : Hid (magicU ps (k + 1) = Gmagic.magicL x) := by show _ = _; rw [HMk.out, hmu, Bool.false_or]
          clear hmu
          go_wp2_with fail
          refine (HMg.out x _ HXk.out.1).mono ?_
          rintro e W3 ⟨rfl, hb3⟩
          have HB3 := Lib.hid (HB.out.trans (hb3.mono HB.out.size))
          have c3 := HC1.out W3 HB3.out
          clear hb3
          generalize Gmagic.magicL x = mx at *
          go_wp2_with fail
          refine (HPl.out x _ HXk.out.1).mono ?_
          rintro e W4 ⟨rfl, hb4⟩
          have HB4 := Lib.hid (HB3.out.trans (hb4.mono HB3.out.size))
          clear hb4
          go_wp2_with fail
          go_roundw
          case rel => exact ⟨k + 1, by omega, by rw [HMt.out], rfl, by go_num, HB4.out⟩
          case measure => simp [intOf]; omega
      · obtain rfl : k = n := by omega
        have HMn : Hid (magicU ps k = ps.any Gmagic.magicL ∧ plainU ps k = flatL (ps.map Glb.plainL)) := by
          unfold magicU plainU
          rw [HN.out, List.take_length]
          exact ⟨rfl, rfl⟩
        rw [HMn.out.1, HMn.out.2]
        have HBw := Lib.hid (HB2.out.trans (HB.out.mono HB2.out.size))
        have HDw := Lib.hid (HD.out.below HBw.out)
        have HPw := Lib.hid (HPs1.out.below HB.out)
        have HLf := Lib.hid HSF.out
        clear HMn HB HB2 HPs1 HMg HPl HM0 HD hk
        generalize flatL (ps.map Glb.plainL) = pl at *
        obtain ⟨W3, hW3⟩ : ∃ W3, W3 = wr := ⟨_, rfl⟩
        by_cases h0 : k = 0
        · have hps : ps = [] := List.eq_nil_of_length_eq_zero (by rw [← HN.out]; exact h0)
          have HX : Hid (expandR L s = oneL root [47]) := by show _ = _; rw [HE.out, if_pos hps]
          clear hps
          subst h0
          cases root with
          | true =>
            have HL1 := Lib.hid (lits_is wr [⟨#[47]⟩])
            have HB3 := Lib.hid (HBw.out.alloc HBw.out.size (.cells #[.string ⟨#[47]⟩] 9))
            go_wp2
            go_ret
            exact ⟨_, 1, 1, by rw [HX.out]; rfl, rfl, by rw [HX.out]; exact HL1.out, HB3.out⟩
          | false =>
            go_wp2
            go_ret
            exact ⟨none, 0, 0, by rw [HX.out]; rfl, rfl, by rw [HX.out]; exact ⟨Nat.le_refl _, .inl rfl⟩, HBw.out⟩
        · have hpn : ps ≠ [] := fun e => h0 (by rw [HN.out, e]; rfl)
          have hkb : (((k : Nat) : Int) == 0) = false := by rw [beq_eq_false_iff_ne]; omega
          cases hm : ps.any Gmagic.magicL with
          | false =>
            have HX : Hid (expandR L s = oneL (lookN L (bs pl)).isSome s) := by show _ = _; rw [HE.out, if_neg hpn, hm, if_neg Bool.false_ne_true]
            have HLk := Lib.hid (doc_look HDw.out pl (by have := HLf.out; omega))
            generalize (lookN L (bs pl)).isSome = r at *
            generalize dirO (lookN L (bs pl)) = d at *
            clear hm hpn
            go_wp2_with fail
            refine HLk.out.mono ?_
            rintro e W4 ⟨p4, t4, rfl, hb4⟩
            have HB4 := Lib.hid ((HBw.out.trans (hb4.mono HBw.out.size)).alloc (Nat.le_trans HBw.out.size hb4.size) (.cells #[.string p4, .bool d, .string t4] 33))
            clear hb4 HLk
            cases r with
            | false =>
              go_wp2
              go_ret
              exact ⟨none, 0, 0, by rw [HX.out]; rfl, rfl, by rw [HX.out]; exact ⟨Nat.le_refl _, .inl rfl⟩, HB4.out⟩
            | true =>
              have hl1 := lits_is (W4.alloc (.cells #[.string p4, .bool d, .string t4] 33)) [bs s]
              rw [World.size_alloc] at hl1
              have HL1 := Lib.hid hl1
              clear hl1
              have HB5 := Lib.hid (HB4.out.alloc HB4.out.size (.cells #[.string (bs s)] 9))
              go_wp2
              go_ret
              exact ⟨_, 1, 1, by rw [HX.out]; rfl, rfl, by rw [HX.out]; exact HL1.out, HB5.out⟩
          | true =>
            have HX : Hid (expandR L s = sortT (docEnd L dirs (dG L s k))) := by show _ = _; rw [HE.out, if_neg hpn, hm, if_pos rfl, HGa.out]
            have HL1 := Lib.hid (lits_is wr [⟨#[]⟩])
            have HB4 := Lib.hid (HBw.out.alloc HBw.out.size (.cells #[.string ⟨#[]⟩] 9))
            have HPx := Lib.hid (HPw.out.below ((Below.refl _ wr).alloc (Nat.le_refl _) (.cells #[.string ⟨#[]⟩] 9)))
            have HDx := Lib.hid (HDw.out.below ((Below.refl _ wr).alloc (Nat.le_refl _) (.cells #[.string ⟨#[]⟩] 9)))
            have HLz : Hid (SlIs (wr.alloc (.cells #[.string ⟨#[]⟩] 9)) (some ⟨wr.heap.size, 0, none⟩) 1 ((dG L s 0).map bs)) := HL1.out
            have HSP2 : Hid (∀ j (hj : j < ps.length), ps[j].length ≤ 400000 ∧ (Glb.plainL ps[j]).length ≤ 400000) := fun j hj => HSP.out _ (List.getElem_mem hj)
            clear hm hpn HE HBw HPw hW3 HL1 HDw HSP
            go_upto_region 18 with fail
            generalize wr.heap.size = q0 at *
            generalize wr.alloc (.cells #[.string ⟨#[]⟩] 9) = W5 at *
            clear W3
            go_wp2_with fail
            go_loopw [13, 14] (fun v i wx => ∃ (j : Nat) (A : Option Addr) (len c : Nat), j ≤ k ∧ v = .slice A len c ∧ i = .int .i64 j ∧ Hid (len = (dG L s j).length ∧ SlIs wx A c ((dG L s j).map bs) ∧ Below W5.heap.size W5 wx)) (fun _ i _ => k - (intOf i).toNat)
            case atStart => exact ⟨0, _, 1, 1, Nat.zero_le _, rfl, rfl, rfl, HLz.out, Below.refl _ _⟩
            case round =>
              obtain ⟨j, A, len, c, hj, rfl, rfl, HJ⟩ := hrel
              by_cases hlt : j < k
              · have hjl : j < ps.length := by rw [← HN.out]; exact hlt
                have hg : (ps.map bs)[j]? = some (bs ps[j]) := by rw [List.getElem?_map, List.getElem?_eq_getElem hjl]; rfl
                obtain ⟨b, o, rfl, hbl, hcs⟩ := HPx.out.at_ hg
                have c1 := hcs wr HJ.out.2.2
                have hlen := HJ.out.1
                have HGj := Lib.hid (HG.out j hlt)
                rw [List.getD_eq_getElem?_getD, List.getElem?_eq_getElem hjl] at HGj
                have HW1 := Lib.hid (HSW.out j (by omega))
                have HW2 := Lib.hid (HSW.out (j + 1) hlt)
                have HXj := Lib.hid (HSP2.out j hjl)
                clear hg hcs hbl
                generalize ps[j] = x at *
                have HSt := Lib.hid (fun (first : Bool) (hf : first = decide (j = 0)) => step_is f L A len c (dG L s j) x root first (decide (j = 0) && !root) wr (HDx.out.below HJ.out.2.2) HJ.out.2.1 hlen.symm (by rw [hf]) (fun W hW => by have := HW1.out.2 W hW; omega) HXj.out.1 HXj.out.2 (by rw [hlen]; exact HW1.out.1) (by
                  have := HW2.out.1
                  rw [HGj.out] at this
                  exact this))
                clear hlen hjl
                by_cases hj0 : j = 0
                · subst hj0
                  rw [Nat.add_zero] at c1
                  have HSt2 := Lib.hid (HSt.out true rfl)
                  clear HSt
                  go_wp2_with fail
                  refine HSt2.out.mono ?_
                  rintro e W6 ⟨v6, rfl, ho6, hb6⟩
                  obtain ⟨A6, c6, rfl, hs6⟩ := slIs_of_own (w := W6) (xs := (dG L s (0 + 1)).map bs) (n := (dG L s (0 + 1)).length) (List.length_map _) (by rw [HGj.out]; exact ho6)
                  have HJ6 : Hid (SlIs W6 A6 c6 ((dG L s (0 + 1)).map bs) ∧ Below W5.heap.size W5 W6) := ⟨hs6, HJ.out.2.2.trans (hb6.mono HJ.out.2.2.size)⟩
                  clear ho6 hb6 hs6 HSt2
                  go_wp2_with fail
                  go_roundw
                  case rel => exact ⟨0 + 1, A6, _, c6, by omega, rfl, by go_num, rfl, HJ6.out.1, HJ6.out.2⟩
                  case measure => simp [intOf] <;> omega
                · have hjb : (((j : Nat) : Int) == 0) = false := by rw [beq_eq_false_iff_ne]; omega
                  have HSt2 := Lib.hid (HSt.out false (decide_eq_false hj0).symm)
                  clear HSt
                  go_wp2_with fail
                  refine HSt2.out.mono ?_
                  rintro e W6 ⟨v6, rfl, ho6, hb6⟩
                  obtain ⟨A6, c6, rfl, hs6⟩ := slIs_of_own (w := W6) (xs := (dG L s (j + 1)).map bs) (n := (dG L s (j + 1)).length) (List.length_map _) (by rw [HGj.out]; exact ho6)
                  have HJ6 : Hid (SlIs W6 A6 c6 ((dG L s (j + 1)).map bs) ∧ Below W5.heap.size W5 W6) := ⟨hs6, HJ.out.2.2.trans (hb6.mono HJ.out.2.2.size)⟩
                  clear ho6 hb6 hs6 HSt2
                  go_wp2_with fail
                  go_roundw
                  case rel => exact ⟨j + 1, A6, _, c6, by omega, rfl, by go_num, rfl, HJ6.out.1, HJ6.out.2⟩
                  case measure => simp [intOf]; omega
              · obtain rfl : j = k := by omega
                have HWn := Lib.hid (HSW.out j (Nat.le_refl _))
                have HDy := Lib.hid (HDx.out.below HJ.out.2.2)
                have HBy := Lib.hid (HB4.out.trans (HJ.out.2.2.mono HB4.out.size))
                have HLs := Lib.hid HJ.out.2.1
                have hlen := HJ.out.1
                have HU0 : Hid (endU L dirs (dG L s j) 0 = []) := by show _ = _; rfl
                obtain ⟨ways, hways⟩ : ∃ ways, ways = dG L s j := ⟨_, rfl⟩
                rw [← hways] at HWn HLs hlen HU0 HX
                have HLen := Lib.hid hlen
                have hlb : len ≤ 1000000000 := by rw [hlen]; exact HWn.out.1
                clear HJ HSW HG HGa HSP2 HPx HDx HB4 HLz hj hways hlen HN hnum HSF HLf
                obtain ⟨W6, hW6⟩ : ∃ W6, W6 = wr := ⟨_, rfl⟩
                rw [← hW6] at HLs HDy HBy ⊢
                clear hW6
                go_wp2_with fail
                go_loopw [15, 16] (fun v i wx => ∃ k : Nat, k ≤ len ∧ i = .int .i64 k ∧ wx.ownsRow W6.heap.size 9 1 v (endU L dirs ways k).length (vals (endU L dirs ways k)) ∧ Hid (Below W6.heap.size W6 wx)) (fun _ i _ => len - (intOf i).toNat)
                case atStart => exact ⟨0, Nat.zero_le _, rfl, by rw [HU0.out]; exact World.ownsRow_nil _ _ _ _, Below.refl _ _⟩
                case round =>
                  obtain ⟨k, hk, rfl, hown, HB⟩ := hrel
                  by_cases hlt : k < len
                  · have hkl : k < ways.length := by rw [← HLen.out]; exact hlt
                    have HNext := Lib.hid (endU_succ (L := L) (dirs := dirs) hkl)
                    have HWk := Lib.hid (HWn.out.2 _ (List.getElem_mem hkl))
                    have hle := endU_le L dirs ways k
                    have hg : (ways.map bs)[k]? = some (bs ways[k]) := by rw [List.getElem?_map, List.getElem?_eq_getElem hkl]; rfl
                    obtain ⟨b, o, rfl, hbl, hcs⟩ := HLs.out.at_ hg
                    have c1 := hcs wr HB.out
                    have HC1 := Lib.hid hcs
                    have HOwn := Lib.hid hown
                    obtain ⟨acc, hacc⟩ : ∃ acc, acc = endU L dirs ways k := ⟨_, rfl⟩
                    rw [← hacc] at HNext HOwn hle
                    clear hg hcs hbl hown hacc
                    generalize ways[k] = W at *
                    have a1 : ∀ Wd, (Op.stringOp .add ⟨#[47]⟩ (bs W)).run Tryz.prog Wd = .ok (.string (bs (47 :: W))) Wd := fun Wd => add_bs [47] W _ Wd rfl (by have := HWk.out; show 1 + _ ≤ _; omega)
                    have a2 : ∀ Wd, (Op.stringOp .add (bs W) ⟨#[47]⟩).run Tryz.prog Wd = .ok (.string (bs (W ++ [47]))) Wd := fun Wd => add_bs W [47] _ Wd rfl (by have := HWk.out; show _ + 1 ≤ _; omega)
                    have HLook := Lib.hid (doc_look (HDy.out.below HB.out) (47 :: W) (by have := HWk.out; rw [List.length_cons]; omega))
                    have HEn : Hid (endX L dirs W = if dirs then (if dirO (lookN L (bs (47 :: W))) then [W ++ [47]] else []) else [W]) := by
                      show _ = _
                      unfold endX
                      cases dirs with
                      | false => rfl
                      | true =>
                        rw [if_pos rfl, if_pos rfl]
                        cases lookN L (bs (47 :: W)) with
                        | none => rfl
                        | some nd => rfl
                    generalize dirO (lookN L (bs (47 :: W))) = d at *
                    generalize (lookN L (bs (47 :: W))).isSome = r at *
                    go_wp2_with fail
                    refine HLook.out.mono ?_
                    rintro e W7 ⟨p7, t7, rfl, hb7⟩
                    have HB8 := Lib.hid ((HB.out.trans (hb7.mono HB.out.size)).alloc (Nat.le_trans HB.out.size hb7.size) (.cells #[.string p7, .bool d, .string t7] 33))
                    have ho8 := own_on (own_on HOwn.out hb7) ((Below.refl _ W7).alloc (Nat.le_refl _) (.cells #[.string p7, .bool d, .string t7] 33))
                    have c8 := HC1.out _ HB8.out
                    have HO8 := Lib.hid ho8
                    clear hb7 HLook HOwn c1 HC1
                    cases dirs with
                    | false =>
                      have HE2 : Hid (endU L false ways (k + 1) = acc ++ [W]) := by
                        show _ = _
                        rw [HNext.out, HEn.out]; rfl
                      go_upto_region 27 with fail
                      generalize W7.alloc (.cells #[.string p7, .bool d, .string t7] 33) = W8 at *
                      go_wp2_with (at_builtin; refine wpList_append_own _ rfl _ _ 30 rfl W6.heap.size 9 i0 (.string .empty) 1 16 Tryz.underlying30 hi hz0 hz1 hz2 rfl (by decide) _ _ _ rfl (ho8.alloc _) ⟨W8.heap.size, 0, none⟩ 1 1 [.string (bs (W))] rfl rfl (cell_one_new _ _ _) (by simp [Value.oneCell']) (by unfold maxLen; omega) (by omega) (by have := HB8.out.size; simp; omega) ?_; intro v' wA hown' hgrow _; have HOA := Lib.hid hown'; have HGA := Lib.hid (below_append HB8.out HB8.out.size ho8 hgrow); clear hown' hgrow)
                      have HOB : Hid (wA.ownsRow W6.heap.size 9 1 v' (endU L false ways (k + 1)).length (vals (endU L false ways (k + 1)))) := by
                        rw [HE2.out, List.length_append, List.length_singleton]
                        have := HOA.out
                        rw [show vals (acc ++ [W]) = vals acc ++ [.string (bs W)] by unfold vals; rw [List.map_append, List.map_append]; rfl]
                        exact this
                      go_roundw
                      case rel => exact ⟨k + 1, by omega, by go_num, HOB.out, HGA.out⟩
                      case measure => simp [intOf]; omega
                    | true =>
                      cases d with
                      | false =>
                        have HOB : Hid ((W7.alloc (.cells #[.string p7, .bool false, .string t7] 33)).ownsRow W6.heap.size 9 1 u15 (endU L true ways (k + 1)).length (vals (endU L true ways (k + 1)))) := by
                          rw [HNext.out, HEn.out]
                          show World.ownsRow _ _ _ _ _ (acc ++ []).length (vals (acc ++ []))
                          rw [List.append_nil]
                          exact ho8
                        clear ho8
                        go_wp2_with fail
                        go_roundw
                        case rel => exact ⟨k + 1, by omega, by go_num, HOB.out, HB8.out⟩
                        case measure => simp [intOf]; omega
                      | true =>
                        have HE2 : Hid (endU L true ways (k + 1) = acc ++ [W ++ [47]]) := by
                          show _ = _
                          rw [HNext.out, HEn.out]; rfl
                        go_upto_region 30 with fail
                        generalize W7.alloc (.cells #[.string p7, .bool true, .string t7] 33) = W8 at *
                        go_wp2_with (at_builtin; refine wpList_append_own _ rfl _ _ 30 rfl W6.heap.size 9 i0 (.string .empty) 1 16 Tryz.underlying30 hi hz0 hz1 hz2 rfl (by decide) _ _ _ rfl (ho8.alloc _) ⟨W8.heap.size, 0, none⟩ 1 1 [.string (bs (W ++ [47]))] rfl rfl (cell_one_new _ _ _) (by simp [Value.oneCell']) (by unfold maxLen; omega) (by omega) (by have := HB8.out.size; simp; omega) ?_; intro v' wA hown' hgrow _; have HOA := Lib.hid hown'; have HGA := Lib.hid (below_append HB8.out HB8.out.size ho8 hgrow); clear hown' hgrow)
                        have HOB : Hid (wA.ownsRow W6.heap.size 9 1 v' (endU L true ways (k + 1)).length (vals (endU L true ways (k + 1)))) := by
                          rw [HE2.out, List.length_append, List.length_singleton]
                          have := HOA.out
                          rw [show vals (acc ++ [W ++ [47]]) = vals acc ++ [.string (bs (W ++ [47]))] by unfold vals; rw [List.map_append, List.map_append]; rfl]
                          exact this
                        go_roundw
                        case rel => exact ⟨k + 1, by omega, by go_num, HOB.out, HGA.out⟩
                        case measure => simp [intOf]; omega
                  · obtain rfl : k = len := by omega
                    have hle := endU_le L dirs ways k
                    have he : endU L dirs ways k = docEnd L dirs ways := by
                      unfold endU
                      rw [HLen.out, List.take_length]
                    rw [he] at hown hle
                    obtain ⟨A9, c9, rfl, hs9⟩ := slIs_of_own (w := wr) (xs := (docEnd L dirs ways).map bs) (n := (docEnd L dirs ways).length) (List.length_map _) hown
                    have hso := Wsort.refSort_is A9 (docEnd L dirs ways).length c9 ((docEnd L dirs ways).map bs) wr (List.length_map _) hs9 (by omega)
                    rw [sort_vals, ← HX.out, List.length_map] at hso
                    have HSo := Lib.hid hso
                    have HBz := Lib.hid (HBy.out.trans (HB.out.mono HBy.out.size))
                    obtain ⟨m9, hm9⟩ : ∃ m, m = (docEnd L dirs ways).length := ⟨_, rfl⟩
                    rw [← hm9] at HSo ⊢
                    clear hown hs9 hso he hle hm9
                    go_wp2_with fail
                    refine HSo.out.mono ?_
                    rintro e W9 ⟨A', c', rfl, hs', hb'⟩
                    have HSs := Lib.hid hs'
                    have HBs := Lib.hid (HBz.out.trans (hb'.mono HBz.out.size))
                    obtain ⟨z, hz⟩ : ∃ z, z = (expandR L s).length := ⟨_, rfl⟩
                    have HZ := Lib.hid hz
                    rw [← hz]
                    clear hs' hb' HSo hz
                    go_wp2
                    go_ret
                    exact ⟨A', z, c', HZ.out, rfl, HSs.out, HBs.out⟩

end Go.Proofs.YtghfmbmdfojapaaGreatDoor.Wdx
