/- The document's step: ways, one part further. -/
import Derived.Deep.DeepCutAuto
import Derived.Test.YtghfmbmdfojapaaGreatDoorWlinkJ
import Derived.Test.YtghfmbmdfojapaaGreatDoorRtopJ
import Derived.Test.YtghfmbmdfojapaaGreatDoorWlistJ
import Derived.Test.YtghfmbmdfojapaaGreatDoorStepAny
namespace Go.Proofs.YtghfmbmdfojapaaGreatDoor.Wdo
open Go.RowKit Go.Proofs.YtghfmbmdfojapaaGreatDoor.Pth Go.Proofs.YtghfmbmdfojapaaGreatDoor.Strs Go.Proofs.YtghfmbmdfojapaaGreatDoor.Vfs Go.Proofs.YtghfmbmdfojapaaGreatDoor.Vmap Go.Proofs.YtghfmbmdfojapaaGreatDoor.Vnames Go.Proofs.YtghfmbmdfojapaaGreatDoor.Vnew Go.Proofs.YtghfmbmdfojapaaGreatDoor.Vfind Go.Proofs.YtghfmbmdfojapaaGreatDoor.Vlook Go.Proofs.YtghfmbmdfojapaaGreatDoor.Wfind Go.Proofs.YtghfmbmdfojapaaGreatDoor.Wfs Go.Proofs.YtghfmbmdfojapaaGreatDoor.Wdp Go.Proofs.YtghfmbmdfojapaaGreatDoor.Wnm Go.Proofs.YtghfmbmdfojapaaGreatDoor.Wbb

/-- the document's file system in memory -/
structure Doc (w : World) (f : Nat) (L : List Ent) : Prop where
  here : FAt w f (rows L)
  inv : Vfs.Inv L
  len : L.length ≤ 1000
  paths : ∀ x ∈ (rows L).tail, 1 ≤ wayB x.path ∧ x.path.size ≤ 3000000
  names : ∀ s, ∀ y ∈ listN L s, y.length ≤ 400000
theorem Doc.below {w W : World} {f : Nat} {L : List Ent} (h : Doc w f L) (hb : Below w.heap.size w W) : Doc W f L := ⟨h.here.below hb, h.inv, h.len, h.paths, h.names⟩
def dirO : Option Nd → Bool
  | none => false
  | some nd => nd.d
theorem doc_look {w : World} {f : Nat} {L : List Ent} (h : Doc w f L) (t : T) (ht : t.length ≤ 1000000) :
    Calls Tryz.prog 29 #[.pointer (some ⟨f, 0, none⟩), .string (bs t)] w fun e W' => ∃ p x, e = .returned (.tuple #[.agg #[.string p, .bool (dirO (lookN L (bs t))), .string x], .bool (lookN L (bs t)).isSome]) ∧ Below w.heap.size w W' :=
  (Wlook.look_is f (rows L) (bs t) w h.here (by rw [rows_len]; have := h.len; omega) (by rw [size_bs]; exact ht)).mono fun e W' ⟨q, r, hq, he, hb⟩ => by
    have h1 := hq.out
    rw [Wlink.look_both h.inv] at h1
    refine ⟨q.path, q.text, ?_, hb⟩
    rw [he, h1.1, h1.2]
    cases lookN L (bs t) <;> rfl
theorem doc_list {w : World} {f : Nat} {L : List Ent} (h : Doc w f L) (t : T) (ht : t.length ≤ 1000000) :
    Calls Tryz.prog 52 #[.pointer (some ⟨f, 0, none⟩), .string (bs t)] w fun e W' => ∃ A c k, k = (listN L (bs t)).length ∧ e = .returned (.slice A k c) ∧ W'.ownsRow w.heap.size 9 1 (.slice A k c) k (vals (listN L (bs t))) ∧ Below w.heap.size w W' :=
  (Wlist.list_own f (rows L) (bs t) w h.here (by rw [rows_len]; have := h.len; omega) (by rw [size_bs]; exact ht) h.paths).mono fun e W' ⟨A, c, k, hk, he, hs, hb⟩ => by
    rw [Wlinks.list_both h.inv] at hk hs
    exact ⟨A, c, k, by rw [hk, List.length_map], he, hs, hb⟩

theorem add_bs (a b c : T) (W : World) (h : a ++ b = c) (hz : a.length + b.length ≤ 1099511627776) : (Op.stringOp .add (bs a) (bs b)).run Tryz.prog W = .ok (.string (bs c)) W := by
  rw [← h, bs_app]; exact run_string_add_sum W _ _ (by rw [size_bs, size_bs]; omega)
theorem own_on {w W : World} {B e k : Nat} {v : Value} {n : Nat} {xs : List Value} (h : w.ownsRow B e k v n xs) (hb : Below w.heap.size w W) : W.ownsRow B e k v n xs :=
  rows_below h fun g hg => hb.block g (h.lt g hg).2

/-- what the first k ways have given -/
def upS (L : List Ent) (h : Bool) (x : T) (ways : List T) (k : Nat) : List T := docStep L h x (ways.take k)
theorem upS_succ {L : List Ent} {h : Bool} {x : T} {ways : List T} {k : Nat} (hk : k < ways.length) : upS L h x ways (k + 1) = upS L h x ways k ++ docX L h x ways[k] := by
  unfold upS docStep
  rw [List.take_succ_eq_append_getElem hk, List.flatMap_append, List.flatMap_singleton]
theorem upS_all {L : List Ent} {h : Bool} {x : T} {ways : List T} : upS L h x ways ways.length = docStep L h x ways := by
  unfold upS; rw [List.take_length]
theorem upS_le (L : List Ent) (h : Bool) (x : T) (ways : List T) (k : Nat) : (upS L h x ways k).length ≤ (docStep L h x ways).length := by
  have : docStep L h x ways = upS L h x ways k ++ docStep L h x (ways.drop k) := by
    unfold upS docStep
    rw [← List.flatMap_append, List.take_append_drop]
  rw [this, List.length_append]; omega
/-- what the first q names have given -/
def upN (x hd : T) (ys : List T) (q : Nat) : List T := ((ys.take q).filter (Gmatch.matchL x)).map (hd ++ ·)
theorem upN_succ {x hd : T} {ys : List T} {q : Nat} (hq : q < ys.length) : upN x hd ys (q + 1) = upN x hd ys q ++ (if Gmatch.matchL x ys[q] then [hd ++ ys[q]] else []) := by
  unfold upN
  rw [List.take_succ_eq_append_getElem hq, List.filter_append, List.map_append]
  cases hm : Gmatch.matchL x ys[q] <;> simp [hm]
theorem upN_le (x hd : T) (ys : List T) (q : Nat) : (upN x hd ys q).length ≤ ((ys.filter (Gmatch.matchL x)).map (hd ++ ·)).length := by
  unfold upN
  rw [List.length_map, List.length_map]
  exact ((List.take_sublist q ys).filter _).length_le

theorem docX_off {L : List Ent} {h : Bool} {x W : T} (hd : dirO (lookN L (bs (47 :: W))) = false) : docX L h x W = [] := by
  unfold docX
  cases hl : lookN L (bs (47 :: W)) with
  | none => rfl
  | some nd =>
    rw [hl] at hd
    show (if nd.d then _ else _) = _
    rw [show nd.d = false from hd]; rfl
theorem docX_plain {L : List Ent} {h : Bool} {x W : T} (hd : dirO (lookN L (bs (47 :: W))) = true) (hm : Gmagic.magicL x = false) : docX L h x W = if (lookN L (bs (47 :: (headT W h ++ Glb.plainL x)))).isSome then [headT W h ++ Glb.plainL x] else [] := by
  unfold docX
  cases hl : lookN L (bs (47 :: W)) with
  | none => rw [hl] at hd; cases hd
  | some nd =>
    rw [hl] at hd
    show (if nd.d then _ else _) = _
    rw [show nd.d = true from hd, if_pos rfl, hm, if_neg Bool.false_ne_true]
theorem docX_magic {L : List Ent} {h : Bool} {x W : T} (hd : dirO (lookN L (bs (47 :: W))) = true) (hm : Gmagic.magicL x = true) : docX L h x W = ((listN L (bs (47 :: W))).filter (Gmatch.matchL x)).map (headT W h ++ ·) := by
  unfold docX
  cases hl : lookN L (bs (47 :: W)) with
  | none => rw [hl] at hd; cases hd
  | some nd =>
    rw [hl] at hd
    show (if nd.d then _ else _) = _
    rw [show nd.d = true from hd, if_pos rfl, hm, if_pos rfl]

theorem dir_some {o : Option Nd} (h : dirO o = true) : o.isSome = true := by
  cases o with
  | none => cases h
  | some nd => rfl

/-- the names lie in a block of their own -/
def NamesAt (w : World) (A : Option Addr) (ys : List T) (u : Value) : Prop := ∀ j y, ys[j]? = some y → ∃ b, A = some ⟨b, 0, none⟩ ∧ b < w.heap.size ∧ u.ownBlock ≠ some b ∧ w.cell? ⟨b, 0 + j, none⟩ = some (.string (bs y))
theorem names_start {w3 w4 : World} {A : Option Addr} {m c B : Nat} {ys : List T} {u : Value} {n : Nat} {xs : List Value} (h : w4.ownsRow w3.heap.size 9 1 (.slice A m c) m (vals ys)) (hu : w3.ownsRow B 9 1 u n xs) : NamesAt w4 A ys u := fun j y hy => by
  have hj := (List.getElem?_eq_some_iff.1 hy).1
  have hl : (vals ys).length = m * 1 := h.1
  rw [vals_len] at hl
  obtain ⟨b, cap, hv, hb1, hb2⟩ := h.form (by omega)
  cases hv
  refine ⟨b, rfl, hb2, fun e => ?_, ?_⟩
  · have := (hu.lt b e).2
    omega
  · have := h.cells (g := b) rfl j _ (vals_at hy)
    rw [addr_add] at this
    exact this
theorem names_on {w W : World} {A : Option Addr} {ys : List T} {u : Value} (h : NamesAt w A ys u) (hb : Below w.heap.size w W) : NamesAt W A ys u := fun j y hy => by
  obtain ⟨b, h1, h2, h3, h4⟩ := h j y hy
  exact ⟨b, h1, Nat.lt_of_lt_of_le h2 hb.size, h3, (hb.cell (p := ⟨b, 0 + j, none⟩) h2).trans h4⟩
theorem names_grown {w W : World} {A : Option Addr} {ys : List T} {u : Value} {o : Obj} {g n cap : Nat} (h : NamesAt w A ys u) (hg : (w.alloc o).grownBy W u.ownBlock) (hl : u.ownBlock = some g ∨ g = (w.alloc o).heap.size) : NamesAt W A ys (.slice (some ⟨g, 0, none⟩) n cap) := fun j y hy => by
  obtain ⟨b, h1, h2, h3, h4⟩ := h j y hy
  have h5 : b < (w.alloc o).heap.size := by rw [World.size_alloc]; omega
  refine ⟨b, h1, Nat.lt_of_lt_of_le h5 hg.size, fun e => ?_, ?_⟩
  · have e2 : g = b := by simpa [Value.ownBlock] using e
    rcases hl with hl | hl
    · exact h3 (by rw [hl, e2])
    · omega
  · rw [hg.cell_far ⟨b, 0 + j, none⟩ h5 (fun e => h3 e.symm)]
    exact (Below.refl _ w |>.alloc (Nat.le_refl _) o |>.cell (p := ⟨b, 0 + j, none⟩) h2).trans h4

set_option maxRecDepth 100000 in
set_option maxHeartbeats 8000000 in
theorem step_is (f : Nat) (L : List Ent) (A : Option Addr) (n c : Nat) (ways : List T) (x : T) (root first h : Bool) (w : World) (hD : Doc w f L) (hW : SlIs w A c (ways.map bs)) (hn : ways.length = n) (hh : h = (first && !root)) (hwl : ∀ W ∈ ways, W.length ≤ 400000) (hx : x.length ≤ 400000) (hpl : (Glb.plainL x).length ≤ 400000) (hnn : n ≤ 1000000000) (hT : (docStep L h x ways).length ≤ 1000000000) :
    Calls Tryz.prog 30 #[.pointer (some ⟨f, 0, none⟩), .slice A n c, .string (bs x), .bool root, .bool first] w fun e W' => ∃ v, e = .returned v ∧ W'.ownsRow w.heap.size 9 1 v (docStep L h x ways).length (vals (docStep L h x ways)) ∧ Below w.heap.size w W' := by
  obtain ⟨i0, hi, hz0, hz1, hz2⟩ := info_parts infoString
  have HD := Lib.hid hD
  have HW := Lib.hid hW
  have HN := Lib.hid hn
  have HH := Lib.hid hh
  have HWl := Lib.hid hwl
  have HT := Lib.hid hT
  have HU0 : Hid (upS L h x ways 0 = []) := by show _ = _; rfl
  have HMagic := Lib.hid (fun W => Rtop.refMagic_is (bs x) W (by rw [size_bs]; omega))
  have HPlain := Lib.hid (show ∀ W : World, Calls Tryz.prog 28 #[.string (bs x)] W fun e W' => e = .returned (.string (bs (Glb.plainL x))) ∧ Below W.heap.size W W' from fun W => Rtop.refPlain_is (bs x) W (by rw [size_bs]; omega))
  have HMatch := Lib.hid (fun (y : T) W (hy : y.length ≤ 400000) => Rtop.refMatch_is (bs x) (bs y) W (by rw [size_bs]; omega) (by rw [size_bs]; omega))
  rw [data_bs] at HMagic
  simp only [data_bs] at HMatch
  clear hD hW hn hh hwl hT
  go_enter Tryz.func30, Tryz.ntmps30
  go_wp2_with fail
  go_loopw [11, 12] (fun v i wr => ∃ k : Nat, k ≤ n ∧ i = .int .i64 k ∧ wr.ownsRow w.heap.size 9 1 v (upS L h x ways k).length (vals (upS L h x ways k)) ∧ Hid (Below w.heap.size w wr)) (fun _ i _ => n - (intOf i).toNat)
  case atStart => exact ⟨0, Nat.zero_le _, rfl, by rw [HU0.out]; exact World.ownsRow_nil _ _ _ _, Below.refl _ _⟩
  case round =>
    obtain ⟨k, hk, rfl, hown, HB⟩ := hrel
    by_cases hlt : k < n
    · have hkl : k < ways.length := by rw [HN.out]; exact hlt
      have HNext := Lib.hid (upS_succ (L := L) (h := h) (x := x) hkl)
      have HWk := Lib.hid (HWl.out _ (List.getElem_mem hkl))
      have HLe := Lib.hid (Nat.le_trans (upS_le L h x ways (k + 1)) HT.out)
      have hg : (ways.map bs)[k]? = some (bs ways[k]) := by rw [List.getElem?_map, List.getElem?_eq_getElem hkl]; rfl
      obtain ⟨b, o, rfl, hbl, hcs⟩ := HW.out.at_ hg
      have c1 := hcs wr HB.out
      have HC1 := Lib.hid hcs
      rw [HNext.out, List.length_append] at HLe
      have HOwn := Lib.hid hown
      obtain ⟨acc, hacc⟩ : ∃ acc, acc = upS L h x ways k := ⟨_, rfl⟩
      rw [← hacc] at HNext HOwn HLe
      clear hg hcs hbl hown hacc
      generalize ways[k] = W at *
      have a1 : ∀ Wd, (Op.stringOp .add (bs W) ⟨#[47]⟩).run Tryz.prog Wd = .ok (.string (bs (W ++ [47]))) Wd := fun Wd => add_bs W [47] _ Wd rfl (by have := HWk.out; show _ + 1 ≤ _; omega)
      have a2 : ∀ Wd, (Op.stringOp .add ⟨#[47]⟩ (bs W)).run Tryz.prog Wd = .ok (.string (bs (47 :: W))) Wd := fun Wd => add_bs [47] W _ Wd rfl (by have := HWk.out; show 1 + _ ≤ _; omega)
      have hhl : (headT W h).length ≤ 400001 := by
        have := HWk.out
        unfold headT; split
        · exact Nat.zero_le _
        · rw [List.length_append, List.length_singleton]; omega
      have HLook := Lib.hid (fun Wd (hd : Below w.heap.size w Wd) => doc_look (HD.out.below hd) (47 :: W) (by have := HWk.out; rw [List.length_cons]; omega))
      go_upto_region 6 with fail
      go_cut [35] (fun v wx => v = .bool h ∧ wr = wx)
      case first =>
        cases first with
        | false =>
          go_wp2_with fail
          go_meet
          exact ⟨by rw [HH.out]; rfl, rfl⟩
        | true =>
          go_wp2_with fail
          go_meet
          exact ⟨by rw [HH.out]; rfl, rfl⟩
      case rest =>
        obtain ⟨rfl, rfl⟩ := hcut
        go_upto_if 35 with fail
        go_cut [13] (fun v wx => v = .string (bs (headT W h)) ∧ wr = wx)
        case first =>
          cases h with
          | false =>
            go_wp2_with fail
            go_meet
            exact ⟨rfl, rfl⟩
          | true =>
            go_wp2_with fail
            go_meet
            exact ⟨rfl, rfl⟩
        case rest =>
          obtain ⟨rfl, rfl⟩ := hcut
          have c2 := c1
          cases hd : dirO (lookN L (bs (47 :: W))) with
          | false =>
            rw [hd] at HLook
            have HE := Lib.hid (docX_off (h := h) (x := x) hd)
            generalize (lookN L (bs (47 :: W))).isSome = r at HLook
            clear hd
            go_wp2_with fail
            refine (HLook.out _ HB.out).mono ?_
            rintro e W2 ⟨p, tx, rfl, hb2⟩
            have HB2 := Lib.hid ((HB.out.trans (hb2.mono HB.out.size)).alloc (Nat.le_trans HB.out.size hb2.size) (.cells #[.string p, .bool false, .string tx] 33))
            have HO2 : Hid ((W2.alloc (.cells #[.string p, .bool false, .string tx] 33)).ownsRow w.heap.size 9 1 u11 (upS L h x ways (k + 1)).length (vals (upS L h x ways (k + 1)))) := by
              rw [HNext.out, HE.out, List.append_nil]
              exact own_on (own_on HOwn.out hb2) ((Below.refl _ _).alloc (Nat.le_refl _) _)
            clear hb2 HLook
            cases r with
            | false =>
              go_wp2_with fail
              go_roundw
              case rel => exact ⟨k + 1, by omega, by go_num, HO2.out, HB2.out⟩
              case measure => simp [intOf]; omega
            | true =>
              go_wp2_with fail
              go_roundw
              case rel => exact ⟨k + 1, by omega, by go_num, HO2.out, HB2.out⟩
              case measure => simp [intOf]; omega
          | true =>
            rw [hd, dir_some hd] at HLook
            cases hm : Gmagic.magicL x with
            | false =>
              rw [hm] at HMagic
              have HE := Lib.hid (docX_plain (h := h) hd hm)
              have HLook2 := Lib.hid (fun Wd (hd : Below w.heap.size w Wd) => doc_look (HD.out.below hd) (47 :: (headT W h ++ Glb.plainL x)) (by rw [List.length_cons, List.length_append]; omega))
              have a3 : ∀ Wd, (Op.stringOp .add ⟨#[47]⟩ (bs (headT W h))).run Tryz.prog Wd = .ok (.string (bs (47 :: headT W h))) Wd := fun Wd => add_bs [47] (headT W h) _ Wd rfl (by show 1 + _ ≤ _; omega)
              have a4 : ∀ Wd, (Op.stringOp .add (bs (47 :: headT W h)) (bs (Glb.plainL x))).run Tryz.prog Wd = .ok (.string (bs (47 :: (headT W h ++ Glb.plainL x)))) Wd := fun Wd => add_bs (47 :: headT W h) (Glb.plainL x) _ Wd rfl (by rw [List.length_cons]; omega)
              have a5 : ∀ Wd, (Op.stringOp .add (bs (headT W h)) (bs (Glb.plainL x))).run Tryz.prog Wd = .ok (.string (bs (headT W h ++ Glb.plainL x))) Wd := fun Wd => add_bs (headT W h) (Glb.plainL x) _ Wd rfl (by omega)
              clear hd hm
              go_wp2_with fail
              refine (HLook.out _ HB.out).mono ?_
              rintro e W2 ⟨p, tx, rfl, hb2⟩
              have HB2 := Lib.hid ((HB.out.trans (hb2.mono HB.out.size)).alloc (Nat.le_trans HB.out.size hb2.size) (.cells #[.string p, .bool true, .string tx] 33))
              have HO2 := Lib.hid (own_on (own_on HOwn.out hb2) ((Below.refl _ W2).alloc (Nat.le_refl _) (.cells #[.string p, .bool true, .string tx] 33)))
              clear hb2 HLook HOwn c1 c2
              go_wp2_with fail
              refine (HMagic.out _).mono ?_
              rintro e W3 ⟨rfl, hb3⟩
              have HB3 := Lib.hid (HB2.out.trans (hb3.mono HB2.out.size))
              have HO3 := Lib.hid (own_on HO2.out hb3)
              clear hb3 HB2 HO2
              go_wp2_with fail
              refine (HPlain.out _).mono ?_
              rintro e W4 ⟨rfl, hb4⟩
              have HB4 := Lib.hid (HB3.out.trans (hb4.mono HB3.out.size))
              have HO4 := Lib.hid (own_on HO3.out hb4)
              clear hb4 HB3 HO3
              go_wp2_with fail
              refine (HLook2.out _ HB4.out).mono ?_
              rintro e W5 ⟨p5, t5, rfl, hb5⟩
              generalize dirO (lookN L (bs (47 :: (headT W h ++ Glb.plainL x)))) = d5
              have HB5 := Lib.hid ((HB4.out.trans (hb5.mono HB4.out.size)).alloc (Nat.le_trans HB4.out.size hb5.size) (.cells #[.string p5, .bool d5, .string t5] 33))
              have HO5 := Lib.hid (own_on (own_on HO4.out hb5) ((Below.refl _ W5).alloc (Nat.le_refl _) (.cells #[.string p5, .bool d5, .string t5] 33)))
              clear hb5 HB4 HO4 HLook2
              cases hr : (lookN L (bs (47 :: (headT W h ++ Glb.plainL x)))).isSome with
              | false =>
                have HO6 : Hid ((W5.alloc (.cells #[.string p5, .bool d5, .string t5] 33)).ownsRow w.heap.size 9 1 u11 (upS L h x ways (k + 1)).length (vals (upS L h x ways (k + 1)))) := by
                  rw [HNext.out, HE.out, hr, if_neg Bool.false_ne_true, List.append_nil]
                  exact HO5.out
                clear hr
                go_wp2_with fail
                go_roundw
                case rel => exact ⟨k + 1, by omega, by go_num, HO6.out, HB5.out⟩
                case measure => simp [intOf]; omega
              | true =>
                have HE2 : Hid (upS L h x ways (k + 1) = acc ++ [headT W h ++ Glb.plainL x]) := by
                  show _ = _
                  rw [HNext.out, HE.out, hr, if_pos rfl]
                have hle : acc.length + 1 ≤ 1000000000 := by
                  have := HLe.out
                  rw [HE.out, hr, if_pos rfl, List.length_singleton] at this
                  exact this
                clear hr
                go_wp2_with fail
                refine (HPlain.out _).mono ?_
                rintro e W6 ⟨rfl, hb6⟩
                have HB6 := Lib.hid (HB5.out.trans (hb6.mono HB5.out.size))
                have ho6 := own_on HO5.out hb6
                clear hb6 HB5 HO5
                go_wp2_with (at_builtin; refine wpList_append_own _ rfl _ _ 30 rfl w.heap.size 9 i0 (.string .empty) 1 16 Tryz.underlying30 hi hz0 hz1 hz2 rfl (by decide) _ _ _ rfl (ho6.alloc _) ⟨W6.heap.size, 0, none⟩ 1 1 [.string (bs (headT W h ++ Glb.plainL x))] rfl rfl (cell_one_new _ _ _) (by simp [Value.oneCell']) (by unfold maxLen; omega) (by omega) (by have := HB6.out.size; simp; omega) ?_; intro v' wA hown' hgrow _; have HOA := Lib.hid hown'; have HGA := Lib.hid (below_append HB6.out HB6.out.size ho6 hgrow); clear hown' hgrow)
                have HOB : Hid (wA.ownsRow w.heap.size 9 1 v' (upS L h x ways (k + 1)).length (vals (upS L h x ways (k + 1)))) := by
                  rw [HE2.out, List.length_append, List.length_singleton]
                  have := HOA.out
                  rw [show vals (acc ++ [headT W h ++ Glb.plainL x]) = vals acc ++ [.string (bs (headT W h ++ Glb.plainL x))] by unfold vals; rw [List.map_append, List.map_append]; rfl]
                  exact this
                go_roundw
                case rel => exact ⟨k + 1, by omega, by go_num, HOB.out, HGA.out⟩
                case measure => simp [intOf]; omega
            | true =>
              rw [hm] at HMagic
              have HE := Lib.hid (docX_magic (h := h) hd hm)
              have HList := Lib.hid (fun Wd (hd : Below w.heap.size w Wd) => doc_list (HD.out.below hd) (47 :: W) (by have := HWk.out; rw [List.length_cons]; omega))
              have HNm := Lib.hid (HD.out.names (bs (47 :: W)))
              have HLn := Lib.hid (Nat.le_trans (list_len L (bs (47 :: W))) HD.out.len)
              obtain ⟨ys, hys⟩ : ∃ ys, ys = listN L (bs (47 :: W)) := ⟨_, rfl⟩
              rw [← hys] at HE HList HNm HLn
              clear hd hm hys
              go_wp2_with fail
              refine (HLook.out _ HB.out).mono ?_
              rintro e W2 ⟨p, tx, rfl, hb2⟩
              have HB2 := Lib.hid ((HB.out.trans (hb2.mono HB.out.size)).alloc (Nat.le_trans HB.out.size hb2.size) (.cells #[.string p, .bool true, .string tx] 33))
              have HO2 := Lib.hid (own_on (own_on HOwn.out hb2) ((Below.refl _ W2).alloc (Nat.le_refl _) (.cells #[.string p, .bool true, .string tx] 33)))
              clear hb2 HLook HOwn c1 c2
              go_wp2_with fail
              refine (HMagic.out _).mono ?_
              rintro e W3 ⟨rfl, hb3⟩
              have HB3 := Lib.hid (HB2.out.trans (hb3.mono HB2.out.size))
              have HO3 := Lib.hid (own_on HO2.out hb3)
              have c3 := HC1.out W3 HB3.out
              clear hb3 HB2 HO2
              go_wp2_with fail
              refine (HList.out _ HB3.out).mono ?_
              rintro e W4 ⟨A4, c4, m, hm4, rfl, hs4, hb4⟩
              have HB4 := Lib.hid (HB3.out.trans (hb4.mono HB3.out.size))
              have HO4 := Lib.hid (own_on HO3.out hb4)
              have HS4 := Lib.hid (names_start hs4 HO3.out)
              have HM4 := Lib.hid hm4
              have hmm : m ≤ 1000 := by rw [hm4]; exact HLn.out
              clear hb4 hs4 hm4 HB3 HO3 c3 HList
              go_wp2_with fail
              go_loopw [11, 19] (fun v j wx => ∃ q : Nat, q ≤ m ∧ j = .int .i64 q ∧ wx.ownsRow w.heap.size 9 1 v (acc ++ upN x (headT W h) ys q).length (vals (acc ++ upN x (headT W h) ys q)) ∧ Hid (Below w.heap.size w wx ∧ NamesAt wx A4 ys v)) (fun _ j _ => m - (intOf j).toNat)
              case atStart => exact ⟨0, Nat.zero_le _, rfl, by rw [show upN x (headT W h) ys 0 = [] from rfl, List.append_nil]; exact HO4.out, HB4.out, HS4.out⟩
              case round =>
                obtain ⟨q, hq, rfl, hown, HBq⟩ := hrel
                by_cases hlq : q < m
                · have hql : q < ys.length := by rw [← HM4.out]; exact hlq
                  have HNq := Lib.hid (upN_succ (x := x) (hd := headT W h) hql)
                  have HLq := Lib.hid (upN_le x (headT W h) ys (q + 1))
                  have HSz := Lib.hid (HNm.out _ (List.getElem_mem hql))
                  obtain ⟨b4, rfl, hbl4, hub4, d1⟩ := HBq.out.2 q _ (List.getElem?_eq_getElem hql)
                  have HOq := Lib.hid hown
                  clear hown
                  generalize ys[q] = y at *
                  clear hql
                  rw [Nat.zero_add] at d1
                  have a6 : ∀ Wd, (Op.stringOp .add (bs (headT W h)) (bs y)).run Tryz.prog Wd = .ok (.string (bs (headT W h ++ y))) Wd := fun Wd => add_bs (headT W h) y _ Wd rfl (by have := HSz.out; omega)
                  go_wp2_with fail
                  refine (HMatch.out y _ HSz.out).mono ?_
                  rintro e W6 ⟨rfl, hb6⟩
                  have HB6 : Hid (Below w.heap.size w W6 ∧ NamesAt W6 (some ⟨b4, 0, none⟩) ys u11) := ⟨HBq.out.1.trans (hb6.mono HBq.out.1.size), names_on HBq.out.2 hb6⟩
                  have d2 := (hb6.cell (p := ⟨b4, q, none⟩) hbl4).trans d1
                  have ho6 := own_on HOq.out hb6
                  clear hb6 HOq HBq d1 hbl4 hub4
                  cases hr : Gmatch.matchL x y with
                  | false =>
                    have HOB : Hid (W6.ownsRow w.heap.size 9 1 u11 (acc ++ upN x (headT W h) ys (q + 1)).length (vals (acc ++ upN x (headT W h) ys (q + 1)))) := by
                      rw [HNq.out, hr, if_neg Bool.false_ne_true, List.append_nil]
                      exact ho6
                    clear hr ho6
                    go_wp2_with fail
                    go_roundw
                    case rel => exact ⟨q + 1, by omega, by go_num, HOB.out, HB6.out⟩
                    case measure => simp [intOf]; omega
                  | true =>
                    have HE2 : Hid (acc ++ upN x (headT W h) ys (q + 1) = (acc ++ upN x (headT W h) ys q) ++ [headT W h ++ y]) := by
                      show _ = _
                      rw [HNq.out, hr, if_pos rfl, List.append_assoc]
                    have hle : (acc ++ upN x (headT W h) ys q).length + 1 ≤ 1000000000 := by
                      have h1 := HLe.out
                      have h2 := HLq.out
                      have h3 := congrArg List.length HE2.out
                      rw [HE.out] at h1
                      simp only [List.length_append, List.length_singleton] at h3 ⊢
                      omega
                    clear hr
                    generalize acc ++ upN x (headT W h) ys q = cur at *
                    go_wp2_with (at_builtin; refine wpList_append_lies _ rfl _ _ 30 rfl w.heap.size 9 i0 (.string .empty) 1 16 Tryz.underlying30 hi hz0 hz1 hz2 rfl (by decide) _ _ _ rfl (ho6.alloc _) ⟨W6.heap.size, 0, none⟩ 1 1 [.string (bs (headT W h ++ y))] rfl rfl (cell_one_new _ _ _) (by simp [Value.oneCell']) (by omega) (by unfold maxLen; omega) (by omega) (by have := HB6.out.1.size; simp; omega) _ rfl ?_; intro g' cap' wA hown' hgrow hlies _; have HOA := Lib.hid hown'; have HGA := Lib.hid (below_append HB6.out.1 HB6.out.1.size ho6 hgrow); have HGB := Lib.hid (names_grown (n := cur.length + 1) (cap := cap') HB6.out.2 hgrow hlies); clear hown' hgrow hlies)
                    have HOB : Hid (wA.ownsRow w.heap.size 9 1 (.slice (some ⟨g', 0, none⟩) (cur.length + 1) cap') (acc ++ upN x (headT W h) ys (q + 1)).length (vals (acc ++ upN x (headT W h) ys (q + 1)))) := by
                      rw [HE2.out, List.length_append, List.length_singleton]
                      have := HOA.out
                      rw [show vals (cur ++ [headT W h ++ y]) = vals cur ++ [.string (bs (headT W h ++ y))] by unfold vals; rw [List.map_append, List.map_append]; rfl]
                      exact this
                    go_roundw
                    case rel => exact ⟨q + 1, by omega, by go_num, HOB.out, HGA.out, HGB.out⟩
                    case measure => simp [intOf]; omega
                · obtain rfl : q = m := by omega
                  have HOB : Hid (wr.ownsRow w.heap.size 9 1 u11 (upS L h x ways (k + 1)).length (vals (upS L h x ways (k + 1)))) := by
                    have e : acc ++ upN x (headT W h) ys q = upS L h x ways (k + 1) := by
                      rw [HNext.out, HE.out]
                      unfold upN
                      rw [HM4.out, List.take_length]
                    rw [← e]
                    exact hown
                  clear hown
                  go_wp2_with fail
                  go_roundw
                  case rel => exact ⟨k + 1, by omega, by go_num, HOB.out, HBq.out.1⟩
                  case measure => simp [intOf]; omega
    · obtain rfl : k = n := by omega
      have HOB : Hid (wr.ownsRow w.heap.size 9 1 u11 (docStep L h x ways).length (vals (docStep L h x ways))) := by
        rw [← upS_all, HN.out]
        exact hown
      clear hown
      go_wp2
      go_ret
      exact ⟨_, rfl, HOB.out, HB.out⟩

end Go.Proofs.YtghfmbmdfojapaaGreatDoor.Wdo
