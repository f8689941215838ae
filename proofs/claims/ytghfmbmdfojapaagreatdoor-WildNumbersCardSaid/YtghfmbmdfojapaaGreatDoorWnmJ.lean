/- The names that a step asks for in a directory. -/
import Derived.Lib.SliceRun
import Derived.Lib.LazyBuf
import Derived.Test.YtghfmbmdfojapaaGreatDoorWspJ
namespace Go.Proofs.YtghfmbmdfojapaaGreatDoor.Wnm
open Go.RowKit Go.Proofs.YtghfmbmdfojapaaGreatDoor.Pth Go.Proofs.YtghfmbmdfojapaaGreatDoor.Strs Go.Proofs.YtghfmbmdfojapaaGreatDoor.Vfs Go.Proofs.YtghfmbmdfojapaaGreatDoor.Vmap Go.Proofs.YtghfmbmdfojapaaGreatDoor.Vlook Go.Proofs.YtghfmbmdfojapaaGreatDoor.Wdp Go.Proofs.YtghfmbmdfojapaaGreatDoor.Wst

theorem bs_data' (x : T) : (bs x).data.toList = x := data_bs x

set_option maxRecDepth 100000 in
set_option maxHeartbeats 400000 in
/-- whether a name goes -/
theorem del_is (p : Nat) (t x : T) (w : World) (hc : w.cell? ⟨p, 0, none⟩ = some (.string (bs t))) (ht : t.length ≤ 1000000) (hx : x.length ≤ 1000000) :
    Calls Tryz.prog 82 #[.string (bs x), .pointer (some ⟨p, 0, none⟩)] w fun e W' => e = .returned (.bool (!Gmatch.matchL t x)) ∧ Below w.heap.size w W' := by
  have HM := Lib.hid (fun W => Gmatch.match_is (bs t) (bs x) W (by rw [size_bs]; exact ht) (by rw [size_bs]; exact hx))
  rw [bs_data', bs_data'] at HM
  generalize Gmatch.matchL t x = r at *
  go_enter Tryz.func82, Tryz.ntmps82
  go_wp2_with fail
  refine (HM.out _).mono ?_
  rintro e w1 ⟨rfl, hb1⟩
  have HB := Lib.hid hb1
  clear hb1
  cases r
  all_goals go_wp2
  all_goals go_ret
  all_goals exact ⟨rfl, HB.out⟩

def firstD (t : T) (xs : List T) : Int := match xs.findIdx? (fun x => !Gmatch.matchL t x) with
  | some i => (i : Int)
  | none => -1
theorem firstD_at {t : T} {xs : List T} {k : Nat} {x : T} (hx : xs[k]? = some x) (hm : (!Gmatch.matchL t x) = true) (hn : ∀ (j : Nat), j < k → ∀ y, xs[j]? = some y → (!Gmatch.matchL t y) = false) : firstD t xs = k := by
  have h : xs.findIdx? (fun x => !Gmatch.matchL t x) = some k := by
    rw [List.findIdx?_eq_some_iff_getElem]
    obtain ⟨hl, rfl⟩ := List.getElem?_eq_some_iff.1 hx
    exact ⟨hl, hm, fun j hj => by rw [hn j hj _ (List.getElem?_eq_getElem (by omega))]; exact Bool.false_ne_true⟩
  unfold firstD
  rw [h]
theorem firstD_none {t : T} {xs : List T} (hn : ∀ (j : Nat) (y : T), xs[j]? = some y → (!Gmatch.matchL t y) = false) : firstD t xs = -1 := by
  have h : xs.findIdx? (fun x => !Gmatch.matchL t x) = none := List.findIdx?_eq_none_iff.2 fun x hx => by
    obtain ⟨j, hj⟩ := List.getElem?_of_mem hx
    exact hn j x hj
  unfold firstD
  rw [h]
theorem firstD_cases (t : T) (xs : List T) : (firstD t xs = -1 ∧ xs.filter (Gmatch.matchL t) = xs) ∨ ∃ k : Nat, firstD t xs = k ∧ k < xs.length ∧ (xs.take (k + 1)).filter (Gmatch.matchL t) = xs.take k := by
  unfold firstD
  cases h : xs.findIdx? (fun x => !Gmatch.matchL t x) with
  | none =>
    left
    have h1 := List.findIdx?_eq_none_iff.1 h
    refine ⟨rfl, List.filter_eq_self.2 fun x hx => ?_⟩
    have := h1 x hx
    simpa using this
  | some k =>
    right
    obtain ⟨h1, h2, h3⟩ := List.findIdx?_eq_some_iff_getElem.1 h
    refine ⟨k, rfl, h1, ?_⟩
    rw [List.take_succ_eq_append_getElem h1, List.filter_append, List.filter_cons]
    have e : Gmatch.matchL t xs[k] = false := by simpa using h2
    rw [if_neg (by rw [e]; exact Bool.false_ne_true), List.filter_nil, List.append_nil]
    refine List.filter_eq_self.2 fun x hx => ?_
    obtain ⟨j, hj, rfl⟩ := List.mem_iff_getElem.1 hx
    rw [List.length_take] at hj
    have := h3 j (by omega)
    rw [List.getElem_take]
    simpa using this

set_option maxRecDepth 100000 in
set_option maxHeartbeats 2000000 in
theorem indexD_is (A : Option Addr) (n c p : Nat) (t : T) (xs : List T) (w : World) (hn : xs.length = n) (h : SlIs w A c (xs.map bs)) (hm : n ≤ 1000000000) (hp : p < w.heap.size) (hc : w.cell? ⟨p, 0, none⟩ = some (.string (bs t))) (ht : t.length ≤ 1000000) (hx : ∀ x ∈ xs, x.length ≤ 1000000) :
    Calls Tryz.prog 105 #[.slice A n c, .func (.func 82) #[] #[.pointer (some ⟨p, 0, none⟩)]] w fun e W' => e = .returned (.int .i64 (firstD t xs)) ∧ Below w.heap.size w W' := by
  have HN := Lib.hid hn
  have HL := Lib.hid h
  have HX := Lib.hid hx
  have HDel := Lib.hid (fun x W (hW : Below w.heap.size w W) (hl : x.length ≤ 1000000) => del_is p t x W ((hW.cell (p := ⟨p, 0, none⟩) hp).trans hc) ht hl)
  clear hn h hx hc
  go_enter Tryz.func105, Tryz.ntmps105
  go_wp2_with fail
  go_loopw [8] (fun i wr => ∃ k : Nat, k ≤ n ∧ i = .int .i64 k ∧ Hid (∀ (j : Nat), j < k → ∀ y, xs[j]? = some y → (!Gmatch.matchL t y) = false) ∧ Hid (Below w.heap.size w wr)) (fun i _ => n - (intOf i).toNat)
  case atStart => exact ⟨0, Nat.zero_le _, rfl, fun j h => absurd h (Nat.not_lt_zero _), Below.refl _ _⟩
  case round =>
    obtain ⟨k, hk, rfl, HF, HB⟩ := hrel
    by_cases hlt : k < n
    · have hx : xs[k]? = some (xs[k]'(by rw [HN.out]; exact hlt)) := List.getElem?_eq_getElem _
      have hx2 : (xs.map bs)[k]? = some (bs (xs[k]'(by rw [HN.out]; exact hlt))) := by rw [List.getElem?_map, hx]; rfl
      have hxl := HX.out _ (List.getElem_mem (by rw [HN.out]; exact hlt : k < xs.length))
      obtain ⟨b, o, rfl, hb, hc⟩ := HL.out.at_ hx2
      have d0 := hc wr HB.out
      have HAt := Lib.hid (fun hm => firstD_at (t := t) hx hm HF.out)
      have HNext : Hid ((!Gmatch.matchL t (xs[k]'(by rw [HN.out]; exact hlt))) = false → ∀ (j : Nat), j < k + 1 → ∀ y, xs[j]? = some y → (!Gmatch.matchL t y) = false) := fun hm j hj y hy => by
        rcases Nat.lt_or_ge j k with h1 | h1
        · exact HF.out j h1 y hy
        · obtain rfl : j = k := by omega
          obtain rfl := Option.some.inj (hx.symm.trans hy)
          exact hm
      have HD2 := Lib.hid (HDel.out _ wr HB.out hxl)
      clear hc hb hx hx2
      generalize (xs[k]'(by rw [HN.out]; exact hlt)) = x at *
      generalize hr : (!Gmatch.matchL t x) = r at *
      go_wp2_with fail
      refine HD2.out.mono ?_
      rintro e w3 ⟨rfl, hb3⟩
      have HB3 := Lib.hid (HB.out.trans (hb3.mono HB.out.size))
      clear hb3 HB d0
      cases r with
      | true =>
        have HE := Lib.hid (HAt.out rfl)
        clear hr
        go_wp2
        go_ret
        exact ⟨by rw [HE.out]; rfl, HB3.out⟩
      | false =>
        have HE := Lib.hid (HNext.out rfl)
        clear hr
        go_wp2_with fail
        go_roundw
        case rel => exact ⟨k + 1, by omega, by go_num, HE.out, HB3.out⟩
        case measure => simp [intOf]; omega
    · have HE := Lib.hid (firstD_none (t := t) (xs := xs) (fun j y hy => HF.out j (by have := (List.getElem?_eq_some_iff.1 hy).1; rw [HN.out] at this; omega) y hy))
      go_wp2
      go_ret
      exact ⟨by rw [HE.out]; rfl, HB.out⟩

theorem size_cells (b : Nat) : ∀ (vs : List Value) (o : Nat) (w : World), (w.setCells b o vs).heap.size = w.heap.size
  | [], _, _ => rfl
  | v :: vs, o, w => by
    show ((w.setCell ⟨b, o, none⟩ v).setCells b (o + 1) vs).heap.size = _
    rw [size_cells b vs, World.size_setCell]
theorem zeroStr (w : World) : (zeroValue 9).run Tryz.prog w = .ok (.string .empty) w := by kernel_rfl
def vals (zs : List T) : List Value := (zs.map bs).map Value.string
theorem vals_len (zs : List T) : (vals zs).length = zs.length := by rw [vals, List.length_map, List.length_map]
theorem vals_at {zs : List T} {k : Nat} {x : T} (h : zs[k]? = some x) : (vals zs)[k]? = some (.string (bs x)) := by rw [vals, List.getElem?_map, List.getElem?_map, h]; rfl
theorem vals_set (zs : List T) (k : Nat) (x : T) : (vals zs).set k (.string (bs x)) = vals (zs.set k x) := by rw [vals, vals, List.map_set, List.map_set]

set_option maxRecDepth 100000 in
set_option maxHeartbeats 4000000 in
theorem delete_is (B : Nat) (A : Option Addr) (n c p : Nat) (t : T) (xs : List T) (w : World) (hn : xs.length = n) (h : w.ownsRow B 9 1 (.slice A n c) n (vals xs)) (hm : n ≤ 1000000000) (hB : B ≤ w.heap.size) (hp : p < B) (hc : w.cell? ⟨p, 0, none⟩ = some (.string (bs t))) (ht : t.length ≤ 1000000) (hx : ∀ x ∈ xs, x.length ≤ 1000000) :
    Calls Tryz.prog 80 #[.slice A n c, .func (.func 82) #[] #[.pointer (some ⟨p, 0, none⟩)]] w fun e W' => ∃ A' c', e = .returned (.slice A' (xs.filter (Gmatch.matchL t)).length c') ∧ SlIs W' A' c' ((xs.filter (Gmatch.matchL t)).map bs) ∧ Below B w W' ∧ ∀ q, A' = some q → B ≤ q.block := by
  have hsl : SlIs w A c (xs.map bs) := by
    obtain ⟨A', c', hv, hs⟩ := slIs_of_own (by rw [List.length_map]; exact hn) h
    injection hv with e1 e2 e3
    subst e1 e3
    exact hs
  have HIdx := Lib.hid (indexD_is A n c p t xs w hn hsl hm (Nat.lt_of_lt_of_le hp hB) hc ht hx)
  have HN := Lib.hid hn
  have HX := Lib.hid hx
  have HOw := Lib.hid h
  have HSl := Lib.hid hsl
  have HFr : Hid (∀ q, A = some q → B ≤ q.block) := fun q hq => by
    rcases h.2 with ⟨h1, _⟩ | ⟨g, cap, cur, h1, hg, _⟩
    · injection h1 with e1 e2 e3
      rw [e1] at hq; cases hq
    · injection h1 with e1 e2 e3
      rw [e1] at hq; cases hq; exact hg
  have HDel := Lib.hid (fun x W (hW : Below B w W) (hl : x.length ≤ 1000000) => del_is p t x W ((hW.cell (p := ⟨p, 0, none⟩) hp).trans hc) ht hl)
  have HFc := Lib.hid (firstD_cases t xs)
  clear hn hx h hc hsl
  generalize firstD t xs = z at *
  go_enter Tryz.func80, Tryz.ntmps80
  go_wp2_with fail
  refine HIdx.out.mono ?_
  rintro e w1 ⟨rfl, hb1⟩
  have HB1 := Lib.hid hb1
  have HBB := Lib.hid (hb1.mono hB)
  clear hb1 HIdx
  rcases HFc.out with ⟨rfl, hf⟩ | ⟨k, rfl, hk, hf⟩
  · have HFe := Lib.hid hf
    clear hf HFc
    go_wp2
    go_ret
    rw [HFe.out, HN.out]
    exact ⟨A, c, rfl, HSl.out.below HB1.out, HBB.out, HFr.out⟩
  · have HFe := Lib.hid hf
    have hkn : k < n := by rw [← HN.out]; exact hk
    have HOw1 := Lib.hid (rows_below (W := w1) HOw.out (fun g hg => HB1.out.block g (HOw.out.lt g hg).2))
    obtain ⟨g, rfl⟩ : ∃ g, A = some ⟨g, 0, none⟩ := by
      rcases HOw.out.2 with ⟨h1, h2⟩ | ⟨g, cap, cur, h1, _⟩
      · omega
      · injection h1 with e1 e2 e3
        exact ⟨g, e1⟩
    have hgB : B ≤ g ∧ g < w.heap.size := HOw.out.lt g rfl
    have hnc : n ≤ c := by
      have := HSl.out.1
      rw [List.length_map, HN.out] at this; exact this
    clear hf hk HFc HSl
    go_wp2_with fail
    go_loopw [5, 6] (fun i j wr => ∃ (a b : Nat) (zs : List T), a < b ∧ b ≤ n ∧ i = .int .i64 a ∧ j = .int .i64 b ∧ wr.ownsRow B 9 1 (.slice (some ⟨g, 0, none⟩) n c) n (vals zs) ∧ Hid (zs.length = n ∧ zs.take a = (xs.take b).filter (Gmatch.matchL t) ∧ zs.drop b = xs.drop b) ∧ Hid (Below B w wr ∧ w.heap.size ≤ wr.heap.size)) (fun _ j _ => n - (intOf j).toNat)
    case atStart => exact ⟨k, k + 1, xs, by omega, hkn, rfl, by go_num, HOw1.out, ⟨HN.out, HFe.out.symm, rfl⟩, HBB.out, HB1.out.size⟩
    case round =>
      obtain ⟨a, b, zs, hab, hbn, rfl, rfl, hown, HZ, HB⟩ := hrel
      by_cases hlt : b < n
      · obtain ⟨x, hz⟩ : ∃ x, zs[b]? = some x := ⟨_, List.getElem?_eq_getElem (by rw [HZ.out.1]; exact hlt)⟩
        have hxz : xs[b]? = some x := by
          have h1 : (zs.drop b)[0]? = (xs.drop b)[0]? := by rw [HZ.out.2.2]
          rw [List.getElem?_drop, List.getElem?_drop, Nat.add_zero] at h1
          rw [← h1, hz]
        have hxl := HX.out _ (List.mem_of_getElem? hxz)
        have c1 : wr.cell? ⟨g, b, none⟩ = some (.string (bs x)) := (hown.cellAt b (by omega)).trans (vals_at hz)
        have HD2 := Lib.hid (HDel.out _ wr HB.out.1 hxl)
        have HTake : Hid ((xs.take (b + 1)).filter (Gmatch.matchL t) = (xs.take b).filter (Gmatch.matchL t) ++ (if Gmatch.matchL t x then [x] else [])) := by
          show _ = _
          obtain ⟨hbl, hbe⟩ := List.getElem?_eq_some_iff.1 hxz
          rw [List.take_succ_eq_append_getElem hbl, List.filter_append, hbe, List.filter_cons]
          rfl
        have HDrop : Hid (zs.drop (b + 1) = xs.drop (b + 1)) := by
          show _ = _
          have h1 := congrArg (List.drop 1) HZ.out.2.2
          rw [List.drop_drop, List.drop_drop] at h1
          exact h1
        have HOwr := Lib.hid hown
        have HZl := Lib.hid HZ.out.1
        have HZt := Lib.hid HZ.out.2.1
        clear hz hxz hown HZ
        generalize hr : Gmatch.matchL t x = r at *
        go_wp2_with fail
        refine HD2.out.mono ?_
        rintro e w2 ⟨rfl, hb2⟩
        have hown2 := rows_below (W := w2) HOwr.out (fun q hq => hb2.block q (HOwr.out.lt q hq).2)
        have HB2 : Hid (Below B w w2 ∧ w.heap.size ≤ w2.heap.size) := ⟨HB.out.1.trans (hb2.mono (Nat.le_trans hB HB.out.2)), Nat.le_trans HB.out.2 hb2.size⟩
        clear hb2 HB c1 hr
        cases r with
        | true =>
          obtain ⟨ho3, hg3⟩ := hown2.stored a (.string (bs x))
          have c2 : (w2.cell? ⟨g, a, none⟩).isSome = true := by
            rw [hown2.cellAt a (by omega)]
            have : a < (vals zs).length := by rw [vals_len, HZl.out]; omega
            rw [List.getElem?_eq_getElem this]; rfl
          obtain ⟨ov, c3⟩ := Option.isSome_iff_exists.1 c2
          have f3 := hown2.frozenAt a
          rw [vals_set] at ho3
          have HO3 := Lib.hid ho3
          have HB3 : Hid (Below B w (w2.setCell ⟨g, a, none⟩ (.string (bs x))) ∧ w.heap.size ≤ (w2.setCell ⟨g, a, none⟩ (.string (bs x))).heap.size) := ⟨HB2.out.1.setCell (p := ⟨g, a, none⟩) hgB.1 _, by rw [World.size_setCell]; exact HB2.out.2⟩
          have HZ3 : Hid ((zs.set a x).length = n ∧ (zs.set a x).take (a + 1) = (xs.take (b + 1)).filter (Gmatch.matchL t) ∧ (zs.set a x).drop (b + 1) = xs.drop (b + 1)) := by
            refine ⟨by rw [List.length_set]; exact HZl.out, ?_, ?_⟩
            · rw [HTake.out, ← HZt.out, if_pos rfl]
              have hal : a < (zs.set a x).length := by rw [List.length_set, HZl.out]; omega
              rw [List.take_succ_eq_append_getElem hal, List.take_set_of_le (Nat.le_refl _), List.getElem_set_self]
            · rw [List.drop_set_of_lt (by omega)]; exact HDrop.out
          clear ho3 hg3 hown2 c2
          go_wp2_with fail
          go_roundw
          case rel =>
            repeat apply Exists.intro
            refine ⟨?_, rfl⟩
            exact ⟨a + 1, b + 1, zs.set a x, by omega, by omega, by go_num, by go_num, HO3.out, HZ3.out, HB3.out⟩
          case measure => simp [intOf]; omega
        | false =>
          have HZ3 : Hid (zs.length = n ∧ zs.take a = (xs.take (b + 1)).filter (Gmatch.matchL t) ∧ zs.drop (b + 1) = xs.drop (b + 1)) := by
            refine ⟨HZl.out, ?_, HDrop.out⟩
            rw [HTake.out, ← HZt.out, if_neg Bool.false_ne_true, List.append_nil]
          have HO3 := Lib.hid hown2
          clear hown2
          go_wp2_with fail
          go_roundw
          case rel =>
            repeat apply Exists.intro
            refine ⟨?_, rfl⟩
            exact ⟨a, b + 1, zs, by omega, by omega, rfl, by go_num, HO3.out, HZ3.out, HB2.out⟩
          case measure => simp [intOf]; omega
      · obtain rfl : b = n := by omega
        have hzt : zs.take a = xs.filter (Gmatch.matchL t) := by rw [HZ.out.2.1, List.take_of_length_le (by rw [HN.out]; exact Nat.le_refl _)]
        have hla : (xs.filter (Gmatch.matchL t)).length = a := by rw [← hzt, List.length_take, HZ.out.1]; omega
        have hcl : ∀ j, j < b - a → (wr.cell? ⟨g, a + j, none⟩).isSome = true := fun j hj => by
          rw [hown.cellAt (a + j) (by omega)]
          have : a + j < (vals zs).length := by rw [vals_len, HZ.out.1]; omega
          rw [List.getElem?_eq_getElem this]; rfl
        have hclr := fun ty => Lib.run_clear_slice (P := Tryz.prog) wr 30 9 ty (.string .empty) Tryz.underlying30 zeroStr rfl rfl g a (b - a) (c - a) (by omega) hcl (fun j _ => hown.frozenAt (a + j))
        have HOut : Hid (SlIs (wr.setCells g a (List.replicate (b - a) (Value.string .empty))) (some ⟨g, 0, none⟩) c ((xs.filter (Gmatch.matchL t)).map bs) ∧ Below B w (wr.setCells g a (List.replicate (b - a) (Value.string .empty)))) := by
          refine ⟨⟨by rw [List.length_map, hla]; omega, .inr ⟨g, 0, rfl, ?_, fun j x hj => ?_⟩⟩, below_setCells hgB.1 _ _ _ HB.out.1⟩
          · rw [size_cells]; exact Nat.lt_of_lt_of_le hgB.2 HB.out.2
          · rw [List.getElem?_map] at hj
            obtain ⟨y, hy, rfl⟩ := Option.map_eq_some_iff.1 hj
            have hja : j < a := by rw [← hla]; exact (List.getElem?_eq_some_iff.1 hy).1
            rw [Nat.zero_add, World.cell?_setCells_out g _ _ _ _ (fun _ _ => .inl hja), hown.cellAt j (by omega)]
            rw [← hzt, List.getElem?_take, if_pos hja] at hy
            exact vals_at hy
        have hac : ¬ c = a := by omega
        have hac2 : a ≤ c := by omega
        have HLa := Lib.hid hla
        clear hzt hcl HZ HB hown hla
        go_wp2_with fail
        go_ret
        rw [HLa.out]
        exact ⟨_, _, rfl, HOut.out.1, HOut.out.2, fun q hq => by cases hq; exact hgB.1⟩

/-- the names -/
def namesP (L : List Ent) (st : Pt) (s : ByteArray) : List T := if st.magic then (listN L s).filter (Gmatch.matchL st.text) else [st.text]

theorem keepS {b1 : Nat} {u1 u2 : Value} {w W : World} (hb : Below w.heap.size w W) (h : b1 < w.heap.size ∧ w.cell? ⟨b1, 0, none⟩ = some u1 ∧ w.cell? ⟨b1, 1, none⟩ = some u2) :
    b1 < W.heap.size ∧ W.cell? ⟨b1, 0, none⟩ = some u1 ∧ W.cell? ⟨b1, 1, none⟩ = some u2 :=
  ⟨Nat.lt_of_lt_of_le h.1 hb.size, (hb.cell (p := ⟨b1, 0, none⟩) h.1).trans h.2.1, (hb.cell (p := ⟨b1, 1, none⟩) h.1).trans h.2.2⟩

set_option maxRecDepth 100000 in
set_option maxHeartbeats 4000000 in
theorem names_is (fa : Addr) (Bm : Nat) (bl : List Nat) (L : List Ent) (t : T) (m : Bool) (s : ByteArray) (w : World) (h : FsIs w fa Bm bl (dl L) L) (hi : Vfs.Inv L) (hs : s.size ≤ 1000000) (hL : L.length ≤ 900000000) (ht : t.length ≤ 1000000) (hx : ∀ x ∈ listN L s, x.length ≤ 1000000) :
    Calls Tryz.prog 62 #[.agg #[.string (bs t), .bool m], .pointer (some fa), .string s] w fun e W' => ∃ A c, e = .returned (.slice A (namesP L ⟨t, m⟩ s).length c) ∧ SlIs W' A c ((namesP L ⟨t, m⟩ s).map bs) ∧ Below w.heap.size w W' ∧ ∀ q, A = some q → w.heap.size ≤ q.block := by
  obtain ⟨w1, hw1⟩ : ∃ w1, w1 = w.alloc (.cells #[.string (bs t), .bool m] 82) := ⟨_, rfl⟩
  have hb1 : Below w.heap.size w w1 := by rw [hw1]; exact (Below.refl _ _).alloc (Nat.le_refl _) _
  have hs1 : w1.heap.size = w.heap.size + 1 := by rw [hw1, World.size_alloc]
  have c0 : w1.cell? ⟨w.heap.size, 0, none⟩ = some (.string (bs t)) := by rw [hw1, Lib.cell_of_heap (heap_alloc_new w _)]; rfl
  have c1 : w1.cell? ⟨w.heap.size, 1, none⟩ = some (.bool m) := by rw [hw1, Lib.cell_of_heap (heap_alloc_new w _)]; rfl
  have HList := Lib.hid (list_own fa Bm bl L s w1 (h.below hb1) hi hs hL)
  have HX := Lib.hid hx
  have HB1 := Lib.hid hb1
  have HC0 := Lib.hid c0
  have hln : (listN L s).length ≤ L.length := by
    unfold listN
    split
    · split
      · refine Nat.le_trans (Srt.sortT_len _) ?_
        unfold kids
        exact List.length_filterMap_le ..
      · exact Nat.zero_le _
    · exact Nat.zero_le _
  have HS1 := Lib.hid hs1
  clear h hi hx hb1 hs1
  cases m with
  | false =>
    have HO : Hid (SlIs (w1.alloc (.cells #[.string (bs t)] 9)) (some ⟨w1.heap.size, 0, none⟩) 1 ((namesP L ⟨t, false⟩ s).map bs)) := Vnames.lits_is w1 [bs t]
    have HBe : Hid (Below w.heap.size w (w1.alloc (.cells #[.string (bs t)] 9))) := HB1.out.alloc HB1.out.size _
    have HE : Hid ((namesP L ⟨t, false⟩ s).length = 1) := rfl
    go_enter Tryz.func62, Tryz.ntmps62
    go_wp2_with fail
    rw [← hw1]
    clear hw1
    go_wp2
    go_ret
    rw [HE.out]
    have h9 := HO.out
    rw [HS1.out] at h9
    exact ⟨_, 1, rfl, h9, HBe.out, fun q hq => by cases hq; exact Nat.le_succ _⟩
  | true =>
    have HE : Hid (namesP L ⟨t, true⟩ s = (listN L s).filter (Gmatch.matchL t)) := rfl
    rw [HE.out]
    go_enter Tryz.func62, Tryz.ntmps62
    go_wp2_with fail
    rw [← hw1]
    clear hw1
    go_wp2_with fail
    refine HList.out.mono ?_
    rintro e w2 ⟨A, c, rfl, hown, hb2⟩
    have HDe := Lib.hid (delete_is w1.heap.size A (listN L s).length c w.heap.size t (listN L s) w2 rfl hown (by omega) hb2.size (by have := HS1.out; omega) ((hb2.cell (p := ⟨w.heap.size, 0, none⟩) (by have := HS1.out; show w.heap.size < _; omega)).trans HC0.out) ht HX.out)
    have HB2 := Lib.hid (HB1.out.trans (hb2.mono HB1.out.size))
    have HB12 := Lib.hid hb2
    clear hown hb2 HList c0 c1
    go_wp2_with fail
    refine HDe.out.mono ?_
    rintro e w3 ⟨A', c', rfl, hs3, hb3, hfr3⟩
    have HFr3 : Hid (∀ q, A' = some q → w.heap.size ≤ q.block) := fun q hq => by have := hfr3 q hq; have := HS1.out; omega
    have HS3 := Lib.hid hs3
    have HB3 := Lib.hid (HB2.out.trans (hb3.mono HB1.out.size))
    clear hs3 hb3 HDe hfr3
    go_wp2
    go_ret
    exact ⟨A', c', rfl, HS3.out, HB3.out, HFr3.out⟩

end Go.Proofs.YtghfmbmdfojapaaGreatDoor.Wnm
