/- What the document's Next answers. -/
import Derived.Deep.RegionHeld3
import Derived.Deep.DeepCutAuto
import Derived.Test.YtcopddepnphfmaaDoorLrefb
namespace Go.Proofs.YtcopddepnphfmaaDoor.Lrefn
open Go.RowKit Go.Proofs.YtcopddepnphfmaaDoor.Pure Go.Proofs.YtcopddepnphfmaaDoor.Ends Go.Proofs.YtcopddepnphfmaaDoor.Ln Go.Proofs.YtcopddepnphfmaaDoor.Lfn Go.Proofs.YtcopddepnphfmaaDoor.Lraw Go.Proofs.YtcopddepnphfmaaDoor.Ltext Go.Proofs.YtcopddepnphfmaaDoor.Leach Go.Proofs.YtcopddepnphfmaaDoor.Lnext Go.Proofs.YtcopddepnphfmaaDoor.Lref Go.Proofs.YtcopddepnphfmaaDoor.Lrefb Go.Proofs.YtcopddepnphfmaaDoor.Lall

theorem step_len (r : Bool) (s t : List UInt8) : (Ln.step r s t).length ≤ s.length + 1 + t.length := by
  cases r with
  | false =>
    have a := right_length s.dropLast
    have b := left_length t
    rw [List.length_dropLast] at a
    simp only [Ln.step, Bool.false_eq_true, if_false, List.length_append, List.length_singleton]
    omega
  | true =>
    have h2 : (tab9 t).length ≤ t.length := by
      cases t with
      | nil => exact Nat.le_refl _
      | cons c r => rw [tab9_cons]; split <;> simp
    simp only [Ln.step, if_true, List.length_append, List.length_singleton]
    omega
theorem text_len (r : Bool) (M : Nat) (rs : List (List UInt8)) (h : ∀ t ∈ rs, t.length ≤ M) : (textR r rs).length ≤ rs.length * (M + 1) := by
  cases rs with
  | nil => simp [textR]
  | cons x rs =>
    have gen : ∀ (rs : List (List UInt8)) (s : List UInt8), (∀ t ∈ rs, t.length ≤ M) → (rs.foldl (Ln.step r) s).length ≤ s.length + rs.length * (M + 1) := by
      intro rs
      induction rs with
      | nil => intro s _; simp
      | cons y rs ih =>
        intro s h
        have h1 := h y (by simp)
        have h2 := ih (Ln.step r s y) (fun t ht => h t (by simp [ht]))
        have h3 := step_len r s y
        rw [List.foldl_cons, List.length_cons, Nat.succ_mul]
        omega
    have h1 := h x (by simp)
    have h2 := gen rs x (fun t ht => h t (by simp [ht]))
    rw [textR, List.length_cons, Nat.succ_mul]
    omega

theorem tab_nil {T : List UInt8} (h : T = []) : ((bs T).toList == []) = true ∧ (bs T).toList.isEmpty = true ∧ isTab T = false := by subst h; exact ⟨by rw [Lib.toList_data]; rfl, by rw [Lib.toList_data]; rfl, rfl⟩
theorem tab_cons (T : List UInt8) (c : UInt8) (r : List UInt8) (h : T = c :: r) : ((bs T).toList == []) = false ∧ (bs T).toList.isEmpty = false ∧ ∃ hz : 0 < (bs T).size, ((((bs T)[0]'hz).toNat : Nat) : Int) = ((c.toNat : Nat) : Int) := by
  subst h
  exact ⟨by rw [Lib.toList_data]; rfl, by rw [Lib.toList_data]; rfl, by rw [size_bs]; simp, rfl⟩
theorem u8_tab (c : UInt8) : (((c.toNat : Nat) : Int) == 9) = (c == 9) := u8_eq c 9
theorem isTab_cons (c : UInt8) (r : List UInt8) : isTab (c :: r) = (c == 9) := by unfold isTab; rw [List.head?_cons]; rfl

/-- how far the loop has come -/
def At (l : List UInt8) (P : List Ls) (x : Ls) : Prop := pieces l = P ++ x :: (if odd x.1 then pieces x.2 else []) ∧ x.2 <:+ l
theorem at_start {l : List UInt8} (h : l ≠ []) : At l [] (lineOf l, restOf l) := ⟨by rw [pieces_cons h]; rfl, rest_is_suffix l⟩
theorem at_step {l : List UInt8} {P : List Ls} {x : Ls} (h : At l P x) (ho : odd x.1 = true) (hx : x.2 ≠ []) : At l (P ++ [x]) (lineOf x.2, restOf x.2) := by
  obtain ⟨h1, h2⟩ := h
  rw [if_pos ho, pieces_cons hx] at h1
  exact ⟨by rw [h1]; simp, (rest_is_suffix _).trans h2⟩
theorem at_end {l : List UInt8} {P : List Ls} {x : Ls} (h : At l P x) (ho : odd x.1 = false ∨ x.2 = []) : pieces l = P ++ [x] := by
  obtain ⟨h1, _⟩ := h
  rcases ho with ho | ho
  · rw [if_neg (by rw [ho]; decide)] at h1; exact h1
  · have : (if odd x.1 then pieces x.2 else []) = [] := by
      rw [ho]; split
      · simp [pieces, lines2_nil, upto]
      · rfl
    rw [this] at h1; exact h1

theorem drop_one (S : List UInt8) (h : 1 ≤ S.length) : (bs S).extract 1 (bs S).size = bs (S.drop 1) ∧ 1 ≤ (bs S).size := ⟨ext_data (by rw [Lib.extract_to_end, bs_data, bs_data]), by rw [size_bs]; exact h⟩
theorem pieces_head {l : List UInt8} {P : List Ls} {x : Ls} {T : List UInt8} (h : pieces l = P ++ [x]) (hT : lineOf l = T) : ∃ r, (P ++ [x]).map (·.1) = T :: r := by
  have hl : l ≠ [] := by
    intro e
    rw [e] at h
    have : pieces ([] : List UInt8) = [] := by simp [pieces, lines2_nil, upto]
    rw [this] at h
    exact absurd h (by simp)
  have := pieces_cons hl
  rw [h, hT] at this
  rw [this]
  exact ⟨_, rfl⟩
theorem head_len {l : List UInt8} {P : List Ls} {x : Ls} {T : List UInt8} (h : pieces l = P ++ [x]) (hT : lineOf l = T) (ht : isTab T = true) : 1 ≤ (textR true ((P ++ [x]).map (·.1))).length := by
  obtain ⟨r, hr⟩ := pieces_head h hT
  rw [hr, textR, fold_tab]
  cases T with
  | nil => exact absurd ht (by decide)
  | cons c u => simp
theorem text_tab {l : List UInt8} {P : List Ls} {x : Ls} {T : List UInt8} (h : pieces l = P ++ [x]) (hT : lineOf l = T) (ht : isTab T = true) : bs ((textR true ((P ++ [x]).map (·.1))).drop 1) = bs (textL l) := by
  unfold textL; rw [hT, ht, if_pos rfl, h]
theorem text_bare {l : List UInt8} {P : List Ls} {x : Ls} {T : List UInt8} (h : pieces l = P ++ [x]) (hT : lineOf l = T) (ht : isTab T = false) : bs (bare (textR false ((P ++ [x]).map (·.1)))) = bs (textL l) := by
  unfold textL; rw [hT, ht, if_neg (by decide), h]
theorem fin_eq {l : List UInt8} {P : List Ls} {x : Ls} {Y : ByteArray} {s nx : Nat} {n : Int} {r : Bool} {T : List UInt8} (hY : Y = bs (textL l)) (hp : pieces l = P ++ [x]) (hn : nx = s - x.2.length) (hr : isTab T = r) :
    Ending.returned (.tuple #[.agg #[.string Y, .int .i64 n, .bool r], .int .i64 (nx : Int), .int .i64 (n + (P.length : Int) + 1), .bool true]) = .returned (.tuple #[lineV (textL l) n (isTab T), .int .i64 ((s - (leftL l).length : Nat) : Int), .int .i64 (n + (pieces l).length), .bool true]) := by
  have e : n + (P.length : Int) + 1 = n + ((P ++ [x]).length : Int) := by simp; omega
  rw [lineV, ← hY, leftL_of P x hp, hp, hn, hr, e]
theorem res3 {W : World} {q : Nat} {a b c : Value} {T : Nat} (h : W.heap[q]? = some (.cells #[a, b, c] T (0, 0))) (x y z : Value) :
    (((W.setCell ⟨q, 0, none⟩ x).setCell ⟨q, 1, none⟩ y).setCell ⟨q, 2, none⟩ z).cell? ⟨q, 0, none⟩ = some x ∧ (((W.setCell ⟨q, 0, none⟩ x).setCell ⟨q, 1, none⟩ y).setCell ⟨q, 2, none⟩ z).cell? ⟨q, 1, none⟩ = some y ∧
      (((W.setCell ⟨q, 0, none⟩ x).setCell ⟨q, 1, none⟩ y).setCell ⟨q, 2, none⟩ z).cell? ⟨q, 2, none⟩ = some z := by
  have h3 := set3_same h x y z
  exact ⟨by rw [Lib.cell_of_heap h3]; rfl, by rw [Lib.cell_of_heap h3]; rfl, by rw [Lib.cell_of_heap h3]; rfl⟩

theorem at_facts {l : List UInt8} {P : List Ls} {x : Ls} (h : At l P x) (hc : (pieces l).length ≤ l.length) (hm : ∀ y ∈ pieces l, y.2 <:+ l ∧ y.1.length ≤ l.length ∧ y.2.length < l.length) (hl : l.length ≤ 10000) (r : Bool) :
    (textR r ((P ++ [x]).map (·.1))).length ≤ 200000000 ∧ P.length ≤ 10000 := by
  obtain ⟨h1, _⟩ := h
  rw [h1] at hc hm
  have hlen : P.length + 1 ≤ 10000 := by simp at hc; omega
  have h2 := text_len r 10000 ((P ++ [x]).map (·.1)) (fun t ht => by
    obtain ⟨y, hy, rfl⟩ := List.mem_map.1 ht
    have : y ∈ P ++ x :: (if odd x.1 then pieces x.2 else []) := by
      rcases List.mem_append.1 hy with hy | hy
      · exact List.mem_append_left _ hy
      · rw [List.mem_singleton.1 hy]; simp
    exact Nat.le_trans (hm y this).2.1 hl)
  have h3 : ((P ++ [x]).map (·.1)).length ≤ 10000 := by simp; omega
  have h4 := Nat.mul_le_mul h3 (Nat.le_refl (10000 + 1))
  exact ⟨by omega, by omega⟩

set_option maxRecDepth 100000 in
set_option maxHeartbeats 1000000 in
/-- no line begins there -/
theorem refNext_no (s : ByteArray) (k n : Int) (w : World) (hk : k < 0 ∨ (s.size : Int) ≤ k) :
    Calls Tryd.prog 12 #[.string s, .int .i64 k, .int .i64 n] w fun e W' => e = .returned (.tuple #[noneV, .int .i64 0, .int .i64 0, .bool false]) ∧ Below w.heap.size w W' := by
  by_cases h0 : k < 0
  · have h1 : decide (k < 0) = true := by simpa using h0
    clear hk
    go_enter Tryd.func12, Tryd.ntmps12
    go_wp2
    exact bodyPost_ret (v := .tuple #[noneV, .int .i64 0, .int .i64 0, .bool false]) (by simp [results, Tryd.results12, go_sem, noneV]; rfl) rfl ⟨rfl, (Below.refl _ _).alloc (Nat.le_refl _) _⟩
  · have h2 : (s.size : Int) ≤ k := by omega
    have h1 : ¬ k < 0 := h0
    clear hk
    go_enter Tryd.func12, Tryd.ntmps12
    go_wp2
    exact bodyPost_ret (v := .tuple #[noneV, .int .i64 0, .int .i64 0, .bool false]) (by simp [results, Tryd.results12, go_sem, noneV]; rfl) rfl ⟨rfl, (Below.refl _ _).alloc (Nat.le_refl _) _⟩

set_option maxRecDepth 100000 in
set_option maxHeartbeats 4000000 in
theorem refNext_is (s : ByteArray) (k : Nat) (n : Int) (w : World) (hk : k < s.size) (hs : s.size ≤ 10000) (hn1 : -4611686018427387904 ≤ n) (hn2 : n ≤ 4611686018427387904) :
    Calls Tryd.prog 12 #[.string s, .int .i64 (k : Int), .int .i64 n] w fun e W' =>
      e = .returned (.tuple #[lineV (textL (dropT s k)) n (isTab (lineOf (dropT s k))), .int .i64 ((s.size - (leftL (dropT s k)).length : Nat) : Int), .int .i64 (n + (pieces (dropT s k)).length), .bool true]) ∧ Below w.heap.size w W' := by
  have hk0 : ¬ ((k : Int) < 0) := by omega
  have hk1 : ¬ ((s.size : Int) ≤ (k : Int)) := by omega
  have hne := dropT_ne hk
  have HA0 := Lib.hid (at_start hne)
  have HPC := Lib.hid (pieces_count (dropT s k))
  have HPM := Lib.hid (pieces_mem (dropT s k))
  have HSF := Lib.hid (dropT_suffix s k)
  have HDL := Lib.hid (dropT_len s k)
  have HRW := Lib.hid (fun W => rawR_at s k W (by omega) (Nat.le_of_lt hk))
  have wn : IntKind.i64.wrap (n + 1) = n + 1 := IntWalk.i64_in _ (by omega)
  clear hne
  obtain ⟨l, hl⟩ : ∃ l, dropT s k = l := ⟨_, rfl⟩
  rw [hl] at HA0 HPC HPM HSF HDL HRW
  rw [hl]
  have HLL := Lib.hid hl
  clear hl
  obtain ⟨T0, hT0⟩ : ∃ T0, lineOf l = T0 := ⟨_, rfl⟩
  rw [hT0] at HA0 HRW
  rw [hT0]
  have HT0 := Lib.hid hT0
  clear hT0
  obtain ⟨U0, hU0⟩ : ∃ U0, bs T0 = U0 := ⟨_, rfl⟩
  rw [hU0] at HRW
  have HU0 := Lib.hid hU0
  clear hU0
  go_enter Tryd.func12, Tryd.ntmps12
  go_wp2_with fail
  refine (HRW.out _).mono ?_
  rintro e w2 ⟨rfl, hb2⟩
  obtain ⟨w1, hw1⟩ : ∃ w1, w1 = w.alloc (.cells #[.string ⟨#[]⟩, .int .i64 0, .bool false] 26) := ⟨_, rfl⟩
  have HB2 : Hid (Below (w.heap.size + 1) w1 w2) := by
    show Below _ _ _
    have := hb2
    rw [← hw1] at this
    exact this.mono (by rw [hw1]; simp)
  have HW1 := Lib.hid hw1
  clear hb2 hw1 HRW
  go_upto_region 5 with fail
  go_cut [13] (fun b wx => b = .bool (isTab T0) ∧ w2 = wx)
  case first =>
    have hcase : T0 = [] ∨ ∃ c r, T0 = c :: r := by cases T0 with
      | nil => exact .inl rfl
      | cons c r => exact .inr ⟨c, r, rfl⟩
    rcases hcase with hT | ⟨c, r, hT⟩
    · obtain ⟨t1, t2, t3⟩ := tab_nil hT
      have HT3 := Lib.hid t3
      rw [HU0.out] at t1 t2
      clear t3 hT
      go_wp2
      go_meet
      case rel => exact ⟨by rw [HT3.out], rfl⟩
    · obtain ⟨t1, t2, hz, t3⟩ := tab_cons T0 c r hT
      have ht := isTab_cons c r
      rw [← hT] at ht
      have t4 := u8_tab c
      rw [← t3] at t4
      simp only [HU0.out] at t1 t2 hz t4
      clear t3 hT
      cases hc : (c == 9) with
      | true =>
        rw [hc] at ht t4
        have HT3 := Lib.hid ht
        clear hc ht
        go_wp2
        go_meet
        case rel => exact ⟨by rw [HT3.out], rfl⟩
      | false =>
        rw [hc] at ht t4
        have HT3 := Lib.hid ht
        clear hc ht
        go_wp2
        go_meet
        case rel => exact ⟨by rw [HT3.out], rfl⟩
  case rest =>
    obtain ⟨rfl, rfl⟩ := hcut
    obtain ⟨rt, hrt⟩ : ∃ rt, isTab T0 = rt := ⟨_, rfl⟩
    have HRT := Lib.hid hrt
    rw [hrt]
    clear hrt
    have hs0 := HB2.out.size
    cases rt with
    | true =>
      go_wp2_with fail
      go_loopw [10, 11, 12] (fun vs vn vk wr => ∃ (P : List Ls) (x : Ls) (nx : Nat), vs = .string (bs (textR true ((P ++ [x]).map (·.1)))) ∧ vn = .int .i64 (nx : Int) ∧ vk = .int .i64 (n + (P.length : Int) + 1) ∧ nx ≤ s.size ∧ Hid (nx = s.size - x.2.length) ∧ Hid (At l P x) ∧ Hid (Below (w.heap.size + 1) w1 wr))
        (fun _ vn _ _ => s.size - (intOf vn).toNat)
      case atStart => exact ⟨[], (T0, restOf l), s.size - (restOf l).length, by rw [← HU0.out]; rfl, rfl, by simp, by omega, rfl, HA0.out, HB2.out⟩
      case round =>
        obtain ⟨P, x, nx, rfl, rfl, rfl, hnx, HNX, HA, HB⟩ := hrel
        have hB := HB.out.size
        have hs1 : w1.heap.size = w.heap.size + 1 := by rw [HW1.out, World.size_alloc]
        have HF := Lib.hid (at_facts HA.out HPC.out HPM.out (by rw [HDL.out]; omega) true)
        have HOD := Lib.hid (fun W => odd_is (bs (textR true ((P ++ [x]).map (·.1)))) W (by rw [size_bs]; have := HF.out.1; omega))
        have hd : (bs (textR true ((P ++ [x]).map (·.1)))).data.toList = textR true ((P ++ [x]).map (·.1)) := rfl
        have ho : odd (textR true ((P ++ [x]).map (·.1))) = odd x.1 := by rw [List.map_append]; exact odd_text true (P.map (·.1)) x.1
        rw [hd, ho] at HOD
        have HSX : Hid (x.2 <:+ s.data.toList) := HA.out.2.trans HSF.out
        have hlen : x.2.length ≤ s.size := by have := HSX.out.length_le; rw [← Lib.size_eq] at this; exact this
        have HEND : Hid (∀ (_ : odd x.1 = false ∨ x.2 = []), pieces l = P ++ [x]) := fun h => at_end HA.out h
        clear hd ho
        obtain ⟨SS, hSS⟩ : ∃ SS, textR true ((P ++ [x]).map (·.1)) = SS := ⟨_, rfl⟩
        have HSS := Lib.hid hSS
        rw [hSS] at HOD HF
        rw [hSS]
        clear hSS
        have hsz : (bs SS).size ≤ 200000000 := by rw [size_bs]; exact HF.out.1
        have hplen : P.length ≤ 10000 := HF.out.2
        have wk : IntKind.i64.wrap (n + (P.length : Int) + 1 + 1) = n + (P.length : Int) + 1 + 1 := IntWalk.i64_in _ (by omega)
        by_cases ho : odd x.1 = true
        · by_cases hx : x.2 = []
          · have hnz : nx = s.size := by have := HNX.out; rw [hx] at this; simpa using this
            have hp := HEND.out (.inr hx)
            rw [ho] at HOD
            subst hnz
            go_wp2_with fail
            refine (HOD.out _).mono ?_
            rintro e w3 ⟨rfl, hb3⟩
            have HB3 := Lib.hid (HB.out.trans (hb3.mono (by have := HB.out.size; omega)))
            clear hb3 HOD
            have hres : w3.heap[w.heap.size]? = some (.cells #[.string ⟨#[]⟩, .int .i64 0, .bool false] 26 (0, 0)) := by
              rw [HB3.out.block w.heap.size (by omega), HW1.out]
              exact World.alloc_heap_new w _
            have r0 : w3.cell? ⟨w.heap.size, 0, none⟩ = some (.string ⟨#[]⟩) := by rw [Lib.cell_of_heap hres]; rfl
            have r1 : w3.cell? ⟨w.heap.size, 1, none⟩ = some (.int .i64 0) := by rw [Lib.cell_of_heap hres]; rfl
            have r2 : w3.cell? ⟨w.heap.size, 2, none⟩ = some (.bool false) := by rw [Lib.cell_of_heap hres]; rfl
            have g0 : w3.frozen? ⟨w.heap.size, 0, none⟩ = false := Lib.frozen_of_heap hres 0
            have g1 : w3.frozen? ⟨w.heap.size, 1, none⟩ = false := Lib.frozen_of_heap hres 1
            have g2 : w3.frozen? ⟨w.heap.size, 2, none⟩ = false := Lib.frozen_of_heap hres 2
            have HRes := Lib.hid hres
            have HNB := Lib.hid (show Below w.heap.size w w3 from (by rw [HW1.out]; exact (Below.refl _ _).alloc (Nat.le_refl _) _ : Below w.heap.size w w1).trans (HB3.out.mono (Nat.le_succ _)))
            have HP := Lib.hid hp
            clear hres hp
            obtain ⟨e1, e2⟩ := drop_one SS (by rw [← HSS.out]; exact head_len HP.out HT0.out HRT.out)
            have HTX : Hid (bs (SS.drop 1) = bs (textL l)) := by show _ = _; rw [← HSS.out]; exact text_tab HP.out HT0.out HRT.out
            generalize bs (SS.drop 1) = Y at *
            generalize bs SS = A at *
            go_wp2
            obtain ⟨v0, v1, v2⟩ := res3 HRes.out (.string Y) (.int .i64 n) (.bool true)
            exact bodyPost_ret (v := .tuple #[.agg #[.string Y, .int .i64 n, .bool true], .int .i64 (s.size : Int), .int .i64 (n + (P.length : Int) + 1), .bool true]) (by simp [results, Tryd.results12, go_sem, v0, v1, v2]) rfl
              ⟨fin_eq HTX.out HP.out HNX.out HRT.out, end3 (Nat.le_refl _) HNB.out _ _ _⟩
          · have hnl : nx < s.size := by have h1 := HNX.out; have h2 := List.length_pos_iff.2 hx; omega
            have hdr : dropT s nx = x.2 := by rw [HNX.out]; exact dropT_of s HSX.out
            have HR := Lib.hid (fun W => rawR_at s nx W (by omega) hnx)
            rw [hdr] at HR
            have HST := Lib.hid (at_step HA.out ho hx)
            have HLS : Hid (s.size - (restOf x.2).length ≤ s.size ∧ nx < s.size - (restOf x.2).length) := by
              have h1 := HNX.out
              have h2 := rest_length hx
              exact ⟨by omega, by omega⟩
            obtain ⟨TT, hTT⟩ : ∃ TT, lineOf x.2 = TT := ⟨_, rfl⟩
            have HTz : Hid (TT.length ≤ 10000) := by show _ ≤ _; rw [← hTT]; have := line_le x.2; omega
            rw [hTT] at HR HST
            have HSTEP : Hid (textR true ((P ++ [x] ++ [(TT, restOf x.2)]).map (·.1)) = Ln.step true SS TT) := by
              show _ = _
              rw [List.map_append, List.map_singleton, textR_snoc _ _ _ (by simp), HSS.out]
            have HPL : Hid (((P ++ [x]).length : Int) = (P.length : Int) + 1) := by show _ = _; simp
            have HPOS := Lib.hid (odd_pos (l := SS) (by rw [← HSS.out, List.map_append]; exact (odd_text true (P.map (·.1)) x.1).trans ho))
            rw [ho] at HOD
            clear hx ho hTT hdr HEND
            obtain ⟨mx, hmx⟩ : ∃ mx, s.size - (restOf x.2).length = mx := ⟨_, rfl⟩
            have HMX := Lib.hid hmx
            rw [hmx] at HR HLS
            clear hmx
            have hmx1 := HLS.out.1
            have hmx2 := HLS.out.2
            generalize restOf x.2 = RR at *
            go_wp2_with fail
            refine (HOD.out _).mono ?_
            rintro e w3 ⟨rfl, hb3⟩
            have HB3 := Lib.hid (HB.out.trans (hb3.mono (by have := HB.out.size; omega)))
            clear hb3 HOD
            go_wp2_with fail
            refine (HR.out _).mono ?_
            rintro e w4 ⟨rfl, hb4⟩
            have HB4 := Lib.hid (HB3.out.trans (hb4.mono (by have := HB3.out.size; omega)))
            clear hb4 HR
            have hcase : TT = [] ∨ ∃ c r, TT = c :: r := by cases TT with
              | nil => exact .inl rfl
              | cons c r => exact .inr ⟨c, r, rfl⟩
            have a1 : ∀ W, (Op.stringOp .add (bs SS) ⟨#[10]⟩).run Tryd.prog W = .ok (.string (bs (SS ++ [10]))) W := fun W => add_is _ _ _ W (bs_app SS [10]) (by have : (⟨#[10]⟩ : ByteArray).size = 1 := rfl; omega)
            have a2 : ∀ W, (Op.stringOp .add (bs (SS ++ [10])) (bs (tab9 TT))).run Tryd.prog W = .ok (.string (bs (Ln.step true SS TT))) W := fun W => add_is _ _ _ W (bs_app (SS ++ [10]) (tab9 TT)) (by
              have h2 : (tab9 TT).length ≤ TT.length := by
                cases TT with
                | nil => exact Nat.le_refl _
                | cons c r => rw [tab9_cons]; split <;> simp
              have h3 := HTz.out
              rw [size_bs] at hsz
              rw [size_bs, size_bs, List.length_append]
              simp
              omega)
            rw [← HSTEP.out] at a2
            obtain ⟨Z, hZ⟩ : ∃ Z, bs (textR true ((P ++ [x] ++ [(TT, RR)]).map (·.1))) = Z := ⟨_, rfl⟩
            rw [hZ] at a2
            have HZ := Lib.hid hZ
            clear hZ
            have hz0 : Hid (bs TT = bs TT) := rfl
            rcases hcase with hT | ⟨c, r, hT⟩
            · obtain ⟨t1, t2, t3⟩ := tab_nil hT
              have e9 : tab9 TT = TT := by rw [hT]; rfl
              rw [e9] at a2
              clear t3 hT e9
              generalize bs TT = V at *
              generalize bs (SS ++ [10]) = Q at *
              generalize bs SS = A at *
              go_wp2
              go_roundw
              case rel => exact ⟨P ++ [x], (TT, RR), mx, by rw [HZ.out], rfl, by rw [HPL.out, show n + ((P.length : Int) + 1) + 1 = n + (P.length : Int) + 1 + 1 by omega], hmx1, HMX.out.symm, HST.out, HB4.out⟩
              case measure => simp [intOf]; omega
            · obtain ⟨t1, t2, hz, t3⟩ := tab_cons TT c r hT
              have t4 := u8_tab c
              rw [← t3] at t4
              cases hc : (c == 9) with
              | true =>
                have e9 : tab9 TT = r := by rw [hT, tab9_cons, if_pos (by simpa using hc)]
                obtain ⟨e1, e2⟩ := drop_one TT (by rw [hT]; simp)
                have e3 : TT.drop 1 = r := by rw [hT]; rfl
                rw [e3] at e1
                rw [e9] at a2
                rw [hc] at t4
                clear t3 hT e9 hc e3
                generalize bs r = V2 at *
                generalize bs TT = V at *
                generalize bs (SS ++ [10]) = Q at *
                generalize bs SS = A at *
                go_wp2
                go_roundw
                case rel => exact ⟨P ++ [x], (TT, RR), mx, by rw [HZ.out], rfl, by rw [HPL.out, show n + ((P.length : Int) + 1) + 1 = n + (P.length : Int) + 1 + 1 by omega], hmx1, HMX.out.symm, HST.out, HB4.out⟩
                case measure => simp [intOf]; omega
              | false =>
                have e9 : tab9 TT = TT := by rw [hT, tab9_cons, if_neg (by simpa using hc)]
                rw [e9] at a2
                rw [hc] at t4
                clear t3 hT e9 hc
                generalize bs TT = V at *
                generalize bs (SS ++ [10]) = Q at *
                generalize bs SS = A at *
                go_wp2
                go_roundw
                case rel => exact ⟨P ++ [x], (TT, RR), mx, by rw [HZ.out], rfl, by rw [HPL.out, show n + ((P.length : Int) + 1) + 1 = n + (P.length : Int) + 1 + 1 by omega], hmx1, HMX.out.symm, HST.out, HB4.out⟩
                case measure => simp [intOf]; omega
        · have ho' : odd x.1 = false := by simpa using ho
          have hp := HEND.out (.inl ho')
          rw [ho'] at HOD
          go_wp2_with fail
          refine (HOD.out _).mono ?_
          rintro e w3 ⟨rfl, hb3⟩
          have HB3 := Lib.hid (HB.out.trans (hb3.mono (by have := HB.out.size; omega)))
          clear hb3 HOD
          have hres : w3.heap[w.heap.size]? = some (.cells #[.string ⟨#[]⟩, .int .i64 0, .bool false] 26 (0, 0)) := by
            rw [HB3.out.block w.heap.size (by omega), HW1.out]
            exact World.alloc_heap_new w _
          have r0 : w3.cell? ⟨w.heap.size, 0, none⟩ = some (.string ⟨#[]⟩) := by rw [Lib.cell_of_heap hres]; rfl
          have r1 : w3.cell? ⟨w.heap.size, 1, none⟩ = some (.int .i64 0) := by rw [Lib.cell_of_heap hres]; rfl
          have r2 : w3.cell? ⟨w.heap.size, 2, none⟩ = some (.bool false) := by rw [Lib.cell_of_heap hres]; rfl
          have g0 : w3.frozen? ⟨w.heap.size, 0, none⟩ = false := Lib.frozen_of_heap hres 0
          have g1 : w3.frozen? ⟨w.heap.size, 1, none⟩ = false := Lib.frozen_of_heap hres 1
          have g2 : w3.frozen? ⟨w.heap.size, 2, none⟩ = false := Lib.frozen_of_heap hres 2
          have HRes := Lib.hid hres
          have HNB := Lib.hid (show Below w.heap.size w w3 from (by rw [HW1.out]; exact (Below.refl _ _).alloc (Nat.le_refl _) _ : Below w.heap.size w w1).trans (HB3.out.mono (Nat.le_succ _)))
          have HP := Lib.hid hp
          clear hres hp
          obtain ⟨e1, e2⟩ := drop_one SS (by rw [← HSS.out]; exact head_len HP.out HT0.out HRT.out)
          have HTX : Hid (bs (SS.drop 1) = bs (textL l)) := by show _ = _; rw [← HSS.out]; exact text_tab HP.out HT0.out HRT.out
          generalize bs (SS.drop 1) = Y at *
          generalize bs SS = A at *
          go_wp2
          obtain ⟨v0, v1, v2⟩ := res3 HRes.out (.string Y) (.int .i64 n) (.bool true)
          exact bodyPost_ret (v := .tuple #[.agg #[.string Y, .int .i64 n, .bool true], .int .i64 (nx : Int), .int .i64 (n + (P.length : Int) + 1), .bool true]) (by simp [results, Tryd.results12, go_sem, v0, v1, v2]) rfl
            ⟨fin_eq HTX.out HP.out HNX.out HRT.out, end3 (Nat.le_refl _) HNB.out _ _ _⟩
    | false =>
      go_wp2_with fail
      go_loopw [10, 11, 12] (fun vs vn vk wr => ∃ (P : List Ls) (x : Ls) (nx : Nat), vs = .string (bs (textR false ((P ++ [x]).map (·.1)))) ∧ vn = .int .i64 (nx : Int) ∧ vk = .int .i64 (n + (P.length : Int) + 1) ∧ nx ≤ s.size ∧ Hid (nx = s.size - x.2.length) ∧ Hid (At l P x) ∧ Hid (Below (w.heap.size + 1) w1 wr))
        (fun _ vn _ _ => s.size - (intOf vn).toNat)
      case atStart => exact ⟨[], (T0, restOf l), s.size - (restOf l).length, by rw [← HU0.out]; rfl, rfl, by simp, by omega, rfl, HA0.out, HB2.out⟩
      case round =>
        obtain ⟨P, x, nx, rfl, rfl, rfl, hnx, HNX, HA, HB⟩ := hrel
        have hB := HB.out.size
        have hs1 : w1.heap.size = w.heap.size + 1 := by rw [HW1.out, World.size_alloc]
        have HF := Lib.hid (at_facts HA.out HPC.out HPM.out (by rw [HDL.out]; omega) false)
        have HOD := Lib.hid (fun W => odd_is (bs (textR false ((P ++ [x]).map (·.1)))) W (by rw [size_bs]; have := HF.out.1; omega))
        have hd : (bs (textR false ((P ++ [x]).map (·.1)))).data.toList = textR false ((P ++ [x]).map (·.1)) := rfl
        have ho : odd (textR false ((P ++ [x]).map (·.1))) = odd x.1 := by rw [List.map_append]; exact odd_text false (P.map (·.1)) x.1
        rw [hd, ho] at HOD
        have HSX : Hid (x.2 <:+ s.data.toList) := HA.out.2.trans HSF.out
        have hlen : x.2.length ≤ s.size := by have := HSX.out.length_le; rw [← Lib.size_eq] at this; exact this
        have HEND : Hid (∀ (_ : odd x.1 = false ∨ x.2 = []), pieces l = P ++ [x]) := fun h => at_end HA.out h
        clear hd ho
        obtain ⟨SS, hSS⟩ : ∃ SS, textR false ((P ++ [x]).map (·.1)) = SS := ⟨_, rfl⟩
        have HSS := Lib.hid hSS
        rw [hSS] at HOD HF
        rw [hSS]
        clear hSS
        have hsz : (bs SS).size ≤ 200000000 := by rw [size_bs]; exact HF.out.1
        have hplen : P.length ≤ 10000 := HF.out.2
        have wk : IntKind.i64.wrap (n + (P.length : Int) + 1 + 1) = n + (P.length : Int) + 1 + 1 := IntWalk.i64_in _ (by omega)
        by_cases ho : odd x.1 = true
        · by_cases hx : x.2 = []
          · have hnz : nx = s.size := by have := HNX.out; rw [hx] at this; simpa using this
            have hp := HEND.out (.inr hx)
            rw [ho] at HOD
            subst hnz
            go_wp2_with fail
            refine (HOD.out _).mono ?_
            rintro e w3 ⟨rfl, hb3⟩
            have HB3 := Lib.hid (HB.out.trans (hb3.mono (by have := HB.out.size; omega)))
            clear hb3 HOD
            have hres : w3.heap[w.heap.size]? = some (.cells #[.string ⟨#[]⟩, .int .i64 0, .bool false] 26 (0, 0)) := by
              rw [HB3.out.block w.heap.size (by omega), HW1.out]
              exact World.alloc_heap_new w _
            have r0 : w3.cell? ⟨w.heap.size, 0, none⟩ = some (.string ⟨#[]⟩) := by rw [Lib.cell_of_heap hres]; rfl
            have r1 : w3.cell? ⟨w.heap.size, 1, none⟩ = some (.int .i64 0) := by rw [Lib.cell_of_heap hres]; rfl
            have r2 : w3.cell? ⟨w.heap.size, 2, none⟩ = some (.bool false) := by rw [Lib.cell_of_heap hres]; rfl
            have g0 : w3.frozen? ⟨w.heap.size, 0, none⟩ = false := Lib.frozen_of_heap hres 0
            have g1 : w3.frozen? ⟨w.heap.size, 1, none⟩ = false := Lib.frozen_of_heap hres 1
            have g2 : w3.frozen? ⟨w.heap.size, 2, none⟩ = false := Lib.frozen_of_heap hres 2
            have HRes := Lib.hid hres
            have HNB := Lib.hid (show Below w.heap.size w w3 from (by rw [HW1.out]; exact (Below.refl _ _).alloc (Nat.le_refl _) _ : Below w.heap.size w w1).trans (HB3.out.mono (Nat.le_succ _)))
            have HP := Lib.hid hp
            clear hres hp
            have HBR := Lib.hid (fun W => bare_is (bs SS) W (by rw [size_bs]; have := HF.out.1; omega))
            have hbd : (bs SS).data.toList = SS := rfl
            rw [hbd] at HBR
            have HTX : Hid (bs (bare SS) = bs (textL l)) := by show _ = _; rw [← HSS.out]; exact text_bare HP.out HT0.out HRT.out
            generalize bs (bare SS) = Y at *
            generalize bs SS = A at *
            clear hbd r0 r1 r2 g0 g1 g2
            go_wp2_with fail
            refine (HBR.out _).mono ?_
            rintro e w5 ⟨rfl, hb5⟩
            have hres5 : w5.heap[w.heap.size]? = some (.cells #[.string ⟨#[]⟩, .int .i64 0, .bool false] 26 (0, 0)) := by
              rw [hb5.block w.heap.size (by have := HB3.out.size; omega)]; exact HRes.out
            have r0 : w5.cell? ⟨w.heap.size, 0, none⟩ = some (.string ⟨#[]⟩) := by rw [Lib.cell_of_heap hres5]; rfl
            have r1 : w5.cell? ⟨w.heap.size, 1, none⟩ = some (.int .i64 0) := by rw [Lib.cell_of_heap hres5]; rfl
            have r2 : w5.cell? ⟨w.heap.size, 2, none⟩ = some (.bool false) := by rw [Lib.cell_of_heap hres5]; rfl
            have g0 : w5.frozen? ⟨w.heap.size, 0, none⟩ = false := Lib.frozen_of_heap hres5 0
            have g1 : w5.frozen? ⟨w.heap.size, 1, none⟩ = false := Lib.frozen_of_heap hres5 1
            have g2 : w5.frozen? ⟨w.heap.size, 2, none⟩ = false := Lib.frozen_of_heap hres5 2
            have HR5 := Lib.hid hres5
            have HN5 := Lib.hid (HNB.out.trans (hb5.mono (by have := HB3.out.size; omega)))
            clear hres5 hb5 HBR
            go_wp2
            obtain ⟨v0, v1, v2⟩ := res3 HR5.out (.string Y) (.int .i64 n) (.bool false)
            exact bodyPost_ret (v := .tuple #[.agg #[.string Y, .int .i64 n, .bool false], .int .i64 (s.size : Int), .int .i64 (n + (P.length : Int) + 1), .bool true]) (by simp [results, Tryd.results12, go_sem, v0, v1, v2]) rfl
              ⟨fin_eq HTX.out HP.out HNX.out HRT.out, end3 (Nat.le_refl _) HN5.out _ _ _⟩
          · have hnl : nx < s.size := by have h1 := HNX.out; have h2 := List.length_pos_iff.2 hx; omega
            have hdr : dropT s nx = x.2 := by rw [HNX.out]; exact dropT_of s HSX.out
            have HR := Lib.hid (fun W => rawR_at s nx W (by omega) hnx)
            rw [hdr] at HR
            have HST := Lib.hid (at_step HA.out ho hx)
            have HLS : Hid (s.size - (restOf x.2).length ≤ s.size ∧ nx < s.size - (restOf x.2).length) := by
              have h1 := HNX.out
              have h2 := rest_length hx
              exact ⟨by omega, by omega⟩
            obtain ⟨TT, hTT⟩ : ∃ TT, lineOf x.2 = TT := ⟨_, rfl⟩
            have HTz : Hid (TT.length ≤ 10000) := by show _ ≤ _; rw [← hTT]; have := line_le x.2; omega
            rw [hTT] at HR HST
            have HSTEP : Hid (textR false ((P ++ [x] ++ [(TT, restOf x.2)]).map (·.1)) = Ln.step false SS TT) := by
              show _ = _
              rw [List.map_append, List.map_singleton, textR_snoc _ _ _ (by simp), HSS.out]
            have HPL : Hid (((P ++ [x]).length : Int) = (P.length : Int) + 1) := by show _ = _; simp
            have HPOS := Lib.hid (odd_pos (l := SS) (by rw [← HSS.out, List.map_append]; exact (odd_text false (P.map (·.1)) x.1).trans ho))
            rw [ho] at HOD
            clear hx ho hTT hdr HEND
            obtain ⟨mx, hmx⟩ : ∃ mx, s.size - (restOf x.2).length = mx := ⟨_, rfl⟩
            have HMX := Lib.hid hmx
            rw [hmx] at HR HLS
            clear hmx
            have hmx1 := HLS.out.1
            have hmx2 := HLS.out.2
            generalize restOf x.2 = RR at *
            go_wp2_with fail
            refine (HOD.out _).mono ?_
            rintro e w3 ⟨rfl, hb3⟩
            have HB3 := Lib.hid (HB.out.trans (hb3.mono (by have := HB.out.size; omega)))
            clear hb3 HOD
            go_wp2_with fail
            refine (HR.out _).mono ?_
            rintro e w4 ⟨rfl, hb4⟩
            have HB4 := Lib.hid (HB3.out.trans (hb4.mono (by have := HB3.out.size; omega)))
            clear hb4 HR
            obtain ⟨u, hu⟩ := HPOS.out
            have e1 : (bs SS).extract 0 ((bs SS).size - 1) = bs u := ext_data (by rw [Lib.extract_upto, size_bs, bs_data, bs_data, hu]; simp)
            have e2 : 1 ≤ (bs SS).size := by rw [size_bs, hu]; simp
            have hru : (bs u).size ≤ maxLen := by rw [size_bs]; rw [size_bs, hu] at hsz; simp at hsz; unfold maxLen; omega
            have HRU := Lib.hid (fun W => refRight_any (bs u) W hru)
            have HLT := Lib.hid (fun W => refLeft_any (bs TT) W (by rw [size_bs]; have := HTz.out; unfold maxLen; omega))
            have er : rightB (bs u) = bs (right u) := rfl
            have el : leftB (bs TT) = bs (left TT) := rfl
            rw [er] at HRU
            rw [el] at HLT
            have hrz := right_length u
            have hlz := left_length TT
            have huz : u.length ≤ 200000000 := by rw [size_bs, hu] at hsz; simp at hsz; omega
            have a1 : ∀ W, (Op.stringOp .add (bs (right u)) ⟨#[32]⟩).run Tryd.prog W = .ok (.string (bs (right u ++ [32]))) W := fun W => add_is _ _ _ W (bs_app (right u) [32]) (by have : (⟨#[32]⟩ : ByteArray).size = 1 := rfl; rw [size_bs]; omega)
            have a2 : ∀ W, (Op.stringOp .add (bs (right u ++ [32])) (bs (left TT))).run Tryd.prog W = .ok (.string (bs (Ln.step false SS TT))) W := fun W => add_is _ _ _ W (by rw [bs_app, hu]; simp [Ln.step]) (by
              have h3 := HTz.out
              rw [size_bs, size_bs, List.length_append]
              simp
              omega)
            rw [← HSTEP.out] at a2
            clear hu hru er el hrz hlz huz
            obtain ⟨Z, hZ⟩ : ∃ Z, bs (textR false ((P ++ [x] ++ [(TT, RR)]).map (·.1))) = Z := ⟨_, rfl⟩
            rw [hZ] at a2
            have HZ := Lib.hid hZ
            clear hZ
            generalize bs (right u ++ [32]) = Q at *
            generalize bs (right u) = R1 at *
            generalize bs (left TT) = L1 at *
            generalize bs u = U1 at *
            generalize bs TT = V at *
            generalize bs SS = A at *
            go_wp2_with fail
            refine (HRU.out _).mono ?_
            rintro e w' ⟨rfl, rfl⟩
            go_wp2_with fail
            refine (HLT.out _).mono ?_
            rintro e w' ⟨rfl, rfl⟩
            go_wp2
            go_roundw
            case rel => exact ⟨P ++ [x], (TT, RR), mx, by rw [HZ.out], rfl, by rw [HPL.out, show n + ((P.length : Int) + 1) + 1 = n + (P.length : Int) + 1 + 1 by omega], hmx1, HMX.out.symm, HST.out, HB4.out⟩
            case measure => simp [intOf]; omega
        · have ho' : odd x.1 = false := by simpa using ho
          have hp := HEND.out (.inl ho')
          rw [ho'] at HOD
          go_wp2_with fail
          refine (HOD.out _).mono ?_
          rintro e w3 ⟨rfl, hb3⟩
          have HB3 := Lib.hid (HB.out.trans (hb3.mono (by have := HB.out.size; omega)))
          clear hb3 HOD
          have hres : w3.heap[w.heap.size]? = some (.cells #[.string ⟨#[]⟩, .int .i64 0, .bool false] 26 (0, 0)) := by
            rw [HB3.out.block w.heap.size (by omega), HW1.out]
            exact World.alloc_heap_new w _
          have r0 : w3.cell? ⟨w.heap.size, 0, none⟩ = some (.string ⟨#[]⟩) := by rw [Lib.cell_of_heap hres]; rfl
          have r1 : w3.cell? ⟨w.heap.size, 1, none⟩ = some (.int .i64 0) := by rw [Lib.cell_of_heap hres]; rfl
          have r2 : w3.cell? ⟨w.heap.size, 2, none⟩ = some (.bool false) := by rw [Lib.cell_of_heap hres]; rfl
          have g0 : w3.frozen? ⟨w.heap.size, 0, none⟩ = false := Lib.frozen_of_heap hres 0
          have g1 : w3.frozen? ⟨w.heap.size, 1, none⟩ = false := Lib.frozen_of_heap hres 1
          have g2 : w3.frozen? ⟨w.heap.size, 2, none⟩ = false := Lib.frozen_of_heap hres 2
          have HRes := Lib.hid hres
          have HNB := Lib.hid (show Below w.heap.size w w3 from (by rw [HW1.out]; exact (Below.refl _ _).alloc (Nat.le_refl _) _ : Below w.heap.size w w1).trans (HB3.out.mono (Nat.le_succ _)))
          have HP := Lib.hid hp
          clear hres hp
          have HBR := Lib.hid (fun W => bare_is (bs SS) W (by rw [size_bs]; have := HF.out.1; omega))
          have hbd : (bs SS).data.toList = SS := rfl
          rw [hbd] at HBR
          have HTX : Hid (bs (bare SS) = bs (textL l)) := by show _ = _; rw [← HSS.out]; exact text_bare HP.out HT0.out HRT.out
          generalize bs (bare SS) = Y at *
          generalize bs SS = A at *
          clear hbd r0 r1 r2 g0 g1 g2
          go_wp2_with fail
          refine (HBR.out _).mono ?_
          rintro e w5 ⟨rfl, hb5⟩
          have hres5 : w5.heap[w.heap.size]? = some (.cells #[.string ⟨#[]⟩, .int .i64 0, .bool false] 26 (0, 0)) := by
            rw [hb5.block w.heap.size (by have := HB3.out.size; omega)]; exact HRes.out
          have r0 : w5.cell? ⟨w.heap.size, 0, none⟩ = some (.string ⟨#[]⟩) := by rw [Lib.cell_of_heap hres5]; rfl
          have r1 : w5.cell? ⟨w.heap.size, 1, none⟩ = some (.int .i64 0) := by rw [Lib.cell_of_heap hres5]; rfl
          have r2 : w5.cell? ⟨w.heap.size, 2, none⟩ = some (.bool false) := by rw [Lib.cell_of_heap hres5]; rfl
          have g0 : w5.frozen? ⟨w.heap.size, 0, none⟩ = false := Lib.frozen_of_heap hres5 0
          have g1 : w5.frozen? ⟨w.heap.size, 1, none⟩ = false := Lib.frozen_of_heap hres5 1
          have g2 : w5.frozen? ⟨w.heap.size, 2, none⟩ = false := Lib.frozen_of_heap hres5 2
          have HR5 := Lib.hid hres5
          have HN5 := Lib.hid (HNB.out.trans (hb5.mono (by have := HB3.out.size; omega)))
          clear hres5 hb5 HBR
          go_wp2
          obtain ⟨v0, v1, v2⟩ := res3 HR5.out (.string Y) (.int .i64 n) (.bool false)
          exact bodyPost_ret (v := .tuple #[.agg #[.string Y, .int .i64 n, .bool false], .int .i64 (nx : Int), .int .i64 (n + (P.length : Int) + 1), .bool true]) (by simp [results, Tryd.results12, go_sem, v0, v1, v2]) rfl
            ⟨fin_eq HTX.out HP.out HNX.out HRT.out, end3 (Nat.le_refl _) HN5.out _ _ _⟩

end Go.Proofs.YtcopddepnphfmaaDoor.Lrefn
