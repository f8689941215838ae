/- LinesRecipes walked: recipes' lines that go on. -/
import Derived.Deep.RegionHeld3
import Derived.Deep.DeepCutAuto
import Derived.Test.YtcopddepnphfmaaDoorNums
import Derived.Test.YtcopddepnphfmaaDoorBopen
import Derived.Test.YtcopddepnphfmaaDoorLwords
namespace Go.Proofs.YtcopddepnphfmaaDoor.LinesRecipes
open Go.RowKit Go.Proofs.YtcopddepnphfmaaDoor.Pure Go.Proofs.YtcopddepnphfmaaDoor.Ends Go.Proofs.YtcopddepnphfmaaDoor.Ln Go.Proofs.YtcopddepnphfmaaDoor.Lall Go.Proofs.YtcopddepnphfmaaDoor.Lmem Go.Proofs.YtcopddepnphfmaaDoor.Lrows Go.Proofs.YtcopddepnphfmaaDoor.Lwords Go.Proofs.YtcopddepnphfmaaDoor.Nums Go.Proofs.YtcopddepnphfmaaDoor.Bopen

theorem moreR_snoc (ps : List (Bool × List UInt8)) (p : Bool × List UInt8) : moreR (ps ++ [p]) = moreR ps ++ ([92, 10] ++ lineR p) := by simp [moreR]
theorem wantR_snoc (ps : List (Bool × List UInt8)) (p : Bool × List UInt8) : wantR (ps ++ [p]) = wantR ps ++ ([92, 10] ++ 32 :: p.2) := by simp [wantR]
theorem moreR_len (ps : List (Bool × List UInt8)) (h : ∀ p ∈ ps, Gw p.2) : (moreR ps).length ≤ ps.length * 24 ∧ (wantR ps).length ≤ ps.length * 24 := by
  induction ps with
  | nil => simp [moreR, wantR]
  | cons p r ih =>
    obtain ⟨h1, h2⟩ := ih (fun q hq => h q (by simp [hq]))
    have h3 := (h p (by simp)).len
    have e1 : (moreR (p :: r)).length = 2 + (lineR p).length + (moreR r).length := by simp [moreR]; omega
    have e2 : (wantR (p :: r)).length = 3 + p.2.length + (wantR r).length := by simp [wantR]; omega
    have h4 : (lineR p).length ≤ p.2.length + 2 := by unfold lineR; split <;> simp <;> omega
    rw [e1, e2, List.length_cons, Nat.succ_mul]
    omega
theorem trim_next : trimB (bs [110, 101, 120, 116, 32]) = bs [110, 101, 120, 116] := by decide

set_option maxRecDepth 100000 in
set_option maxHeartbeats 4000000 in
theorem walk (A0 : Option Addr) (n0 c0 : Nat) (zs0 : List Int) (A1 : Option Addr) (n1 c1 : Nat) (B1 : Nat → Bool) (w : World) (hl0 : IntIs w A0 n0 c0 zs0) (_hm0 : n0 ≤ maxLen) (hl1 : BoolIs w A1 n1 c1 B1) (_hm1 : n1 ≤ maxLen) :
    Calls Tryd.prog 7 #[.slice A0 n0 c0, .slice A1 n1 c1] w fun e W' => e = .returned (.bool true) ∧ Below w.heap.size w W' := by
  have hm0 : n0 ≤ 9223372036854775807 := by unfold maxLen at _hm0; omega
  have hm1 : n1 ≤ 9223372036854775807 := by unfold maxLen at _hm1; omega
  have HL0 := Lib.hid hl0
  have HL1 := Lib.hid hl1
  clear hl0 hl1 _hm0 _hm1
  go_enter Tryd.func7, Tryd.ntmps7
  go_wp2_with fail
  go_loopw [5, 6, 7] (fun vs vw i wr => ∃ ps : List (Bool × List UInt8), vs = .string (bs ((9 :: firstR) ++ moreR ps)) ∧ vw = .string (bs (firstR ++ wantR ps)) ∧ i = .int .i64 (ps.length : Int) ∧ ps.length ≤ n0 ∧ ps.length ≤ 15 ∧ w = wr ∧ Hid (∀ p ∈ ps, Gw p.2))
    (fun _ _ i _ => 15 - (intOf i).toNat)
  case atStart => exact ⟨[], rfl, rfl, rfl, Nat.zero_le _, by simp, rfl, fun p hp => absurd hp (by simp)⟩
  case round =>
    obtain ⟨ps, rfl, rfl, rfl, hq0, hq15, rfl, HG⟩ := hrel
    obtain ⟨hlen1, hlen2⟩ := moreR_len ps HG.out
    have hf : firstR.length = 9 := rfl
    by_cases hlt : ps.length < n0 ∧ ps.length < 15
    · obtain ⟨hlt0, hlt15⟩ := hlt
      obtain ⟨b, o, z, rfl, hz, hc⟩ := HL0.out.at_ hlt0
      have k0 := hc w (Below.refl _ _)
      obtain ⟨l, hgw, hW⟩ := word_gw z hz
      have HW := Lib.hid hW
      have hll := hgw.len
      have HGW := Lib.hid hgw
      obtain ⟨q, hq⟩ : ∃ q, ps.length = q := ⟨_, rfl⟩
      have HQ := Lib.hid hq
      have HB : ∃ bq : Bool, bq = (if q < n1 then B1 q else false) := ⟨_, rfl⟩
      obtain ⟨bq, hbq⟩ := HB
      have HBQ := Lib.hid hbq
      have a1 : ∀ W, (Op.stringOp .add (bs ((9 :: firstR) ++ moreR ps)) ⟨#[92, 10]⟩).run Tryd.prog W = .ok (.string (bs ((9 :: firstR) ++ moreR ps ++ [92, 10]))) W := fun W => add_l ((9 :: firstR) ++ moreR ps) [92, 10] W (by simp [hf]; omega)
      have a2 : ∀ W, (Op.stringOp .add (bs (firstR ++ wantR ps)) ⟨#[92, 10]⟩).run Tryd.prog W = .ok (.string (bs (firstR ++ wantR ps ++ [92, 10]))) W := fun W => add_l (firstR ++ wantR ps) [92, 10] W (by simp [hf]; omega)
      have a3 : ∀ W, (Op.stringOp .add (bs (firstR ++ wantR ps ++ [92, 10])) ⟨#[32]⟩).run Tryd.prog W = .ok (.string (bs (firstR ++ wantR ps ++ [92, 10] ++ [32]))) W := fun W => add_l (firstR ++ wantR ps ++ [92, 10]) [32] W (by simp [hf]; omega)
      have a4 : ∀ W, (Op.stringOp .add (bs (firstR ++ wantR ps ++ [92, 10] ++ [32])) (bs l)).run Tryd.prog W = .ok (.string (bs (firstR ++ wantR (ps ++ [(bq, l)])))) W := fun W => by
        have := add_l (firstR ++ wantR ps ++ [92, 10] ++ [32]) l W (by simp [hf]; omega)
        rw [wantR_snoc]
        rw [show firstR ++ (wantR ps ++ ([92, 10] ++ 32 :: l)) = firstR ++ wantR ps ++ [92, 10] ++ [32] ++ l by simp]
        exact this
      have a5 : ∀ W, (Op.stringOp .add (bs ((9 :: firstR) ++ moreR ps ++ [92, 10])) ⟨#[9]⟩).run Tryd.prog W = .ok (.string (bs ((9 :: firstR) ++ moreR ps ++ [92, 10] ++ [9]))) W := fun W => add_l ((9 :: firstR) ++ moreR ps ++ [92, 10]) [9] W (by simp [hf]; omega)
      have a6 : ∀ W, (Op.stringOp .add (bs ((9 :: firstR) ++ moreR ps ++ [92, 10] ++ (if bq then [9] else []))) ⟨#[32]⟩).run Tryd.prog W = .ok (.string (bs ((9 :: firstR) ++ moreR ps ++ [92, 10] ++ (if bq then [9] else []) ++ [32]))) W := fun W => add_l ((9 :: firstR) ++ moreR ps ++ [92, 10] ++ (if bq then [9] else [])) [32] W (by cases bq <;> simp [hf] <;> omega)
      have a7 : ∀ W, (Op.stringOp .add (bs ((9 :: firstR) ++ moreR ps ++ [92, 10] ++ (if bq then [9] else []) ++ [32])) (bs l)).run Tryd.prog W = .ok (.string (bs ((9 :: firstR) ++ moreR (ps ++ [(bq, l)])))) W := fun W => by
        have := add_l ((9 :: firstR) ++ moreR ps ++ [92, 10] ++ (if bq then [9] else []) ++ [32]) l W (by cases bq <;> simp [hf] <;> omega)
        rw [moreR_snoc]
        rw [show (9 :: firstR) ++ (moreR ps ++ ([92, 10] ++ lineR (bq, l))) = (9 :: firstR) ++ moreR ps ++ [92, 10] ++ (if bq then [9] else []) ++ [32] ++ l by simp [lineR]]
        exact this
      have HEnd : Hid (∀ p ∈ ps ++ [(bq, l)], Gw p.2) := fun p hp => (List.mem_append.1 hp).elim (HG.out p) (fun h => by rw [List.mem_singleton.1 h]; exact HGW.out)
      obtain ⟨Z1, hZ1⟩ : ∃ Z, bs ((9 :: firstR) ++ moreR (ps ++ [(bq, l)])) = Z := ⟨_, rfl⟩
      obtain ⟨Z2, hZ2⟩ : ∃ Z, bs (firstR ++ wantR (ps ++ [(bq, l)])) = Z := ⟨_, rfl⟩
      rw [hZ1] at a7
      rw [hZ2] at a4
      have HZ1 := Lib.hid hZ1
      have HZ2 := Lib.hid hZ2
      have HQL : Hid ((ps ++ [(bq, l)]).length = q + 1) := by show _ = _; rw [List.length_append, hq]; rfl
      clear hZ1 hZ2 hbq hlen1 hlen2 hW hf
      rw [hq] at hlt0 hlt15 hq0 hq15 k0 ⊢
      generalize bs ((9 :: firstR) ++ moreR ps ++ [92, 10] ++ (if bq then [9] else []) ++ [32]) = X4 at *
      generalize bs (firstR ++ wantR ps ++ [92, 10] ++ [32]) = Y2 at *
      generalize bs (firstR ++ wantR ps ++ [92, 10]) = Y1 at *
      generalize bs (firstR ++ wantR ps) = Y0 at *
      generalize bs l = L at *
      clear hq
      cases bq with
      | true =>
        rw [if_pos rfl] at a6
        generalize bs ((9 :: firstR) ++ moreR ps ++ [92, 10] ++ [9]) = X2 at *
        generalize bs ((9 :: firstR) ++ moreR ps ++ [92, 10]) = X1 at *
        generalize bs ((9 :: firstR) ++ moreR ps) = X0 at *
        have hq1 : q < n1 := by
          have h := HBQ.out
          by_cases h1 : q < n1
          · exact h1
          · rw [if_neg h1] at h; exact absurd h (by decide)
        obtain ⟨b2, o2, rfl, hc2⟩ := HL1.out.at_ hq1
        have k1 := hc2 w (Below.refl _ _)
        have e := HBQ.out
        rw [if_pos hq1] at e
        rw [← e] at k1
        clear hc hc2 e
        go_wp2_with fail
        refine (HW.out _).mono ?_
        rintro e w' ⟨rfl, rfl⟩
        go_wp2
        go_roundw
        case rel => exact ⟨_, by rw [HZ1.out], by rw [HZ2.out], by rw [HQL.out]; go_num, by rw [HQL.out]; omega, by rw [HQL.out]; omega, trivial, HEnd.out⟩
        case measure => simp [intOf]; omega
      | false =>
        rw [if_neg (by decide), List.append_nil] at a6
        generalize bs ((9 :: firstR) ++ moreR ps ++ [92, 10]) = X1 at *
        generalize bs ((9 :: firstR) ++ moreR ps) = X0 at *
        clear a5
        by_cases hq1 : q < n1
        · obtain ⟨b2, o2, rfl, hc2⟩ := HL1.out.at_ hq1
          have k1 := hc2 w (Below.refl _ _)
          have e := HBQ.out
          rw [if_pos hq1] at e
          rw [← e] at k1
          clear hc hc2 e
          go_wp2_with fail
          refine (HW.out _).mono ?_
          rintro e w' ⟨rfl, rfl⟩
          go_wp2
          go_roundw
          case rel => exact ⟨_, by rw [HZ1.out], by rw [HZ2.out], by rw [HQL.out]; go_num, by rw [HQL.out]; omega, by rw [HQL.out]; omega, trivial, HEnd.out⟩
          case measure => simp [intOf]; omega
        · clear hc
          go_wp2_with fail
          refine (HW.out _).mono ?_
          rintro e w' ⟨rfl, rfl⟩
          go_wp2
          go_roundw
          case rel => exact ⟨_, by rw [HZ1.out], by rw [HZ2.out], by rw [HQL.out]; go_num, by rw [HQL.out]; omega, by rw [HQL.out]; omega, trivial, HEnd.out⟩
          case measure => simp [intOf]; omega
    · have hmin : min (n0 : Int) 15 = (ps.length : Int) := by omega
      have hz1 : (bs ((9 :: firstR) ++ moreR ps ++ 10 :: nextR)).size ≤ 1000000 := by rw [size_bs]; simp [hf, nextR]; omega
      have a1 : ∀ W, (Op.stringOp .add (bs ((9 :: firstR) ++ moreR ps)) ⟨#[10, 110, 101, 120, 116, 32, 35, 32, 121, 10]⟩).run Tryd.prog W = .ok (.string (bs ((9 :: firstR) ++ moreR ps ++ 10 :: nextR))) W := fun W => add_l ((9 :: firstR) ++ moreR ps) (10 :: nextR) W (by simp [hf, nextR]; omega)
      have HA := Lib.hid (fun W => all_sl (bs ((9 :: firstR) ++ moreR ps ++ 10 :: nextR)) W hz1)
      have hd : (bs ((9 :: firstR) ++ moreR ps ++ 10 :: nextR)).data.toList = (9 :: firstR) ++ moreR ps ++ 10 :: nextR := rfl
      rw [hd, recipes_all ps (fun p hp => (HG.out p hp).ok)] at HA
      clear hd hz1 hlen1 hlen2 hf
      have HT := Lib.hid (fun W => refTrim_any (bs [110, 101, 120, 116, 32]) W (by decide))
      rw [trim_next] at HT
      generalize bs ((9 :: firstR) ++ moreR ps ++ 10 :: nextR) = X1 at *
      generalize bs ((9 :: firstR) ++ moreR ps) = X0 at *
      obtain ⟨q, hq⟩ : ∃ q, ps.length = q := ⟨_, rfl⟩
      rw [hq] at hmin hq0 hq15 HA hlt ⊢
      clear hq
      have HAw := Lib.hid (fun W => awake_is W)
      obtain ⟨Y0, hY0⟩ : ∃ Y, bs (firstR ++ wantR ps) = Y := ⟨_, rfl⟩
      have HY0 := Lib.hid hY0
      rw [hY0]
      clear hY0
      by_cases hn : q < n0
      · have hn15 : ¬ q < 15 := fun h => hlt ⟨hn, h⟩
        have e15 : q = 15 := by omega
        subst e15
        go_wp2_with fail
        refine (HA.out _).mono ?_
        rintro e w1 ⟨A, c, rfl, hl, hb1⟩
        have B1 := Lib.hid hb1
        obtain ⟨b, rfl, hbl, hc⟩ := hl.at_ (k := 0) rfl
        obtain ⟨b', hA', _, hc'⟩ := hl.at_ (k := 1) rfl
        cases hA'
        obtain ⟨k0, k1, k2⟩ := hc w1 (Below.refl _ _)
        obtain ⟨k3, k4, k5⟩ := hc' w1 (Below.refl _ _)
        rw [Nat.zero_mul] at k0 k1 k2
        rw [Nat.one_mul] at k3 k4 k5
        rw [Nat.zero_add] at k1 k2
        have e0 : bs (firstR ++ wantR ps, 1, true).1 = Y0 := HY0.out
        rw [e0] at k0
        have e1 : bs ([110, 101, 120, 116, 32], 15 + 2, false).1 = (⟨#[110, 101, 120, 116, 32]⟩ : ByteArray) := rfl
        rw [e1] at k3
        have e2 : (((([110, 101, 120, 116, 32], 15 + 2, false) : LL).2.1 : Nat) : Int) = 2 + (15 : Int) := by show ((15 + 2 : Nat) : Int) = _; omega
        rw [e2] at k4
        clear hl hb1 hc hc' e0 e1 e2 HA
        go_wp2_with fail
        refine (HT.out _).mono ?_
        rintro e w' ⟨rfl, rfl⟩
        have e3 : bs [110, 101, 120, 116] = (⟨#[110, 101, 120, 116]⟩ : ByteArray) := rfl
        rw [e3]
        clear e3 HT k0 k1 k2 k3 k4 k5
        go_wp2_with fail
        refine (HAw.out _).mono ?_
        rintro e w2 ⟨rfl, hb2⟩
        have B2 := Lib.hid (B1.out.trans (hb2.mono B1.out.size))
        clear hb2 HAw
        go_wp2
        go_ret
        exact ⟨rfl, B2.out⟩
      · have en : q = n0 := by omega
        subst en
        go_wp2_with fail
        refine (HA.out _).mono ?_
        rintro e w1 ⟨A, c, rfl, hl, hb1⟩
        have B1 := Lib.hid hb1
        obtain ⟨b, rfl, hbl, hc⟩ := hl.at_ (k := 0) rfl
        obtain ⟨b', hA', _, hc'⟩ := hl.at_ (k := 1) rfl
        cases hA'
        obtain ⟨k0, k1, k2⟩ := hc w1 (Below.refl _ _)
        obtain ⟨k3, k4, k5⟩ := hc' w1 (Below.refl _ _)
        rw [Nat.zero_mul] at k0 k1 k2
        rw [Nat.one_mul] at k3 k4 k5
        rw [Nat.zero_add] at k1 k2
        have e0 : bs (firstR ++ wantR ps, 1, true).1 = Y0 := HY0.out
        rw [e0] at k0
        have e1 : bs ([110, 101, 120, 116, 32], q + 2, false).1 = (⟨#[110, 101, 120, 116, 32]⟩ : ByteArray) := rfl
        rw [e1] at k3
        have e2 : (((([110, 101, 120, 116, 32], q + 2, false) : LL).2.1 : Nat) : Int) = 2 + (q : Int) := by show ((q + 2 : Nat) : Int) = _; omega
        rw [e2] at k4
        clear hl hb1 hc hc' e0 e1 e2 HA
        go_wp2_with fail
        refine (HT.out _).mono ?_
        rintro e w' ⟨rfl, rfl⟩
        have e3 : bs [110, 101, 120, 116] = (⟨#[110, 101, 120, 116]⟩ : ByteArray) := rfl
        rw [e3]
        clear e3 HT k0 k1 k2 k3 k4 k5
        go_wp2_with fail
        refine (HAw.out _).mono ?_
        rintro e w2 ⟨rfl, hb2⟩
        have B2 := Lib.hid (B1.out.trans (hb2.mono B1.out.size))
        clear hb2 HAw
        go_wp2
        go_ret
        exact ⟨rfl, B2.out⟩

end Go.Proofs.YtcopddepnphfmaaDoor.LinesRecipes
