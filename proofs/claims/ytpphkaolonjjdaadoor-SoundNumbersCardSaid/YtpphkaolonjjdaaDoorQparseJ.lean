/- The document's parse: a text, so many references deep (by what reference says). -/
import Derived.Test.YtpphkaolonjjdaaDoorQrefJ
import Derived.Test.YtpphkaolonjjdaaDoorNodJ
import Derived.Test.YtpphkaolonjjdaaDoorQscanJ
namespace Go.Proofs.YtpphkaolonjjdaaDoor.Qparse
open Go.RowKit Go.Proofs.YtpphkaolonjjdaaDoor.Spl Go.Proofs.YtpphkaolonjjdaaDoor.Nodm Go.Proofs.YtpphkaolonjjdaaDoor.Qput Go.Proofs.YtpphkaolonjjdaaDoor.Qwhole Go.Proofs.YtpphkaolonjjdaaDoor.Qlist Go.Proofs.YtpphkaolonjjdaaDoor.Qtext Go.Proofs.YtpphkaolonjjdaaDoor.Qscan
open Go.Proofs.YtpphkaolonjjdaaDoor.Pure (bs)

theorem one_byte (s : T) (k : Nat) (hk : k < s.length) : (bs s).extract k (k + 1) = bs [s[k]] := Pure.ext_data (by
  have h := Lib.extract_toList (bs s) k (k + 1)
  rw [Lib.toList_data] at h
  rw [h]
  show (s.drop k).take (k + 1 - k) = [s[k]]
  rw [List.drop_eq_getElem_cons hk, Nat.add_sub_cancel_left]
  rfl)
theorem u8_is (x : UInt8) (c : UInt8) : ((((x.toNat : Nat) : Int)) == ((c.toNat : Nat) : Int)) = decide (x = c) := by
  rw [Bool.eq_iff_iff, beq_iff_eq, decide_eq_true_iff, ← UInt8.toNat_inj]; omega

theorem one_leaf (S : Nat → Prop) (W : World) (y : T) (t : TypeId) (hS : S W.heap.size) : NodesIn S (W.alloc (.cells #[.int .i64 1, .string (bs y), .slice none 0 0] t)) (some ⟨W.heap.size, 0, none⟩) 1 [.mk 1 y []] := by
  have hc := heap_alloc_new W (.cells #[.int .i64 1, .string (bs y), .slice none 0 0] t)
  refine ⟨Nat.le_refl _, fun _ => .agg #[.int .i64 1, .string (bs y), .slice none 0 0], .inr ⟨W.heap.size, 0, rfl, by rw [World.size_alloc]; omega, hS, .inr ⟨_, _, hc⟩, fun j hj => ?_⟩, fun j n hj => ?_⟩
  · rw [List.length_singleton] at hj
    obtain rfl : j = 0 := by omega
    exact ⟨_, _, _, rfl, (cells_three hc).1, (cells_three hc).2.1, (cells_three hc).2.2⟩
  · cases j with
    | zero => cases hj; exact NodeIn.leaf S _ 1 y none 0
    | succ j => cases hj

theorem ends_lt (o c : UInt8) : ∀ (s : T) (d e : Nat), endsP o c d s = some e → e < s.length
  | [], d, e, h => by cases h
  | b :: r, d, e, h => by
    have hi : ∀ d, (endsP o c d r).map (· + 1) = some e → e < (b :: r).length := by
      intro d h
      cases h1 : endsP o c d r with
      | none => rw [h1] at h; cases h
      | some x =>
        rw [h1] at h
        have := ends_lt o c r d x h1
        have e2 : x + 1 = e := Option.some.inj h
        rw [List.length_cons]; omega
    rw [endsP] at h
    split at h
    · exact hi _ h
    · split at h
      · split at h
        · cases h; rw [List.length_cons]; omega
        · exact hi _ h
      · exact hi _ h
theorem part_is (s : T) (k e : Nat) : (bs s).extract k (k + e) = bs ((s.drop k).take e) := Pure.ext_data (by
  have h := Lib.extract_toList (bs s) k (k + e)
  rw [Lib.toList_data] at h
  rw [h, Nat.add_sub_cancel_left]
  rfl)
theorem refForm {S : Nat → Prop} {W : World} {v : Value} : ∀ {x : Rd Nod}, Qref.RefOf S W v x → ∃ (k : Nat) (s : T) (A : Option Addr) (n c : Nat), v = .agg #[.int .i64 (k : Int), .string (bs s), .slice A n c]
  | .ok (.mk k s l), h => by
    obtain ⟨A, c, hv, _⟩ := NodeIn.inv h
    exact ⟨k, s, A, _, c, hv⟩
  | .bad _, h => h
theorem errNo_any {α β : Type} (e : Er) : errNo (.bad e : Rd α) = errNo (.bad e : Rd β) := by cases e <;> rfl

set_option maxRecDepth 100000 in
set_option maxHeartbeats 2000000 in
theorem parse_step (N : Nat) (p : UInt8 → T → Rd Nod) (s : T) (w : World) (hs : s.length ≤ 999999) (hN : N ≤ 40) (H40 : N = 40 → ∀ o t, p o t = .bad .deep) (hkind : ∀ o t k s m, p o t = .ok (.mk k s m) → k ≠ 1 ∧ k ≠ 5)
    (HRf : N < 40 → ∀ (t : T) (o : UInt8) (w : World), t.length ≤ 999999 → Calls Tryd.prog 31 #[.string (bs t), .int .i64 ((N : Int) + 1), .int .u8 ((o.toNat : Nat) : Int), .int .u8 (((shutOf o).toNat : Nat) : Int)] w fun e W' => ∃ v, e = .returned (.tuple #[v, .int .i64 (errNo (p o t) : Int)]) ∧ Qref.RefOf (fun b => w.heap.size ≤ b) W' v (p o t) ∧ Below w.heap.size w W') :
    Calls Tryd.prog 22 #[.string (bs s), .int .i64 (N : Int)] w fun e W' => ∃ v, e = .returned (.tuple #[v, .int .i64 (errNo (scanP p (s.length + 1) [] [] s) : Int)]) ∧ NodeOf (fun b => w.heap.size ≤ b) W' v ((scanP p (s.length + 1) [] [] s).map wholeP) ∧ Below w.heap.size w W' := by
  have hsz : (bs s).size = s.length := Pure.size_bs s
  obtain ⟨R, hR⟩ : ∃ R, R = scanP p (s.length + 1) [] [] s := ⟨_, rfl⟩
  have HA0 := Lib.hid (at_start p s)
  rw [← hR] at HA0 ⊢
  clear hR
  go_enter Tryd.func22, Tryd.ntmps22
  go_wp2_with fail
  go_loopw [6, 7] (fun u i wr => ∃ (k : Nat) (acc : List Nod) (cur : T), k ≤ s.length ∧ acc.length ≤ k ∧ cur.length ≤ k ∧ i = .int .i64 k ∧ Hid (Row (fun b => w.heap.size + 1 ≤ b) (w.heap.size + 1) wr u (flushP acc cur)) ∧ Hid (Below (w.heap.size + 1) (w.alloc (.cells #[.int .i64 0, .string .empty, .slice none 0 0] 31)) wr) ∧ Hid (At p s R k acc cur) ∧ Hid (Flat acc) ∧ Hid (NoText acc)) (fun _ i _ => s.length - (intOf i).toNat)
  case atStart => exact ⟨0, [], [], Nat.zero_le _, Nat.le_refl _, Nat.le_refl _, rfl, Row.nil _ _ _, Below.refl _ _, HA0.out, flat_nil, fun t r e => by cases e⟩
  case round =>
    obtain ⟨k, acc, cur, hk, hka, hkc, rfl, HR, HB, HA, HF, HT⟩ := hrel
    have hwr : w.heap.size + 1 ≤ wr.heap.size := by have := HB.out.size; rw [World.size_alloc] at this; omega
    by_cases hlt : k < s.length
    · have hb : ((((bs s)[k]'(by rw [hsz]; exact hlt)).toNat : Nat) : Int) = (((s[k]).toNat : Nat) : Int) := rfl
      have e1 := u8_is s[k] 36
      rw [show (((36 : UInt8).toNat : Nat) : Int) = 36 from rfl] at e1
      by_cases h1 : s[k] ≠ 36 ∨ k + 1 = s.length
      · have HN := Lib.hid (at_byte HA.out hlt h1)
        have hx := one_byte s k hlt
        have HP := Lib.hid (fun A c => put_text (fun b => w.heap.size + 1 ≤ b) (w.heap.size + 1) u6 acc cur [s[k]] A c wr hwr HR.out (by omega) (by simp) HT.out (by rw [List.length_singleton]; omega))
        have HL : Hid ((cur ++ [s[k]]).length ≤ k + 1) := by show _ ≤ _; rw [List.length_append, List.length_singleton]; omega
        have h2 : (decide (s[k] = 36) = false) ∨ (decide (s[k] = 36) = true ∧ (((k : Nat) : Int) + 1 == ((s.length : Nat) : Int)) = true) := by
          by_cases h36 : s[k] = 36
          · rcases h1 with h | h
            · exact absurd h36 h
            · exact .inr ⟨decide_eq_true h36, by rw [beq_iff_eq]; omega⟩
          · exact .inl (decide_eq_false h36)
        clear h1 HA
        generalize s[k] = x at *
        rcases h2 with h2 | ⟨h2, h3⟩
        · rw [h2] at e1
          clear h2
          have e3 : ¬ ((x.toNat : Nat) : Int) = 36 := by simpa using e1
          go_wp2_with (go_at_call 29; refine (HP.out _ _).mono ?_; rintro e W' ⟨u', rfl, hr, hb2⟩; have HR2 := Lib.hid hr; have HB2 := Lib.hid (HB.out.trans hb2); clear hr hb2)
          go_roundw
          case rel => exact ⟨k + 1, acc, cur ++ [x], by omega, by omega, HL.out, by go_num, HR2.out, HB2.out, HN.out, HF.out, HT.out⟩
          case measure => simp [intOf]; omega
        · rw [h2] at e1
          clear h2
          have e3 : ((x.toNat : Nat) : Int) = 36 := by simpa using e1
          go_wp2_with (go_at_call 29; refine (HP.out _ _).mono ?_; rintro e W' ⟨u', rfl, hr, hb2⟩; have HR2 := Lib.hid hr; have HB2 := Lib.hid (HB.out.trans hb2); clear hr hb2)
          go_roundw
          case rel => exact ⟨k + 1, acc, cur ++ [x], by omega, by omega, HL.out, by go_num, HR2.out, HB2.out, HN.out, HF.out, HT.out⟩
          case measure => simp [intOf]; omega
      · obtain ⟨h36, hk1⟩ : s[k] = 36 ∧ k + 1 < s.length := ⟨Classical.byContradiction fun h => h1 (.inl h), by have : k + 1 ≠ s.length := fun h => h1 (.inr h); omega⟩
        have hb1 : ((((bs s)[k + 1]'(by rw [hsz]; exact hk1)).toNat : Nat) : Int) = (((s[k + 1]).toNat : Nat) : Int) := rfl
        have e3 : ((s[k].toNat : Nat) : Int) = 36 := by rw [h36]; rfl
        have n1 : ¬ ((k : Nat) : Int) + 1 = ((s.length : Nat) : Int) := by omega
        have n2 : ((k : Nat) : Int) + 1 < ((s.length : Nat) : Int) := by omega
        by_cases hc : s[k + 1] = 36
        · have HN := Lib.hid (at_two HA.out hk1 h36 hc)
          have HP := Lib.hid (fun A c => put_text (fun b => w.heap.size + 1 ≤ b) (w.heap.size + 1) u6 acc cur [36] A c wr hwr HR.out (by omega) (by simp) HT.out (by rw [List.length_singleton]; omega))
          have HL : Hid ((cur ++ [36]).length ≤ k + 2) := by show _ ≤ _; rw [List.length_append, List.length_singleton]; omega
          have e4 : ((s[k + 1].toNat : Nat) : Int) = 36 := by rw [hc]; rfl
          clear HA h1 h36 hc e1
          generalize s[k] = x at *
          generalize s[k + 1] = y at *
          go_wp2_with (go_at_call 29; refine (HP.out _ _).mono ?_; rintro e W' ⟨u', rfl, hr, hb2⟩; have HR2 := Lib.hid hr; have HB2 := Lib.hid (HB.out.trans hb2); clear hr hb2)
          go_roundw
          case rel => exact ⟨k + 2, acc, cur ++ [36], by omega, by omega, HL.out, by go_num, HR2.out, HB2.out, HN.out, HF.out, HT.out⟩
          case measure => simp [intOf]; omega
        · have e4 : ¬ ((s[k + 1].toNat : Nat) : Int) = 36 := fun e => hc (by rw [← UInt8.toNat_inj]; show _ = 36; omega)
          by_cases hd : s[k + 1] = 40 ∨ s[k + 1] = 123
          · rcases id hd with hdd | hdd
            · have hy : s[k + 1] = 40 := hdd
              have e5 : ((s[k + 1].toNat : Nat) : Int) = 40 := by rw [hy]; rfl
              have q4 : ((((s[k + 1].toNat : Nat) : Int)) == 36) = false := by rw [beq_eq_false_iff_ne]; exact e4
              have HEn := Lib.hid (fun W => Qends.ends_is s (k + 2) 40 41 W (by decide) (by omega) (by omega))
              have hgw : wr.heap[w.heap.size]? = some (.cells #[.int .i64 0, .string .empty, .slice none 0 0] 31) := (HB.out.block _ (by omega)).trans (heap_alloc_new w _)
              have HBw := Lib.hid (((Below.refl _ w).alloc (Nat.le_refl _) (.cells #[.int .i64 0, .string .empty, .slice none 0 0] 31)).trans (HB.out.mono (by omega)))
              cases hen : endsP s[k + 1] (shutOf s[k + 1]) 1 (s.drop (k + 2)) with
              | none =>
                have HRR := Lib.hid (at_form HA.out hk1 h36 hc hd hen)
                have hei : Qends.endI 40 41 1 s (k + 2) = -1 := by
                  rw [hy] at hen
                  unfold Qends.endI
                  rw [show endsP 40 41 1 (s.drop (k + 2)) = none from hen]
                have hgg := hgw
                obtain ⟨g0, g1, g2⟩ := cells_three hgw
                have f0 := frozen_of_row wr w.heap.size 0 _ _ hgw
                have f1 := frozen_of_row wr w.heap.size 1 _ _ hgw
                have f2 := frozen_of_row wr w.heap.size 2 _ _ hgw
                clear HA h1 h36 hc e1 hd hy hen hdd hgw
                generalize s[k] = x at *
                generalize s[k + 1] = y at *
                go_wp2_with (go_at_call 30; refine (HEn.out _).mono ?_; rintro e W' ⟨rfl, rfl⟩; rw [hei])
                obtain ⟨W4, hW4⟩ : ∃ W4, ((wr.setCell ⟨w.heap.size, 0, none⟩ (.int .i64 0)).setCell ⟨w.heap.size, 1, none⟩ (.string ByteArray.empty)).setCell ⟨w.heap.size, 2, none⟩ (.slice none 0 0) = W4 := ⟨_, rfl⟩
                obtain ⟨z1, z2, z3, z4⟩ := three_far wr W4 _ _ _ _ _ _ _ _ hgg hW4
                obtain ⟨y0, y1, y2⟩ := cells_three z1
                first | rw [hW4] | rw [show (Value.string { data := #[] }) = Value.string ByteArray.empty from rfl, hW4]
                refine bodyPost_ret (v := .tuple #[.agg #[.int .i64 0, .string ByteArray.empty, .slice none 0 0], .int .i64 2]) (by simp [results, Tryd.results22, go_sem, y0, y1, y2]) rfl ?_
                rw [HRR.out]
                exact ⟨_, rfl, rfl, HBw.out.trans z4⟩
              | some en =>
                have hel := ends_lt _ _ _ _ _ hen
                rw [List.length_drop] at hel
                have hei : Qends.endI 40 41 1 s (k + 2) = ((k + 2 + en : Nat) : Int) := by
                  rw [hy] at hen
                  unfold Qends.endI
                  rw [show endsP 40 41 1 (s.drop (k + 2)) = some en from hen]
                by_cases hN40 : N = 40
                · have HRR := Lib.hid (at_bad HA.out hk1 h36 hc hd hen (H40 hN40 _ _))
                  have hgg := hgw
                  obtain ⟨g0, g1, g2⟩ := cells_three hgw
                  have f0 := frozen_of_row wr w.heap.size 0 _ _ hgw
                  have f1 := frozen_of_row wr w.heap.size 1 _ _ hgw
                  have f2 := frozen_of_row wr w.heap.size 2 _ _ hgw
                  subst hN40
                  clear HA h1 h36 hc e1 hd hy hen hdd hgw H40 HRf hkind
                  generalize s[k] = x at *
                  generalize s[k + 1] = y at *
                  go_wp2_with (go_at_call 30; refine (HEn.out _).mono ?_; rintro e W' ⟨rfl, rfl⟩; rw [hei])
                  obtain ⟨W4, hW4⟩ : ∃ W4, ((wr.setCell ⟨w.heap.size, 0, none⟩ (.int .i64 0)).setCell ⟨w.heap.size, 1, none⟩ (.string ByteArray.empty)).setCell ⟨w.heap.size, 2, none⟩ (.slice none 0 0) = W4 := ⟨_, rfl⟩
                  obtain ⟨z1, z2, z3, z4⟩ := three_far wr W4 _ _ _ _ _ _ _ _ hgg hW4
                  obtain ⟨y0, y1, y2⟩ := cells_three z1
                  first | rw [hW4] | rw [show (Value.string { data := #[] }) = Value.string ByteArray.empty from rfl, hW4]
                  refine bodyPost_ret (v := .tuple #[.agg #[.int .i64 0, .string ByteArray.empty, .slice none 0 0], .int .i64 8]) (by simp [results, Tryd.results22, go_sem, y0, y1, y2]) rfl ?_
                  rw [HRR.out]
                  exact ⟨_, rfl, rfl, HBw.out.trans z4⟩
                · have hNl : N < 40 := by omega
                  have hNi : ¬ (40 : Int) ≤ (N : Int) := by omega
                  have hNi2 : (N : Int) < 40 := by omega
                  have hpart := part_is s (k + 2) en
                  have htl : ((s.drop (k + 2)).take en).length ≤ 999999 := by rw [List.length_take, List.length_drop]; omega
                  have HC0 := Lib.hid (fun W => HRf hNl ((s.drop (k + 2)).take en) 40 W htl)
                  cases hpt : p s[k + 1] ((s.drop (k + 2)).take en) with
                  | bad er =>
                    have HRR := Lib.hid (at_bad HA.out hk1 h36 hc hd hen hpt)
                    rw [hy] at hpt
                    rw [hpt] at HC0
                    obtain ⟨ne, hne⟩ : ∃ ne, ne = errNo (.bad er : Rd Nod) := ⟨_, rfl⟩
                    have hn0 : (((ne : Nat) : Int) == 0) = false := by rw [hne]; cases er <;> rfl
                    have hne2 : errNo (.bad er : Rd (List Nod)) = ne := by rw [hne]; cases er <;> rfl
                    rw [← hne] at HC0
                    have HNe := Lib.hid hne2
                    clear HA h1 h36 hc e1 hd hy hen hdd H40 HRf hkind hpt htl hne hne2
                    generalize (s.drop (k + 2)).take en = t at *
                    generalize s[k] = x at *
                    generalize s[k + 1] = y at *
                    go_upto_region 22 with (first | (go_at_call 30; refine (HEn.out _).mono ?_; rintro e W' ⟨rfl, rfl⟩; rw [hei]) | (go_at_call 31; refine (HC0.out _).mono ?_; rintro e W1 ⟨v, rfl, hv, hb2⟩; obtain ⟨k1, s1, A1, n1, c1, rfl⟩ := refForm hv; have HB2 := Lib.hid hb2; clear hv hb2))
                    obtain ⟨W2, hW2⟩ : ∃ W2, W2 = W1.alloc (.cells #[.int .i64 (k1 : Int), .string (bs s1), .slice A1 n1 c1] 31) := ⟨_, rfl⟩
                    rw [← hW2]
                    have hbW : Below W1.heap.size W1 W2 := by rw [hW2]; exact (Below.refl _ _).alloc (Nat.le_refl _) _
                    have hbr : Below wr.heap.size wr W2 := HB2.out.trans (hbW.mono HB2.out.size)
                    have hgg : W2.heap[w.heap.size]? = some (.cells #[.int .i64 0, .string .empty, .slice none 0 0] 31) := (hbr.block _ (by omega)).trans hgw
                    have HBv := Lib.hid (HBw.out.trans (hbr.mono (by omega)))
                    obtain ⟨g0, g1, g2⟩ := cells_three hgg
                    have f0 := frozen_of_row W2 w.heap.size 0 _ _ hgg
                    have f1 := frozen_of_row W2 w.heap.size 1 _ _ hgg
                    have f2 := frozen_of_row W2 w.heap.size 2 _ _ hgg
                    clear hW2 hbW hbr hgw
                    go_wp2_with fail
                    obtain ⟨W4, hW4⟩ : ∃ W4, ((W2.setCell ⟨w.heap.size, 0, none⟩ (.int .i64 0)).setCell ⟨w.heap.size, 1, none⟩ (.string ByteArray.empty)).setCell ⟨w.heap.size, 2, none⟩ (.slice none 0 0) = W4 := ⟨_, rfl⟩
                    obtain ⟨z1, z2, z3, z4⟩ := three_far W2 W4 _ _ _ _ _ _ _ _ hgg hW4
                    obtain ⟨y0, y1, y2⟩ := cells_three z1
                    first | rw [hW4] | rw [show (Value.string { data := #[] }) = Value.string ByteArray.empty from rfl, hW4]
                    refine bodyPost_ret (v := .tuple #[.agg #[.int .i64 0, .string ByteArray.empty, .slice none 0 0], .int .i64 (ne : Int)]) (by simp [results, Tryd.results22, go_sem, y0, y1, y2]) rfl ?_
                    rw [HRR.out, HNe.out]
                    exact ⟨_, rfl, rfl, HBv.out.trans z4⟩
                  | ok nd =>
                    obtain ⟨kk, ss, ll⟩ := nd
                    have HN := Lib.hid (at_ref HA.out hk1 h36 hc hd hen hpt)
                    rw [hy] at hpt
                    rw [hpt] at HC0
                    have HKd := Lib.hid (hkind _ _ kk ss ll hpt)
                    have HC : Hid (∀ W : World, Calls Tryd.prog 31 #[.string (bs ((s.drop (k + 2)).take en)), .int .i64 ((N : Int) + 1), .int .u8 40, .int .u8 41] W fun e W' => ∃ A c, e = .returned (.tuple #[.agg #[.int .i64 (kk : Int), .string (bs ss), .slice A ll.length c], .int .i64 0]) ∧ NodesIn (fun b => W.heap.size ≤ b) W' A c ll ∧ Below W.heap.size W W') := fun W => (HC0.out W).mono fun e W' ⟨v, he, hv, hb⟩ => by
                      obtain ⟨A, c, rfl, hn⟩ := NodeIn.inv (show NodeIn _ W' v (.mk kk ss ll) from hv)
                      exact ⟨A, c, he, hn, hb⟩
                    clear HA h1 h36 hc e1 hd hy hen hdd H40 HRf hkind hpt htl HC0 hgw
                    generalize (s.drop (k + 2)).take en = t at *
                    generalize s[k] = x at *
                    generalize s[k + 1] = y at *
                    obtain ⟨lz, hlz⟩ : ∃ lz, lz = ll.length := ⟨_, rfl⟩
                    rw [← hlz] at HC
                    have HLz := Lib.hid hlz
                    clear hlz
                    go_upto_region 22 with (first | (go_at_call 30; refine (HEn.out _).mono ?_; rintro e W' ⟨rfl, rfl⟩; rw [hei]) | (go_at_call 31; refine (HC.out _).mono ?_; rintro e W1 ⟨A1, c1, rfl, hv, hb2⟩; have HV := Lib.hid hv; have HB2 := Lib.hid hb2; clear hv hb2))
                    obtain ⟨W2, hW2⟩ : ∃ W2, W2 = W1.alloc (.cells #[.int .i64 (kk : Int), .string (bs ss), .slice A1 lz c1] 31) := ⟨_, rfl⟩
                    have hcW : W2.heap[W1.heap.size]? = some (.cells #[.int .i64 (kk : Int), .string (bs ss), .slice A1 lz c1] 31) := by rw [hW2]; exact heap_alloc_new W1 _
                    obtain ⟨d0, d1, d2⟩ := cells_three hcW
                    rw [← hW2]
                    have hbW : Below W1.heap.size W1 W2 := by rw [hW2]; exact (Below.refl _ _).alloc (Nat.le_refl _) _
                    have hbr : Below wr.heap.size wr W2 := HB2.out.trans (hbW.mono HB2.out.size)
                    have hwW := hbr.size
                    have HB3 := Lib.hid (HB.out.trans (hbr.mono hwr))
                    have HP : Hid (Calls Tryd.prog 29 #[u6, .agg #[.int .i64 (kk : Int), .string (bs ss), .slice A1 lz c1]] W2 fun e W' => ∃ u', e = .returned u' ∧ Row (fun b => w.heap.size + 1 ≤ b) (w.heap.size + 1) W' u' (flushP acc cur ++ [.mk kk ss ll]) ∧ Below (w.heap.size + 1) W2 W') := by
                      show Calls _ _ _ _ _
                      rw [HLz.out]
                      have hin : NodesIn (fun b => w.heap.size + 1 ≤ b ∧ u6.ownBlock ≠ some b) W2 A1 c1 ll := by
                        obtain ⟨vs0, ho0, _⟩ := HR.out.row
                        exact HV.out.move (fun b hb hlt => ⟨⟨by omega, fun e => by have := (ho0.lt b e).2; omega⟩, hbW.block b hlt⟩) hbW.size
                      exact put_other (fun b => w.heap.size + 1 ≤ b) (w.heap.size + 1) u6 (flushP acc cur) kk ss ll A1 c1 W2 (by omega) (HR.out.on hbr) (by have := flush_len acc cur; omega) (hin.node kk ss) HKd.out.1 HKd.out.2
                    have HL : Hid ((flushP acc cur ++ [Nod.mk kk ss ll]).length ≤ k + 2 + en + 1) := by show _ ≤ _; rw [List.length_append, List.length_singleton]; have := flush_len acc cur; omega
                    have HF2 := Lib.hid (flat_snoc (k := kk) (s := ss) (m := ll) (flat_flush (cur := cur) HF.out HT.out) HKd.out.2 (fun e => absurd e HKd.out.1))
                    have HT2 := Lib.hid (noText_snoc (flushP acc cur) (k := kk) ss ll HKd.out.1)
                    clear hcW hW2 hbW hbr HV HB2 HC HEn
                    go_wp2_with (go_at_call 29; refine HP.out.mono ?_; rintro e W' ⟨u', rfl, hr, hb2⟩; have HR2 := Lib.hid hr; have HB4 := Lib.hid (HB3.out.trans hb2); clear hr hb2)
                    go_roundw
                    case rel => exact ⟨k + 2 + en + 1, _, [], by omega, HL.out, Nat.zero_le _, by go_num, HR2.out, HB4.out, HN.out, HF2.out, HT2.out⟩
                    case measure => simp [intOf]; omega
            · have hy : s[k + 1] = 123 := hdd
              have e5 : ((s[k + 1].toNat : Nat) : Int) = 123 := by rw [hy]; rfl
              have q4 : ((((s[k + 1].toNat : Nat) : Int)) == 36) = false := by rw [beq_eq_false_iff_ne]; exact e4
              have HEn := Lib.hid (fun W => Qends.ends_is s (k + 2) 123 125 W (by decide) (by omega) (by omega))
              have hgw : wr.heap[w.heap.size]? = some (.cells #[.int .i64 0, .string .empty, .slice none 0 0] 31) := (HB.out.block _ (by omega)).trans (heap_alloc_new w _)
              have HBw := Lib.hid (((Below.refl _ w).alloc (Nat.le_refl _) (.cells #[.int .i64 0, .string .empty, .slice none 0 0] 31)).trans (HB.out.mono (by omega)))
              cases hen : endsP s[k + 1] (shutOf s[k + 1]) 1 (s.drop (k + 2)) with
              | none =>
                have HRR := Lib.hid (at_form HA.out hk1 h36 hc hd hen)
                have hei : Qends.endI 123 125 1 s (k + 2) = -1 := by
                  rw [hy] at hen
                  unfold Qends.endI
                  rw [show endsP 123 125 1 (s.drop (k + 2)) = none from hen]
                have hgg := hgw
                obtain ⟨g0, g1, g2⟩ := cells_three hgw
                have f0 := frozen_of_row wr w.heap.size 0 _ _ hgw
                have f1 := frozen_of_row wr w.heap.size 1 _ _ hgw
                have f2 := frozen_of_row wr w.heap.size 2 _ _ hgw
                clear HA h1 h36 hc e1 hd hy hen hdd hgw
                generalize s[k] = x at *
                generalize s[k + 1] = y at *
                go_wp2_with (go_at_call 30; refine (HEn.out _).mono ?_; rintro e W' ⟨rfl, rfl⟩; rw [hei])
                obtain ⟨W4, hW4⟩ : ∃ W4, ((wr.setCell ⟨w.heap.size, 0, none⟩ (.int .i64 0)).setCell ⟨w.heap.size, 1, none⟩ (.string ByteArray.empty)).setCell ⟨w.heap.size, 2, none⟩ (.slice none 0 0) = W4 := ⟨_, rfl⟩
                obtain ⟨z1, z2, z3, z4⟩ := three_far wr W4 _ _ _ _ _ _ _ _ hgg hW4
                obtain ⟨y0, y1, y2⟩ := cells_three z1
                first | rw [hW4] | rw [show (Value.string { data := #[] }) = Value.string ByteArray.empty from rfl, hW4]
                refine bodyPost_ret (v := .tuple #[.agg #[.int .i64 0, .string ByteArray.empty, .slice none 0 0], .int .i64 2]) (by simp [results, Tryd.results22, go_sem, y0, y1, y2]) rfl ?_
                rw [HRR.out]
                exact ⟨_, rfl, rfl, HBw.out.trans z4⟩
              | some en =>
                have hel := ends_lt _ _ _ _ _ hen
                rw [List.length_drop] at hel
                have hei : Qends.endI 123 125 1 s (k + 2) = ((k + 2 + en : Nat) : Int) := by
                  rw [hy] at hen
                  unfold Qends.endI
                  rw [show endsP 123 125 1 (s.drop (k + 2)) = some en from hen]
                by_cases hN40 : N = 40
                · have HRR := Lib.hid (at_bad HA.out hk1 h36 hc hd hen (H40 hN40 _ _))
                  have hgg := hgw
                  obtain ⟨g0, g1, g2⟩ := cells_three hgw
                  have f0 := frozen_of_row wr w.heap.size 0 _ _ hgw
                  have f1 := frozen_of_row wr w.heap.size 1 _ _ hgw
                  have f2 := frozen_of_row wr w.heap.size 2 _ _ hgw
                  subst hN40
                  clear HA h1 h36 hc e1 hd hy hen hdd hgw H40 HRf hkind
                  generalize s[k] = x at *
                  generalize s[k + 1] = y at *
                  go_wp2_with (go_at_call 30; refine (HEn.out _).mono ?_; rintro e W' ⟨rfl, rfl⟩; rw [hei])
                  obtain ⟨W4, hW4⟩ : ∃ W4, ((wr.setCell ⟨w.heap.size, 0, none⟩ (.int .i64 0)).setCell ⟨w.heap.size, 1, none⟩ (.string ByteArray.empty)).setCell ⟨w.heap.size, 2, none⟩ (.slice none 0 0) = W4 := ⟨_, rfl⟩
                  obtain ⟨z1, z2, z3, z4⟩ := three_far wr W4 _ _ _ _ _ _ _ _ hgg hW4
                  obtain ⟨y0, y1, y2⟩ := cells_three z1
                  first | rw [hW4] | rw [show (Value.string { data := #[] }) = Value.string ByteArray.empty from rfl, hW4]
                  refine bodyPost_ret (v := .tuple #[.agg #[.int .i64 0, .string ByteArray.empty, .slice none 0 0], .int .i64 8]) (by simp [results, Tryd.results22, go_sem, y0, y1, y2]) rfl ?_
                  rw [HRR.out]
                  exact ⟨_, rfl, rfl, HBw.out.trans z4⟩
                · have hNl : N < 40 := by omega
                  have hNi : ¬ (40 : Int) ≤ (N : Int) := by omega
                  have hNi2 : (N : Int) < 40 := by omega
                  have hpart := part_is s (k + 2) en
                  have htl : ((s.drop (k + 2)).take en).length ≤ 999999 := by rw [List.length_take, List.length_drop]; omega
                  have HC0 := Lib.hid (fun W => HRf hNl ((s.drop (k + 2)).take en) 123 W htl)
                  cases hpt : p s[k + 1] ((s.drop (k + 2)).take en) with
                  | bad er =>
                    have HRR := Lib.hid (at_bad HA.out hk1 h36 hc hd hen hpt)
                    rw [hy] at hpt
                    rw [hpt] at HC0
                    obtain ⟨ne, hne⟩ : ∃ ne, ne = errNo (.bad er : Rd Nod) := ⟨_, rfl⟩
                    have hn0 : (((ne : Nat) : Int) == 0) = false := by rw [hne]; cases er <;> rfl
                    have hne2 : errNo (.bad er : Rd (List Nod)) = ne := by rw [hne]; cases er <;> rfl
                    rw [← hne] at HC0
                    have HNe := Lib.hid hne2
                    clear HA h1 h36 hc e1 hd hy hen hdd H40 HRf hkind hpt htl hne hne2
                    generalize (s.drop (k + 2)).take en = t at *
                    generalize s[k] = x at *
                    generalize s[k + 1] = y at *
                    go_upto_region 22 with (first | (go_at_call 30; refine (HEn.out _).mono ?_; rintro e W' ⟨rfl, rfl⟩; rw [hei]) | (go_at_call 31; refine (HC0.out _).mono ?_; rintro e W1 ⟨v, rfl, hv, hb2⟩; obtain ⟨k1, s1, A1, n1, c1, rfl⟩ := refForm hv; have HB2 := Lib.hid hb2; clear hv hb2))
                    obtain ⟨W2, hW2⟩ : ∃ W2, W2 = W1.alloc (.cells #[.int .i64 (k1 : Int), .string (bs s1), .slice A1 n1 c1] 31) := ⟨_, rfl⟩
                    rw [← hW2]
                    have hbW : Below W1.heap.size W1 W2 := by rw [hW2]; exact (Below.refl _ _).alloc (Nat.le_refl _) _
                    have hbr : Below wr.heap.size wr W2 := HB2.out.trans (hbW.mono HB2.out.size)
                    have hgg : W2.heap[w.heap.size]? = some (.cells #[.int .i64 0, .string .empty, .slice none 0 0] 31) := (hbr.block _ (by omega)).trans hgw
                    have HBv := Lib.hid (HBw.out.trans (hbr.mono (by omega)))
                    obtain ⟨g0, g1, g2⟩ := cells_three hgg
                    have f0 := frozen_of_row W2 w.heap.size 0 _ _ hgg
                    have f1 := frozen_of_row W2 w.heap.size 1 _ _ hgg
                    have f2 := frozen_of_row W2 w.heap.size 2 _ _ hgg
                    clear hW2 hbW hbr hgw
                    go_wp2_with fail
                    obtain ⟨W4, hW4⟩ : ∃ W4, ((W2.setCell ⟨w.heap.size, 0, none⟩ (.int .i64 0)).setCell ⟨w.heap.size, 1, none⟩ (.string ByteArray.empty)).setCell ⟨w.heap.size, 2, none⟩ (.slice none 0 0) = W4 := ⟨_, rfl⟩
                    obtain ⟨z1, z2, z3, z4⟩ := three_far W2 W4 _ _ _ _ _ _ _ _ hgg hW4
                    obtain ⟨y0, y1, y2⟩ := cells_three z1
                    first | rw [hW4] | rw [show (Value.string { data := #[] }) = Value.string ByteArray.empty from rfl, hW4]
                    refine bodyPost_ret (v := .tuple #[.agg #[.int .i64 0, .string ByteArray.empty, .slice none 0 0], .int .i64 (ne : Int)]) (by simp [results, Tryd.results22, go_sem, y0, y1, y2]) rfl ?_
                    rw [HRR.out, HNe.out]
                    exact ⟨_, rfl, rfl, HBv.out.trans z4⟩
                  | ok nd =>
                    obtain ⟨kk, ss, ll⟩ := nd
                    have HN := Lib.hid (at_ref HA.out hk1 h36 hc hd hen hpt)
                    rw [hy] at hpt
                    rw [hpt] at HC0
                    have HKd := Lib.hid (hkind _ _ kk ss ll hpt)
                    have HC : Hid (∀ W : World, Calls Tryd.prog 31 #[.string (bs ((s.drop (k + 2)).take en)), .int .i64 ((N : Int) + 1), .int .u8 123, .int .u8 125] W fun e W' => ∃ A c, e = .returned (.tuple #[.agg #[.int .i64 (kk : Int), .string (bs ss), .slice A ll.length c], .int .i64 0]) ∧ NodesIn (fun b => W.heap.size ≤ b) W' A c ll ∧ Below W.heap.size W W') := fun W => (HC0.out W).mono fun e W' ⟨v, he, hv, hb⟩ => by
                      obtain ⟨A, c, rfl, hn⟩ := NodeIn.inv (show NodeIn _ W' v (.mk kk ss ll) from hv)
                      exact ⟨A, c, he, hn, hb⟩
                    clear HA h1 h36 hc e1 hd hy hen hdd H40 HRf hkind hpt htl HC0 hgw
                    generalize (s.drop (k + 2)).take en = t at *
                    generalize s[k] = x at *
                    generalize s[k + 1] = y at *
                    obtain ⟨lz, hlz⟩ : ∃ lz, lz = ll.length := ⟨_, rfl⟩
                    rw [← hlz] at HC
                    have HLz := Lib.hid hlz
                    clear hlz
                    go_upto_region 22 with (first | (go_at_call 30; refine (HEn.out _).mono ?_; rintro e W' ⟨rfl, rfl⟩; rw [hei]) | (go_at_call 31; refine (HC.out _).mono ?_; rintro e W1 ⟨A1, c1, rfl, hv, hb2⟩; have HV := Lib.hid hv; have HB2 := Lib.hid hb2; clear hv hb2))
                    obtain ⟨W2, hW2⟩ : ∃ W2, W2 = W1.alloc (.cells #[.int .i64 (kk : Int), .string (bs ss), .slice A1 lz c1] 31) := ⟨_, rfl⟩
                    have hcW : W2.heap[W1.heap.size]? = some (.cells #[.int .i64 (kk : Int), .string (bs ss), .slice A1 lz c1] 31) := by rw [hW2]; exact heap_alloc_new W1 _
                    obtain ⟨d0, d1, d2⟩ := cells_three hcW
                    rw [← hW2]
                    have hbW : Below W1.heap.size W1 W2 := by rw [hW2]; exact (Below.refl _ _).alloc (Nat.le_refl _) _
                    have hbr : Below wr.heap.size wr W2 := HB2.out.trans (hbW.mono HB2.out.size)
                    have hwW := hbr.size
                    have HB3 := Lib.hid (HB.out.trans (hbr.mono hwr))
                    have HP : Hid (Calls Tryd.prog 29 #[u6, .agg #[.int .i64 (kk : Int), .string (bs ss), .slice A1 lz c1]] W2 fun e W' => ∃ u', e = .returned u' ∧ Row (fun b => w.heap.size + 1 ≤ b) (w.heap.size + 1) W' u' (flushP acc cur ++ [.mk kk ss ll]) ∧ Below (w.heap.size + 1) W2 W') := by
                      show Calls _ _ _ _ _
                      rw [HLz.out]
                      have hin : NodesIn (fun b => w.heap.size + 1 ≤ b ∧ u6.ownBlock ≠ some b) W2 A1 c1 ll := by
                        obtain ⟨vs0, ho0, _⟩ := HR.out.row
                        exact HV.out.move (fun b hb hlt => ⟨⟨by omega, fun e => by have := (ho0.lt b e).2; omega⟩, hbW.block b hlt⟩) hbW.size
                      exact put_other (fun b => w.heap.size + 1 ≤ b) (w.heap.size + 1) u6 (flushP acc cur) kk ss ll A1 c1 W2 (by omega) (HR.out.on hbr) (by have := flush_len acc cur; omega) (hin.node kk ss) HKd.out.1 HKd.out.2
                    have HL : Hid ((flushP acc cur ++ [Nod.mk kk ss ll]).length ≤ k + 2 + en + 1) := by show _ ≤ _; rw [List.length_append, List.length_singleton]; have := flush_len acc cur; omega
                    have HF2 := Lib.hid (flat_snoc (k := kk) (s := ss) (m := ll) (flat_flush (cur := cur) HF.out HT.out) HKd.out.2 (fun e => absurd e HKd.out.1))
                    have HT2 := Lib.hid (noText_snoc (flushP acc cur) (k := kk) ss ll HKd.out.1)
                    clear hcW hW2 hbW hbr HV HB2 HC HEn
                    go_wp2_with (go_at_call 29; refine HP.out.mono ?_; rintro e W' ⟨u', rfl, hr, hb2⟩; have HR2 := Lib.hid hr; have HB4 := Lib.hid (HB3.out.trans hb2); clear hr hb2)
                    go_roundw
                    case rel => exact ⟨k + 2 + en + 1, _, [], by omega, HL.out, Nat.zero_le _, by go_num, HR2.out, HB4.out, HN.out, HF2.out, HT2.out⟩
                    case measure => simp [intOf]; omega
          · have HN := Lib.hid (at_one HA.out hk1 h36 hc hd)
            have e5 : ¬ ((s[k + 1].toNat : Nat) : Int) = 40 := fun e => hd (.inl (by rw [← UInt8.toNat_inj]; show _ = 40; omega))
            have e6 : ¬ ((s[k + 1].toNat : Nat) : Int) = 123 := fun e => hd (.inr (by rw [← UInt8.toNat_inj]; show _ = 123; omega))
            have q4 : ((((s[k + 1].toNat : Nat) : Int)) == 36) = false := by rw [beq_eq_false_iff_ne]; exact e4
            have q5 : ((((s[k + 1].toNat : Nat) : Int)) == 40) = false := by rw [beq_eq_false_iff_ne]; exact e5
            have q6 : ((((s[k + 1].toNat : Nat) : Int)) == 123) = false := by rw [beq_eq_false_iff_ne]; exact e6
            have hx := one_byte s (k + 1) hk1
            have hS : (fun b => w.heap.size + 1 ≤ b ∧ u6.ownBlock ≠ some b) wr.heap.size := ⟨hwr, fun e => by
              obtain ⟨vs0, ho0, _⟩ := HR.out.row
              have := (ho0.lt _ e).2
              omega⟩
            have HP := Lib.hid (put_other (fun b => w.heap.size + 1 ≤ b) (w.heap.size + 1) u6 (flushP acc cur) 2 [] [.mk 1 [s[k + 1]] []] (some ⟨wr.heap.size, 0, none⟩) 1 (wr.alloc (.cells #[.int .i64 1, .string (bs [s[k + 1]]), .slice none 0 0] 31)) (by rw [World.size_alloc]; omega) (HR.out.on ((Below.refl _ _).alloc (Nat.le_refl _) _)) (by have := flush_len acc cur; omega) ((one_leaf _ wr [s[k + 1]] 31 hS).node 2 []) (by decide) (by decide))
            have HBa := Lib.hid (HB.out.trans ((Below.refl _ wr).alloc hwr (.cells #[.int .i64 1, .string (bs [s[k + 1]]), .slice none 0 0] 31)))
            have HL : Hid ((flushP acc cur ++ [Nod.mk 2 [] [Nod.mk 1 [s[k + 1]] []]]).length ≤ k + 2) := by show _ ≤ _; rw [List.length_append, List.length_singleton]; have := flush_len acc cur; omega
            have HF2 := Lib.hid (flat_snoc (k := 2) (s := []) (m := [Nod.mk 1 [s[k + 1]] []]) (flat_flush (cur := cur) HF.out HT.out) (by decide) (fun e => by cases e))
            have HT2 := Lib.hid (noText_snoc (flushP acc cur) (k := 2) [] [Nod.mk 1 [s[k + 1]] []] (by decide))
            clear HA h1 h36 hc e1 hd
            generalize s[k] = x at *
            generalize s[k + 1] = y at *
            go_wp2_with (go_at_call 29; refine HP.out.mono ?_; rintro e W' ⟨u', rfl, hr, hb2⟩; have HR2 := Lib.hid hr; have HB2 := Lib.hid (HBa.out.trans hb2); clear hr hb2)
            go_roundw
            case rel => exact ⟨k + 2, _, [], by omega, HL.out, Nat.zero_le _, by go_num, HR2.out, HB2.out, HN.out, HF2.out, HT2.out⟩
            case measure => simp [intOf]; omega
    · obtain rfl : k = s.length := by omega
      have HE := Lib.hid (at_end HA.out (Nat.le_refl _))
      obtain ⟨A2, c2, rfl, hin⟩ := Row.slice HR.out (fun b hb => hb)
      have HW := Lib.hid (whole_is (fun b => w.heap.size + 1 ≤ b) (flushP acc cur) A2 c2 wr (flat_flush HF.out HT.out) (by have := flush_len acc cur; omega) (fun b hb => by omega) hin)
      have hgw : wr.heap[w.heap.size]? = some (.cells #[.int .i64 0, .string .empty, .slice none 0 0] 31) := (HB.out.block _ (by omega)).trans (heap_alloc_new w _)
      clear HR hin HA HF HT
      have HBw := Lib.hid (((Below.refl _ w).alloc (Nat.le_refl _) (.cells #[.int .i64 0, .string .empty, .slice none 0 0] 31)).trans (HB.out.mono (by omega)))
      go_upto_region 26 with fail
      have HG := Lib.hid hgw
      clear hgw
      go_wp2_with (go_at_call 32; refine HW.out.mono ?_; rintro e W' ⟨v, rfl, hv, hb2⟩; obtain ⟨kk, ss, A3, n3, c3, rfl⟩ := NodeOf.agg (x := .ok (wholeP (flushP acc cur))) hv; have hg0 : W'.heap[w.heap.size]? = some (.cells #[.int .i64 0, .string .empty, .slice none 0 0] 31) := (hb2.block _ (by omega)).trans HG.out; have HV := Lib.hid hv; have HB2 := Lib.hid hb2; have hz2 := hb2.size; obtain ⟨g0, g1, g2⟩ := cells_three hg0; have f0 := frozen_of_row W' w.heap.size 0 _ _ hg0; have f1 := frozen_of_row W' w.heap.size 1 _ _ hg0; have f2 := frozen_of_row W' w.heap.size 2 _ _ hg0; clear hv hb2)
      obtain ⟨W4, hW4⟩ : ∃ W4, ((W'.setCell ⟨w.heap.size, 0, none⟩ (.int .i64 (kk : Int))).setCell ⟨w.heap.size, 1, none⟩ (.string (bs ss))).setCell ⟨w.heap.size, 2, none⟩ (.slice A3 n3 c3) = W4 := ⟨_, rfl⟩
      obtain ⟨z1, z2, z3, z4⟩ := three_far W' W4 _ _ _ _ _ _ _ _ hg0 hW4
      obtain ⟨y0, y1, y2⟩ := cells_three z1
      rw [hW4]
      refine bodyPost_ret (v := .tuple #[.agg #[.int .i64 (kk : Int), .string (bs ss), .slice A3 n3 c3], .int .i64 0]) (by simp [results, Tryd.results22, go_sem, y0, y1, y2]) rfl ?_
      rw [HE.out]
      exact ⟨_, rfl, (show NodeIn _ W' _ _ from HV.out).move (fun b hb _ => ⟨by omega, z3 b (by omega)⟩) z2, (HBw.out.trans (HB2.out.mono (by omega))).trans z4⟩
theorem ref_kind {p : T → Rd Nod} {o : UInt8} {t : T} {k : Nat} {s : T} {m : List Nod} (h : refP p o t = .ok (.mk k s m)) : k ≠ 1 ∧ k ≠ 5 := by
  have hm : ∀ (j : Nat) (f : T) (x : Rd (List Nod)), x.map (Nod.mk j f) = .ok (.mk k s m) → k = j := by
    intro j f x e
    cases x with
    | bad e1 => cases e
    | ok l => cases e; rfl
  unfold refP at h
  split at h
  · dsimp only at h
    generalize argsP _ _ _ _ _ _ = l at h
    split at h
    · cases h
    · rw [hm _ _ _ h]; exact ⟨by decide, by decide⟩
  · split at h
    · rw [hm _ _ _ h]; exact ⟨by decide, by decide⟩
    · rw [hm _ _ _ h]; exact ⟨by decide, by decide⟩
theorem reads : ∀ m, m ≤ 40 → ReadIs (40 - m) (parseP m) 999999
  | 0, _ => fun s w hs => by
    obtain h := parse_step 40 (fun _ _ => .bad .deep) s w hs (Nat.le_refl _) (fun _ _ _ => rfl) (fun _ _ _ _ _ h => by cases h) (fun h => absurd h (by decide))
    refine h.mono fun e W' ⟨v, he, hv, hb⟩ => ⟨v, ?_, hv, hb⟩
    rw [he]
    unfold parseP
    rw [Qref.errNo_map]
  | m + 1, hm => fun s w hs => by
    have ih := reads m (by omega)
    have e1 : 40 - (m + 1) + 1 = 40 - m := by omega
    obtain h := parse_step (40 - (m + 1)) (refP (parseP m)) s w hs (by omega) (fun h => by omega) (fun _ _ _ _ _ h => ref_kind h) (fun _ t o w ht => by
      have := Qref.ref_is (40 - m) (parseP m) 999999 ih t o w (by omega) ht
      rw [← e1] at this
      exact this)
    refine h.mono fun e W' ⟨v, he, hv, hb⟩ => ⟨v, ?_, hv, hb⟩
    rw [he]
    rw [parseP, Qref.errNo_map]
/-- the document's Parse: for every text of at most 999,999 bytes what parse on plain lists answers -/
theorem refParse_is (s : T) (w : World) (hs : s.length ≤ 999999) :
    Calls Tryd.prog 14 #[.string (bs s)] w fun e W' => ∃ v, e = .returned (.tuple #[v, .int .i64 (errNo (parse s) : Int)]) ∧ NodeOf (fun b => w.heap.size ≤ b) W' v (parse s) ∧ Below w.heap.size w W' := by
  have HP := Lib.hid (fun W => reads 40 (Nat.le_refl _) s W hs)
  rw [show parse s = parseP 40 s from rfl]
  generalize parseP 40 s = R at *
  generalize bs s = x at *
  go_enter Tryd.func14, Tryd.ntmps14
  go_wp2_with (go_at_call 22; refine (HP.out _).mono ?_; rintro e W' ⟨v, rfl, hv, hb2⟩; obtain ⟨kk, ss, A3, n3, c3, rfl⟩ := NodeOf.agg hv; have hg0 : W'.heap[w.heap.size]? = some (.cells #[.int .i64 0, .string .empty, .slice none 0 0] 31) := (hb2.block _ (by rw [World.size_alloc]; omega)).trans (heap_alloc_new w _); have HV := Lib.hid hv; have HB2 := Lib.hid hb2; obtain ⟨g0, g1, g2⟩ := cells_three hg0; have f0 := frozen_of_row W' w.heap.size 0 _ _ hg0; have f1 := frozen_of_row W' w.heap.size 1 _ _ hg0; have f2 := frozen_of_row W' w.heap.size 2 _ _ hg0; clear hv hb2)
  obtain ⟨W4, hW4⟩ : ∃ W4, ((W'.setCell ⟨w.heap.size, 0, none⟩ (.int .i64 (kk : Int))).setCell ⟨w.heap.size, 1, none⟩ (.string (bs ss))).setCell ⟨w.heap.size, 2, none⟩ (.slice A3 n3 c3) = W4 := ⟨_, rfl⟩
  obtain ⟨z1, z2, z3, z4⟩ := three_far W' W4 _ _ _ _ _ _ _ _ hg0 hW4
  obtain ⟨y0, y1, y2⟩ := cells_three z1
  rw [hW4]
  refine bodyPost_ret (v := .tuple #[.agg #[.int .i64 (kk : Int), .string (bs ss), .slice A3 n3 c3], .int .i64 (errNo R : Int)]) (by simp [results, Tryd.results14, go_sem, y0, y1, y2]) rfl ?_
  have hb2 := HB2.out
  rw [World.size_alloc] at hb2
  have hbw : Below w.heap.size w W' := ((Below.refl _ w).alloc (Nat.le_refl _) _).trans (hb2.mono (by omega))
  refine ⟨_, rfl, ?_, hbw.trans z4⟩
  have hv := HV.out
  rw [World.size_alloc] at hv
  cases R with
  | bad e => exact hv
  | ok n => exact (show NodeIn _ W' _ _ from hv).move (fun b hb _ => ⟨by omega, z3 b (by omega)⟩) z2

end Go.Proofs.YtpphkaolonjjdaaDoor.Qparse
