/- The program's dollar: what a $ stands for. -/
import Derived.Test.YtndnialpedocnaaUbrk
namespace Go.Proofs.Ytndnialpedocnaa.Udol
open Go.RowKit Go.Proofs.Ytndnialpedocnaa.Spl Go.Proofs.Ytndnialpedocnaa.Upl Go.Proofs.Ytndnialpedocnaa.Nodm Go.Proofs.Ytndnialpedocnaa.Unod Go.Proofs.Ytndnialpedocnaa.Uargs Go.Proofs.Ytndnialpedocnaa.Ucall Go.Proofs.Ytndnialpedocnaa.Urow Go.Proofs.Ytndnialpedocnaa.Ubld Go.Proofs.Ytndnialpedocnaa.Uall Go.Proofs.Ytndnialpedocnaa.Uput Go.Proofs.Ytndnialpedocnaa.Uset Go.Proofs.Ytndnialpedocnaa.Ubrk
open Go.Proofs.Ytndnialpedocnaa.Pure (bs)

def dolP (p : UInt8 → T → Rd Nod) (acc : List Nod) (cur : T) : T → Rd (List Nod × T × T)
  | [] => .ok (acc, cur ++ [36], [])
  | c :: r =>
    if c = 36 then .ok (acc, cur ++ [36], r)
    else if c = 40 ∨ c = 123 then (brP p c r).map fun x => (flushP acc cur ++ [x.1], [], x.2)
    else .ok (flushP acc cur ++ [.mk 2 [] [.mk 1 [c] []]], [], r)
theorem dol_cons (p : UInt8 → T → Rd Nod) (acc : List Nod) (cur : T) (c : UInt8) (r : T) : dolP p acc cur (c :: r) = if c = 36 then .ok (acc, cur ++ [36], r)
    else if c = 40 ∨ c = 123 then (brP p c r).map fun x => (flushP acc cur ++ [x.1], [], x.2)
    else .ok (flushP acc cur ++ [.mk 2 [] [.mk 1 [c] []]], [], r) := rfl
theorem scan_dol (p : UInt8 → T → Rd Nod) (acc : List Nod) (cur s : T) : scan p acc cur (36 :: s) = match dolP p acc cur s with
    | .bad x => .bad x
    | .ok (a, c, r) => scan p a c r := by
  cases s with
  | nil => rfl
  | cons c r =>
    rw [dol_cons]
    by_cases h1 : c = 36
    · rw [if_pos h1, h1]
      exact scan_two p acc cur r
    · rw [if_neg h1]
      by_cases h2 : c = 40 ∨ c = 123
      · rw [if_pos h2, scan_ref p acc cur c r h2]
        unfold brP
        cases endsP c (shutOf c) 1 r with
        | none => rfl
        | some e =>
          dsimp only
          cases p c (r.take e) <;> rfl
      · rw [if_neg h2]
        exact scan_one p acc cur c r h1 h2
def DolOut (B b : Nat) (W : World) (e : Ending) : Rd (List Nod × T × T) → Prop
  | .bad x => e = errPan (errN x)
  | .ok (a, c, r) => e = .returned (.string (bs r)) ∧ ∃ u', RowAt Tr B b W.heap.size u' a c W
/-- how a rest and the things grow -/
theorem dol_len {p : UInt8 → T → Rd Nod} {acc a : List Nod} {cur c s r : T} (h : dolP p acc cur s = .ok (a, c, r)) : r.length ≤ s.length ∧ a.length + c.length ≤ acc.length + cur.length + 1 ∧ c.length ≤ cur.length + 1 := by
  have hf : (flushP acc cur).length ≤ acc.length + cur.length := by
    unfold flushP
    cases cur with
    | nil => simp
    | cons x y =>
      simp
  cases s with
  | nil =>
    cases h
    refine ⟨Nat.le_refl _, ?_, ?_⟩ <;> rw [List.length_append, List.length_singleton] <;> omega
  | cons d t =>
    rw [dol_cons] at h
    split at h
    · cases h
      refine ⟨by rw [List.length_cons]; omega, ?_, ?_⟩ <;> rw [List.length_append, List.length_singleton] <;> omega
    · split at h
      · cases hx : brP p d t with
        | bad x => rw [hx] at h; cases h
        | ok m =>
          rw [hx] at h
          cases h
          obtain ⟨m1, m2⟩ := m
          have hl : m2.length ≤ t.length := by
            unfold brP at hx
            split at hx
            · cases hx
            · split at hx
              · cases hx
              · cases hx
                rw [List.length_drop]; omega
          refine ⟨by rw [List.length_cons]; show m2.length ≤ _; omega, ?_, Nat.zero_le _⟩
          rw [List.length_append, List.length_singleton]
          show _ + 0 ≤ _
          omega
      · cases h
        refine ⟨by rw [List.length_cons]; omega, ?_, Nat.zero_le _⟩
        rw [List.length_append, List.length_singleton]
        show _ + 0 ≤ _
        omega

theorem one_leaf (H : Nat) (W : World) (y : T) (hH : H ≤ W.heap.size) : NodesIn (SF H (W.alloc (.cells #[.int .i64 1, .string (bs y), .slice none 0 0] 25))) (W.alloc (.cells #[.int .i64 1, .string (bs y), .slice none 0 0] 25)) (some ⟨W.heap.size, 0, none⟩) 1 [.mk 1 y []] := by
  have hc := heap_alloc_new W (.cells #[.int .i64 1, .string (bs y), .slice none 0 0] 25)
  refine ⟨Nat.le_refl _, fun _ => .agg #[.int .i64 1, .string (bs y), .slice none 0 0], .inr ⟨W.heap.size, 0, rfl, by rw [World.size_alloc]; omega, ⟨hH, _, _, hc⟩, fun j hj => ?_⟩, fun j n hj => ?_⟩
  · rw [List.length_singleton] at hj
    obtain rfl : j = 0 := by omega
    exact ⟨_, _, _, rfl, (cells_at hc).1, (cells_at hc).2.1, (cells_at hc).2.2⟩
  · cases j with
    | zero => cases hj; exact NodeIn.leaf _ _ 1 y none 0
    | succ j => cases hj
theorem u8_no {x c : UInt8} (h : x ≠ c) : (((x.toNat : Nat) : Int) == ((c.toNat : Nat) : Int)) = false := by
  rw [beq_eq_false_iff_ne]
  exact fun e => h (by rw [← UInt8.toNat_inj]; omega)
theorem trim_is (s : T) (w : World) : Calls Try.prog 22 #[.string (bs s), .string ⟨#[36]⟩] w fun e w' => e = .returned (.string (bs (Lib.trimPrefix s [36]))) ∧ w' = w := Try.strings_TrimPrefix (bs s) ⟨#[36]⟩ w

set_option maxRecDepth 100000 in
set_option maxHeartbeats 1000000 in
theorem dollar_is (N : Nat) (hN : N ≤ 40) (p : UInt8 → T → Rd Nod) (H40 : N = 40 → ∀ o t, p o t = .bad .deep) (HRf : N < 40 → RefIs N p) (B b H : Nat) (u : Value) (acc : List Nod) (cur s : T) (w : World) (h : RowAt Tr B b H u acc cur w) (hl : acc.length ≤ 1000000) (hcl : cur.length ≤ 1000000) (hs : s.length ≤ 999999) :
    Calls Try.prog 17 #[.pointer (some ⟨b, 0, none⟩), .string (bs s), .int .i64 (N : Int)] w fun e W' => DolOut B b W' e (dolP p acc cur s) ∧ Below B w W' := by
  have hsz : (bs s).size = s.length := Pure.size_bs s
  have HWb := Lib.hid (write_byte Tr B b H u acc cur w h (by omega))
  have HT := Lib.hid (fun W => trim_is s W)
  cases s with
  | nil =>
    have he : ((bs []).toList == []) = true := by rw [Lib.toList_data]; rfl
    rw [show Lib.trimPrefix [] [36] = [] from rfl] at HT
    go_enter Try.func17, Try.ntmps17
    go_wp2_with (first | (go_at_call 21; refine HWb.out.mono ?_; rintro e W2 ⟨rfl, hr2, hb2⟩; have HR2 := Lib.hid hr2; have HB2 := Lib.hid hb2; clear hr2 hb2) | (go_at_call 22; refine (HT.out _).mono ?_; rintro e W3 ⟨rfl, rfl⟩))
    go_ret
    exact ⟨⟨rfl, u, HR2.out⟩, HB2.out⟩
  | cons c r =>
    obtain ⟨s, hss⟩ : ∃ s, s = c :: r := ⟨_, rfl⟩
    have htr : c = 36 → Lib.trimPrefix s [36] = r := fun e => by rw [hss, e]; rfl
    rw [← hss] at hsz HT hs ⊢
    have hpos : 0 < s.length := by rw [hss]; exact Nat.zero_lt_succ _
    have hrl : r.length ≤ 999999 := by rw [hss, List.length_cons] at hs; omega
    have he : ((bs s).toList == []) = false := by rw [hss, Lib.toList_data]; rfl
    have hb0 : ((((bs s)[0]'(by rw [hsz]; exact hpos)).toNat : Nat) : Int) = ((c.toNat : Nat) : Int) := by subst hss; rfl
    have hp1 : (bs s).extract 0 1 = bs [c] := by rw [part_to, hss]; rfl
    have hp2 : (bs s).extract 1 s.length = bs r := by rw [part_from, hss]; rfl
    have hd := dol_cons p acc cur c r
    rw [← hss] at hd
    have hone : (1 : Int) ≤ (s.length : Int) := by omega
    clear hss
    by_cases h1 : c = 36
    · rw [if_pos h1] at hd
      have HD := Lib.hid hd
      rw [htr h1] at HT
      subst h1
      have e1 : (((36 : UInt8).toNat : Nat) : Int) = 36 := rfl
      rw [e1] at hb0
      clear hd h htr e1
      go_enter Try.func17, Try.ntmps17
      go_wp2_with (first | (go_at_call 21; refine HWb.out.mono ?_; rintro e W2 ⟨rfl, hr2, hb2⟩; have HR2 := Lib.hid hr2; have HB2 := Lib.hid hb2; clear hr2 hb2) | (go_at_call 22; refine (HT.out _).mono ?_; rintro e W3 ⟨rfl, rfl⟩))
      go_ret
      rw [HD.out]
      exact ⟨⟨rfl, u, HR2.out⟩, HB2.out⟩
    · have e1 := u8_no h1
      have n1 : ¬ ((c.toNat : Nat) : Int) = 36 := fun e => h1 (by rw [← UInt8.toNat_inj]; show _ = 36; omega)
      rw [show (((36 : UInt8).toNat : Nat) : Int) = 36 from rfl] at e1
      rw [if_neg h1] at hd
      clear HT htr HWb h1
      by_cases h2 : c = 40 ∨ c = 123
      · rw [if_pos h2] at hd
        have HD := Lib.hid hd
        have HBk := Lib.hid (bracketed_is N hN p H40 HRf c h2 B b H u acc cur r w h hl hrl)
        have hfin : Hid (∀ e W', BrOut B b acc cur W' e (brP p c r) → DolOut B b W' e (dolP p acc cur s)) := fun e W' hbr => by
          rw [hd]
          cases hx : brP p c r with
          | bad x => rw [hx] at hbr; exact hbr
          | ok m => rw [hx] at hbr; exact hbr
        cases hbr : brP p c r with
        | bad x =>
          rw [hbr] at HBk hfin
          unfold BrOut errPan at HBk
          clear hd hbr HRf H40 h
          rcases h2 with rfl | rfl
          · have e2 : (((40 : UInt8).toNat : Nat) : Int) = 40 := rfl
            rw [e2] at hb0
            clear e1 n1 e2
            go_enter Try.func17, Try.ntmps17
            go_wp2_with (go_at_call 23; refine HBk.out.mono ?_; rintro e W2 ⟨rfl, hb2⟩; have HB2 := Lib.hid hb2; clear hb2)
            exact ⟨rfl, hfin.out _ _ rfl, HB2.out⟩
          · have e2 : (((123 : UInt8).toNat : Nat) : Int) = 123 := rfl
            rw [e2] at hb0
            clear e1 n1 e2
            go_enter Try.func17, Try.ntmps17
            go_wp2_with (go_at_call 23; refine HBk.out.mono ?_; rintro e W2 ⟨rfl, hb2⟩; have HB2 := Lib.hid hb2; clear hb2)
            exact ⟨rfl, hfin.out _ _ rfl, HB2.out⟩
        | ok m =>
          obtain ⟨m1, m2⟩ := m
          rw [hbr] at HBk hfin
          unfold BrOut at HBk
          clear hd hbr HRf H40 h
          rcases h2 with rfl | rfl
          · have e2 : (((40 : UInt8).toNat : Nat) : Int) = 40 := rfl
            rw [e2] at hb0
            clear e1 n1 e2
            go_enter Try.func17, Try.ntmps17
            go_wp2_with (go_at_call 23; refine HBk.out.mono ?_; rintro e W2 ⟨⟨rfl, hr2⟩, hb2⟩; have HB2 := Lib.hid hb2; have HR2 := Lib.hid hr2; clear hr2 hb2)
            go_ret
            exact ⟨hfin.out _ _ ⟨rfl, HR2.out⟩, HB2.out⟩
          · have e2 : (((123 : UInt8).toNat : Nat) : Int) = 123 := rfl
            rw [e2] at hb0
            clear e1 n1 e2
            go_enter Try.func17, Try.ntmps17
            go_wp2_with (go_at_call 23; refine HBk.out.mono ?_; rintro e W2 ⟨⟨rfl, hr2⟩, hb2⟩; have HB2 := Lib.hid hb2; have HR2 := Lib.hid hr2; clear hr2 hb2)
            go_ret
            exact ⟨hfin.out _ _ ⟨rfl, HR2.out⟩, HB2.out⟩
      · rw [if_neg h2] at hd
        have HD := Lib.hid hd
        have e2 := u8_no (fun e => h2 (.inl e))
        have e3 := u8_no (fun e => h2 (.inr e))
        rw [show (((40 : UInt8).toNat : Nat) : Int) = 40 from rfl] at e2
        rw [show (((123 : UInt8).toNat : Nat) : Int) = 123 from rfl] at e3
        have n2 : ¬ ((c.toNat : Nat) : Int) = 40 := by simpa using e2
        have n3 : ¬ ((c.toNat : Nat) : Int) = 123 := by simpa using e3
        have hhz := h.hz
        have hat := h.at_
        have hlt := h.lt
        have hba := (Below.refl w.heap.size w).alloc (Nat.le_refl _) (.cells #[.int .i64 1, .string (bs [c]), .slice none 0 0] 25)
        have HP := Lib.hid (put_full B b w.heap.size u acc cur 2 [] [.mk 1 [c] []] (some ⟨w.heap.size, 0, none⟩) 1 (w.alloc (.cells #[.int .i64 1, .string (bs [c]), .slice none 0 0] 25)) ((h.up hhz (Nat.le_refl _)).on hba) ((one_leaf w.heap.size w [c] (Nat.le_refl _)).node 2 []) hl)
        have HBa := Lib.hid hba
        have hBw : B ≤ w.heap.size := by omega
        clear hd h2 h HRf H40 hba
        go_enter Try.func17, Try.ntmps17
        go_wp2_with (go_at_call 24; refine HP.out.mono ?_; rintro e W2 ⟨rfl, u2, hr2, hb2⟩; have HR2 := Lib.hid hr2; have HB2 := Lib.hid hb2; clear hr2 hb2)
        go_ret
        rw [HD.out]
        exact ⟨⟨rfl, u2, HR2.out⟩, (HBa.out.mono hBw).trans HB2.out⟩

end Go.Proofs.Ytndnialpedocnaa.Udol
