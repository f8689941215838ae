/- The document's list: texts, each read (by what parse says one level lower). -/
import Derived.Test.YtfenlhbkdfmneaaQwhole
import Derived.Test.YtfenlhbkdfmneaaStrs
namespace Go.Proofs.Ytfenlhbkdfmneaa.Qlist
open Go.RowKit Go.Proofs.Ytfenlhbkdfmneaa.Strs Go.Proofs.Ytfenlhbkdfmneaa.Spl Go.Proofs.Ytfenlhbkdfmneaa.Nodm Go.Proofs.Ytfenlhbkdfmneaa.Qput Go.Proofs.Ytfenlhbkdfmneaa.Qwhole
open Go.Proofs.Ytfenlhbkdfmneaa.Pure (bs)

def errNo {α : Type} : Rd α → Nat
  | .ok _ => 0
  | .bad .form => 2
  | .bad .few => 5
  | .bad .deep => 8
def NodeOf (S : Nat → Prop) (W : World) (v : Value) : Rd Nod → Prop
  | .ok n => NodeIn S W v n
  | .bad _ => v = .agg #[.int .i64 0, .string .empty, .slice none 0 0]
def RowOf (S : Nat → Prop) (W : World) (v : Value) : Rd (List Nod) → Prop
  | .ok l => ∃ A c, v = .slice A l.length c ∧ NodesIn S W A c l
  | .bad _ => v = .slice none 0 0
/-- what parse answers of texts of at most M bytes -/
def ReadIs (N : Nat) (p : T → Rd Nod) (M : Nat) : Prop := ∀ (s : T) (w : World), s.length ≤ M → Calls Try.prog 20 #[.string (bs s), .int .i64 (N : Int)] w fun e W' => ∃ v, e = .returned (.tuple #[v, .int .i64 (errNo (p s) : Int)]) ∧ NodeOf (fun b => w.heap.size ≤ b) W' v (p s) ∧ Below w.heap.size w W'
theorem NodeOf.agg {S : Nat → Prop} {W : World} {v : Value} : ∀ {x : Rd Nod}, NodeOf S W v x → ∃ (k : Nat) (s : T) (A : Option Addr) (n c : Nat), v = .agg #[.int .i64 (k : Int), .string (bs s), .slice A n c]
  | .ok (.mk k s l), h => by
    obtain ⟨A, c, hv, _⟩ := NodeIn.inv h
    exact ⟨k, s, A, _, c, hv⟩
  | .bad _, h => ⟨0, [], none, 0, 0, h⟩
theorem listP_step (p : T → Rd Nod) (ts : List T) (k : Nat) (t : T) (h : ts[k]? = some t) : listP p (ts.drop k) = match p t with | .bad e => .bad e | .ok n => (listP p (ts.drop (k + 1))).map (n :: ·) := by
  obtain ⟨hk, e⟩ := List.getElem?_eq_some_iff.1 h
  rw [List.drop_eq_getElem_cons hk, e]
  rfl
theorem Rd.map_map {α β γ : Type} (f : α → β) (g : β → γ) : ∀ x : Rd α, (x.map f).map g = x.map fun a => g (f a)
  | .bad _ => rfl
  | .ok _ => rfl

set_option maxRecDepth 100000 in
set_option maxHeartbeats 4000000 in
theorem list_is (N : Nat) (p : T → Rd Nod) (M : Nat) (HP0 : ReadIs N p M) (ts : List T) (A : Option Addr) (c : Nat) (w : World) (hl : ts.length ≤ 1000000) (hM : ∀ t ∈ ts, t.length ≤ M) (h : SlIs w A c (ts.map bs)) :
    Calls Try.prog 51 #[.slice A ts.length c, .int .i64 (N : Int)] w fun e W' => ∃ v, e = .returned (.tuple #[v, .int .i64 (errNo (listP p ts) : Int)]) ∧ RowOf (fun b => w.heap.size ≤ b) W' v (listP p ts) ∧ Below w.heap.size w W' := by
  obtain ⟨i0, hi, hz0, hz1, hz2⟩ := info_parts infoNode
  have hc : ts.length ≤ c := by have := h.1; rwa [List.length_map] at this
  have HP := Lib.hid HP0
  have HN := Lib.hid h
  clear h
  go_enter Try.func51, Try.ntmps51
  go_wp2_with fail
  go_loopw [6, 7] (fun u i wr => ∃ (k : Nat) (acc : List Nod), k ≤ ts.length ∧ acc.length = k ∧ i = .int .i64 k ∧ Hid (Row (fun b => w.heap.size ≤ b) w.heap.size wr u acc) ∧ Hid (Below w.heap.size w wr) ∧ Hid (listP p ts = (listP p (ts.drop k)).map (acc ++ ·))) (fun _ i _ => ts.length - (intOf i).toNat)
  case atStart =>
    refine ⟨0, [], Nat.zero_le _, rfl, rfl, Row.nil _ _ _, Below.refl _ _, ?_⟩
    show _ = _
    rw [List.drop_zero]
    cases listP p ts <;> rfl
  case round =>
    obtain ⟨k, acc, hk, hka, rfl, HR, HB, HL⟩ := hrel
    have hsz : w.heap.size ≤ wr.heap.size := HB.out.size
    by_cases hlt : k < ts.length
    · obtain ⟨t, ht⟩ : ∃ t, ts[k]? = some t := ⟨ts[k]'hlt, List.getElem?_eq_getElem hlt⟩
      obtain ⟨b, o, rfl, hb, hcell⟩ := HN.out.at_ (x := bs t) (by rw [List.getElem?_map, ht]; rfl)
      have d0 := hcell wr HB.out
      have HC := Lib.hid (HP.out t wr (hM t (List.mem_of_getElem? ht)))
      have HS := Lib.hid (listP_step p ts k t ht)
      clear hcell HN HP
      go_upto_region 6 with (go_at_call 20; refine HC.out.mono ?_; rintro e W' ⟨v, rfl, hv, hb2⟩; obtain ⟨k1, s1, A1, n1, c1, rfl⟩ := NodeOf.agg hv; have HV := Lib.hid hv; have HB2 := Lib.hid hb2; clear hv hb2)
      obtain ⟨W2, hW2⟩ : ∃ W2, W2 = W'.alloc (.cells #[.int .i64 (k1 : Int), .string (bs s1), .slice A1 n1 c1] 30) := ⟨_, rfl⟩
      have hcW : W2.heap[W'.heap.size]? = some (.cells #[.int .i64 (k1 : Int), .string (bs s1), .slice A1 n1 c1] 30) := by rw [hW2]; exact heap_alloc_new W' _
      obtain ⟨y0, y1, y2⟩ := cells_three hcW
      have hbW : Below W'.heap.size W' W2 := by rw [hW2]; exact (Below.refl _ _).alloc (Nat.le_refl _) _
      have hbr : Below wr.heap.size wr W2 := HB2.out.trans (hbW.mono HB2.out.size)
      have HB3 := Lib.hid (HB.out.trans (hbr.mono hsz))
      have hs2 : w.heap.size ≤ W2.heap.size := HB3.out.size
      have hs3 : w.heap.size ≤ W'.heap.size := Nat.le_trans hsz HB2.out.size
      rw [← hW2]
      clear hW2 HC
      generalize p t = x at HV HS ⊢
      cases x with
      | bad e =>
        have hne : (((errNo (Rd.bad e : Rd Nod) : Nat) : Int) == 0) = false := by cases e <;> rfl
        have HE : Hid (listP p ts = .bad e) := by
          show _ = _
          rw [HL.out, HS.out]; rfl
        have hee : errNo (Rd.bad e : Rd Nod) = errNo (Rd.bad e : Rd (List Nod)) := by cases e <;> rfl
        clear HV HS HL
        go_wp2_with fail
        go_ret2
        rw [HE.out, hee]
        exact ⟨_, rfl, rfl, HB3.out⟩
      | ok n =>
        rw [show ((errNo (Rd.ok n) : Nat) : Int) = 0 from rfl]
        have hown0 := HR.out.on hbr
        obtain ⟨vs, hown, hvl, hvn⟩ := hown0.row
        have HVl := Lib.hid hvl
        have HVn := Lib.hid hvn
        have HV2 : Hid (NodeIn (fun b => w.heap.size ≤ b ∧ u6.ownBlock ≠ some b) W2 (.agg #[.int .i64 (k1 : Int), .string (bs s1), .slice A1 n1 c1]) n) := by
          obtain ⟨vs0, ho0, _⟩ := HR.out.row
          exact (show NodeIn (fun b => wr.heap.size ≤ b) W' _ n from HV.out).move (fun b hb hlt => ⟨⟨Nat.le_trans hsz hb, fun e => by have := (ho0.lt b e).2; omega⟩, hbW.block b hlt⟩) hbW.size
        have HNw := Lib.hid (news3 W2 (.int .i64 (k1 : Int)) (.string (bs s1)) (.slice A1 n1 c1) 30)
        have HQ := Lib.hid hka
        have HL2 : Hid (listP p ts = (listP p (ts.drop (k + 1))).map ((acc ++ [n]) ++ ·)) := by
          show _ = _
          rw [HL.out, HS.out]
          show ((listP p (ts.drop (k + 1))).map (n :: ·)).map (acc ++ ·) = _
          rw [Rd.map_map]
          congr 1
          funext a
          rw [List.append_assoc]; rfl
        rw [hka] at hown
        clear hvl hvn hown0 HV HS HL HR HB2 hbW hbr hcW hlt
        go_upto_region 8 with fail
        go_wp2_with (at_builtin; refine wpList_append_lies _ rfl _ _ 28 rfl w.heap.size 30 i0 (.agg #[.int .i64 0, .string .empty, .slice none 0 0]) 3 48 Try.underlying28 hi hz0 hz1 hz2 rfl (by decide) _ _ _ rfl (hown.alloc _) ⟨W2.heap.size, 0, none⟩ 1 1 [.int .i64 (k1 : Int), .string (bs s1), .slice A1 n1 c1] rfl rfl HNw.out (by simp [Value.oneCell']) (by omega) (by unfold maxLen; omega) (by omega) (by simp; omega) _ rfl ?_; intro g' cap' wA hown' hgrow hlies _; have HR2 := Lib.hid (Row.snocn HQ.out HVl.out HVn.out HV2.out hown' hgrow hlies); have HGA := Lib.hid (below_row HB3.out (Nat.le_refl _) hown hgrow); clear hown' hgrow hlies)
        go_roundw
        case rel => exact ⟨k + 1, acc ++ [n], by have := (List.getElem?_eq_some_iff.1 ht).1; omega, by rw [List.length_append, hka]; rfl, by go_num, HR2.out, HGA.out, HL2⟩
        case measure => (have := (List.getElem?_eq_some_iff.1 ht).1); simp [intOf]; omega
    · obtain rfl : k = ts.length := by omega
      have HE : Hid (listP p ts = .ok acc) := by
        show _ = _
        rw [HL.out, List.drop_of_length_le (Nat.le_refl _)]
        show Rd.ok (acc ++ []) = _
        rw [List.append_nil]
      obtain ⟨A2, c2, rfl, hin⟩ := Row.slice HR.out (fun b hb => hb)
      go_wp2_with fail
      go_ret2
      rw [HE.out]
      exact ⟨_, rfl, ⟨A2, c2, by rw [hka]; rfl, hin⟩, HB.out⟩

end Go.Proofs.Ytfenlhbkdfmneaa.Qlist
