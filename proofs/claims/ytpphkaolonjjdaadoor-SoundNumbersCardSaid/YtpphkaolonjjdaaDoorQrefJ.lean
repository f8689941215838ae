/- The document's reference: what stands between brackets (by what parse says one level lower). -/
import Derived.Deep.RegionHeld3
import Derived.Test.YtpphkaolonjjdaaDoorNodJ
import Derived.Test.YtpphkaolonjjdaaDoorQendsJ
import Derived.Test.YtpphkaolonjjdaaDoorQnameJ
import Derived.Test.YtpphkaolonjjdaaDoorFrsJ
namespace Go.Proofs.YtpphkaolonjjdaaDoor.Qref
open Go.RowKit Go.Proofs.YtpphkaolonjjdaaDoor.Strs Go.Proofs.YtpphkaolonjjdaaDoor.Spl Go.Proofs.YtpphkaolonjjdaaDoor.Nodm Go.Proofs.YtpphkaolonjjdaaDoor.Qput Go.Proofs.YtpphkaolonjjdaaDoor.Qwhole Go.Proofs.YtpphkaolonjjdaaDoor.Qlist Go.Proofs.YtpphkaolonjjdaaDoor.Qname Go.Proofs.YtpphkaolonjjdaaDoor.Qcuts
open Go.Proofs.YtpphkaolonjjdaaDoor.Pure (bs)

/-- a node, or whatever with an error -/
def RefOf (S : Nat → Prop) (W : World) (v : Value) : Rd Nod → Prop
  | .ok n => NodeIn S W v n
  | .bad _ => ∃ (k : Nat) (s : T) (A : Option Addr) (n c : Nat), v = .agg #[.int .i64 (k : Int), .string (bs s), .slice A n c]
theorem errNo_map {α β : Type} (f : α → β) : ∀ x : Rd α, errNo (x.map f) = errNo x
  | .ok _ => rfl
  | .bad .form => rfl
  | .bad .few => rfl
  | .bad .deep => rfl
theorem RowOf.form {S : Nat → Prop} {W : World} {v : Value} : ∀ {x : Rd (List Nod)}, RowOf S W v x → ∃ A n c, v = .slice A n c
  | .ok _, ⟨A, c, h, _⟩ => ⟨A, _, c, h⟩
  | .bad _, h => ⟨none, 0, 0, h⟩
/-- a list's answer, as a node's -/
theorem RefOf.of {S S' : Nat → Prop} {W W' : World} {k : Nat} {s : T} {A : Option Addr} {n c : Nat} : ∀ {x : Rd (List Nod)}, RowOf S W (.slice A n c) x → (∀ b, S b → b < W.heap.size → S' b ∧ W'.heap[b]? = W.heap[b]?) → W.heap.size ≤ W'.heap.size → RefOf S' W' (.agg #[.int .i64 (k : Int), .string (bs s), .slice A n c]) (x.map (.mk k s))
  | .ok _, ⟨A', c', h, hn⟩, hs, hz => by
    simp only [Value.slice.injEq] at h
    obtain ⟨rfl, rfl, rfl⟩ := h
    exact (hn.move hs hz).node k s
  | .bad _, _, _, _ => ⟨k, s, A, n, c, rfl⟩
theorem one_is (W : World) (s : T) (t : TypeId) : SlIs (W.alloc (.cells #[.string (bs s)] t)) (some ⟨W.heap.size, 0, none⟩) 1 ([s].map bs) := by
  refine ⟨Nat.le_refl _, .inr ⟨W.heap.size, 0, rfl, by rw [World.size_alloc]; omega, fun j x hj => ?_⟩⟩
  cases j with
  | zero =>
    cases hj
    rw [Lib.cell_of_heap (heap_alloc_new W _)]; rfl
  | succ j => cases hj

set_option maxRecDepth 100000 in
set_option maxHeartbeats 4000000 in
/-- no call -/
theorem ref_plain (N : Nat) (p : T → Rd Nod) (M : Nat) (HP0 : ReadIs N p M) (s : T) (o : UInt8) (q : Int) (w : World) (hs : s.length ≤ 1000000) (hM : s.length ≤ M) (hn : nameP s = none) (hk : cutsP s = none) :
    Calls Tryd.prog 31 #[.string (bs s), .int .i64 (N : Int), .int .u8 ((o.toNat : Nat) : Int), .int .u8 q] w fun e W' => ∃ v, e = .returned (.tuple #[v, .int .i64 (errNo (refP p o s) : Int)]) ∧ RefOf (fun b => w.heap.size ≤ b) W' v (refP p o s) ∧ Below w.heap.size w W' := by
  have hnm : nameT s = [] := by unfold nameT; rw [hn]
  have hcut : cutI s = (-1, -1) := by unfold cutI; rw [hk]
  have he : ((bs []).toList == []) = true := by rw [Lib.toList_data]; rfl
  have hR : refP p o s = (listP p [s]).map (.mk 2 []) := by unfold refP; rw [hn]; dsimp only; rw [hk]
  have HE := Lib.hid (errNo_map (Nod.mk 2 []) (listP p [s]))
  rw [hR]
  have HL := Lib.hid (fun W A c h => list_is N p M HP0 [s] A c W (by show 1 ≤ 1000000; decide) (fun t ht => by rw [List.mem_singleton.1 ht]; exact hM) h)
  clear hn hk hR hM HP0
  go_enter Tryd.func31, Tryd.ntmps31
  go_upto_region 14 with (first | (go_at_call 40; refine (name_is s _ hs).mono ?_; rintro e W1 ⟨rfl, hb1⟩; have HB1 := Lib.hid hb1; rw [hnm]; clear hb1) | (go_at_call 44; refine (cuts_is s _ hs).mono ?_; rintro e W2 ⟨rfl, rfl⟩; rw [hcut]))
  have HC := Lib.hid (HL.out _ _ _ (one_is W1 s 9))
  obtain ⟨W2, hW2⟩ : ∃ W2, W2 = W1.alloc (.cells #[.string (bs s)] 9) := ⟨_, rfl⟩
  rw [← hW2] at HC ⊢
  have hb12 : Below W1.heap.size W1 W2 := by rw [hW2]; exact (Below.refl _ _).alloc (Nat.le_refl _) _
  have hb1 := HB1.out
  simp only [World.size_alloc] at hb1
  have hz1 := hb1.size
  simp only [World.size_alloc] at hz1
  have hz2 := hb12.size
  clear hW2 hcut hnm
  go_upto_region 15 with (go_at_call 43; refine HC.out.mono ?_; rintro e W3 ⟨v, rfl, hv, hb3⟩; obtain ⟨A3, n3, c3, rfl⟩ := RowOf.form hv; have HV := Lib.hid hv; have HB3 := Lib.hid hb3; clear hv hb3)
  have hb3 := HB3.out
  have hz3 := hb3.size
  have hg0 : W3.heap[w.heap.size]? = some (.cells #[.int .i64 0, .string .empty, .slice none 0 0] 31) := (hb3.block _ (by omega)).trans ((hb12.block _ (by omega)).trans ((hb1.block _ (by omega)).trans (heap_alloc_new w _)))
  have hbw : Below w.heap.size w W3 := ((Below.refl _ w).alloc (Nat.le_refl _) _).trans ((hb1.mono (by omega)).trans ((hb12.mono (by omega)).trans (hb3.mono (by omega))))
  have HBw := Lib.hid hbw
  have hsz3 : w.heap.size < W2.heap.size := by omega
  obtain ⟨e0, e1, e2⟩ := cells_three hg0
  have f0 := frozen_of_row W3 w.heap.size 0 _ _ hg0
  have f1 := frozen_of_row W3 w.heap.size 1 _ _ hg0
  have f2 := frozen_of_row W3 w.heap.size 2 _ _ hg0
  have hsz4 : w.heap.size ≤ W2.heap.size := by omega
  clear hb1 hb3 hb12 hz1 hz2 HB1 HB3 hbw HC HL
  go_wp2_with fail
  obtain ⟨W4, hW4⟩ : ∃ W4, ((W3.setCell ⟨w.heap.size, 0, none⟩ (.int .i64 2)).setCell ⟨w.heap.size, 1, none⟩ (.string ByteArray.empty)).setCell ⟨w.heap.size, 2, none⟩ (.slice A3 n3 c3) = W4 := ⟨_, rfl⟩
  obtain ⟨z1, z2, z3, z4⟩ := three_far W3 W4 _ _ _ _ _ _ _ _ hg0 hW4
  obtain ⟨y0, y1, y2⟩ := cells_three z1
  first | rw [hW4] | rw [show (Value.string { data := #[] }) = Value.string ByteArray.empty from rfl, hW4]
  refine bodyPost_ret (v := .tuple #[.agg #[.int .i64 2, .string ByteArray.empty, .slice A3 n3 c3], .int .i64 (errNo (listP p [s]) : Int)]) (by simp [results, Tryd.results31, go_sem, y0, y1, y2]) rfl ?_
  exact ⟨_, by rw [HE.out]; rfl, RefOf.of HV.out (fun b hb hlt => ⟨by omega, z3 b (by omega)⟩) z2, HBw.out.trans z4⟩

theorem three_texts (W : World) (a b c : T) (t : TypeId) : SlIs (W.alloc (.cells #[.string (bs a), .string (bs b), .string (bs c)] t)) (some ⟨W.heap.size, 0, none⟩) 3 ([a, b, c].map bs) := by
  refine ⟨Nat.le_refl _, .inr ⟨W.heap.size, 0, rfl, by rw [World.size_alloc]; omega, fun j x hj => ?_⟩⟩
  rw [Lib.cell_of_heap (heap_alloc_new W _)]
  match j, hj with
  | 0, hj => cases hj; rfl
  | 1, hj => cases hj; rfl
  | 2, hj => cases hj; rfl
  | j + 3, hj => cases hj
theorem parts_cut (a b c : T) : (bs (a ++ 58 :: (b ++ 61 :: c))).extract 0 a.length = bs a ∧ (bs (a ++ 58 :: (b ++ 61 :: c))).extract (a.length + 1) (a.length + 1 + b.length) = bs b ∧ (bs (a ++ 58 :: (b ++ 61 :: c))).extract (a.length + 1 + b.length + 1) (a ++ 58 :: (b ++ 61 :: c)).length = bs c := by
  have hx : ∀ (s : T) (f k : Nat), (bs s).extract f k = bs ((s.drop f).take (k - f)) := fun s f k => Pure.ext_data (by
    have h := Lib.extract_toList (bs s) f k
    rw [Lib.toList_data] at h
    rw [h]
    rfl)
  have e1 : (a ++ 58 :: (b ++ 61 :: c)).drop (a.length + 1) = b ++ 61 :: c := by rw [← List.drop_drop, List.drop_left]; rfl
  have e2 : (a ++ 58 :: (b ++ 61 :: c)).drop (a.length + 1 + b.length + 1) = c := by rw [Nat.add_assoc (a.length + 1), ← List.drop_drop, e1, ← List.drop_drop, List.drop_left]; rfl
  refine ⟨?_, ?_, ?_⟩
  · rw [hx, List.drop_zero, Nat.sub_zero, List.take_left]
  · rw [hx, e1, Nat.add_sub_cancel_left, List.take_left]
  · rw [hx, e2, List.take_of_length_le (by simp; omega)]

set_option maxRecDepth 100000 in
set_option maxHeartbeats 4000000 in
/-- a substitution -/
theorem ref_sub (N : Nat) (p : T → Rd Nod) (M : Nat) (HP0 : ReadIs N p M) (s : T) (o : UInt8) (q : Int) (w : World) (hs : s.length ≤ 1000000) (hM : s.length ≤ M) (hn : nameP s = none) (x y z : T) (hk : cutsP s = some (x, y, z)) :
    Calls Tryd.prog 31 #[.string (bs s), .int .i64 (N : Int), .int .u8 ((o.toNat : Nat) : Int), .int .u8 q] w fun e W' => ∃ v, e = .returned (.tuple #[v, .int .i64 (errNo (refP p o s) : Int)]) ∧ RefOf (fun b => w.heap.size ≤ b) W' v (refP p o s) ∧ Below w.heap.size w W' := by
  have hnm : nameT s = [] := by unfold nameT; rw [hn]
  have hcut : cutI s = ((x.length : Int), ((x.length + 1 + y.length : Nat) : Int)) := by unfold cutI; rw [hk]
  have he : ((bs []).toList == []) = true := by rw [Lib.toList_data]; rfl
  have hR : refP p o s = (listP p [x, y, z]).map (.mk 3 []) := by unfold refP; rw [hn]; dsimp only; rw [hk]
  have hsp := cuts_split hk
  have hlen : s.length = x.length + 1 + y.length + 1 + z.length := by rw [hsp]; simp; omega
  have hMt : ∀ t ∈ [x, y, z], t.length ≤ M := by
    intro t ht
    simp only [List.mem_cons, List.not_mem_nil, or_false] at ht
    rcases ht with rfl | rfl | rfl <;> omega
  obtain ⟨x1, x2, x3⟩ := parts_cut x y z
  rw [← hsp] at x1 x2 x3
  rw [hlen] at x3
  have hsz : (bs s).size = s.length := Pure.size_bs s
  have HE := Lib.hid (errNo_map (Nod.mk 3 []) (listP p [x, y, z]))
  rw [hR]
  have HL := Lib.hid (fun W A c h => list_is N p M HP0 [x, y, z] A c W (by show 3 ≤ 1000000; decide) hMt h)
  clear hn hk hR hM HP0 hMt hsp
  go_enter Tryd.func31, Tryd.ntmps31
  go_upto_region 13 with (first | (go_at_call 40; refine (name_is s _ hs).mono ?_; rintro e W1 ⟨rfl, hb1⟩; have HB1 := Lib.hid hb1; rw [hnm]; clear hb1) | (go_at_call 44; refine (cuts_is s _ hs).mono ?_; rintro e W2 ⟨rfl, rfl⟩; rw [hcut]))
  have b1 : (0 : Int) ≤ (x.length : Int) := by omega
  have b2 : (x.length : Int) ≤ (s.length : Int) := by omega
  go_region
  have hsl : SlIs (((W1.alloc (.cells #[.string (bs s)] 9)).alloc (.cells #[.string (bs x), .string (bs y), .string (bs z)] 9)).drew) (some ⟨W1.heap.size + 1, 0, none⟩) 3 ([x, y, z].map bs) := by
    have := (three_texts (W1.alloc (.cells #[.string (bs s)] 9)) x y z 9).below ((Below.refl _ _).drew)
    rw [World.size_alloc] at this
    exact this
  have HC := Lib.hid (HL.out _ _ _ hsl)
  obtain ⟨W2, hW2⟩ : ∃ W2, W2 = ((W1.alloc (.cells #[.string (bs s)] 9)).alloc (.cells #[.string (bs x), .string (bs y), .string (bs z)] 9)).drew := ⟨_, rfl⟩
  rw [← hW2] at HC ⊢
  clear hsl b1 b2
  have hb12 : Below W1.heap.size W1 W2 := by rw [hW2]; exact (((Below.refl _ _).alloc (Nat.le_refl _) _).alloc (by rw [World.size_alloc]; omega) _).drew
  have hb1 := HB1.out
  simp only [World.size_alloc] at hb1
  have hz1 := hb1.size
  simp only [World.size_alloc] at hz1
  have hz2 := hb12.size
  clear hW2 hcut hnm
  clear x1 x2 x3 hlen
  go_upto_region 15 with (go_at_call 43; refine HC.out.mono ?_; rintro e W3 ⟨v, rfl, hv, hb3⟩; obtain ⟨A3, n3, c3, rfl⟩ := RowOf.form hv; have HV := Lib.hid hv; have HB3 := Lib.hid hb3; clear hv hb3)
  have hb3 := HB3.out
  have hz3 := hb3.size
  have hg0 : W3.heap[w.heap.size]? = some (.cells #[.int .i64 0, .string .empty, .slice none 0 0] 31) := (hb3.block _ (by omega)).trans ((hb12.block _ (by omega)).trans ((hb1.block _ (by omega)).trans (heap_alloc_new w _)))
  have hbw : Below w.heap.size w W3 := ((Below.refl _ w).alloc (Nat.le_refl _) _).trans ((hb1.mono (by omega)).trans ((hb12.mono (by omega)).trans (hb3.mono (by omega))))
  have HBw := Lib.hid hbw
  have hsz3 : w.heap.size < W2.heap.size := by omega
  obtain ⟨e0, e1, e2⟩ := cells_three hg0
  have f0 := frozen_of_row W3 w.heap.size 0 _ _ hg0
  have f1 := frozen_of_row W3 w.heap.size 1 _ _ hg0
  have f2 := frozen_of_row W3 w.heap.size 2 _ _ hg0
  have hsz4 : w.heap.size ≤ W2.heap.size := by omega
  clear hb1 hb3 hb12 hz1 hz2 HB1 HB3 hbw HC HL
  go_wp2_with fail
  obtain ⟨W4, hW4⟩ : ∃ W4, ((W3.setCell ⟨w.heap.size, 0, none⟩ (.int .i64 3)).setCell ⟨w.heap.size, 1, none⟩ (.string ByteArray.empty)).setCell ⟨w.heap.size, 2, none⟩ (.slice A3 n3 c3) = W4 := ⟨_, rfl⟩
  obtain ⟨z1, z2, z3, z4⟩ := three_far W3 W4 _ _ _ _ _ _ _ _ hg0 hW4
  obtain ⟨y0, y1, y2⟩ := cells_three z1
  first | rw [hW4] | rw [show (Value.string { data := #[] }) = Value.string ByteArray.empty from rfl, hW4]
  refine bodyPost_ret (v := .tuple #[.agg #[.int .i64 3, .string ByteArray.empty, .slice A3 n3 c3], .int .i64 (errNo (listP p [x, y, z]) : Int)]) (by simp [results, Tryd.results31, go_sem, y0, y1, y2]) rfl ?_
  exact ⟨_, by rw [HE.out]; rfl, RefOf.of HV.out (fun b hb hlt => ⟨by omega, z3 b (by omega)⟩) z2, HBw.out.trans z4⟩

theorem look_mem : ∀ {l : List (T × Fpl.Inf)} {x : T} {i : Fpl.Inf}, Fpl.lookI l x = some i → (x, i) ∈ l
  | [], _, _, h => by cases h
  | (y, k) :: l, x, i, h => by
    unfold Fpl.lookI at h
    by_cases e : y = x
    · rw [if_pos e] at h
      cases h
      rw [e]
      exact List.mem_cons_self ..
    · rw [if_neg e] at h
      exact List.mem_cons_of_mem _ (look_mem h)
theorem tab_bounds : (Fpl.tab.all fun x => decide (x.1 ≠ [] ∧ 0 ≤ x.2.mn ∧ x.2.mn ≤ 100 ∧ 0 ≤ x.2.mx ∧ x.2.mx ≤ 100)) = true := by kernel_rfl
theorem name_parts {s f r : T} {i : Fpl.Inf} (h : nameP s = some (f, r, i)) : s = f ++ r ∧ Fpl.lookI Fpl.tab f = some i := by
  unfold nameP at h
  have e : s.takeWhile letB ++ s.dropWhile letB = s := List.takeWhile_append_dropWhile
  cases h1 : s.dropWhile letB with
  | nil => rw [h1] at h; cases h
  | cons b r' =>
    cases h2 : Fpl.lookI Fpl.tab (s.takeWhile letB) with
    | none => rw [h1, h2] at h; cases h
    | some k =>
      rw [h1, h2] at h
      dsimp only at h
      split at h
      · cases h
        exact ⟨by rw [← h1]; exact e.symm, h2⟩
      · cases h

theorem args_len (o c : UInt8) : ∀ (s : T) (d : Nat) (m : Option Nat) (cur : T), (argsP o c d m cur s).length ≤ s.length + 1 ∧ ∀ t ∈ argsP o c d m cur s, t.length ≤ cur.length + s.length
  | [], d, m, cur => by
    rw [argsP]
    exact ⟨Nat.le_refl _, fun t ht => by rw [List.mem_singleton.1 ht]; omega⟩
  | b :: r, d, m, cur => by
    have hstep : ∀ d m, (argsP o c d m (cur ++ [b]) r).length ≤ (b :: r).length + 1 ∧ ∀ t ∈ argsP o c d m (cur ++ [b]) r, t.length ≤ cur.length + (b :: r).length := fun d m => by
      obtain ⟨h1, h2⟩ := args_len o c r d m (cur ++ [b])
      refine ⟨by rw [List.length_cons]; omega, fun t ht => ?_⟩
      have := h2 t ht
      rw [List.length_append, List.length_singleton] at this
      rw [List.length_cons]; omega
    rw [argsP]
    split
    · exact hstep _ _
    · split
      · exact hstep _ _
      · split
        · obtain ⟨h1, h2⟩ := args_len o c r 0 (m.map (· - 1)) []
          refine ⟨by rw [List.length_cons, List.length_cons]; omega, fun t ht => ?_⟩
          rcases List.mem_cons.1 ht with rfl | h
          · omega
          · have := h2 t h
            rw [List.length_nil] at this
            rw [List.length_cons]; omega
        · exact hstep _ _

set_option maxRecDepth 100000 in
set_option maxHeartbeats 400000 in
/-- a call -/
theorem ref_call (N : Nat) (p : T → Rd Nod) (M : Nat) (HP0 : ReadIs N p M) (s : T) (o : UInt8) (w : World) (hs : s.length ≤ 1000000) (hM : s.length ≤ M) (f r : T) (n1 n2 : Nat) (lz pu : Bool) (hn : nameP s = some (f, r, ⟨n1, n2, lz, pu⟩)) :
    Calls Tryd.prog 31 #[.string (bs s), .int .i64 (N : Int), .int .u8 ((o.toNat : Nat) : Int), .int .u8 (((shutOf o).toNat : Nat) : Int)] w fun e W' => ∃ v, e = .returned (.tuple #[v, .int .i64 (errNo (refP p o s) : Int)]) ∧ RefOf (fun b => w.heap.size ≤ b) W' v (refP p o s) ∧ Below w.heap.size w W' := by
  have hnm : nameT s = f := by unfold nameT; rw [hn]
  obtain ⟨hsp, hlk⟩ := name_parts hn
  obtain ⟨hf, _, _, _, hn2⟩ := of_decide_eq_true (List.all_eq_true.1 tab_bounds _ (look_mem hlk))
  have hn2' : n2 ≤ 100 := by have : ((n2 : Nat) : Int) ≤ 100 := hn2; omega
  have he : ((bs f).toList == []) = false := by
    rw [Lib.toList_data, show (bs f).data.toList = f from rfl]
    cases f with
    | nil => exact absurd rfl hf
    | cons x r => rfl
  have hfv : Frd.refV (bs f) = .tuple #[.agg #[.int .i64 (n1 : Int), .int .i64 (n2 : Int), .bool lz, .bool pu], .bool true] := by
    unfold Frd.refV
    rw [show (bs f).data.toList = f from rfl, Frd.refI_eq, hlk]; rfl
  have hsz : (bs s).size = s.length := Pure.size_bs s
  have hlen : s.length = f.length + r.length := by rw [hsp, List.length_append]
  have hex : (bs s).extract f.length s.length = bs r := Pure.ext_data (by
    have h := Lib.extract_toList (bs s) f.length s.length
    rw [Lib.toList_data] at h
    rw [h]
    show (s.drop f.length).take _ = r
    rw [hsp, List.drop_left, List.take_of_length_le (by simp)])
  have hlf : Pure.leftB (bs r) = bs (Pure.left r) := rfl
  have hll : (Pure.left r).length ≤ r.length := Pure.left_length _
  obtain ⟨l, hl⟩ : ∃ l, l = argsP o (shutOf o) 0 (Qargs.more n2 0) [] (Pure.left r) := ⟨_, rfl⟩
  have hR : refP p o s = if l.length < n1 then .bad .few else (listP p l).map (.mk 4 f) := by
    unfold refP
    rw [hn]
    dsimp only
    rw [hl, show Qargs.more n2 0 = (if ((n2 : Nat) : Int) = 0 then none else some (((n2 : Nat) : Int).toNat - 1)) from by
      unfold Qargs.more
      by_cases h0 : n2 = 0
      · rw [if_pos h0, if_pos (by omega)]
      · rw [if_neg h0, if_neg (by omega)]; rfl]
    rfl
  have hfl : f.length ≤ s.length := by omega
  have HA := Lib.hid (fun W => Qargs.args_is (Pure.left r) n2 o (shutOf o) W (by omega) hn2')
  have hal := args_len o (shutOf o) (Pure.left r) 0 (Qargs.more n2 0) []
  rw [← hl] at HA hal
  have hfp : 0 < f.length := List.length_pos_iff.2 (show f ≠ [] from hf)
  have hll1 : l.length ≤ 1000000 := by have := hal.1; omega
  have HL := Lib.hid (fun A c W h => list_is N p M HP0 l A c W hll1 (fun t ht => by have := hal.2 t ht; rw [List.length_nil] at this; omega) h)
  have HE := Lib.hid (errNo_map (Nod.mk 4 f) (listP p l))
  have HX := Lib.hid hex
  have HLf := Lib.hid hlf
  have hrz : (bs r).size ≤ maxLen := by rw [Pure.size_bs]; unfold maxLen; omega
  have HRR := Lib.hid hR
  clear hfp hll1 hn hR hsp hlk hf hl hal hM HP0 hll hlen hex hlf hn2
  go_enter Tryd.func31, Tryd.ntmps31
  go_upto_region 4 with (first | (go_at_call 40; refine (name_is s _ hs).mono ?_; rintro e W1 ⟨rfl, hb1⟩; have HB1 := Lib.hid hb1; rw [hnm]; clear hb1) | (go_at_call 35; refine (Frd.refFind_is _ _).mono ?_; rintro e W2 ⟨rfl, hb2⟩; have HB2 := Lib.hid hb2; rw [hfv]; clear hb2))
  obtain ⟨W3, hW3⟩ : ∃ W3, W3 = W2.alloc (.cells #[.int .i64 (n1 : Int), .int .i64 (n2 : Int), .bool lz, .bool pu] 73) := ⟨_, rfl⟩
  have d0 : W3.cell? ⟨W2.heap.size, 0, none⟩ = some (.int .i64 (n1 : Int)) := by rw [hW3, Lib.cell_of_heap (heap_alloc_new W2 _)]; rfl
  have d1 : W3.cell? ⟨W2.heap.size, 1, none⟩ = some (.int .i64 (n2 : Int)) := by rw [hW3, Lib.cell_of_heap (heap_alloc_new W2 _)]; rfl
  have hz23 : W2.heap.size < W3.heap.size := by rw [hW3, World.size_alloc]; omega
  have HB3 : Hid (Below W2.heap.size W2 W3) := by
    show Below _ _ _
    rw [hW3]; exact (Below.refl _ _).alloc (Nat.le_refl _) _
  have hsf : (bs f).size = f.length := Pure.size_bs f
  have i1 : (0 : Int) ≤ (f.length : Int) := by omega
  have i2 : (f.length : Int) ≤ (s.length : Int) := by omega
  have hex2 := HX.out
  have hlf2 := HLf.out
  rw [← hW3]
  clear hW3
  go_region_held3 (fun w' => W2.heap.size < w'.heap.size ∧ w'.cell? ⟨W2.heap.size, 0, none⟩ = some (.int .i64 (n1 : Int)) ∧ w'.cell? ⟨W2.heap.size, 1, none⟩ = some (.int .i64 (n2 : Int))) (first | go_keep | exact ⟨hz23, d0, d1⟩ | exact ⟨Nat.lt_of_lt_of_le hz23 hb5.size, (hb5.cell (p := ⟨W2.heap.size, 0, none⟩) hz23).trans d0, (hb5.cell (p := ⟨W2.heap.size, 1, none⟩) hz23).trans d1⟩) (first | (go_at_call 42; refine (Qleft.refLeft_any _ _ hrz).mono ?_; rintro e w4 ⟨rfl, rfl⟩; rw [hlf2]) | (go_at_call 41; refine (HA.out _).mono ?_; rintro e w5 ⟨v, rfl, hown, hb5⟩; obtain ⟨A4, c4, rfl, hsl⟩ := slIs_of_own (xs := l.map bs) (n := l.length) (List.length_map _) hown))
  obtain ⟨_, c0, _⟩ := ‹W2.heap.size < w5.heap.size ∧ _ ∧ _›
  have hb35 : Below W3.heap.size W3 w5 := ((Below.refl W3.heap.size W3).drew).trans hb5
  have hq1 := HB1.out
  simp only [World.size_alloc] at hq1
  have hq2 := HB2.out
  have hq3 := HB3.out
  have s1 := hq1.size
  simp only [World.size_alloc] at s1
  have s2 := hq2.size
  have s5 := hb35.size
  have hg5 : w5.heap[w.heap.size]? = some (.cells #[.int .i64 0, .string .empty, .slice none 0 0] 31) := (hb35.block _ (by omega)).trans ((hq3.block _ (by omega)).trans ((hq2.block _ (by omega)).trans ((hq1.block _ (by omega)).trans (heap_alloc_new w _))))
  have hbw : Below w.heap.size w w5 := ((Below.refl _ w).alloc (Nat.le_refl _) _).trans ((hq1.mono (by omega)).trans ((hq2.mono (by omega)).trans ((hq3.mono (by omega)).trans (hb35.mono (by omega)))))
  have HBw := Lib.hid hbw
  have hw5 : w.heap.size < w5.heap.size := by omega
  have HC := Lib.hid (HL.out A4 c4 w5 hsl)
  clear hb5 hb35 hq1 hq2 hq3 s1 s2 s5 hbw hsl hown HL HX HLf hex2 hlf2 HB1 HB2 HB3 d0 d1 hz23 i1 i2 HA
  by_cases hlt : l.length < n1
  · have hlt' : ((l.length : Nat) : Int) < (n1 : Int) := by omega
    have HRF : Hid (refP p o s = .bad .few) := by
      show _ = _
      rw [HRR.out, if_pos hlt]
    obtain ⟨e0, e1, e2⟩ := cells_three hg5
    have f0 := frozen_of_row w5 w.heap.size 0 _ _ hg5
    have f1 := frozen_of_row w5 w.heap.size 1 _ _ hg5
    have f2 := frozen_of_row w5 w.heap.size 2 _ _ hg5
    go_wp2_with fail
    obtain ⟨W4, hW4⟩ : ∃ W4, ((w5.setCell ⟨w.heap.size, 0, none⟩ (.int .i64 0)).setCell ⟨w.heap.size, 1, none⟩ (.string ByteArray.empty)).setCell ⟨w.heap.size, 2, none⟩ (.slice none 0 0) = W4 := ⟨_, rfl⟩
    obtain ⟨z1, z2, z3, z4⟩ := three_far w5 W4 _ _ _ _ _ _ _ _ hg5 hW4
    obtain ⟨y0, y1, y2⟩ := cells_three z1
    first | rw [hW4] | rw [show (Value.string { data := #[] }) = Value.string ByteArray.empty from rfl, hW4]
    refine bodyPost_ret (v := .tuple #[.agg #[.int .i64 0, .string ByteArray.empty, .slice none 0 0], .int .i64 5]) (by simp [results, Tryd.results31, go_sem, y0, y1, y2]) rfl ?_
    rw [HRF.out]
    exact ⟨_, rfl, ⟨0, [], none, 0, 0, rfl⟩, HBw.out.trans z4⟩
  · have hlt' : ¬ ((l.length : Nat) : Int) < (n1 : Int) := by omega
    have HRF : Hid (refP p o s = (listP p l).map (.mk 4 f)) := by
      show _ = _
      rw [HRR.out, if_neg hlt]
    clear hlt
    go_upto_region 8 with (go_at_call 43; refine HC.out.mono ?_; rintro e W6 ⟨v, rfl, hv, hb6⟩; obtain ⟨A3, n3, c3, rfl⟩ := RowOf.form hv; have HV := Lib.hid hv; have HB6 := Lib.hid hb6; clear hv hb6)
    have hz6 := HB6.out.size
    have hg0 : W6.heap[w.heap.size]? = some (.cells #[.int .i64 0, .string .empty, .slice none 0 0] 31) := (HB6.out.block _ hw5).trans hg5
    have HBz := Lib.hid (HBw.out.trans (HB6.out.mono (Nat.le_of_lt hw5)))
    obtain ⟨e0, e1, e2⟩ := cells_three hg0
    have f0 := frozen_of_row W6 w.heap.size 0 _ _ hg0
    have f1 := frozen_of_row W6 w.heap.size 1 _ _ hg0
    have f2 := frozen_of_row W6 w.heap.size 2 _ _ hg0
    clear HC HB6 hg5 c0
    go_wp2_with fail
    obtain ⟨W4, hW4⟩ : ∃ W4, ((W6.setCell ⟨w.heap.size, 0, none⟩ (.int .i64 4)).setCell ⟨w.heap.size, 1, none⟩ (.string (bs f))).setCell ⟨w.heap.size, 2, none⟩ (.slice A3 n3 c3) = W4 := ⟨_, rfl⟩
    obtain ⟨z1, z2, z3, z4⟩ := three_far W6 W4 _ _ _ _ _ _ _ _ hg0 hW4
    obtain ⟨y0, y1, y2⟩ := cells_three z1
    rw [hW4]
    refine bodyPost_ret (v := .tuple #[.agg #[.int .i64 4, .string (bs f), .slice A3 n3 c3], .int .i64 (errNo (listP p l) : Int)]) (by simp [results, Tryd.results31, go_sem, y0, y1, y2]) rfl ?_
    rw [HRF.out]
    exact ⟨_, by rw [HE.out]; rfl, RefOf.of HV.out (fun b hb hlt => ⟨by omega, z3 b (by omega)⟩) z2, HBz.out.trans z4⟩

/-- what stands between brackets, whatever it is -/
theorem ref_is (N : Nat) (p : T → Rd Nod) (M : Nat) (HP0 : ReadIs N p M) (s : T) (o : UInt8) (w : World) (hs : s.length ≤ 1000000) (hM : s.length ≤ M) :
    Calls Tryd.prog 31 #[.string (bs s), .int .i64 (N : Int), .int .u8 ((o.toNat : Nat) : Int), .int .u8 (((shutOf o).toNat : Nat) : Int)] w fun e W' => ∃ v, e = .returned (.tuple #[v, .int .i64 (errNo (refP p o s) : Int)]) ∧ RefOf (fun b => w.heap.size ≤ b) W' v (refP p o s) ∧ Below w.heap.size w W' := by
  cases hn : nameP s with
  | none =>
    cases hk : cutsP s with
    | none => exact ref_plain N p M HP0 s o _ w hs hM hn hk
    | some x =>
      obtain ⟨x, y, z⟩ := x
      exact ref_sub N p M HP0 s o _ w hs hM hn x y z hk
  | some x =>
    obtain ⟨f, r, mn, mx, lz, pu⟩ := x
    obtain ⟨_, h1, _, h2, _⟩ := of_decide_eq_true (List.all_eq_true.1 tab_bounds _ (look_mem (name_parts hn).2))
    obtain ⟨n1, rfl⟩ := Int.eq_ofNat_of_zero_le (show (0 : Int) ≤ mn from h1)
    obtain ⟨n2, rfl⟩ := Int.eq_ofNat_of_zero_le (show (0 : Int) ≤ mx from h2)
    exact ref_call N p M HP0 s o w hs hM f r n1 n2 lz pu hn

end Go.Proofs.YtpphkaolonjjdaaDoor.Qref
