/- What the program's Dir, Notdir, Suffix and Base answer. -/
import Derived.WalkKit
import Derived.WalkSpells
import Derived.IntWalk
import Derived.Below
import Derived.Lib.Hide
import Derived.Test.YtghfmbmdfojapaaGreatDoorShelf
import Derived.Test.YtghfmbmdfojapaaGreatDoorPthJ
import Derived.OwnWalk
import Derived.Laws.OwnMore
import Derived.Lib.IndexBytes
namespace Go.Proofs.YtghfmbmdfojapaaGreatDoor.Pfn
open Go.RowKit Go.Proofs.YtghfmbmdfojapaaGreatDoor.Pth

theorem ret_int {k : IntKind} {a b : Int} (h : a = b) : Ending.returned (.int k a) = .returned (.int k b) := by rw [h]
theorem ret_str {a b : ByteArray} (h : a = b) : Ending.returned (.string a) = .returned (.string b) := by rw [h]







end Go.Proofs.YtghfmbmdfojapaaGreatDoor.Pfn

/- What the library's Split at a slash, the program's settle and Abs answer. -/
namespace Go.Proofs.YtghfmbmdfojapaaGreatDoor.Pabs
open Go.RowKit Go.Proofs.YtghfmbmdfojapaaGreatDoor.Pth Go.Proofs.YtghfmbmdfojapaaGreatDoor.Pfn

theorem genSplit_is (s : ByteArray) (w : World) (hs : s.size < 4294967281) :
    Calls Tryz.prog 57 #[.string s, .string ⟨#[47]⟩, .int .i64 0, .int .i64 (-1)] w fun e w' =>
      e = .returned (.slice (some ⟨w.heap.size, 0, none⟩) (partsB s).length (partsB s).length) ∧ w' = w.alloc (.cells ((partsB s).map Value.string).toArray 9) := by
  have h1 : 1 ≤ (⟨#[47]⟩ : ByteArray).size := Nat.le_refl _
  have hle := Lib.countB_le ⟨#[47]⟩ h1 s.size s (Nat.le_refl _)
  have hlen := Lib.splitB_all ⟨#[47]⟩ h1 0 _ s rfl
  have c := Any.strings_genSplit_core Tryz.lays221 (by kernel_rfl) s ⟨#[47]⟩ 0 (-1) (Lib.countB s ⟨#[47]⟩ + 1) w hs h1 (Nat.zero_le _)
    (fun x c _ => (Tryz.strings_Index_one x 47 _).mono fun e w' ⟨he, hw⟩ => ⟨by rw [he, ← Lib.index_one], hw⟩)
    ((Tryz.strings_Count_one s 47 w).mono fun e w' ⟨he, hw⟩ => ⟨by
      rw [he]
      show _ = Ending.returned (Value.int .i64 ((Lib.count s.data.toList [47] : Nat) : Int))
      rw [Lib.count_one]
      rfl, hw⟩) (by decide) (by decide) (by rw [if_pos (by decide)]; omega)
  have e2 : Lib.cellsOf (Lib.splitB ⟨#[47]⟩ 0 (Lib.countB s ⟨#[47]⟩) s) (Lib.countB s ⟨#[47]⟩ + 1) = ((Lib.splitB ⟨#[47]⟩ 0 (Lib.countB s ⟨#[47]⟩) s).map Value.string).toArray := by rw [← hlen]; exact Lib.cellsOf_full _
  rw [Nat.add_sub_cancel, e2, splitB_is] at c
  rw [splitB_is] at hlen
  rw [← hlen] at c
  exact c

set_option maxHeartbeats 400000 in
theorem split_is (s : ByteArray) (w : World) (hs : s.size < 4294967281) :
    Calls Tryz.prog 35 #[.string s, .string ⟨#[47]⟩] w fun e w' =>
      e = .returned (.slice (some ⟨w.heap.size, 0, none⟩) (partsB s).length (partsB s).length) ∧ w' = w.alloc (.cells ((partsB s).map Value.string).toArray 9) := by
  have HG := Lib.hid (genSplit_is s w hs)
  generalize (partsB s).length = n at HG ⊢
  generalize ((partsB s).map Value.string).toArray = cs at HG ⊢
  go_enter Tryz.func35, Tryz.ntmps35
  go_wp2_with fail
  refine HG.out.mono ?_
  rintro e w' ⟨rfl, hw⟩
  clear HG
  go_wp2
  go_ret
  exact ⟨rfl, rfl⟩

/-- append of one cell within the capacity, in a row of which all cells are known -/
theorem wpList_append_row {P : Program} (w : World) {ops : Array Oper} {rest : List Oper} {o : Oper} {a : Act} {Q : Exit → Act → World → Prop}
    (hg : o.guard = none) (s x : Operand) (t : TypeId) (hop : o.op = Op.call { callee := Callee.builtin Builtin.append, args := #[s, x], argTypes := #[t, t] })
    (e : TypeId) (i : TypeInfo) (h1 : P.underlying t = some (.slice e)) (h2 : P.info? e = some i) (h4 : i.size = 1)
    (g k cap : Nat) (cur : Array Value) (hcur : w.heap[g]? = some (.cells cur e (0, 0))) (hs : a.eval s = .slice (some ⟨g, 0, none⟩) k cap)
    (ad : Addr) (c : Nat) (v : Value) (hx : a.eval x = .slice (some ad) 1 c) (hc : w.cell? ad = some v) (h1c : v.oneCell' = true) (b1 : k + 1 ≤ cap) (b2 : k < cur.size)
    (hK : ∀ w', w'.heap[g]? = some (.cells (cur.toList.take k ++ v :: cur.toList.drop (k + 1)).toArray e (0, 0)) → w.grownBy w' (some g) → wpList P ops Q rest (a.put o.dst (.slice (some ⟨g, 0, none⟩) (k + 1) cap)) w') :
    wpList P ops Q (o :: rest) a w := by
  refine wpList_plain hg fun K hK' => ?_
  have hrun := run_append_room (P := P) w t o.type e i h1 h2 g k cap cur hcur ad 1 c [v] (by rw [h4]; rfl)
    (fun j u hj => by
      cases j with
      | zero => cases hj; exact hc
      | succ j => cases hj) (fun u hu => by rw [List.mem_singleton.1 hu]; exact h1c) b1 (by rw [h4, Nat.mul_one]; exact b2)
  rw [h4, Nat.mul_one, List.append_assoc, List.singleton_append, List.length_singleton] at hrun
  have r1 := setRow_heap w g cur (cur.toList.take k ++ v :: cur.toList.drop (k + 1)).toArray e _ hcur
  have r2 : w.grownBy (w.setRow g (cur.toList.take k ++ v :: cur.toList.drop (k + 1)).toArray) (some g) := ⟨rfl, rfl, rfl, by simp, fun k _ hk => setRow_other w g k _ (fun e => hk (by simp [e]))⟩
  have hKK := hK' _ _ (hK _ r1 r2)
  unfold Oper.wp
  simp [execOp, hop, resolve, invoke, builtin, hs, hx, hrun, Result.andThen]
  exact hKK

theorem infoString : (Tryz.prog.info? 9).map (fun i => (i.zero, i.size, i.bytes)) = some (some (.string .empty), 1, 16) := by kernel_rfl

/-- the pile lies at the front of the row, the parts that are still to come at its end -/
structure Row (w wr : World) (n0 g : Nat) (ps xs : List (List UInt8)) (i : Nat) (cur : Array Value) : Prop where
  below : Below n0 w wr
  room : n0 ≤ wr.heap.size
  row : wr.heap[g]? = some (.cells cur 9 (0, 0))
  size : cur.size = ps.length
  pile : ∀ (j : Nat) x, xs[j]? = some x → cur[j]? = some (Value.string (bs x))
  rest : ∀ (j : Nat) x, i ≤ j → ps[j]? = some x → cur[j]? = some (Value.string (bs x))
  same : pileL xs (ps.drop i) = pileL [] ps
section
variable {w wr : World} {n0 g : Nat} {ps xs : List (List UInt8)} {i : Nat} {cur : Array Value}
theorem Row.cell (h : Row w wr n0 g ps xs i cur) {p : List UInt8} (hp : ps[i]? = some p) : wr.cell? ⟨g, i, none⟩ = some (.string (bs p)) := by
  rw [cell_of_row wr g i cur _ _ h.row]
  exact h.rest i p (Nat.le_refl _) hp
theorem Row.next (h : Row w wr n0 g ps xs i cur) {p : List UInt8} (hp : ps[i]? = some p) : pileL (stepL xs p) (ps.drop (i + 1)) = pileL [] ps := by
  obtain ⟨hi, rfl⟩ := List.getElem?_eq_some_iff.1 hp
  rw [← pileL_cons, ← List.drop_eq_getElem_cons hi]
  exact h.same
theorem Row.skip (h : Row w wr n0 g ps xs i cur) {p : List UInt8} (hp : ps[i]? = some p) (hn : p = [] ∨ p = [46]) : Row w wr n0 g ps xs (i + 1) cur :=
  ⟨h.below, h.room, h.row, h.size, h.pile, fun j x hj hx => h.rest j x (by omega) hx, by have := h.next hp; rwa [stepL_none _ _ hn] at this⟩
theorem Row.up (h : Row w wr n0 g ps xs i cur) (hp : ps[i]? = some [46, 46]) : Row w wr n0 g ps (xs.take (xs.length - 1)) (i + 1) cur :=
  ⟨h.below, h.room, h.row, h.size, fun j x hx => h.pile j x (by
    have hl := (List.getElem?_eq_some_iff.1 hx).1
    rw [List.length_take] at hl
    rwa [List.getElem?_take, if_pos (by omega)] at hx), fun j x hj hx => h.rest j x (by omega) hx, by have := h.next hp; rwa [stepL_up] at this⟩
theorem Row.put (h : Row w wr n0 g ps xs i cur) {p : List UInt8} (hp : ps[i]? = some p) (h0 : p ≠ []) (h1 : p ≠ [46]) (h2 : p ≠ [46, 46]) (hx : xs.length ≤ i) (hg : n0 ≤ g) {o : Obj} {w1 : World}
    (r1 : w1.heap[g]? = some (.cells (cur.toList.take xs.length ++ Value.string (bs p) :: cur.toList.drop (xs.length + 1)).toArray 9 (0, 0))) (r2 : (wr.alloc o).grownBy w1 (some g)) :
    Row w w1 n0 g ps (xs ++ [p]) (i + 1) (cur.toList.take xs.length ++ Value.string (bs p) :: cur.toList.drop (xs.length + 1)).toArray := by
  have hi := (List.getElem?_eq_some_iff.1 hp).1
  have hs := h.size
  have ht : (cur.toList.take xs.length).length = xs.length := by
    have : cur.toList.length = cur.size := rfl
    rw [List.length_take, Nat.min_eq_left (by omega)]
  have hr := h.room
  refine ⟨(h.below.alloc h.room o).grown r2 (by simp; omega) (fun k e => by cases e; exact hg), Nat.le_trans (by simp; omega) r2.size, r1, ?_, ?_, ?_, ?_⟩
  · simp only [List.size_toArray, List.length_append, List.length_cons, ht, List.length_drop, Array.length_toList]; omega
  · intro j x hj
    rw [List.getElem?_toArray]
    by_cases hlt : j < xs.length
    · rw [List.getElem?_append_left (by omega), List.getElem?_take, if_pos hlt, Array.getElem?_toList]
      rw [List.getElem?_append_left hlt] at hj
      exact h.pile j x hj
    · have hl := (List.getElem?_eq_some_iff.1 hj).1
      simp only [List.length_append, List.length_cons, List.length_nil] at hl
      obtain rfl : j = xs.length := by omega
      rw [List.getElem?_append_right (Nat.le_refl _), Nat.sub_self] at hj
      rw [List.getElem?_append_right (by omega), ht, Nat.sub_self]
      cases hj
      rfl
  · intro j x hj hx'
    rw [List.getElem?_toArray, List.getElem?_append_right (by omega), ht]
    obtain ⟨d, rfl⟩ : ∃ d, j = xs.length + 1 + d := ⟨j - xs.length - 1, by omega⟩
    rw [show xs.length + 1 + d - xs.length = d + 1 by omega, List.getElem?_cons_succ, List.getElem?_drop, Array.getElem?_toList]
    exact h.rest _ x (by omega) hx'
  · have := h.next hp; rwa [stepL_put _ _ h0 h1 h2] at this
end

theorem bool_of (p q : List UInt8) : ((bs p).toList == q) = decide (p = q) := by
  rw [Lib.toList_data, data_bs]
  by_cases h : p = q
  · subst h; simp
  · simp [h]

set_option maxRecDepth 100000 in
set_option maxHeartbeats 1000000 in
theorem settle_is (w0 w : World) (n0 g : Nat) (ps : List (List UInt8)) (hb : Below n0 w0 w) (hr : n0 ≤ w.heap.size) (hg : n0 ≤ g) (hrow : w.heap[g]? = some (.cells ((ps.map bs).map Value.string).toArray 9 (0, 0))) (hn : ps.length ≤ 1099511627776) :
    Calls Tryz.prog 34 #[.slice (some ⟨g, 0, none⟩) ps.length ps.length] w fun e W' => ∃ c cur, e = .returned (.slice (some ⟨g, 0, none⟩) (pileL [] ps).length c) ∧ (pileL [] ps).length ≤ c ∧ Row w0 W' n0 g ps (pileL [] ps) ps.length cur := by
  obtain ⟨i0, hi, hz0, hz1, hz2⟩ := info_parts infoString
  have R0 : Hid (Row w0 w n0 g ps [] 0 ((ps.map bs).map Value.string).toArray) := ⟨hb, hr, hrow, by simp, fun j x hx => (by cases hx), fun j x _ hx => (by simp [hx]), rfl⟩
  clear hrow hb hr
  generalize hnn : ps.length = n at hn ⊢
  go_enter Tryz.func34, Tryz.ntmps34
  go_wp2
  go_loopw [3, 10] (fun v i wr => ∃ (k c : Nat) (xs : List (List UInt8)) (cur : Array Value), k ≤ n ∧ xs.length ≤ k ∧ xs.length ≤ c ∧ c ≤ n ∧ v = .slice (some ⟨g, 0, none⟩) xs.length c ∧ i = .int .i64 k ∧ Hid (Row w0 wr n0 g ps xs k cur))
    (fun _ i _ => n - (intOf i).toNat)
  case atStart => exact ⟨0, 0, [], _, Nat.zero_le _, Nat.le_refl _, Nat.le_refl _, Nat.zero_le _, rfl, rfl, R0⟩
  case round =>
    obtain ⟨k, c, xs, cur, hk, hx, hxc, hcn, rfl, rfl, R⟩ := hrel
    clear R0
    by_cases hlt : k < n
    · obtain ⟨p, hp⟩ : ∃ p, ps[k]? = some p := ⟨_, List.getElem?_eq_getElem (by omega)⟩
      have hc := R.out.cell hp
      have b0 := bool_of p []
      have b1 := bool_of p [46]
      have b2 := bool_of p [46, 46]
      by_cases h0 : p = []
      · have RS := Lib.hid (R.out.skip hp (.inl h0))
        rw [decide_eq_true h0] at b0
        clear R b1 b2
        generalize bs p = t at hc b0
        go_wp2
        go_roundw
        case rel => exact ⟨k + 1, c, xs, cur, by omega, by omega, hxc, hcn, rfl, by go_num, RS⟩
        case measure => simp [intOf]; omega
      · rw [decide_eq_false h0] at b0
        by_cases h1 : p = [46]
        · have RS := Lib.hid (R.out.skip hp (.inr h1))
          rw [decide_eq_true h1] at b1
          clear R b2
          generalize bs p = t at hc b0 b1
          go_wp2
          go_roundw
          case rel => exact ⟨k + 1, c, xs, cur, by omega, by omega, hxc, hcn, rfl, by go_num, RS⟩
          case measure => simp [intOf]; omega
        · rw [decide_eq_false h1] at b1
          by_cases h2 : p = [46, 46]
          · have RS := Lib.hid (R.out.up (by rw [← h2]; exact hp))
            rw [decide_eq_true h2] at b2
            clear R
            have hl : (xs.take (xs.length - 1)).length = xs.length - 1 := by rw [List.length_take]; omega
            generalize bs p = t at hc b0 b1 b2
            go_wp2
            go_roundw
            case rel => exact ⟨k + 1, k, xs.take (xs.length - 1), cur, by omega, by omega, by omega, by omega, by rw [hl]; first | rfl | (congr 1; omega), by go_num, RS⟩
            case measure => simp [intOf]; omega
          · rw [decide_eq_false h2] at b2
            have hs := R.out.size
            have hrw : ∀ o : Obj, (wr.alloc o).heap[g]? = some (.cells cur 9 (0, 0)) := fun o => (Below.heap_alloc wr o g (Array.getElem?_eq_some_iff.1 R.out.row).1).trans R.out.row
            have HP := Lib.hid (fun (o : Obj) (w1 : World) r1 r2 => R.out.put (o := o) (w1 := w1) hp h0 h1 h2 hx hg r1 r2)
            clear R
            generalize bs p = t at hc b0 b1 b2 HP
            go_wp2_with (at_builtin; refine wpList_append_row _ rfl _ _ 30 rfl 9 i0 Tryz.underlying30 hi hz1 g xs.length (k + 1) cur (hrw _) rfl ⟨wr.heap.size, 0, none⟩ 1 (.string t) rfl (cell_one_new _ _ _ 0 _ rfl) (by simp [Value.oneCell']) (by omega) (by omega) ?_; intro w1 r1 r2; have RS := Lib.hid (HP.out _ _ r1 r2); clear r1 r2 hrw HP)
            go_roundw
            case rel => exact ⟨k + 1, k + 1, xs ++ [p], _, by omega, by simp; omega, by simp; omega, by omega, by simp, by go_num, RS⟩
            case measure => simp [intOf]; omega
    · have hkn : k = n := by omega
      subst hkn
      have hp : pileL [] ps = xs := by have := R.out.same; rw [List.drop_eq_nil_of_le (by omega)] at this; exact this.symm
      go_wp2
      go_ret
      rw [hp]
      exact ⟨c, cur, rfl, hxc, R.out⟩

theorem empty_of (u : ByteArray) (h : u.size = 0) : (u.toList == []) = true := by
  rw [Lib.toList_data, List.eq_nil_of_length_eq_zero (show u.data.toList.length = 0 from h)]; rfl
theorem full_of (u : ByteArray) (h : 0 < u.size) : (u.toList == []) = false := by
  rw [Lib.toList_data]
  cases hd : u.data.toList with
  | nil => have : u.data.toList.length = u.size := rfl; rw [hd] at this; simp at this; omega
  | cons a b => rfl

/-- the library's Join of what lies on the pile -/
theorem join_pile (w0 w : World) (n0 g c i : Nat) (ps xs : List (List UInt8)) (cur : Array Value) (h : Row w0 w n0 g ps xs i cur) (hc : xs.length ≤ c) (hn : Lib.lens xs + xs.length ≤ 1099511627776) :
    Calls Tryz.prog 33 #[.slice (some ⟨g, 0, none⟩) xs.length c, .string ⟨#[47]⟩] w fun e W' => e = .returned (.string (bs (Lib.join xs [47]))) ∧ Below n0 w0 W' := by
  have e1 : (xs.map bs).map (·.data.toList) = xs := by rw [List.map_map]; exact List.map_id _
  have e2 : (⟨#[47]⟩ : ByteArray).data.toList = [47] := rfl
  have hl := join_length_le xs
  have c0 := Tryz.strings_Join g 0 c (xs.map bs) ⟨#[47]⟩ w (fun j x hx => by
      rw [Nat.zero_add, cell_of_row w g j cur _ _ h.row]
      rw [List.getElem?_map] at hx
      cases hj : xs[j]? with
      | none => rw [hj] at hx; cases hx
      | some y => rw [hj] at hx; cases hx; exact h.pile j y hj)
    (Array.getElem?_eq_some_iff.1 h.row).1 (by rw [List.length_map]; omega) (by rw [List.length_map]; exact hc) (by rw [e1, e2]; omega)
  rw [e1, e2, List.length_map] at c0
  exact c0.mono fun e W' ⟨he, hb⟩ => ⟨he, h.below.trans (hb.mono h.room)⟩

theorem slash_join (xs : List (List UInt8)) : (⟨#[47]⟩ : ByteArray) ++ bs (Lib.join xs [47]) = bs (orSlash (flatL xs)) := by
  rw [← join_flat]
  exact (bs_app [47] (Lib.join xs [47])).symm

set_option maxHeartbeats 1000000 in
/-- the program's Abs -/
theorem abs_is (s : ByteArray) (w : World) (hs : s.size ≤ 1000000) :
    Calls Tryz.prog 14 #[.string s] w fun e W' => e = .returned (.string (bs (absL s.data.toList))) ∧ Below w.heap.size w W' := by
  rcases Nat.eq_zero_or_pos s.size with h0 | h0
  · have e1 := empty_of s h0
    have e2 : Hid (bs (absL s.data.toList) = ⟨#[]⟩) := by
      show _ = _
      rw [List.eq_nil_of_length_eq_zero (show s.data.toList.length = 0 from h0)]; rfl
    go_enter Tryz.func14, Tryz.ntmps14
    go_wp2
    go_ret
    exact ⟨ret_str e2.out.symm, Below.refl _ _⟩
  · have e1 := full_of s h0
    have hd : s.data.toList ≠ [] := fun e => by have : s.data.toList.length = s.size := rfl; rw [e] at this; simp at this; omega
    have HA := Lib.hid (absL_some s.data.toList hd)
    have HS := Lib.hid (fun W => split_is s W (by omega))
    have hb := parts_bounds s.data.toList
    have hl := splitL_length s.data.toList
    rw [len_data] at hb hl
    have hm : (partsB s).length = (splitL s.data.toList).length := by rw [partsB, List.length_map]
    rw [hm] at HS
    have HP : Hid (partsB s = (splitL s.data.toList).map bs) := rfl
    clear hm
    generalize splitL s.data.toList = ps at HA HS hb hl HP
    have hx := join_length_le (pileL [] ps)
    have hz : (bs (Lib.join (pileL [] ps) [47])).size ≤ 2000002 := by rw [size_bs]; omega
    have HX := Lib.hid (slash_join (pileL [] ps))
    go_enter Tryz.func14, Tryz.ntmps14
    go_wp2_with fail
    refine (HS.out _).mono ?_
    rintro e w1 ⟨rfl, hw1⟩
    clear HS
    have HB : Hid (Below w.heap.size w w1) := by show Below _ _ _; rw [hw1]; exact (Below.refl _ _).alloc (Nat.le_refl _) _
    have HR : Hid (w1.heap[w.heap.size]? = some (.cells ((ps.map bs).map Value.string).toArray 9 (0, 0))) := by
      show _ = _
      rw [hw1, HP.out]; exact heap_alloc_new w _
    clear hw1 HP
    go_wp2_with fail
    refine (settle_is w w1 w.heap.size w.heap.size ps HB.out HB.out.size (Nat.le_refl _) HR.out (by omega)).mono ?_
    rintro e w2 ⟨c, cur, rfl, hc, hrow⟩
    have HJ := Lib.hid (join_pile w w2 w.heap.size w.heap.size c _ ps (pileL [] ps) cur hrow hc (by omega))
    clear HB HR hrow
    generalize pileL [] ps = xs at *
    generalize bs (Lib.join xs [47]) = t at *
    go_wp2_with fail
    refine HJ.out.mono ?_
    rintro e w3 ⟨rfl, hb3⟩
    clear HJ
    have z1 : (⟨#[47]⟩ : ByteArray).size ≤ 1 := Nat.le_refl _
    have a1 : ∀ W, (Op.stringOp .add ⟨#[47]⟩ t).run Tryz.prog W = .ok (.string ((⟨#[47]⟩ : ByteArray) ++ t)) W := fun W => run_string_add_sum W _ _ (by omega)
    go_wp2
    go_ret
    exact ⟨by rw [HA.out, ← HX.out]; rfl, hb3⟩

end Go.Proofs.YtghfmbmdfojapaaGreatDoor.Pabs

/- What the document's Dir, Notdir, Suffix and Base answer. -/
namespace Go.Proofs.YtghfmbmdfojapaaGreatDoor.Prf
open Go.RowKit Go.Proofs.YtghfmbmdfojapaaGreatDoor.Pth Go.Proofs.YtghfmbmdfojapaaGreatDoor.Pfn

theorem step_eq {c : UInt8} {s : ByteArray} {k : Nat} (h : k < s.size) (e : ((s[k].toNat : Nat) : Int) = (c.toNat : Int)) : lastB c (s.data.toList.take (k + 1)) = k + 1 := by
  rw [lastB_take_succ c s k h, if_pos (UInt8.toNat_inj.1 (by omega))]
theorem step_ne {c : UInt8} {s : ByteArray} {k : Nat} (h : k < s.size) (e : ¬ ((s[k].toNat : Nat) : Int) = (c.toNat : Int)) : lastB c (s.data.toList.take (k + 1)) = lastB c (s.data.toList.take k) := by
  rw [lastB_take_succ c s k h, if_neg (fun x => e (by rw [x]))]

set_option maxHeartbeats 1000000 in
theorem slash_is (s : ByteArray) (w : World) (hs : s.size ≤ 1099511627776) :
    Calls Tryz.prog 96 #[.string s] w fun e w' => e = .returned (.int .i64 (wayB s : Int)) ∧ w = w' := by
  go_enter Tryz.func96, Tryz.ntmps96
  go_wp2
  go_loopw [3, 4] (fun n i wr => ∃ k m : Nat, k ≤ s.size ∧ m ≤ k ∧ i = .int .i64 k ∧ n = .int .i64 m ∧ Hid (m = lastB 47 (s.data.toList.take k)) ∧ w = wr)
    (fun _ i _ => s.size - (intOf i).toNat)
  case atStart => exact ⟨0, 0, Nat.zero_le _, Nat.le_refl _, rfl, rfl, rfl, rfl⟩
  case round =>
    obtain ⟨k, m, hk, hm, rfl, rfl, H, rfl⟩ := hrel
    by_cases hlt : k < s.size
    · by_cases hc : ((s[k].toNat : Nat) : Int) = 47
      · have HS : Hid (k + 1 = lastB 47 (s.data.toList.take (k + 1))) := (step_eq (c := 47) hlt hc).symm
        clear H
        go_wp2
        go_roundw
        case rel => exact ⟨k + 1, k + 1, by omega, Nat.le_refl _, by go_num, by go_num, HS, trivial⟩
        case measure => simp [intOf]; omega
      · have HS : Hid (m = lastB 47 (s.data.toList.take (k + 1))) := H.out.trans (step_ne (c := 47) hlt hc).symm
        clear H
        go_wp2
        go_roundw
        case rel => exact ⟨k + 1, m, by omega, by omega, by go_num, rfl, HS, trivial⟩
        case measure => simp [intOf]; omega
    · have HS : Hid (m = wayB s) := by
        have := H.out
        rw [show k = s.data.toList.length by rw [len_data]; omega, List.take_length] at this
        exact this
      clear H
      go_wp2
      go_ret
      exact ⟨ret_int (by rw [HS.out]), rfl⟩


set_option maxHeartbeats 400000 in
theorem refNotdir_is (s : ByteArray) (w : World) (hs : s.size ≤ 1099511627776) :
    Calls Tryz.prog 70 #[.string s] w fun e w' => e = .returned (.string (notdirB s)) ∧ w = w' := by
  have h1 := wayB_le s
  have HL := Lib.hid (fun W => slash_is s W hs)
  have HD : Hid (notdirB s = s.extract (wayB s) s.size) := rfl
  generalize wayB s = k at h1 HL HD
  go_enter Tryz.func70, Tryz.ntmps70
  go_wp2_with fail
  refine (HL.out _).mono ?_
  rintro e w' ⟨rfl, rfl⟩
  clear HL
  go_wp2
  go_ret
  exact ⟨by rw [HD.out]; rfl, rfl⟩



end Go.Proofs.YtghfmbmdfojapaaGreatDoor.Prf
