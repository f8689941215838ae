/- What the document's set answers. -/
import Derived.Test.YtghfmbmdfojapaaGreatDoorRlawsJ
namespace Go.Proofs.YtghfmbmdfojapaaGreatDoor.Rset
open Go.RowKit Go.Proofs.YtghfmbmdfojapaaGreatDoor.Glb Go.Proofs.YtghfmbmdfojapaaGreatDoor.Gops Go.Proofs.YtghfmbmdfojapaaGreatDoor.Gread Go.Proofs.YtghfmbmdfojapaaGreatDoor.Gfit Go.Proofs.YtghfmbmdfojapaaGreatDoor.Rlaws Go.Proofs.YtghfmbmdfojapaaGreatDoor.Rfits

/-- a piece of the document's lies in block g -/
def TAt (g : Nat) (k b : Int) (p : Nat → Bool) (w : World) : Prop := w.heap[g]? = some (.cells (tC k b p) 91 (0, 0))
theorem TAt.cell {g : Nat} {k b : Int} {p : Nat → Bool} {w : World} (h : TAt g k b p w) (i : Nat) (hi : i < 256) : w.cell? ⟨g, 2 + i, none⟩ = some (.bool (p i)) := by
  rw [cell_of_row _ _ _ _ _ _ h]; exact tC_tab k b p i hi
theorem TAt.open_ {g : Nat} {k b : Int} {p : Nat → Bool} {w : World} (h : TAt g k b p w) (i : Nat) : w.frozen? ⟨g, i, none⟩ = false := frozen_of_row _ _ _ _ _ h
theorem TAt.lt {g : Nat} {k b : Int} {p : Nat → Bool} {w : World} (h : TAt g k b p w) : g < w.heap.size := (Array.getElem?_eq_some_iff.1 h).1
theorem tC_set (k b : Int) (p : Nat → Bool) (c : Nat) (v : Bool) (hc : c < 256) : (tC k b p).setIfInBounds (2 + c) (.bool v) = tC k b (fun x => if x = c then v else p x) := by
  apply Array.ext_getElem?
  intro n
  rw [Array.getElem?_setIfInBounds]
  by_cases hn : 2 + c = n
  · subst hn
    rw [if_pos rfl, if_pos (by rw [tC_size]; omega), tC_tab _ _ _ _ hc]
    simp
  · rw [if_neg hn]
    match n with
    | 0 => rw [tC_kind, tC_kind]
    | 1 => rw [tC_byte, tC_byte]
    | m + 2 =>
      by_cases hm : m < 256
      · rw [show m + 2 = 2 + m by omega, tC_tab _ _ _ _ hm, tC_tab _ _ _ _ hm, if_neg (by omega)]
      · rw [Array.getElem?_eq_none (by rw [tC_size]; omega), Array.getElem?_eq_none (by rw [tC_size]; omega)]
theorem tC_ext {k b : Int} {p q : Nat → Bool} (h : ∀ i, i < 256 → p i = q i) : tC k b p = tC k b q := by
  unfold tC
  congr 3
  apply List.map_congr_left
  intro i hi
  rw [h i (List.mem_range.1 hi)]
theorem TAt.ext {g : Nat} {k b : Int} {p q : Nat → Bool} {w : World} (h : TAt g k b p w) (e : ∀ i, i < 256 → p i = q i) : TAt g k b q w := by
  unfold TAt at h ⊢; rw [h, tC_ext e]
theorem TAt.put {g : Nat} {k b : Int} {p : Nat → Bool} {w : World} (h : TAt g k b p w) (c : Nat) (hc : c < 256) (v : Bool) : TAt g k b (fun x => if x = c then v else p x) (w.setCell ⟨g, 2 + c, none⟩ (.bool v)) := by
  unfold TAt at h ⊢
  rw [heap_setCell_same _ _ _ _ _ _ h, tC_set _ _ _ _ _ hc]
theorem TAt.other {g : Nat} {k b : Int} {p : Nat → Bool} {w : World} (h : TAt g k b p w) {a : Addr} (ha : g ≠ a.block) (v : Value) : TAt g k b p (w.setCell a v) := (heap_setCell_other _ _ _ _ ha).trans h

theorem sizeC (k b : Int) (p : Nat → Bool) : (Tryz.prog.info? 91).map (·.size) = some (tC k b p).size := by rw [tC_size]; exact sizeT
theorem wpList_storeT {ops : Array Oper} {rest : List Oper} {o : Oper} {a : Act} {w : World} {Q : Exit → Act → World → Prop} (hgd : o.guard = none) (x y : Operand) (ho : o.op = .store 91 x y) (g : Nat) (k b : Int) (p : Nat → Bool)
    (hx : a.eval x = .pointer (some ⟨g, 0, none⟩)) (hy : a.eval y = .agg (tC k b p)) (k' b' : Int) (p' : Nat → Bool) (hg : TAt g k' b' p' w)
    (h : wpList Tryz.prog ops Q rest (a.put o.dst undef) (w.setRow g (tC k b p))) : wpList Tryz.prog ops Q (o :: rest) a w :=
  wpList_store_row hgd _ x y ho g (tC k b p) hx hy _ (tC k' b' p') hg (sizeC k b p) (by rw [tC_size, tC_size]) (tC_one k b p) h
theorem wpList_loadT {ops : Array Oper} {rest : List Oper} {o : Oper} {a : Act} {w : World} {Q : Exit → Act → World → Prop} (hgd : o.guard = none) (x : Operand) (ho : o.op = .load 91 x) (g : Nat) (k b : Int) (p : Nat → Bool)
    (hx : a.eval x = .pointer (some ⟨g, 0, none⟩)) (hg : TAt g k b p w)
    (h : wpList Tryz.prog ops Q rest (a.put o.dst (.agg (tC k b p))) w) : wpList Tryz.prog ops Q (o :: rest) a w :=
  wpList_load_row hgd _ x ho g hx _ (tC k b p) _ _ hg Tryz.underlying91 rfl (sizeC k b p) h
theorem TAt.row {g : Nat} {k b k' b' : Int} {p p' : Nat → Bool} {w : World} (h : TAt g k b p w) : TAt g k' b' p' (w.setRow g (tC k' b' p')) := setRow_heap _ _ _ _ _ _ h
theorem TAt.row_other {g q : Nat} {k b k' b' : Int} {p p' : Nat → Bool} {w : World} (h : TAt g k b p w) (hq : g ≠ q) : TAt g k b p (w.setRow q (tC k' b' p')) := (setRow_other _ _ _ _ hq).trans h

/-! ### lists at a place -/
theorem drop_nil {l : List UInt8} {i : Nat} (h : ¬ i < l.length) : l.drop i = [] := List.drop_eq_nil_of_le (by omega)
theorem drop_at (v : ByteArray) (i : Nat) (h : i < v.size) : v.data.toList.drop i = v[i] :: v.data.toList.drop (i + 1) := by
  have hl : i < v.data.toList.length := by rw [len_data]; exact h
  rw [List.drop_eq_getElem_cons hl]
  have : v.data.toList[i] = v[i] := Option.some.inj ((List.getElem?_eq_getElem hl).symm.trans (byte_at v i h))
  rw [this]
def goOn (first : Bool) : List UInt8 → Bool
  | [] => false
  | c :: _ => first || c != 93
theorem insetL_nil (n : Nat) (f : Bool) (q : Nat → Bool) : inset n f q [] = none := by cases n <;> rfl
theorem insetL_close (n : Nat) (q : Nat → Bool) (r : List UInt8) (hn : (93 :: r : List UInt8).length ≤ n) : inset n false q (93 :: r) = some (q, r) := by
  obtain ⟨m, rfl⟩ : ∃ m, n = m + 1 := ⟨n - 1, by simp at hn; omega⟩
  rw [inset, if_pos ⟨rfl, rfl⟩]
theorem insetL_step (n : Nat) (f : Bool) (q : Nat → Bool) (l : List UInt8) (hl : goOn f l = true) (hn : l.length ≤ n) :
    inset n f q l = inset (n - 1) false (plus q (unqC l).toNat (elHi (unqC l) (unqR l)).toNat) (elR (unqR l)) := by
  cases l with
  | nil => cases hl
  | cons c r =>
    obtain ⟨m, rfl⟩ : ∃ m, n = m + 1 := ⟨n - 1, by simp at hn; omega⟩
    rw [inset, if_neg (by rintro ⟨rfl, rfl⟩; cases hl)]
    rfl
theorem rng_at (v : ByteArray) (i : Nat) (h : i + 1 < v.size) : rng (v.data.toList.drop i) = (v[i] == 45 && v[i + 1] != 93) := by
  rw [drop_at v i (by omega), drop_at v (i + 1) h]; rfl
theorem rng_off (v : ByteArray) (i : Nat) (h : ¬ i + 1 < v.size) : rng (v.data.toList.drop i) = false := by
  by_cases hi : i < v.size
  · rw [drop_at v i hi, drop_nil (by rw [len_data]; exact h)]; rfl
  · rw [drop_nil (by rw [len_data]; exact hi)]; rfl
/-- behind a range's first byte -/
def hiN (l : List UInt8) (i : Nat) : Nat := if rng (l.drop i) then oneN l (i + 1) else i
theorem rng_len {l : List UInt8} {i : Nat} (h : rng (l.drop i) = true) : i + 1 < l.length := by
  rcases Nat.lt_or_ge (i + 1) l.length with hi | hi
  · exact hi
  · exfalso
    rcases Nat.lt_or_ge i l.length with h2 | h2
    · rw [List.drop_eq_getElem_cons h2, List.drop_eq_nil_of_le hi] at h; cases h
    · rw [List.drop_eq_nil_of_le h2] at h; cases h
theorem hiN_drop (l : List UInt8) (i : Nat) : l.drop (hiN l i) = elR (l.drop i) := by
  unfold hiN elR
  cases hr : rng (l.drop i) with
  | false => rfl
  | true =>
    have := rng_len hr
    simp only [if_true]
    rw [oneN_drop l (i + 1) this, List.drop_drop]
theorem hiN_le (l : List UInt8) (i : Nat) (h : i ≤ l.length) : hiN l i ≤ l.length ∧ i ≤ hiN l i := by
  unfold hiN
  cases hr : rng (l.drop i) with
  | false => exact ⟨h, Nat.le_refl _⟩
  | true =>
    have h1 := rng_len hr
    have h2 := oneN_le l (i + 1) h1
    have h3 := oneN_gt l (i + 1)
    simp only [if_true]
    omega
theorem hi_eq (l : List UInt8) (i : Nat) (lo : UInt8) : elHi lo (l.drop i) = if rng (l.drop i) then unqC (l.drop (i + 1)) else lo := by
  unfold elHi
  rw [List.drop_drop]
theorem but_at (v : ByteArray) (i : Nat) (h : i < v.size) : isBut (v.data.toList.drop i) = (v[i] == 33 || v[i] == 94) := by rw [drop_at v i h]; rfl
theorem go_at (v : ByteArray) (i : Nat) (f : Bool) (h : i < v.size) : goOn f (v.data.toList.drop i) = (f || v[i] != 93) := by rw [drop_at v i h]; rfl
def turn (q : Nat → Bool) (not : Bool) (c : Nat) : Nat → Bool := fun x => if x < c then (q x != not) else q x
theorem turn_zero (q : Nat → Bool) (not : Bool) (x : Nat) : q x = turn q not 0 x := by unfold turn; rw [if_neg (Nat.not_lt_zero _)]
theorem turn_step (q : Nat → Bool) (not : Bool) (c x : Nat) : (if x = c then (q c != not) else turn q not c x) = turn q not (c + 1) x := by
  unfold turn
  by_cases h : x = c
  · subst h; rw [if_pos rfl, if_pos (by omega)]
  · rw [if_neg h]
    by_cases h2 : x < c
    · rw [if_pos h2, if_pos (by omega)]
    · rw [if_neg h2, if_neg (by omega)]
theorem turn_at (q : Nat → Bool) (not : Bool) (c : Nat) : turn q not c c = q c := by unfold turn; rw [if_neg (by omega)]
theorem turn_all (q : Nat → Bool) (not : Bool) (x : Nat) (h : x < 256) : turn q not 256 x = if not then neg q x else q x := by
  unfold turn neg
  rw [if_pos h]
  cases not <;> cases q x <;> rfl
theorem some_put (q : Nat → Bool) (lo c x : Nat) (h : lo ≤ c) : (if x = c then true else some_ q lo c x) = some_ q lo (c + 1) x := by
  rw [← some_step q lo c h]
  by_cases hx : x = c
  · subst hx; simp
  · simp [hx]

/-- what the document's set answers -/
def setOutR (l : List UInt8) : Option ((Nat → Bool) × List UInt8) → Value
  | some (q, r) => .tuple #[.agg (tC 2 0 q), .int .i64 ((l.length - r.length : Nat) : Int)]
  | none => .tuple #[.agg (tC 0 0 none_), .int .i64 (-1)]
def butR (but : Bool) (l : List UInt8) : Option ((Nat → Bool) × List UInt8) → Value
  | some (q, r) => .tuple #[.agg (tC 2 0 (fun x => if but then neg q x else q x)), .int .i64 ((l.length - r.length : Nat) : Int)]
  | none => .tuple #[.agg (tC 0 0 none_), .int .i64 (-1)]
def start (but : Bool) (i : Nat) : Nat := if but then i + 1 else i
theorem res_set {W : World} {g : Nat} {k b n : Int} {p : Nat → Bool} {tmps : Array Value} (h4 : tmps.getD 4 undef = .pointer (some ⟨g, 0, none⟩)) (h5 : tmps.getD 5 undef = .int .i64 n) (hg : TAt g k b p W) :
    (results Tryz.f69 tmps).run Tryz.prog W = .ok (.tuple #[.agg (tC k b p), .int .i64 n]) W := by
  have h4' : tmps[4]?.getD undef = .pointer (some ⟨g, 0, none⟩) := by simpa using h4
  have h5' : tmps[5]?.getD undef = .int .i64 n := by simpa using h5
  simp [results, Tryz.results69, h4', h5', asAddr, run_loadVar_row W g _ _ (tC k b p) (0, 0) _ hg Tryz.underlying91 rfl (sizeC k b p)]
theorem below_row {B g : Nat} {a w : World} (h : Below B a w) (hg : B ≤ g) (cs : Array Value) : Below B a (w.setRow g cs) :=
  ⟨h.os, h.tape, h.output, by rw [size_setRow]; exact h.size, fun k hk => (setRow_other _ _ _ _ (by omega)).trans (h.block k hk)⟩

set_option maxRecDepth 100000 in
set_option maxHeartbeats 4000000 in
theorem set_walk (v : ByteArray) (i0 : Nat) (w : World) (hi0 : i0 ≤ v.size) (hs : v.size ≤ 1000000) :
    Calls Tryz.prog 69 #[.string v, .int .i64 i0] w fun e W' => e = .returned (butR (isBut (v.data.toList.drop i0)) v.data.toList (inset (v.data.toList.drop i0).length true none_ (v.data.toList.drop (start (isBut (v.data.toList.drop i0)) i0)))) ∧ Below w.heap.size w W' := by
  go_enter Tryz.func69, Tryz.ntmps69
  go_upto_region 2 with (first | (refine wpList_alloc rfl rfl ?_) | (refine wpList_built rfl 0 _ rfl (.int .i64 2) rfl (tC 2 0 none_) (built_kind 2) ?_) | (refine wpList_storeT rfl _ _ rfl _ 2 0 none_ rfl rfl 0 0 none_ ?hg ?_))
  case hg => exact heap_alloc_new _ _
  simp only [Act.put, List.setIfInBounds_toArray, List.set_cons_succ, List.set_cons_zero, World.size_alloc]
  obtain ⟨wa, hwa⟩ : ∃ x, x = ((w.alloc (.cells (tC 0 0 none_) 91)).alloc (.cells (tC 0 0 none_) 91)).setRow (w.heap.size + 1) (tC 2 0 none_) := ⟨_, rfl⟩
  rw [← hwa]
  have T1 : Hid (TAt (w.heap.size + 1) 2 0 none_ wa) := by rw [hwa]; exact TAt.row (k := 0) (b := 0) (p := none_) (heap_alloc2_new _ _ _)
  have T0 : Hid (TAt w.heap.size 0 0 none_ wa) := by rw [hwa]; exact TAt.row_other (heap_alloc2_old _ _ _) (by omega)
  have BA : Hid (Below w.heap.size w wa) := by rw [hwa]; exact below_row (((Below.refl _ _).alloc (Nat.le_refl _) _).alloc (by simp) _) (by omega) _
  clear hwa
  go_cut [7] (fun x wx => x = .bool (isBut (v.data.toList.drop i0)) ∧ wa = wx)
  case first =>
    by_cases hz : i0 < v.size
    · have HB := Lib.hid (but_at v i0 hz)
      have H1 := Lib.hid (lit33 v[i0])
      have H2 := Lib.hid (lit94 v[i0])
      by_cases h33 : ((v[i0].toNat : Nat) : Int) = 33
      · go_wp2_with fail
        go_meet
        exact ⟨by rw [HB.out, ← H1.out, h33]; rfl, rfl⟩
      · have h33' : (((v[i0].toNat : Nat) : Int) == 33) = false := by simpa using h33
        clear h33
        go_wp2_with fail
        go_meet
        exact ⟨by rw [HB.out, ← H1.out, h33', ← H2.out]; rfl, rfl⟩
    · have e2 : isBut (v.data.toList.drop i0) = false := by rw [drop_nil (by rw [len_data]; exact hz)]; rfl
      go_wp2_with fail
      go_meet
      exact ⟨by rw [e2], rfl⟩
  case rest =>
    obtain ⟨rfl, rfl⟩ := hcut
    have hbut : isBut (v.data.toList.drop i0) = true → i0 < v.size := by
      intro h
      rcases Nat.lt_or_ge i0 v.size with hz | hz
      · exact hz
      · rw [drop_nil (by rw [len_data]; omega)] at h; cases h
    obtain ⟨but, HE⟩ : ∃ b, Hid (isBut (v.data.toList.drop i0) = b) := ⟨_, rfl⟩
    rw [HE.out] at hbut
    rw [HE.out]
    go_upto_if 31 with fail
    go_cut [1] (fun x wx => x = .int .i64 (start but i0 : Nat) ∧ wa = wx)
    case first =>
      cases but with
      | false =>
        go_wp2_with fail
        go_meet
        exact ⟨rfl, rfl⟩
      | true =>
        go_wp2_with fail
        go_meet
        exact ⟨rfl, rfl⟩
    case rest =>
      obtain ⟨rfl, rfl⟩ := hcut
      have hi1 : start but i0 ≤ v.size := by
        cases but with
        | false => exact hi0
        | true => exact hbut rfl
      have hi2 : i0 ≤ start but i0 := by cases but <;> simp [start]
      obtain ⟨i1, HU⟩ : ∃ b, Hid (start but i0 = b) := ⟨_, rfl⟩
      rw [HU.out] at hi1 hi2 ⊢
      clear hbut
      have hll : (v.data.toList.drop i0).length = v.size - i0 := by rw [List.length_drop, len_data]
      have HLL := Lib.hid hll
      clear hll
      go_wp2_with fail
      go_loopg [1, 8] (v.size + 1) (fun g s1 s8 wr => ∃ (i : Nat) (first : Bool) (q : Nat → Bool) (n : Nat), s1 = .int .i64 i ∧ s8 = .bool first ∧ i ≤ v.size ∧ v.size - i < g ∧ v.size - i ≤ n ∧ Hid (TAt (w.heap.size + 1) 2 0 q wr ∧ TAt w.heap.size 0 0 none_ wr ∧ Below w.heap.size w wr ∧ inset n first q (v.data.toList.drop i) = inset (v.data.toList.drop i0).length true none_ (v.data.toList.drop i1)))
      case atStart => exact ⟨i1, true, none_, (v.data.toList.drop i0).length, rfl, rfl, hi1, by omega, by have := HLL.out; omega, ⟨T1.out, T0.out, BA.out, rfl⟩⟩
      case round =>
        obtain ⟨i, first, q, n, rfl, rfl, hi, hg, hn, H⟩ := hrel
        obtain ⟨g, rfl⟩ : ∃ g, gk = g + 1 := ⟨gk - 1, by omega⟩
        clear T1 T0 BA
        go_upto_region 6 with fail
        go_cut [46] (fun x wx => x = .bool (goOn first (v.data.toList.drop i)) ∧ wr = wx)
        case first =>
          by_cases hz : i < v.size
          · have HB := Lib.hid (go_at v i first hz)
            have H2 := Lib.hid (lit93n v[i])
            cases first with
            | true =>
              go_wp2_with fail
              go_meet
              exact ⟨by rw [HB.out]; rfl, rfl⟩
            | false =>
              go_wp2_with fail
              go_meet
              exact ⟨by rw [HB.out, ← H2.out]; rfl, rfl⟩
          · have e2 : goOn first (v.data.toList.drop i) = false := by rw [drop_nil (by rw [len_data]; exact hz)]; rfl
            go_wp2_with fail
            go_meet
            exact ⟨by rw [e2], rfl⟩
        case rest =>
          obtain ⟨rfl, rfl⟩ := hcut
          cases hgo : goOn first (v.data.toList.drop i) with
          | false =>
            by_cases hz : i < v.size
            · have hfc : first = false ∧ v[i] = 93 := by
                rw [go_at v i first hz] at hgo
                simpa using hgo
              obtain ⟨rfl, h93⟩ := hfc
              have HR : Hid (inset (v.data.toList.drop i0).length true none_ (v.data.toList.drop i1) = some (q, v.data.toList.drop (i + 1))) := by
                show _ = _
                rw [← H.out.2.2.2, drop_at v i hz, h93, insetL_close]
                rw [List.length_cons, List.length_drop, len_data]; omega
              clear hgo h93
              go_wp2_with fail
              go_loopg [13] 257 (fun g s13 wy => ∃ c : Nat, s13 = .int .i64 c ∧ c ≤ 256 ∧ 256 - c < g ∧ Hid (TAt (w.heap.size + 1) 2 0 (turn q but c) wy ∧ TAt w.heap.size 0 0 none_ wy ∧ Below w.heap.size w wy))
              case atStart => exact ⟨0, rfl, Nat.zero_le _, by omega, ⟨H.out.1.ext (fun x _ => turn_zero q but x), H.out.2.1, H.out.2.2.1⟩⟩
              case round =>
                obtain ⟨c, rfl, hc, hg3, H3⟩ := hrel
                obtain ⟨g3, rfl⟩ : ∃ g, gk = g + 1 := ⟨gk - 1, by omega⟩
                by_cases hlt : c < 256
                · have c0 := H3.out.1.cell c hlt
                  have f0 := H3.out.1.open_ (2 + c)
                  rw [turn_at] at c0
                  go_wp2_with fail
                  go_roundg g3
                  case measure => omega
                  case rel => exact ⟨c + 1, by go_num, by omega, by omega, ⟨(H3.out.1.put c hlt (q c != but)).ext (fun x _ => turn_step q but c x), H3.out.2.1.other (by simp) _, H3.out.2.2.setCell (p := ⟨w.heap.size + 1, 2 + c, none⟩) (by simp) _⟩⟩
                · obtain rfl : c = 256 := by omega
                  obtain ⟨qq, HQ⟩ : ∃ f : Nat → Bool, Hid (f = fun x => if but then neg q x else q x) := ⟨_, rfl⟩
                  have H4 : Hid (TAt (w.heap.size + 1) 2 0 qq wr) := by rw [HQ.out]; exact H3.out.1.ext (fun x hx => turn_all q but x hx)
                  go_wp2_with (first | (refine wpList_loadT rfl _ rfl _ 2 0 qq rfl ?hg1 ?_) | (refine wpList_storeT rfl _ _ rfl _ 2 0 qq rfl rfl 0 0 none_ ?hg2 ?_))
                  case hg1 => exact H4.out
                  case hg2 => exact H3.out.2.1
                  refine bodyPost_ret (v := .tuple #[.agg (tC 2 0 qq), .int .i64 ((i + 1 : Nat) : Int)]) (res_set (g := w.heap.size) rfl rfl (H3.out.2.1.row)) rfl ⟨?_, below_row H3.out.2.2 (Nat.le_refl _) _⟩
                  rw [HE.out, HU.out, HR.out, HQ.out]
                  show _ = Ending.returned (.tuple #[_, .int .i64 ((v.data.toList.length - (v.data.toList.drop (i + 1)).length : Nat) : Int)])
                  rw [List.length_drop, len_data, show v.size - (v.size - (i + 1)) = i + 1 by omega]
            · have HR : Hid (inset (v.data.toList.drop i0).length true none_ (v.data.toList.drop i1) = none) := by
                show _ = _
                rw [← H.out.2.2.2, drop_nil (by rw [len_data]; exact hz), insetL_nil]
              clear hgo
              go_wp2_with (first | (refine wpList_empty rfl rfl ?_) | (refine wpList_storeT rfl _ _ rfl _ 0 0 none_ rfl rfl 0 0 none_ ?hg ?_))
              case hg => exact H.out.2.1
              refine bodyPost_ret (v := .tuple #[.agg (tC 0 0 none_), .int .i64 (-1)]) (res_set (g := w.heap.size) rfl rfl (H.out.2.1.row)) rfl ⟨?_, below_row H.out.2.2.1 (Nat.le_refl _) _⟩
              rw [HE.out, HU.out, HR.out]; rfl
          | true =>
            have hz : i < v.size := by
              rcases Nat.lt_or_ge i v.size with hz | hz
              · exact hz
              · rw [drop_nil (by rw [len_data]; omega)] at hgo; cases hgo
            have HN := Lib.hid (insetL_step n first q _ hgo (by rw [List.length_drop, len_data]; exact hn))
            clear hgo
            have HO := Lib.hid (fun W => one_is v i W hz hs)
            have hn1 := oneN_gt v.data.toList i
            have hn2 := oneN_le v.data.toList i (by rw [len_data]; exact hz)
            have HD := Lib.hid (oneN_drop v.data.toList i (by rw [len_data]; exact hz))
            rw [len_data] at hn2
            go_wp2_with fail
            refine (HO.out _).mono ?_
            rintro e w' ⟨rfl, rfl⟩
            clear HO
            obtain ⟨lo, HL⟩ : ∃ l : UInt8, Hid (unqC (v.data.toList.drop i) = l) := ⟨_, rfl⟩
            rw [HL.out]
            generalize oneN v.data.toList i = nx at hn1 hn2 HD
            go_upto_region 10 with fail
            go_cut [71] (fun b wx => b = .bool (rng (v.data.toList.drop nx)) ∧ wr = wx)
            case first =>
              by_cases h1 : nx + 1 < v.size
              · have HG := Lib.hid (rng_at v nx h1)
                have H1 := Lib.hid (lit45 v[nx])
                have H2 := Lib.hid (lit93n v[nx + 1])
                by_cases h45 : ((v[nx].toNat : Nat) : Int) = 45
                · go_wp2_with fail
                  go_meet
                  exact ⟨by rw [H2.out, HG.out, ← H1.out, h45]; rfl, rfl⟩
                · have h45' : (((v[nx].toNat : Nat) : Int) == 45) = false := by simpa using h45
                  clear h45
                  go_wp2_with fail
                  go_meet
                  exact ⟨by rw [HG.out, ← H1.out, h45']; rfl, rfl⟩
              · have HG := Lib.hid (rng_off v nx h1)
                go_wp2_with fail
                go_meet
                exact ⟨by rw [HG.out], rfl⟩
            case rest =>
              obtain ⟨rfl, rfl⟩ := hcut
              go_upto_if 71 with fail
              go_cut [10, 11] (fun s10 s11 wx => s10 = .int .i64 (hiN v.data.toList nx : Nat) ∧ s11 = .int .u8 ((elHi lo (v.data.toList.drop nx)).toNat : Nat) ∧ wr = wx)
              case first =>
                cases hr : rng (v.data.toList.drop nx) with
                | false =>
                  have H1 : Hid (hiN v.data.toList nx = nx ∧ elHi lo (v.data.toList.drop nx) = lo) := by
                    refine ⟨?_, ?_⟩
                    · unfold hiN; rw [hr]; rfl
                    · unfold elHi; rw [hr]; rfl
                  go_wp2_with fail
                  go_meet
                  exact ⟨by rw [H1.out.1], by rw [H1.out.2], rfl⟩
                | true =>
                  have hl := rng_len hr
                  rw [len_data] at hl
                  have H1 : Hid (hiN v.data.toList nx = oneN v.data.toList (nx + 1) ∧ elHi lo (v.data.toList.drop nx) = unqC (v.data.toList.drop (nx + 1))) := by
                    refine ⟨?_, ?_⟩
                    · unfold hiN; rw [hr]; rfl
                    · rw [hi_eq, hr]; rfl
                  have HO := Lib.hid (fun W => one_is v (nx + 1) W hl hs)
                  clear hr
                  go_wp2_with fail
                  refine (HO.out _).mono ?_
                  rintro e w' ⟨rfl, rfl⟩
                  go_wp2_with fail
                  go_meet
                  exact ⟨by rw [H1.out.1], by rw [H1.out.2], rfl⟩
              case rest =>
                obtain ⟨rfl, rfl, rfl⟩ := hcut
                have hh := hiN_le v.data.toList nx (by rw [len_data]; exact hn2)
                rw [len_data] at hh
                obtain ⟨hh1, hh2⟩ := hh
                have HN2 : Hid (inset n first q (v.data.toList.drop i) = inset (n - 1) false (plus q lo.toNat (elHi lo (v.data.toList.drop nx)).toNat) (v.data.toList.drop (hiN v.data.toList nx))) := by
                  show _ = _
                  rw [HN.out, HL.out, ← HD.out, hiN_drop]
                have hhi : (elHi lo (v.data.toList.drop nx)).toNat < 256 := UInt8.toNat_lt _
                have hlo : lo.toNat < 256 := lo.toNat_lt
                generalize hiN v.data.toList nx = nx2 at hh1 hh2 HN2
                generalize (elHi lo (v.data.toList.drop nx)).toNat = hiv at hhi HN2
                clear HN HD HL
                generalize lo.toNat = lov at hlo HN2
                go_wp2_with fail
                go_loopg [12] 257 (fun g s12 wy => ∃ c : Nat, s12 = .int .i64 c ∧ c ≤ 256 ∧ 256 - c < g ∧ Hid (lov ≤ c ∧ (c ≤ hiv + 1 ∨ c = lov) ∧ TAt (w.heap.size + 1) 2 0 (some_ q lov c) wy ∧ TAt w.heap.size 0 0 none_ wy ∧ Below w.heap.size w wy))
                case atStart => exact ⟨lov, rfl, by omega, by omega, ⟨Nat.le_refl _, .inr rfl, H.out.1.ext (fun x _ => some_start q lov x), H.out.2.1, H.out.2.2.1⟩⟩
                case round =>
                  obtain ⟨wo, rfl⟩ : ∃ wo : World, wo = wr := ⟨_, rfl⟩
                  obtain ⟨c, rfl, hc, hg3, H3⟩ := hrel
                  obtain ⟨g3, rfl⟩ : ∃ g, gk = g + 1 := ⟨gk - 1, by omega⟩
                  by_cases hlt : c ≤ hiv
                  · have c0 := H3.out.2.2.1.cell c (by omega)
                    have f0 := H3.out.2.2.1.open_ (2 + c)
                    go_wp2_with fail
                    go_roundg g3
                    case measure => omega
                    case rel =>
                      obtain ⟨a1, a2, a3, a4, a5⟩ := H3.out
                      exact ⟨c + 1, by go_num, by omega, by omega, ⟨by omega, .inl (by omega), (TAt.put a3 c (by omega) true).ext (fun x _ => some_put q lov c x a1), TAt.other a4 (by simp) _, a5.setCell (p := ⟨w.heap.size + 1, 2 + c, none⟩) (by simp) _⟩⟩
                  · go_wp2_with fail
                    go_roundg g
                    case measure => omega
                    case rel =>
                      obtain ⟨a1, a2, a3, a4, a5⟩ := H3.out
                      exact ⟨nx2, false, plus q lov hiv, n - 1, rfl, rfl, hh1, by omega, by omega, ⟨TAt.ext a3 (fun x _ => some_end q lov hiv c a1 a2 hlt x), a4, a5, HN2.out.symm.trans H.out.2.2.2⟩⟩
end Go.Proofs.YtghfmbmdfojapaaGreatDoor.Rset
