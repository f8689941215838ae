/- Directories as maps: what the program's file system holds. -/
import Derived.Maps.OwnSet
import Derived.Maps.Range
import Derived.Maps.Ext
import Derived.Sort.KeysCollected
import Derived.Test.YtghfmbmdfojapaaGreatDoorPthJ
import Derived.Test.YtghfmbmdfojapaaGreatDoorStrs
import Derived.Test.YtghfmbmdfojapaaGreatDoorPfnJ
namespace Go.Proofs.YtghfmbmdfojapaaGreatDoor.Vmap
open Go Go.RowKit Go.Maps Go.Proofs.YtghfmbmdfojapaaGreatDoor.Pth Go.Proofs.YtghfmbmdfojapaaGreatDoor.Vfs

abbrev U := Unit
/-- what an entry of a directory reads as -/
def litN (p : ByteArray) (d : Bool) (t : ByteArray) (n : Int) : DataW U := .agg [.lit (.string p.data.toList), .lit (.bool d), .lit (.string t.data.toList), .lit (.int .i64 n)]
def nodeElem : Value → Option (DataW U × List MemPlace)
  | .agg cs => match cs.toList with
    | [.string p, .bool d, .string t, .int .i64 n] => some (litN p d t n, [])
    | _ => none
  | _ => none
theorem nodeElem_mk (p : ByteArray) (d : Bool) (t : ByteArray) (n : Int) : nodeElem (.agg #[.string p, .bool d, .string t, .int .i64 n]) = some (litN p d t n, []) := rfl
theorem nodeElem_inv {v : Value} {z : DataW U × List MemPlace} (h : nodeElem v = some z) : ∃ p d t n, v = .agg #[.string p, .bool d, .string t, .int .i64 n] ∧ z = (litN p d t n, []) := by
  unfold nodeElem at h
  split at h
  · rename_i cs
    split at h
    · rename_i p d t n he
      cases h
      exact ⟨p, d, t, n, by rw [← Array.toArray_toList (xs := cs), he], rfl⟩
    · cases h
  · cases h
theorem litN_inj {p p' t t' : ByteArray} {d d' : Bool} {n n' : Int} (h : litN p d t n = litN p' d' t' n') : p = p' ∧ d = d' ∧ t = t' ∧ n = n' := by
  unfold litN at h
  simp only [DataW.agg.injEq, List.cons.injEq, DataW.lit.injEq, Lit.string.injEq, Lit.bool.injEq, Lit.int.injEq, true_and, and_true] at h
  exact ⟨eq_of_data h.1, h.2.1, eq_of_data h.2.2.1, h.2.2.2⟩
/-- what a directory's number leads to -/
def mapElem : Value → Option (DataW U × List MemPlace)
  | .map (some b) => some (.lit (.int .i64 (b : Int)), [])
  | .map none => some (.nil, [])
  | _ => none
theorem mapElem_inv {v : Value} {b : Nat} {ps : List MemPlace} (h : mapElem v = some (.lit (.int .i64 (b : Int)), ps)) : v = .map (some b) := by
  unfold mapElem at h
  split at h
  · rename_i b'
    simp at h
    obtain rfl : b' = b := by omega
    rfl
  · cases h
  · cases h
theorem mapElem_nil {v : Value} {ps : List MemPlace} (h : mapElem v = some (.nil, ps)) : v = .map none := by
  unfold mapElem at h
  split at h
  · cases h
  · rfl
  · cases h

theorem zeroNode (w : World) : (zeroValue 65).run Tryz.prog w = .ok (.agg #[.string .empty, .bool false, .string .empty, .int .i64 0]) w := by kernel_rfl
theorem zeroMap (w : World) : (zeroValue 43).run Tryz.prog w = .ok (.map none) w := by kernel_rfl
theorem KS : Keyed Tryz.prog 9 := string_keyed Tryz.underlying9
theorem KI : Keyed Tryz.prog 3 := int_keyed Tryz.underlying3
theorem keyS {x : ByteArray} (h : x.size ≤ maxLen) : keyOf Tryz.prog 9 (.string x) = some (.string x.data.toList) := WideMaps.keyOf_string_mk Tryz.underlying9 h
theorem wfI {i : Int} (h0 : 0 ≤ i) (h1 : i ≤ 9223372036854775807) : (Lit.int .i64 i).wf = true := by
  simp [Lit.wf, IntKind.min, IntKind.max, IntKind.signed, IntKind.bits]; omega
theorem keyI {i : Int} (h0 : 0 ≤ i) (h1 : i ≤ 9223372036854775807) : keyOf Tryz.prog 3 (.int .i64 i) = some (.int .i64 i) := keyOf_int_mk Tryz.underlying3 (wfI h0 h1)
theorem isKeyS (x : List UInt8) : WideAt.IsKeyLit (.string x) := trivial
theorem isKeyI (i : Int) : WideAt.IsKeyLit (.int .i64 i) := trivial

theorem owns_block {w W : World} {P : Program} {k : TypeId} {R : Value → Option (DataW U × List MemPlace)} {b n : Nat} {D : DataW U} (h : w.ownsMap P k R b n D) (e : W.heap[b]? = w.heap[b]?) : W.ownsMap P k R b n D := by
  obtain ⟨es, clock, hb, r⟩ := h
  exact ⟨es, clock, e.trans hb, r⟩

/-- a path's bytes -/
def pathB (p : Wy) : ByteArray := bs (flatL p)
def numE (ds : List Wy) (e : Ent) : Nat := if e.dir then num ds e.pt else 0
def nodeV (ds : List Wy) (e : Ent) : Value := .agg #[.string (pathB e.pt), .bool e.dir, .string e.text, .int .i64 (numE ds e)]
def nodeD (ds : List Wy) (e : Ent) : DataW U := litN (pathB e.pt) e.dir e.text (numE ds e)
def zeroD : DataW U := litN .empty false .empty 0

/-- block b is the directory p -/
def DirMap (w : World) (b : Nat) (ds : List Wy) (p : Wy) (L : List Ent) : Prop :=
  ∃ D n, w.ownsMap Tryz.prog 9 nodeElem b n D ∧ n ≤ L.length ∧ (∀ x : List UInt8, Maps.has D (.string x) = (at_ L (p ++ [x])).isSome) ∧ ∀ x e, at_ L (p ++ [x]) = some e → D.atKey (.string x) zeroD = nodeD ds e

structure FsIs (w : World) (fa : Addr) (B : Nat) (bl : List Nat) (ds : List Wy) (L : List Ent) : Prop where
  cell : w.cell? fa = some (.map (some B))
  lt : fa.block < w.heap.size
  len : bl.length = ds.length
  nodup : (B :: bl).Nodup
  outer : ∃ D n, w.ownsMap Tryz.prog 3 mapElem B n D ∧ n ≤ bl.length ∧ Maps.size D = bl.length ∧ (∀ i : Int, Maps.has D (.int .i64 i) = decide (1 ≤ i ∧ i ≤ bl.length)) ∧ ∀ (j : Nat) (b : Nat), bl[j]? = some b → D.atKey (.int .i64 ((j : Int) + 1)) .nil = .lit (.int .i64 (b : Int))
  inner : ∀ (j : Nat) p b, ds[j]? = some p → bl[j]? = some b → DirMap w b ds p L

theorem FsIs.of_blocks {w W : World} {fa : Addr} {B : Nat} {bl : List Nat} {ds : List Wy} {L : List Ent} (h : FsIs w fa B bl ds L) (hs : w.heap.size ≤ W.heap.size) (h1 : W.heap[fa.block]? = w.heap[fa.block]?) (h2 : W.heap[B]? = w.heap[B]?) (h3 : ∀ b ∈ bl, W.heap[b]? = w.heap[b]?) : FsIs W fa B bl ds L := by
  refine ⟨(World.cell?_of_block h1).trans h.cell, Nat.lt_of_lt_of_le h.lt hs, h.len, h.nodup, ?_, fun j p b hp hb => ?_⟩
  · obtain ⟨D, n, ho, r⟩ := h.outer
    exact ⟨D, n, owns_block ho h2, r⟩
  · obtain ⟨D, n, ho, r⟩ := h.inner j p b hp hb
    exact ⟨D, n, owns_block ho (h3 b (List.mem_of_getElem? hb)), r⟩
theorem FsIs.lt_outer {w : World} {fa : Addr} {B : Nat} {bl : List Nat} {ds : List Wy} {L : List Ent} (h : FsIs w fa B bl ds L) : B < w.heap.size := by
  obtain ⟨D, n, ho, _⟩ := h.outer
  exact ho.lt
theorem FsIs.lt_inner {w : World} {fa : Addr} {B : Nat} {bl : List Nat} {ds : List Wy} {L : List Ent} (h : FsIs w fa B bl ds L) {b : Nat} (hb : b ∈ bl) : b < w.heap.size := by
  obtain ⟨j, hj⟩ := List.getElem?_of_mem hb
  have hl := (List.getElem?_eq_some_iff.1 hj).1
  obtain ⟨D, n, ho, _⟩ := h.inner j (ds[j]'(by rw [← h.len]; exact hl)) b (List.getElem?_eq_getElem _) hj
  exact ho.lt
theorem FsIs.below {w W : World} {fa : Addr} {B : Nat} {bl : List Nat} {ds : List Wy} {L : List Ent} (h : FsIs w fa B bl ds L) (hb : Below w.heap.size w W) : FsIs W fa B bl ds L :=
  h.of_blocks hb.size (hb.block _ h.lt) (hb.block _ h.lt_outer) (fun _ hm => hb.block _ (h.lt_inner hm))
theorem FsIs.of_heap {w W : World} {fa : Addr} {B : Nat} {bl : List Nat} {ds : List Wy} {L : List Ent} (h : FsIs w fa B bl ds L) (e : W.heap = w.heap) : FsIs W fa B bl ds L :=
  h.of_blocks (by rw [e]; exact Nat.le_refl _) (by rw [e]) (by rw [e]) (fun _ _ => by rw [e])

theorem idx_inj {α : Type} [BEq α] [LawfulBEq α] {l : List α} (hn : l.Nodup) {i j : Nat} (hi : i < l.length) (hj : j < l.length) (e : l[i] = l[j]) : i = j := by
  rw [← List.Nodup.idxOf_getElem hn i hi, e, List.Nodup.idxOf_getElem hn j hj]

section
variable {w : World} {fa : Addr} {B : Nat} {bl : List Nat} {ds : List Wy} {L : List Ent}

/-- the directory by its number -/
theorem FsIs.look_dir (h : FsIs w fa B bl ds L) {j b : Nat} (hb : bl[j]? = some b) (hm : bl.length ≤ 1099511627776) : (Instr.lookup 44 (.map (some B)) (.int .i64 ((j : Int) + 1)) false).run Tryz.prog w = .ok (.map (some b)) w := by
  have hj := (List.getElem?_eq_some_iff.1 hb).1
  obtain ⟨D, n, ho, _, _, _, hat⟩ := h.outer
  obtain ⟨v, ps, hrun, hv⟩ := ho.lookup KI Tryz.underlying44 (zeroMap w) (zd := .nil) (zp := []) rfl (keyI (i := (j : Int) + 1) (by omega) (by omega))
  rw [hat j b hb] at hv
  rw [mapElem_inv hv] at hrun
  exact hrun
/-- below a file there is nothing -/
theorem FsIs.look_zero (h : FsIs w fa B bl ds L) : (Instr.lookup 44 (.map (some B)) (.int .i64 0) false).run Tryz.prog w = .ok (.map none) w := by
  obtain ⟨D, n, ho, _, _, hh, _⟩ := h.outer
  obtain ⟨v, ps, hrun, hv⟩ := ho.lookup KI Tryz.underlying44 (zeroMap w) (zd := .nil) (zp := []) rfl (keyI (i := 0) (by omega) (by omega))
  have h0 : Maps.has D (.int .i64 0) = false := by rw [hh]; simp
  rw [atKey_of_not_has h0] at hv
  rw [mapElem_nil hv] at hrun
  exact hrun
theorem look_none (x : ByteArray) (hx : x.size ≤ maxLen) (w : World) : (Instr.lookup 43 (.map none) (.string x) true).run Tryz.prog w = .ok (.tuple #[.agg #[.string .empty, .bool false, .string .empty, .int .i64 0], .bool false]) w := by
  have := Maps.look_nil (P := Tryz.prog) (w := w) true KS Tryz.underlying43 (zeroNode w) (keyS hx)
  rw [this]; rfl
/-- a name in a directory -/
theorem DirMap.look {b : Nat} {p : Wy} (h : DirMap w b ds p L) (x : ByteArray) (hx : x.size ≤ maxLen) :
    (Instr.lookup 43 (.map (some b)) (.string x) true).run Tryz.prog w = .ok (match at_ L (p ++ [x.data.toList]) with | some e => .tuple #[nodeV ds e, .bool true] | none => .tuple #[.agg #[.string .empty, .bool false, .string .empty, .int .i64 0], .bool false]) w := by
  obtain ⟨D, n, ho, _, hh, hat⟩ := h
  obtain ⟨v, ps, hrun, hv⟩ := ho.look_ok KS Tryz.underlying43 (zeroNode w) (zd := zeroD) (zp := []) rfl (keyS hx)
  rw [hrun, hh]
  cases hc : at_ L (p ++ [x.data.toList]) with
  | none =>
    have h0 : Maps.has D (.string x.data.toList) = false := by rw [hh, hc]; rfl
    rw [atKey_of_not_has h0] at hv
    obtain ⟨p', d, t, n', rfl, hz⟩ := nodeElem_inv hv
    obtain ⟨rfl, rfl, rfl, rfl⟩ := litN_inj (congrArg Prod.fst hz)
    rfl
  | some e =>
    rw [hat _ _ hc] at hv
    obtain ⟨p', d, t, n', rfl, hz⟩ := nodeElem_inv hv
    obtain ⟨rfl, rfl, rfl, rfl⟩ := litN_inj (congrArg Prod.fst hz)
    rfl
theorem DirMap.look_some {b : Nat} {p : Wy} (h : DirMap w b ds p L) (x : ByteArray) (hx : x.size ≤ maxLen) {e : Ent} (he : at_ L (p ++ [x.data.toList]) = some e) :
    (Instr.lookup 43 (.map (some b)) (.string x) true).run Tryz.prog w = .ok (.tuple #[nodeV ds e, .bool true]) w := by
  rw [h.look x hx, he]
theorem DirMap.look_no {b : Nat} {p : Wy} (h : DirMap w b ds p L) (x : ByteArray) (hx : x.size ≤ maxLen) (he : at_ L (p ++ [x.data.toList]) = none) :
    (Instr.lookup 43 (.map (some b)) (.string x) true).run Tryz.prog w = .ok (.tuple #[.agg #[.string .empty, .bool false, .string .empty, .int .i64 0], .bool false]) w := by
  rw [h.look x hx, he]

/-- how many directories -/
theorem FsIs.len_run (h : FsIs w fa B bl ds L) (ty : TypeId) : (Builtin.len_ #[44] ty #[.map (some B)]).run Tryz.prog w = .ok (.int .i64 (bl.length : Int)) w := by
  obtain ⟨D, n, ho, _, hs, _⟩ := h.outer
  rw [ho.len Tryz.underlying44 ty, hs]

theorem numE_app {e : Ent} {q : Wy} (h : e.dir = true → e.pt ∈ ds) : numE (ds ++ [q]) e = numE ds e := by
  unfold numE
  cases hd : e.dir with
  | false => rfl
  | true => exact num_app (h hd)

/-- a new name in a directory -/
theorem FsIs.put_name (h : FsIs w fa B bl ds L) (hnd : ds.Nodup) {j b : Nat} {p : Wy} (hp : ds[j]? = some p) (hb : bl[j]? = some b) {x : ByteArray} (hx : x.size ≤ maxLen) {e : Ent} (he : e.pt = p ++ [x.data.toList]) (hn : at_ L e.pt = none) (hL : L.length < maxLen) :
    ∃ W, (Instr.mapUpdate 43 (.map (some b)) (.string x) (nodeV ds e)).run Tryz.prog w = .ok () W ∧ FsIs W fa B bl ds (L ++ [e]) ∧ w.grownBy W (some b) := by
  obtain ⟨D, n, ho, hle, hh, hat⟩ := h.inner j p b hp hb
  obtain ⟨W, hrun, ho2, hg⟩ := ho.update KS Tryz.underlying43 (Nat.lt_of_le_of_lt hle hL) (keyS hx) (val := nodeV ds e) (nodeElem_mk ..)
  have hbB : b ≠ B := fun e1 => (List.nodup_cons.1 h.nodup).1 (e1 ▸ List.mem_of_getElem? hb)
  have hbf : b ≠ fa.block := fun e1 => by
    obtain ⟨es, clock, hbl, _⟩ := ho
    have hc := h.cell
    rw [e1] at hbl
    simp [World.cell?, hbl] at hc
  have hmap : D.put (.string x.data.toList) (nodeD ds e) = D.put (.string x.data.toList) (litN (pathB e.pt) e.dir e.text (numE ds e)) := rfl
  refine ⟨W, hrun, ⟨(World.cell?_of_block (hg.block _ h.lt (fun e1 => hbf (Option.some.inj e1).symm))).trans h.cell, Nat.lt_of_lt_of_le h.lt hg.size, h.len, h.nodup, ?_, fun j' p' b' hp' hb' => ?_⟩, hg⟩
  · obtain ⟨D', n', ho', r⟩ := h.outer
    exact ⟨D', n', ho'.kept hg (fun e1 => hbB (Option.some.inj e1).symm), r⟩
  · by_cases hj : j' = j
    · subst hj
      obtain rfl : p = p' := Option.some.inj (hp.symm.trans hp')
      obtain rfl : b = b' := Option.some.inj (hb.symm.trans hb')
      refine ⟨_, n + 1, ho2, by rw [List.length_append, List.length_cons, List.length_nil]; omega, fun y => ?_, fun y d hd => ?_⟩
      · by_cases hy : y = x.data.toList
        · subst hy
          rw [has_put_same ho.isMap (isKeyS _), at_snoc_same (by rw [← he]; exact hn) he]; rfl
        · rw [has_put_other (fun e1 => hy (by cases e1; rfl)), hh, at_snoc_other (fun e1 => hy ?_)]
          rw [he] at e1
          exact (List.cons.inj (List.append_inj_right e1 rfl)).1.symm
      · by_cases hy : y = x.data.toList
        · subst hy
          rw [at_snoc_same (by rw [← he]; exact hn) he] at hd
          rw [← Option.some.inj hd, atKey_put_same ho.isMap (isKeyS _)]; rfl
        · rw [at_snoc_other (fun e1 => hy ?_)] at hd
          · rw [atKey_put_other (fun e1 => hy (by cases e1; rfl)), hat y d hd]
          · rw [he] at e1
            exact (List.cons.inj (List.append_inj_right e1 rfl)).1.symm
    · obtain ⟨D', n', ho', hle', hh', hat'⟩ := h.inner j' p' b' hp' hb'
      have hbb : b' ≠ b := fun e1 => hj (by
        have hl := (List.getElem?_eq_some_iff.1 hb).1
        have hl' := (List.getElem?_eq_some_iff.1 hb').1
        have e2 : bl[j'] = bl[j] := by rw [(List.getElem?_eq_some_iff.1 hb).2, (List.getElem?_eq_some_iff.1 hb').2, e1]
        exact idx_inj (List.nodup_cons.1 h.nodup).2 hl' hl e2)
      have hpp : p ≠ p' := fun e1 => hj (by
        have e2 : ds[j']'((List.getElem?_eq_some_iff.1 hp').1) = ds[j]'((List.getElem?_eq_some_iff.1 hp).1) := by rw [(List.getElem?_eq_some_iff.1 hp).2, (List.getElem?_eq_some_iff.1 hp').2, e1]
        exact idx_inj hnd _ _ e2)
      have hother : ∀ y, at_ (L ++ [e]) (p' ++ [y]) = at_ L (p' ++ [y]) := fun y => at_snoc_other (fun e1 => hpp (by rw [he] at e1; exact (List.append_inj' e1 rfl).1))
      refine ⟨D', n', ho'.kept hg (fun e1 => hbb (Option.some.inj e1)), by rw [List.length_append]; omega, fun y => by rw [hh', hother], fun y d hd => ?_⟩
      rw [hother] at hd
      exact hat' y d hd

/-- a new directory, empty -/
theorem FsIs.new_dir (h : FsIs w fa B bl ds L) {q : Wy} {bn : Nat} (hbn : ∃ n, w.ownsMap Tryz.prog 9 nodeElem bn n (.map []) ∧ n = 0) (hfr : bn ∉ B :: bl) (hq : ∀ y, at_ L (q ++ [y]) = none) (hds : ∀ e ∈ L, e.dir = true → e.pt ∈ ds) (hm : bl.length < 1099511627776) :
    ∃ W, (Instr.mapUpdate 44 (.map (some B)) (.int .i64 ((bl.length : Int) + 1)) (.map (some bn))).run Tryz.prog w = .ok () W ∧ FsIs W fa B (bl ++ [bn]) (ds ++ [q]) L ∧ w.grownBy W (some B) := by
  obtain ⟨n0, hon, rfl⟩ := hbn
  obtain ⟨D, n, ho, hle, hsz, hh, hat⟩ := h.outer
  have hml : (maxLen : Nat) = 9223372036854775807 := by unfold maxLen; rfl
  obtain ⟨W, hrun, ho2, hg⟩ := ho.update KI Tryz.underlying44 (by omega) (keyI (i := (bl.length : Int) + 1) (by omega) (by omega)) (val := .map (some bn)) (d := .lit (.int .i64 (bn : Int))) (ps := []) rfl
  have hBf : B ≠ fa.block := fun e1 => by
    obtain ⟨es, clock, hbl, _⟩ := ho
    have hc := h.cell
    rw [e1] at hbl
    simp [World.cell?, hbl] at hc
  have hno : Maps.has D (.int .i64 ((bl.length : Int) + 1)) = false := by rw [hh]; simp; omega
  have hl1 : (bl ++ [bn]).length = bl.length + 1 := by simp
  refine ⟨W, hrun, ⟨(World.cell?_of_block (hg.block _ h.lt (fun e1 => hBf (Option.some.inj e1).symm))).trans h.cell, Nat.lt_of_lt_of_le h.lt hg.size, by simp [h.len], ?_, ?_, fun j p b hp hb => ?_⟩, hg⟩
  · have h1 := h.nodup
    rw [List.mem_cons, not_or] at hfr
    rw [List.nodup_cons] at h1 ⊢
    refine ⟨fun hm2 => ?_, ?_⟩
    · rcases List.mem_append.1 hm2 with h2 | h2
      · exact h1.1 h2
      · exact hfr.1 (List.mem_singleton.1 h2).symm
    · rw [List.nodup_append]
      exact ⟨h1.2, by simp, fun a ha c hc e1 => hfr.2 (by rw [← List.mem_singleton.1 hc, ← e1]; exact ha)⟩
  · refine ⟨_, n + 1, ho2, by rw [hl1]; omega, ?_, fun i => ?_, fun j b hb => ?_⟩
    · rw [size_put (ho.tidy KI), hno, if_neg (by simp), hsz, hl1]
    · by_cases hi : i = (bl.length : Int) + 1
      · subst hi
        rw [has_put_same ho.isMap (isKeyI _), hl1]
        symm
        rw [decide_eq_true_iff]
        omega
      · rw [has_put_other (fun e1 => hi (by cases e1; rfl)), hh, hl1]
        rw [decide_eq_decide]
        omega
    · by_cases hj : j < bl.length
      · rw [List.getElem?_append_left hj] at hb
        rw [atKey_put_other (fun e1 => by cases e1; omega), hat j b hb]
      · have hjl := (List.getElem?_eq_some_iff.1 hb).1
        rw [hl1] at hjl
        obtain rfl : j = bl.length := by omega
        rw [List.getElem?_append_right (Nat.le_refl _), Nat.sub_self] at hb
        rw [atKey_put_same ho.isMap (isKeyI _), ← Option.some.inj hb]
  · by_cases hj : j < bl.length
    · rw [List.getElem?_append_left hj] at hb
      rw [List.getElem?_append_left (by rw [← h.len]; exact hj)] at hp
      obtain ⟨D', n', ho', hle', hh', hat'⟩ := h.inner j p b hp hb
      have hbB : b ≠ B := fun e1 => (List.nodup_cons.1 h.nodup).1 (e1 ▸ List.mem_of_getElem? hb)
      refine ⟨D', n', ho'.kept hg (fun e1 => hbB (Option.some.inj e1)), hle', hh', fun x e he => ?_⟩
      rw [hat' x e he]
      unfold nodeD
      rw [numE_app (hds e (at_mem he).1)]
    · have hjl := (List.getElem?_eq_some_iff.1 hb).1
      rw [hl1] at hjl
      obtain rfl : j = bl.length := by omega
      rw [List.getElem?_append_right (Nat.le_refl _), Nat.sub_self] at hb
      rw [List.getElem?_append_right (by rw [h.len]; exact Nat.le_refl _), h.len, Nat.sub_self] at hp
      obtain rfl : bn = b := Option.some.inj hb
      obtain rfl : q = p := Option.some.inj hp
      have hbB : bn ≠ B := fun e1 => hfr (by rw [e1]; exact List.mem_cons_self)
      refine ⟨_, 0, hon.kept hg (fun e1 => hbB (Option.some.inj e1)), Nat.zero_le _, fun x => by rw [hq]; rfl, fun x e he => ?_⟩
      rw [hq] at he; cases he
end

theorem setCell_heap (w : World) (a : Addr) (v : Value) (k : Nat) (h : k ≠ a.block) : (w.setCell a v).heap[k]? = w.heap[k]? := Below.heap_setCell _ _ _ _ h
theorem FsIs.setCell {w : World} {fa : Addr} {B : Nat} {bl : List Nat} {ds : List Wy} {L : List Ent} (h : FsIs w fa B bl ds L) (a : Addr) (v : Value) (h1 : a.block ≠ fa.block) (h2 : a.block ≠ B) (h3 : ∀ b ∈ bl, a.block ≠ b) : FsIs (w.setCell a v) fa B bl ds L :=
  h.of_blocks (by simp) (setCell_heap _ _ _ _ h1.symm) (setCell_heap _ _ _ _ h2.symm) (fun b hb => setCell_heap _ _ _ _ (h3 b hb).symm)

end Go.Proofs.YtghfmbmdfojapaaGreatDoor.Vmap

/- The program's names and upTo. -/
namespace Go.Proofs.YtghfmbmdfojapaaGreatDoor.Vnames
open Go.RowKit Go.Proofs.YtghfmbmdfojapaaGreatDoor.Pth Go.Proofs.YtghfmbmdfojapaaGreatDoor.Pabs Go.Proofs.YtghfmbmdfojapaaGreatDoor.Strs Go.Proofs.YtghfmbmdfojapaaGreatDoor.Vfs Go.Proofs.YtghfmbmdfojapaaGreatDoor.Vmap

theorem lits_is (w : World) (l : List ByteArray) : SlIs (w.alloc (.cells (l.map Value.string).toArray 9)) (some ⟨w.heap.size, 0, none⟩) l.length l := by
  refine ⟨Nat.le_refl _, .inr ⟨w.heap.size, 0, rfl, by simp, fun j x hx => ?_⟩⟩
  rw [Nat.zero_add, Lib.cell_of_heap (heap_alloc_new w _)]
  rw [List.getElem?_toArray, List.getElem?_map, hx]
  rfl
theorem alloc_below (w : World) (o : Obj) : Below w.heap.size w (w.alloc o) := (Below.refl _ _).alloc (Nat.le_refl _) _

/-- a whole path's text -/
def absT (p : Wy) : ByteArray := bs (orSlash (flatL p))
theorem absT_cons (x : List UInt8) (r : Wy) : absT (x :: r) = pathB (x :: r) := rfl
theorem absT_ne {p : Wy} (h : p ≠ []) : absT p = pathB p := by
  cases p with
  | nil => exact absurd rfl h
  | cons x r => rfl
theorem cut_one (x : List UInt8) (r : Wy) : (absT (x :: r)).extract 1 (absT (x :: r)).size = bs (x ++ flatL r) := by
  apply eq_of_data
  rw [drop_data]
  rfl
theorem partsB_cut (x : List UInt8) (r : Wy) (h : ∀ y ∈ x :: r, Pth.Good y) : partsB (bs (x ++ flatL r)) = (x :: r).map bs := by
  unfold partsB
  rw [data_bs, split_flat r x (h x List.mem_cons_self).2.2.2 (fun y hy => (h y (List.mem_cons_of_mem _ hy)).2.2.2)]

set_option maxRecDepth 100000 in
set_option maxHeartbeats 1000000 in
theorem names_none (s : ByteArray) (w : World) (hs : s.size ≤ 1) :
    Calls Tryz.prog 36 #[.string s] w fun e W' => e = .returned (.slice none 0 0) ∧ W' = w := by
  go_enter Tryz.func36, Tryz.ntmps36
  go_wp2
  go_ret
  exact ⟨rfl, rfl⟩
set_option maxRecDepth 100000 in
set_option maxHeartbeats 1000000 in
theorem names_some (x : List UInt8) (r : Wy) (w : World) (h : ∀ y ∈ x :: r, Pth.Good y) (hz : (flatL (x :: r)).length ≤ 3000000) :
    Calls Tryz.prog 36 #[.string (absT (x :: r))] w fun e W' => ∃ A, e = .returned (.slice A (x :: r).length (x :: r).length) ∧ SlIs W' A (x :: r).length ((x :: r).map bs) ∧ (x :: r ≠ [] → A = some ⟨w.heap.size, 0, none⟩) ∧ Below w.heap.size w W' := by
  have h2 : 2 ≤ (absT (x :: r)).size := by
    have hx := (h x List.mem_cons_self).1
    show 2 ≤ (flatL (x :: r)).length
    rw [flatL_cons, List.length_cons, List.length_append]
    have : 0 < x.length := List.length_pos_iff.2 hx
    omega
  have hle : (absT (x :: r)).size ≤ 3000000 := hz
  have hc := cut_one x r
  have hsz : (bs (x ++ flatL r)).size ≤ 3000000 := by
    rw [size_bs]
    have : (flatL (x :: r)).length = (x ++ flatL r).length + 1 := by rw [flatL_cons]; rfl
    omega
  have hsp := fun W => split_is (bs (x ++ flatL r)) W (by omega)
  rw [partsB_cut x r h] at hsp
  have HSP := Lib.hid hsp
  clear h hz hsz hsp
  generalize absT (x :: r) = s at *
  generalize bs (x ++ flatL r) = s' at *
  go_enter Tryz.func36, Tryz.ntmps36
  go_wp2_with fail
  refine (HSP.out _).mono ?_
  rintro e w' ⟨rfl, rfl⟩
  go_wp2
  go_ret
  refine ⟨some ⟨w.heap.size, 0, none⟩, by simp, ?_, fun _ => rfl, alloc_below _ _⟩
  have := lits_is w ((x :: r).map bs)
  simp only [List.length_map, List.map_cons, List.length_cons, List.map_map] at this ⊢
  exact this
theorem names_is (p : Wy) (s : ByteArray) (w : World) (hs : s = absT p ∨ (s = ⟨#[]⟩ ∧ p = [])) (h : ∀ y ∈ p, Pth.Good y) (hz : (flatL p).length ≤ 3000000) :
    Calls Tryz.prog 36 #[.string s] w fun e W' => ∃ A, e = .returned (.slice A p.length p.length) ∧ SlIs W' A p.length (p.map bs) ∧ (p ≠ [] → A = some ⟨w.heap.size, 0, none⟩) ∧ Below w.heap.size w W' := by
  cases p with
  | nil =>
    refine (names_none s w ?_).mono ?_
    · rcases hs with rfl | ⟨rfl, _⟩
      · exact Nat.le_refl _
      · exact Nat.zero_le _
    · rintro e W' ⟨rfl, rfl⟩
      exact ⟨none, rfl, ⟨Nat.le_refl _, .inl rfl⟩, fun h0 => absurd rfl h0, Below.refl _ _⟩
  | cons x r =>
    rcases hs with rfl | ⟨_, h0⟩
    · exact names_some x r w h hz
    · cases h0

set_option maxRecDepth 100000 in
set_option maxHeartbeats 1000000 in
theorem upTo_last (p t : ByteArray) (d : Bool) (k : Int) (w : World) (hk : k = p.size) (_ : p.size ≤ 3000003) :
    Calls Tryz.prog 38 #[.agg #[.string p, .bool d, .string t], .int .i64 k] w fun e W' => e = .returned (.agg #[.string p, .bool d, .string t]) ∧ Below w.heap.size w W' := by
  subst hk
  go_enter Tryz.func38, Tryz.ntmps38
  go_wp2
  exact bodyPost_ret (v := .agg #[.string p, .bool d, .string t]) (by simp [results, Tryz.results38, go_sem]) rfl ⟨rfl, ((Below.refl _ _).alloc (Nat.le_refl _) _).alloc (by simp) _⟩
set_option maxRecDepth 100000 in
set_option maxHeartbeats 1000000 in
theorem upTo_way (p t q : ByteArray) (d : Bool) (k : Nat) (w : World) (hk : k < p.size) (_ : p.size ≤ 3000003) (hq : p.extract 0 k = q) :
    Calls Tryz.prog 38 #[.agg #[.string p, .bool d, .string t], .int .i64 k] w fun e W' => e = .returned (.agg #[.string q, .bool true, .string ⟨#[]⟩]) ∧ Below w.heap.size w W' := by
  have hne : ¬ ((k : Int) = p.size) := by omega
  go_enter Tryz.func38, Tryz.ntmps38
  go_wp2
  exact bodyPost_ret (v := .agg #[.string q, .bool true, .string ⟨#[]⟩]) (by simp [results, Tryz.results38, go_sem]) rfl ⟨rfl, ((Below.refl _ _).alloc (Nat.le_refl _) _).alloc (by simp) _⟩

theorem path_cut (a b : Wy) : (pathB (a ++ b)).extract 0 (flatL a).length = pathB a := by
  apply eq_of_data
  rw [take_data]
  show (flatL (a ++ b)).take _ = flatL a
  rw [flatL_app, List.take_left']
  rfl
theorem upTo_is (pt pre r : Wy) (x : List UInt8) (dir : Bool) (text : ByteArray) (w : World) (hpt : pt = pre ++ x :: r) (hz : (flatL pt).length ≤ 3000000) :
    Calls Tryz.prog 38 #[.agg #[.string (pathB pt), .bool dir, .string text], .int .i64 ((flatL (pre ++ [x])).length : Nat)] w fun e W' => e = .returned (.agg #[.string (pathB (pre ++ [x])), .bool (nextE dir text pre x r).dir, .string (nextE dir text pre x r).text]) ∧ Below w.heap.size w W' := by
  have hpt2 : pt = (pre ++ [x]) ++ r := by rw [hpt]; simp
  by_cases hr : r = []
  · subst hr
    rw [List.append_nil] at hpt2
    rw [← hpt2]
    refine (upTo_last (pathB pt) text dir _ w rfl (by show (flatL pt).length ≤ _; omega)).mono ?_
    rintro e W' ⟨rfl, hb⟩
    rw [nextE, if_pos rfl]
    exact ⟨rfl, hb⟩
  · have hlt : (flatL (pre ++ [x])).length < (flatL pt).length := by
      rw [hpt2, flatL_app (pre ++ [x]) r, List.length_append]
      cases r with
      | nil => exact absurd rfl hr
      | cons y s => rw [flatL_cons, List.length_cons]; omega
    refine (upTo_way (pathB pt) text (pathB (pre ++ [x])) dir _ w hlt (by show (flatL pt).length ≤ _; omega) (by rw [hpt2]; exact path_cut _ _)).mono ?_
    rintro e W' ⟨rfl, hb⟩
    rw [nextE, if_neg hr]
    exact ⟨rfl, hb⟩

end Go.Proofs.YtghfmbmdfojapaaGreatDoor.Vnames
