/- The program's two maps: the functions that were asked for; from which number of a list on how many are right. -/
import Derived.LaidEql
import Derived.Laws.StructEq
import Derived.MapKept
import Derived.Test.YtpphkaolonjjdaaDoorFmpJ
import Derived.Test.YtpphkaolonjjdaaDoorJkdJ
namespace Go.Proofs.YtpphkaolonjjdaaDoor.Jmp
open Go Go.RowKit Go.Proofs.YtpphkaolonjjdaaDoor.Spl Go.Proofs.YtpphkaolonjjdaaDoor.Nodm Go.Proofs.YtpphkaolonjjdaaDoor.Fpl Go.Proofs.YtpphkaolonjjdaaDoor.Fmp Go.Proofs.YtpphkaolonjjdaaDoor.Cpl Go.Proofs.YtpphkaolonjjdaaDoor.Cin Go.Proofs.YtpphkaolonjjdaaDoor.Dpl
open Go.Proofs.YtpphkaolonjjdaaDoor.Pure (bs)

theorem get_m {w : World} {r : Nat} {es : Array MapEntry} {n : Nat} (h : w.heap[r]? = some (.map es n)) : (getObj r).run Tryd.prog w = .ok (.map es n) w := by simp [getObj, Sem.run, h]
theorem set_m {w : World} {r : Nat} {es : Array MapEntry} {n : Nat} (h : w.heap[r]? = some (.map es n)) (o : Obj) : (setObj r o).run Tryd.prog w = .ok () { w with heap := w.heap.setIfInBounds r o } := by simp [setObj, Sem.run, h]

/-- nothing but the blocks f and r, and new blocks, differs -/
structure Fr (f r : Nat) (w W : World) : Prop where
  os : W.os = w.os
  tape : W.tape = w.tape
  output : W.output = w.output
  size : w.heap.size ≤ W.heap.size
  block : ∀ k, k < w.heap.size → k ≠ f → k ≠ r → W.heap[k]? = w.heap[k]?
theorem Fr.below {B f r : Nat} {w W : World} (h : Fr f r w W) (hf : B ≤ f) (hr : B ≤ r) (hz : B ≤ w.heap.size) : Below B w W := ⟨h.os, h.tape, h.output, h.size, fun k hk => h.block k (by omega) (by omega) (by omega)⟩
theorem Fr.of {f r : Nat} {w W : World} (h : Below w.heap.size w W) : Fr f r w W := ⟨h.os, h.tape, h.output, h.size, fun k hk _ _ => h.block k hk⟩
theorem Fr.refl (f r : Nat) (w : World) : Fr f r w w := Fr.of (Below.refl _ _)
theorem Fr.trans {f r : Nat} {w W X : World} (h : Fr f r w W) (k : Fr f r W X) : Fr f r w X := ⟨k.os.trans h.os, k.tape.trans h.tape, k.output.trans h.output, Nat.le_trans h.size k.size, fun j hj hf hr => (k.block j (Nat.lt_of_lt_of_le hj h.size) hf hr).trans (h.block j hj hf hr)⟩
theorem Fr.then {f r : Nat} {w W X : World} (h : Fr f r w W) (k : Below W.heap.size W X) : Fr f r w X := h.trans (Fr.of k)
theorem Fr.left {f r : Nat} {w W : World} (h : Fr f f w W) : Fr f r w W := ⟨h.os, h.tape, h.output, h.size, fun k hk hf _ => h.block k hk hf hf⟩
theorem Fr.right {f r : Nat} {w W : World} (h : Fr r r w W) : Fr f r w W := ⟨h.os, h.tape, h.output, h.size, fun k hk _ hr => h.block k hk hr hr⟩

/-! ### the functions that were asked for -/
theorem same_self (x : ByteArray) : (x == x) = true := by rw [beq_toListBytes]; exact beq_self_eq_true _
theorem same_not {x y : ByteArray} (h : x ≠ y) : (x == y) = false := by
  rw [beq_toListBytes, beq_eq_false_iff_ne]
  intro e
  rw [Lib.toList_data, Lib.toList_data] at e
  exact h (eq_of_data e)
theorem find_now (x : ByteArray) : ∀ (es : List MapEntry) (i : Nat), (∀ e ∈ es, ∃ y, e.key = .string y) →
    ∃ r, Instr.findNow .string (.string x) es i = some r ∧ (r = none ∨ ∃ j e, r = some (i + j, e.val) ∧ es[j]? = some e ∧ e.key = .string x)
  | [], i, _ => ⟨none, rfl, .inl rfl⟩
  | e :: r, i, he => by
    obtain ⟨y, e1⟩ := he e (List.mem_cons_self ..)
    by_cases h : x = y
    · subst h
      exact ⟨some (i, e.val), by simp [Instr.findNow, Instr.sameNow, e1, same_self], .inr ⟨0, e, rfl, rfl, e1⟩⟩
    · obtain ⟨z, h1, h2⟩ := find_now x r (i + 1) fun y hy => he y (List.mem_cons_of_mem _ hy)
      have hxy := same_not h
      refine ⟨z, by simp [Instr.findNow, Instr.sameNow, e1, hxy, h1], h2.imp id ?_⟩
      rintro ⟨j, u, rfl, h4, h5⟩
      exact ⟨j + 1, u, by rw [show i + 1 + j = i + (j + 1) by omega], by simpa using h4, h5⟩
theorem find_text (w : World) (x : ByteArray) (es : List MapEntry) (he : ∀ e ∈ es, ∃ y, e.key = .string y) :
    ∃ r : Option (Nat × Value), (Instr.findKey 9 (.string x) es).run Tryd.prog w = .ok r w ∧ (r = none ∨ ∃ j e, r = some (j, e.val) ∧ es[j]? = some e ∧ e.key = .string x) := by
  obtain ⟨r, h1, h2⟩ := find_now x es 0 he
  refine ⟨r, ?_, by simpa using h2⟩
  simp [Instr.findKey, run_underlying Tryd.underlying9, h1]
theorem check_text (w : World) (em : Bool) (d : Nat) (x : ByteArray) : (Instr.checkKey em (d + 1) 9 (.string x)).run Tryd.prog w = .ok () w := by
  simp [Instr.checkKey, run_underlying Tryd.underlying9]
/-- each entry says what the function is -/
def FTab (mb : Nat) (w : World) : Prop := ∃ es n, w.heap[mb]? = some (.map es n) ∧ ∀ e ∈ es.toList, ∃ x i, e.key = .string x ∧ lookI tab x.data.toList = some i ∧ e.val = infV i
theorem FTab.lt {mb : Nat} {w : World} (h : FTab mb w) : mb < w.heap.size := by
  obtain ⟨_, _, h, _⟩ := h
  exact (Array.getElem?_eq_some_iff.1 h).1
theorem FTab.move {mb : Nat} {w W : World} (h : FTab mb w) (e : W.heap[mb]? = w.heap[mb]?) : FTab mb W := h.imp fun _ h => h.imp fun _ h => ⟨e.trans h.1, h.2⟩
theorem FTab.made (w : World) : FTab w.heap.size (w.alloc (.map #[] 0)) := ⟨#[], 0, heap_alloc_new w _, fun e h => by cases h⟩
theorem FTab.look_all {mb : Nat} {w : World} (h : FTab mb w) (x : ByteArray) :
    (∃ i, lookI tab x.data.toList = some i ∧ ∀ W, W.heap[mb]? = w.heap[mb]? → (Instr.lookup 48 (.map (some mb)) (.string x) true).run Tryd.prog W = .ok (.tuple #[infV i, .bool true]) W) ∨ (∀ W, W.heap[mb]? = w.heap[mb]? → (Instr.lookup 48 (.map (some mb)) (.string x) true).run Tryd.prog W = .ok (.tuple #[infV zero, .bool false]) W) := by
  obtain ⟨es, n, hm, he⟩ := h
  obtain ⟨r, h1, h2⟩ := find_now x es.toList 0 fun e hx => by
    obtain ⟨y, _, e1, _⟩ := he e hx
    exact ⟨y, e1⟩
  have h1 : ∀ W, (Instr.findKey 9 (.string x) es.toList).run Tryd.prog W = .ok r W := fun W => by simp [Instr.findKey, run_underlying Tryd.underlying9, h1]
  have hc := fun W => check_text W es.isEmpty 9999 x
  rcases h2 with rfl | ⟨j, e, rfl, h3, h4⟩
  · right
    intro W hW
    simp [Instr.lookup, run_underlying Tryd.underlying48, get_m (hW.trans hm), hc, h1]
    rfl
  · left
    obtain ⟨y, i, e1, e2, e3⟩ := he e (List.mem_of_getElem? h3)
    rw [h4] at e1
    cases e1
    refine ⟨i, e2, fun W hW => ?_⟩
    simp [Instr.lookup, run_underlying Tryd.underlying48, get_m (hW.trans hm), hc, h1, e3]
theorem FTab.put {mb : Nat} {w : World} (h : FTab mb w) (r : Nat) (x : ByteArray) {i : Inf} (hi : lookI tab x.data.toList = some i) :
    ∃ W, (Instr.mapUpdate 48 (.map (some mb)) (.string x) (infV i)).run Tryd.prog w = .ok () W ∧ FTab mb W ∧ Fr mb r w W ∧ W.heap.size = w.heap.size := by
  have hlt := h.lt
  obtain ⟨es, n, hm, he⟩ := h
  obtain ⟨q, h1, h2⟩ := find_text w x es.toList fun e hx => by
    obtain ⟨y, _, e1, _⟩ := he e hx
    exact ⟨y, e1⟩
  have hc := check_text w false 9999 x
  have hfar : ∀ (ob : Obj), Fr mb r w { w with heap := w.heap.setIfInBounds mb ob } := fun ob => ⟨rfl, rfl, rfl, by simp, fun k hk hne _ => by
    show (w.heap.setIfInBounds mb ob)[k]? = _
    rw [Array.getElem?_setIfInBounds_ne (fun e => hne e.symm)]⟩
  have hnew : ∀ (ob : Obj), ({ w with heap := w.heap.setIfInBounds mb ob } : World).heap[mb]? = some ob := fun ob => by
    show (w.heap.setIfInBounds mb ob)[mb]? = _
    rw [Array.getElem?_setIfInBounds_self_of_lt hlt]
  rcases h2 with rfl | ⟨j, e, rfl, h3, h4⟩
  · refine ⟨{ w with heap := w.heap.setIfInBounds mb (.map (es.push ⟨.string x, infV i, n⟩) (n + 1)) }, ?_, ⟨_, _, hnew _, fun u hu => ?_⟩, hfar _, by simp⟩
    · simp [Instr.mapUpdate, run_underlying Tryd.underlying48, get_m hm, hc, h1, set_m hm]
    · rw [Array.toList_push, List.mem_append, List.mem_singleton] at hu
      rcases hu with hu | rfl
      · exact he u hu
      · exact ⟨x, i, rfl, hi, rfl⟩
  · have hs : Instr.sameBits 10000 (.string x) (.string x) = true := by simp [Instr.sameBits, same_self]
    have hje : es[j]? = some e := by simpa using h3
    refine ⟨{ w with heap := w.heap.setIfInBounds mb (.map (es.modify j fun e => { e with key := .string x, val := infV i }) n) }, ?_, ⟨_, _, hnew _, fun u hu => ?_⟩, hfar _, by simp⟩
    · simp [Instr.mapUpdate, run_underlying Tryd.underlying48, get_m hm, hc, h1, Instr.keyThatStays, hje, h4, hs, set_m hm]
    · obtain ⟨p, hp⟩ := List.getElem?_of_mem hu
      rw [Array.getElem?_toList, Array.getElem?_modify] at hp
      by_cases hij : j = p
      · rw [if_pos hij, ← hij, hje] at hp
        cases hp
        exact ⟨x, i, rfl, hi, rfl⟩
      · rw [if_neg hij] at hp
        exact he u (by
          rw [← Array.getElem?_toList] at hp
          exact List.mem_of_getElem? hp)

/-! ### places as keys -/
def ptrV (b o : Nat) : Value := .pointer (some ⟨b, o, none⟩)
theorem sizeInt : (Tryd.prog.info? 3).map (·.size) = some 1 := by kernel_rfl
theorem equal_ptr (w : World) (d b o b' o' : Nat) (h : Unm w b) (h' : Unm w b') :
    (Op.equalIn (d + 1) 95 (.pointer (some ⟨b, o, none⟩)) (.pointer (some ⟨b', o', none⟩))).run Tryd.prog w = .ok (decide (b = b' ∧ o = o')) w := by
  obtain ⟨cs, t, hb⟩ := h
  obtain ⟨cs', t', hb'⟩ := h'
  obtain ⟨j, hj, hjs⟩ := Option.map_eq_some_iff.1 sizeInt
  by_cases e : b = b' ∧ o = o'
  · obtain ⟨rfl, rfl⟩ := e
    simp [Op.equalIn, run_underlying Tryd.underlying95, sizeOf, typeInfo, hj, run_sameAddr_same]
  · have hne : (⟨b, o, none⟩ : Addr) ≠ ⟨b', o', none⟩ := fun h => e (by simpa using h)
    rw [decide_eq_false e]
    simp [Op.equalIn, run_underlying Tryd.underlying95, sizeOf, typeInfo, hj, hjs, run_sameAddr_other w hne hb hb']
theorem equal_is (w : World) (b o b' o' : Nat) (h : Unm w b) (h' : Unm w b') :
    (Op.equal 95 (ptrV b o) (ptrV b' o')).run Tryd.prog w = .ok (decide (b = b' ∧ o = o')) w := equal_ptr w 9999 b o b' o' h h'
theorem check_ptr (w : World) (em : Bool) (d : Nat) (x : Option Addr) : (Instr.checkKey em (d + 1) 95 (.pointer x)).run Tryd.prog w = .ok () w := by
  simp [Instr.checkKey, run_underlying Tryd.underlying95]
theorem find_asking (w : World) (b o : Nat) (h : Unm w b) : ∀ (es : List MapEntry) (i : Nat), (∀ e ∈ es, ∃ b' o', e.key = ptrV b' o' ∧ Unm w b') →
    ∃ r : Option (Nat × Value), (Instr.findAsking 95 (ptrV b o) es i).run Tryd.prog w = .ok r w ∧ (r = none ∨ ∃ j e, r = some (i + j, e.val) ∧ es[j]? = some e ∧ e.key = ptrV b o)
  | [], i, _ => ⟨none, by simp [Instr.findAsking], .inl rfl⟩
  | e :: r, i, he => by
    obtain ⟨b', o', e1, e2⟩ := he e (List.mem_cons_self ..)
    have hq := equal_is w b o b' o' h e2
    by_cases hd : b = b' ∧ o = o'
    · rw [decide_eq_true hd, ← e1] at hq
      obtain ⟨rfl, rfl⟩ := hd
      exact ⟨some (i, e.val), by simp [Instr.findAsking, hq], .inr ⟨0, e, rfl, rfl, e1⟩⟩
    · rw [decide_eq_false hd, ← e1] at hq
      obtain ⟨x, h1, h2⟩ := find_asking w b o h r (i + 1) fun y hy => he y (List.mem_cons_of_mem _ hy)
      refine ⟨x, by simp [Instr.findAsking, hq, h1], h2.imp id ?_⟩
      rintro ⟨j, y, rfl, h4, h5⟩
      exact ⟨j + 1, y, by rw [show i + 1 + j = i + (j + 1) by omega], by simpa using h4, h5⟩
theorem find_key (w : World) (b o : Nat) (h : Unm w b) (es : List MapEntry) (he : ∀ e ∈ es, ∃ b' o', e.key = ptrV b' o' ∧ Unm w b') :
    ∃ r : Option (Nat × Value), (Instr.findKey 95 (ptrV b o) es).run Tryd.prog w = .ok r w ∧ (r = none ∨ ∃ j e, r = some (j, e.val) ∧ es[j]? = some e ∧ e.key = ptrV b o) := by
  obtain ⟨r, h1, h2⟩ := find_asking w b o h es 0 he
  cases es with
  | nil =>
    refine ⟨none, ?_, .inl rfl⟩
    simp [Instr.findKey, run_underlying Tryd.underlying95, Instr.findNow]
  | cons e t =>
    refine ⟨r, ?_, by simpa using h2⟩
    simp [Instr.findKey, run_underlying Tryd.underlying95, Instr.findNow, Instr.sameNow, h1]

/-- from which number of a list on how many are known: which entries there may be; w0: where the lists lay at first -/
def RTab (w0 : World) (E : Nat → Nat → Nat → Prop) (mb : Nat) (w : World) : Prop := ∃ es n, w.heap[mb]? = some (.map es n) ∧ ∀ e ∈ es.toList, ∃ b o k : Nat, e.key = ptrV b o ∧ Unm w0 b ∧ e.val = .int .i64 (k : Int) ∧ E b o k
theorem unm_lt {w : World} {b : Nat} (h : Unm w b) : b < w.heap.size := by
  obtain ⟨_, _, h⟩ := h
  exact (Array.getElem?_eq_some_iff.1 h).1
theorem unm_on {w W : World} {b : Nat} (h : Unm w b) (hb : Below w.heap.size w W) : Unm W b := h.move (hb.block b (unm_lt h))
section
variable {w0 : World} {E E' : Nat → Nat → Nat → Prop} {mb : Nat} {w W : World}
theorem RTab.lt (h : RTab w0 E mb w) : mb < w.heap.size := by
  obtain ⟨_, _, h, _⟩ := h
  exact (Array.getElem?_eq_some_iff.1 h).1
theorem RTab.move (h : RTab w0 E mb w) (e : W.heap[mb]? = w.heap[mb]?) : RTab w0 E mb W := h.imp fun _ h => h.imp fun _ h => ⟨e.trans h.1, h.2⟩
theorem RTab.mono (h : RTab w0 E mb w) (hE : ∀ b o k, E b o k → E' b o k) : RTab w0 E' mb w := by
  obtain ⟨es, n, hm, he⟩ := h
  refine ⟨es, n, hm, fun e hx => ?_⟩
  obtain ⟨b, o, k, e1, e2, e3, e4⟩ := he e hx
  exact ⟨b, o, k, e1, e2, e3, hE _ _ _ e4⟩
theorem RTab.made (w0 : World) (E : Nat → Nat → Nat → Prop) (w : World) : RTab w0 E w.heap.size (w.alloc (.map #[] 0)) := ⟨#[], 0, heap_alloc_new w _, fun e h => by cases h⟩
theorem zeroInt (w : World) : (zeroValue 3).run Tryd.prog w = .ok (.int .i64 0) w := by kernel_rfl
theorem RTab.look (h : RTab w0 E mb w) (hw : Below w0.heap.size w0 w) (b o : Nat) (hu : Unm w0 b) :
    ∃ k : Nat, (Instr.lookup 49 (.map (some mb)) (.pointer (some ⟨b, o, none⟩)) false).run Tryd.prog w = .ok (.int .i64 (k : Int)) w ∧ (k = 0 ∨ E b o k) := by
  obtain ⟨es, n, hm, he⟩ := h
  obtain ⟨r, h1, h2⟩ := find_key w b o (unm_on hu hw) es.toList fun e hx => by
    obtain ⟨b', o', _, e1, e2, _⟩ := he e hx
    exact ⟨b', o', e1, unm_on e2 hw⟩
  have hc := check_ptr w es.isEmpty 9999 (some ⟨b, o, none⟩)
  unfold ptrV at h1
  rcases h2 with rfl | ⟨j, e, rfl, h3, h4⟩
  · refine ⟨0, ?_, .inl rfl⟩
    simp [Instr.lookup, run_underlying Tryd.underlying49, get_m hm, hc, h1, zeroInt w]
  · obtain ⟨b', o', k, e1, _, e3, e4⟩ := he e (List.mem_of_getElem? h3)
    rw [h4] at e1
    simp only [ptrV, Value.pointer.injEq, Option.some.injEq, Addr.mk.injEq, and_true] at e1
    obtain ⟨rfl, rfl⟩ := e1
    refine ⟨k, ?_, .inr e4⟩
    simp [Instr.lookup, run_underlying Tryd.underlying49, get_m hm, hc, h1, e3]
theorem RTab.put (h : RTab w0 E mb w) (hw : Below w0.heap.size w0 w) (f b o : Nat) (hu : Unm w0 b) {k : Nat} (hE : E b o k) :
    ∃ W, (Instr.mapUpdate 49 (.map (some mb)) (.pointer (some ⟨b, o, none⟩)) (.int .i64 (k : Int))).run Tryd.prog w = .ok () W ∧ RTab w0 E mb W ∧ Fr f mb w W ∧ W.heap.size = w.heap.size := by
  have hlt := h.lt
  obtain ⟨es, n, hm, he⟩ := h
  obtain ⟨r, h1, h2⟩ := find_key w b o (unm_on hu hw) es.toList fun e hx => by
    obtain ⟨b', o', _, e1, e2, _⟩ := he e hx
    exact ⟨b', o', e1, unm_on e2 hw⟩
  have hc := check_ptr w false 9999 (some ⟨b, o, none⟩)
  unfold ptrV at h1
  have hfar : ∀ (ob : Obj), Fr f mb w { w with heap := w.heap.setIfInBounds mb ob } := fun ob => ⟨rfl, rfl, rfl, by simp, fun k hk _ hne => by
    show (w.heap.setIfInBounds mb ob)[k]? = _
    rw [Array.getElem?_setIfInBounds_ne (fun e => hne e.symm)]⟩
  have hnew : ∀ (ob : Obj), ({ w with heap := w.heap.setIfInBounds mb ob } : World).heap[mb]? = some ob := fun ob => by
    show (w.heap.setIfInBounds mb ob)[mb]? = _
    rw [Array.getElem?_setIfInBounds_self_of_lt hlt]
  rcases h2 with rfl | ⟨j, e, rfl, h3, h4⟩
  · refine ⟨{ w with heap := w.heap.setIfInBounds mb (.map (es.push ⟨ptrV b o, .int .i64 (k : Int), n⟩) (n + 1)) }, ?_, ⟨_, _, hnew _, fun u hx => ?_⟩, hfar _, by simp⟩
    · simp [Instr.mapUpdate, run_underlying Tryd.underlying49, get_m hm, hc, h1, set_m hm, ptrV]
    · rw [Array.toList_push, List.mem_append, List.mem_singleton] at hx
      rcases hx with hx | rfl
      · exact he u hx
      · exact ⟨b, o, k, rfl, hu, rfl, hE⟩
  · have hs : Instr.sameBits 10000 (.pointer (some ⟨b, o, none⟩)) (.pointer (some ⟨b, o, none⟩)) = true := by simp [Instr.sameBits]
    have hje : es[j]? = some e := by simpa using h3
    unfold ptrV at h4
    refine ⟨{ w with heap := w.heap.setIfInBounds mb (.map (es.modify j fun e => { e with key := ptrV b o, val := .int .i64 (k : Int) }) n) }, ?_, ⟨_, _, hnew _, fun u hx => ?_⟩, hfar _, by simp⟩
    · simp [Instr.mapUpdate, run_underlying Tryd.underlying49, get_m hm, hc, h1, Instr.keyThatStays, hje, h4, hs, set_m hm, ptrV]
    · obtain ⟨p, hp⟩ := List.getElem?_of_mem hx
      rw [Array.getElem?_toList, Array.getElem?_modify] at hp
      by_cases hij : j = p
      · rw [if_pos hij, ← hij, hje] at hp
        cases hp
        exact ⟨b, o, k, rfl, hu, rfl, hE⟩
      · rw [if_neg hij] at hp
        exact he u (by
          rw [← Array.getElem?_toList] at hp
          exact List.mem_of_getElem? hp)
end

/-! ### which numbers are right -/
/-- the number at a place is of a block behind its own one, and there -/
def Gd (w0 : World) (own q b p : Nat) : Prop := ∃ y : Int, w0.cell? ⟨b, p, none⟩ = some (.int .i64 y) ∧ (own : Int) < y ∧ y < (q : Int)
/-- an entry: so many are right -/
def Ed (w0 : World) (own q b o k : Nat) : Prop := 0 < k ∧ k ≤ 1000000000000000 ∧ ∀ j, j < k → Gd w0 own q b (o + j)
/-- an entry while a list is gone through: so many are right, or will be told -/
def Ea (w0 : World) (own q b0 o0 n i b o k : Nat) : Prop := 0 < k ∧ k ≤ 1000000000000000 ∧ ∀ j, j < k → Gd w0 own q b (o + j) ∨ (b = b0 ∧ o < o0 + i ∧ o0 + i ≤ o + j ∧ o + j < o0 + n)
theorem ed_less {w0 : World} {own own' q b o k : Nat} (h : Ed w0 own q b o k) (hl : own' ≤ own) : Ed w0 own' q b o k :=
  ⟨h.1, h.2.1, fun j hj => by obtain ⟨y, h1, h2, h3⟩ := h.2.2 j hj; exact ⟨y, h1, by omega, h3⟩⟩
theorem ea_start {w0 : World} {own q b0 o0 n b o k : Nat} (h : Ed w0 own q b o k) : Ea w0 own q b0 o0 n 0 b o k := ⟨h.1, h.2.1, fun j hj => .inl (h.2.2 j hj)⟩
theorem ea_done {w0 : World} {own q b0 o0 n i b o k : Nat} (h : Ea w0 own q b0 o0 n i b o k) (hi : n ≤ i) : Ed w0 own q b o k := ⟨h.1, h.2.1, fun j hj => (h.2.2 j hj).resolve_right (by omega)⟩
/-- an entry at the place where one is: so many are right -/
theorem ea_here {w0 : World} {own q b0 o0 n i k : Nat} (h : Ea w0 own q b0 o0 n i b0 (o0 + i) k) : ∀ j, j < k → Gd w0 own q b0 (o0 + i + j) := fun j hj => (h.2.2 j hj).resolve_right (by omega)
/-- gone on by m numbers that are right -/
theorem ea_on {w0 : World} {own q b0 o0 n i m b o k : Nat} (h : Ea w0 own q b0 o0 n i b o k) (hm : ∀ j, j < m → Gd w0 own q b0 (o0 + i + j)) : Ea w0 own q b0 o0 n (i + m) b o k := by
  refine ⟨h.1, h.2.1, fun j hj => ?_⟩
  rcases h.2.2 j hj with h1 | ⟨rfl, h2, h3, h4⟩
  · exact .inl h1
  · by_cases h5 : o + j < o0 + (i + m)
    · left
      have := hm (o + j - (o0 + i)) (by omega)
      rwa [show o0 + i + (o + j - (o0 + i)) = o + j by omega] at this
    · exact .inr ⟨rfl, by omega, by omega, h4⟩
/-- a new entry: the list's rest, or more -/
theorem ea_new {w0 : World} {own q b0 o0 n i m k : Nat} (hm : ∀ j, j < m → Gd w0 own q b0 (o0 + i + j)) (hm0 : 0 < m) (hk : k ≤ max m (n - i)) (hk0 : 0 < k) (hb : k ≤ 1000000000000000) : Ea w0 own q b0 o0 n (i + m) b0 (o0 + i) k := by
  refine ⟨hk0, hb, fun j hj => ?_⟩
  by_cases h : j < m
  · exact .inl (hm j h)
  · exact .inr ⟨rfl, by omega, by omega, by omega⟩
/-- the numbers of a list that were gone through are right -/
theorem gd_far {w0 : World} {own q b0 o0 : Nat} {l : List Int} (hc : ∀ j z, l[j]? = some z → w0.cell? ⟨b0, o0 + j, none⟩ = some (.int .i64 z)) (h : ∀ j, j < l.length → Gd w0 own q b0 (o0 + j)) : farB own q l = false := by
  unfold farB
  rw [List.any_eq_false]
  intro y hy
  obtain ⟨j, hj⟩ := List.getElem?_of_mem hy
  obtain ⟨z, h1, h2, h3⟩ := h j (List.getElem?_eq_some_iff.1 hj).1
  rw [hc j y hj] at h1
  cases h1
  simp; omega

/-- the walk's two maps -/
structure St (w0 : World) (own q f r : Nat) (W : World) : Prop where
  bel : Below w0.heap.size w0 W
  gf : w0.heap.size ≤ f
  gr : w0.heap.size ≤ r
  ne : f ≠ r
  F : FTab f W
  R : RTab w0 (Ed w0 own q) r W
section
variable {w0 : World} {own own' q f r : Nat} {w W : World}
theorem St.less (h : St w0 own q f r W) (hl : own' ≤ own) : St w0 own' q f r W := { h with R := h.R.mono fun _ _ _ e => ed_less e hl }
theorem St.on (h : St w0 own q f r w) (hb : Below w.heap.size w W) : St w0 own q f r W :=
  { h with bel := h.bel.trans (hb.mono h.bel.size), F := h.F.move (hb.block f h.F.lt), R := h.R.move (hb.block r h.R.lt) }
theorem St.of (h : St w0 own q f r w) (hb : Below w0.heap.size w W) (hf : W.heap[f]? = w.heap[f]?) (hr : W.heap[r]? = w.heap[r]?) : St w0 own q f r W :=
  { h with bel := h.bel.trans hb, F := h.F.move hf, R := h.R.move hr }
/-- a function more that was asked for -/
theorem St.asked (h : St w0 own q f r w) (hu : FTab f W) (hf : Fr f f w W) : St w0 own q f r W :=
  { h with bel := h.bel.trans (hf.below h.gf h.gf h.bel.size), F := hu, R := h.R.move (hf.block r h.R.lt (fun e => h.ne e.symm) fun e => h.ne e.symm) }
theorem St.lt (h : St w0 own q f r W) : f < W.heap.size ∧ r < W.heap.size := ⟨h.F.lt, h.R.lt⟩
end
/-- the walk, as it is handed in -/
def walkV (q f r : Nat) : Value := .agg #[.int .i64 (q : Int), .map (some f), .map (some r)]

end Go.Proofs.YtpphkaolonjjdaaDoor.Jmp
