/- What the document's Sort answers: each word put in its place, once. -/
import Derived.Deep.DeepCutAuto
import Derived.Laws.CopyOwn
import Derived.Sort.Walk0
import Derived.Lib.BufferMore
import Derived.Sort.OwnSorted
import Derived.Sort.Grow
import Derived.Lib.OwnBridge
import Derived.Test.YtghfmbmdfojapaaGreatDoorSrt
import Derived.Test.YtghfmbmdfojapaaGreatDoorVcellJ
namespace Go.Proofs.YtghfmbmdfojapaaGreatDoor.Wsort
open Go.RowKit Go.Sort Go.Proofs.YtghfmbmdfojapaaGreatDoor.Strs Go.Proofs.YtghfmbmdfojapaaGreatDoor.Srt
open Go.Proofs.YtghfmbmdfojapaaGreatDoor.Pth (bs)

/-- texts by their bytes -/
def raw (xs : List ByteArray) : List T := xs.map (·.data.toList)
theorem info_size : (Tryz.prog.info? 9).map (·.size) = some 1 := by kernel_rfl
def sortB (xs : List ByteArray) : List ByteArray := (sortT (xs.map (·.data.toList))).map bs
theorem bs_data (x : ByteArray) : bs x.data.toList = x := by unfold Pth.bs; simp
theorem enc_bs (ms : List T) : ms.map encStr = (ms.map bs).map Value.string := by rw [List.map_map]; rfl

/-- how far the search has come -/
structure Seek (ms : List T) (x : T) (a b : Nat) : Prop where
  lo : ∀ j y, j < a → ms[j]? = some y → y < x
  hi : ∀ j y, b ≤ j → ms[j]? = some y → ¬ y < x
theorem seek_start (ms : List T) (x : T) : Seek ms x 0 ms.length :=
  ⟨fun j y h => absurd h (Nat.not_lt_zero _), fun j y h hy => by have := (List.getElem?_eq_some_iff.1 hy).1; omega⟩
theorem Seek.up {ms : List T} {x y : T} {a b k : Nat} (hu : Up ms) (h : Seek ms x a b) (hk : ms[k]? = some y) (hy : y < x) : Seek ms x (k + 1) b :=
  ⟨fun j z hj hz => by
    by_cases e : j = k
    · subst e; rw [hk] at hz; cases hz; exact hy
    · exact lt_trans' (up_get hu (show j < k by omega) hz hk) hy, h.hi⟩
theorem Seek.down {ms : List T} {x y : T} {a b k : Nat} (hu : Up ms) (h : Seek ms x a b) (hk : ms[k]? = some y) (hy : ¬ y < x) : Seek ms x a k :=
  ⟨h.lo, fun j z hj hz hlt => by
    by_cases e : j = k
    · subst e; rw [hk] at hz; cases hz; exact hy hlt
    · exact hy (lt_trans' (up_get hu (show k < j by omega) hk hz) hlt)⟩

theorem mem_there {ms : List T} {xs : List ByteArray} {k p : Nat} (hk : k < xs.length) (h : ∀ y, y ∈ ms ↔ y ∈ raw (xs.take k)) (hp : ms[p]? = some xs[k].data.toList) : ∀ y, y ∈ ms ↔ y ∈ raw (xs.take (k + 1)) := fun y => by
  rw [h y]
  unfold raw
  rw [List.take_succ_eq_append_getElem hk, List.map_append, List.mem_append]
  constructor
  · exact .inl
  · rintro (h1 | h1)
    · exact h1
    · rw [List.map_singleton, List.mem_singleton] at h1
      rw [h1]
      exact (h _).1 (List.mem_of_getElem? hp)
theorem mem_new {ms : List T} {xs : List ByteArray} {k p : Nat} (hk : k < xs.length) (h : ∀ y, y ∈ ms ↔ y ∈ raw (xs.take k)) : ∀ y, y ∈ ms.take p ++ xs[k].data.toList :: ms.drop p ↔ y ∈ raw (xs.take (k + 1)) := fun y => by
  rw [mem_insert]
  unfold raw
  rw [List.take_succ_eq_append_getElem hk, List.map_append, List.mem_append, List.map_singleton, List.mem_singleton, h y]
  exact Or.comm
theorem up_new {ms : List T} {x : T} {p : Nat} (hu : Up ms) (h : Seek ms x p p) (hne : ms[p]? ≠ some x) : Up (ms.take p ++ x :: ms.drop p) := by
  refine up_insert ms x p hu h.lo (fun j y hj hy => ?_)
  rcases lt_or (h.hi j y hj hy) with e | e
  · subst e
    by_cases ej : j = p
    · subst ej; exact absurd hy hne
    · obtain ⟨z, hz⟩ : ∃ z, ms[p]? = some z := ⟨_, List.getElem?_eq_getElem (by have := (List.getElem?_eq_some_iff.1 hy).1; omega)⟩
      exact absurd (up_get hu (show p < j by omega) hz hy) (h.hi p z (Nat.le_refl _) hz)
  · exact e

theorem less_is (y : T) (x : ByteArray) : Op.bytesLess (bs y).toList x.toList = decide (y < x.data.toList) := by
  rw [bytesLess_eq, Lib.toList_data, Lib.toList_data]; rfl
theorem same_is' (y : T) (x : ByteArray) : ((bs y).toList == x.toList) = decide (y = x.data.toList) := by
  rw [Lib.toList_data, Lib.toList_data, Bool.eq_iff_iff, beq_iff_eq, decide_eq_true_iff]
  exact Iff.rfl

theorem set_mid' {α : Type} (A : List α) (z u : α) (R : List α) (p : Nat) (hp : A.length = p) : (A ++ z :: R).set p u = A ++ u :: R := by
  subst hp
  rw [List.set_append_right _ _ (Nat.le_refl _), Nat.sub_self]; rfl

/-- a word put in its place -/
theorem own_insert {W : World} {B g cap p : Nat} {cur : List Value} {ms : List T} {x : ByteArray} {e : Value} (hB : B ≤ g) (hle : ms.length + 1 ≤ cap) (hmax : cap ≤ maxLen) (hsz : cur.length = cap) (htk : cur.take (ms.length + 1) = ms.map encStr ++ [e]) (hp : p ≤ ms.length)
    (hg : W.heap[g]? = some (.cells (splice cur (p + 1) ((ms.drop p).map encStr)).toArray 9 (0, 0))) :
    (W.setCell ⟨g, p, none⟩ (.string x)).ownsRow B 9 1 (.slice (some ⟨g, 0, none⟩) (ms.length + 1) cap) (ms.length + 1) ((ms.take p ++ x.data.toList :: ms.drop p).map encStr) := by
  have hcl : ((ms.drop p).map encStr).length = ms.length - p := by rw [List.length_map, List.length_drop]
  have e0 : cur.take p = (ms.take p).map encStr := by
    have := congrArg (List.take p) htk
    rw [List.take_take, List.take_append_of_le_length (by rw [List.length_map]; exact hp), Nat.min_eq_left (by omega), ← List.map_take] at this
    exact this
  have e1 : splice cur (p + 1) ((ms.drop p).map encStr) = (ms.take p).map encStr ++ cur[p]'(by omega) :: ((ms.drop p).map encStr ++ cur.drop (ms.length + 1)) := by
    unfold splice
    rw [List.take_succ_eq_append_getElem (by omega), e0, hcl, List.append_assoc, show p + 1 + (ms.length - p) = ms.length + 1 by omega]
    rfl
  have el : ((ms.take p).map encStr).length = p := by rw [List.length_map, List.length_take]; omega
  refine ⟨by rw [List.length_map, List.length_append, List.length_cons, List.length_take, List.length_drop]; omega, .inr ⟨g, cap, _, rfl, hB, Lib.heap_setCell_same hg _, hle, hmax, ?_, ?_⟩⟩
  · rw [Array.size_setIfInBounds, List.size_toArray, length_splice _ _ _ (by rw [hcl]; omega), Nat.mul_one]; exact hsz
  · rw [Array.toList_setIfInBounds, List.toList_toArray, e1, set_mid' _ _ _ _ p el, Nat.mul_one, List.map_append, List.map_cons]
    have e2 : (Value.string x) = encStr x.data.toList := congrArg Value.string (bs_data x).symm
    rw [← e2]
    have : ((ms.take p).map encStr ++ Value.string x :: ((ms.drop p).map encStr ++ cur.drop (ms.length + 1))) = ((ms.take p).map encStr ++ Value.string x :: (ms.drop p).map encStr) ++ cur.drop (ms.length + 1) := by simp
    rw [this, List.take_left' (by rw [List.length_append, List.length_cons, el, hcl]; omega)]

set_option maxRecDepth 100000 in
set_option maxHeartbeats 1000000 in
/-- the document's Sort -/
theorem refSort_own (A : Option Addr) (n c : Nat) (xs : List ByteArray) (w : World) (hn : xs.length = n) (h : SlIs w A c xs) (hm : n ≤ 1000000000) :
    Calls Tryz.prog 31 #[.slice A n c] w fun e W' => ∃ A' c', e = .returned (.slice A' (sortB xs).length c') ∧ W'.ownsRow w.heap.size 9 1 (.slice A' (sortB xs).length c') (sortB xs).length ((sortB xs).map Value.string) ∧ Below w.heap.size w W' := by
  obtain ⟨i0, hi, hz0, hz1, hz2⟩ := info_parts infoString
  have HN := Lib.hid hn
  have HL := Lib.hid h
  clear hn h
  go_enter Tryz.func31, Tryz.ntmps31
  go_wp2
  go_loopw [3, 4] (fun v i wr => ∃ (k : Nat) (ms : List T), k ≤ n ∧ ms.length ≤ k ∧ i = .int .i64 k ∧ wr.ownsRow w.heap.size 9 1 v ms.length (ms.map encStr) ∧ Hid (Below w.heap.size w wr ∧ Up ms ∧ ∀ y, y ∈ ms ↔ y ∈ raw (xs.take k))) (fun _ i _ => n - (intOf i).toNat)
  case atStart => exact ⟨0, [], Nat.zero_le _, Nat.le_refl _, rfl, World.ownsRow_nil _ _ _ _, Below.refl _ _, List.Pairwise.nil, fun y => by simp [raw]⟩
  case round =>
    obtain ⟨k, ms, hk, hlm, rfl, hown, H⟩ := hrel
    have hBs := H.out.1.size
    by_cases hlt : k < n
    · have hl : k < xs.length := by have := HN.out; omega
      obtain ⟨bb, o, rfl, hbb, hc⟩ := HL.out.at_ (List.getElem?_eq_getElem hl)
      have HC := Lib.hid (fun W (hW : Below w.heap.size w W) => hc W hW)
      have c1 := hc wr H.out.1
      have HThere := Lib.hid (fun p (hp : ms[p]? = some xs[k].data.toList) => mem_there hl H.out.2.2 hp)
      have HNew := Lib.hid (fun p => mem_new (p := p) hl H.out.2.2)
      have HB := Lib.hid H.out.1
      have HU := Lib.hid H.out.2.1
      have HO := Lib.hid hown
      rw [enc_bs] at hown
      obtain ⟨V, cv, rfl, hsV⟩ := slIs_of_own (List.length_map _) hown
      have HV := Lib.hid hsV
      clear hc hown hsV H
      generalize xs[k] = x at *
      obtain ⟨wA, rfl⟩ : ∃ wA, wA = wr := ⟨_, rfl⟩
      go_wp2_with fail
      go_loopw [5, 6] (fun lo hi wx => ∃ a b m : Nat, a ≤ b ∧ b ≤ ms.length ∧ lo = .int .i64 a ∧ hi = .int .i64 b ∧ wx = wA.drewN m ∧ Hid (Seek ms x.data.toList a b)) (fun lo hi _ => (intOf hi).toNat - (intOf lo).toNat)
      case atStart => exact ⟨0, ms.length, 0, Nat.zero_le _, Nat.le_refl _, rfl, rfl, rfl, seek_start _ _⟩
      case round =>
        obtain ⟨a, b, m, hab, hbl, rfl, rfl, rfl, HSk⟩ := hrel
        by_cases hlt2 : a < b
        · obtain ⟨mid, hmid⟩ : ∃ mid : Nat, mid = (a + b) / 2 := ⟨_, rfl⟩
          have hmi : ((a : Int) + (b : Int)) / 2 = (mid : Int) := by omega
          have hml : mid < ms.length := by omega
          have hma : a ≤ mid := by omega
          have hmb : mid < b := by omega
          have gy : (ms.map bs)[mid]? = some (bs ms[mid]) := by rw [List.getElem?_map, List.getElem?_eq_getElem hml]; rfl
          obtain ⟨g, o2, rfl, hg, hcg⟩ := HV.out.at_ gy
          have c2 := hcg wA (Below.refl _ _)
          clear hcg gy hg hmid
          have hless := less_is ms[mid] x
          by_cases hy : ms[mid] < x.data.toList
          · have HS2 := Lib.hid (HSk.out.up HU.out (List.getElem?_eq_getElem hml) hy)
            rw [decide_eq_true hy] at hless
            clear hy
            generalize ms[mid] = y at *
            go_wp2
            go_quiet (fail)
            go_wp2
            go_roundw
            case rel => exact ⟨mid + 1, b, _, by omega, by omega, by go_num, rfl, rfl, HS2⟩
            case measure => simp [intOf]; omega
          · have HS2 := Lib.hid (HSk.out.down HU.out (List.getElem?_eq_getElem hml) hy)
            rw [decide_eq_false hy] at hless
            clear hy
            generalize ms[mid] = y at *
            go_wp2
            go_quiet (fail)
            go_wp2
            go_roundw
            case rel => exact ⟨a, mid, m + nq, by omega, by omega, rfl, by first | rfl | (rw [hmi]) | go_num, by first | rfl | simp, HS2⟩
            case measure => simp [intOf]; omega
        · obtain rfl : a = b := by omega
          go_upto_region 11 with fail
          go_cut [49] (fun v wx => v = .bool (decide (ms[a]? = some x.data.toList)) ∧ ∃ m', wx = wA.drewN m')
          case first =>
            by_cases hp : a < ms.length
            · have gy : (ms.map bs)[a]? = some (bs ms[a]) := by rw [List.getElem?_map, List.getElem?_eq_getElem hp]; rfl
              obtain ⟨g, o2, rfl, hg, hcg⟩ := HV.out.at_ gy
              have c2 := hcg wA (Below.refl _ _)
              have heq := same_is' ms[a] x
              have HE : Hid (decide (ms[a]? = some x.data.toList) = decide (ms[a] = x.data.toList)) := by
                show _ = _
                rw [List.getElem?_eq_getElem hp]; simp
              clear hcg gy hg
              generalize decide (ms[a] = x.data.toList) = r at *
              generalize ms[a] = y at *
              go_wp2_with fail
              go_quiet (fail)
              go_wp2_with fail
              go_meet
              exact ⟨congrArg Value.bool HE.out.symm, m + nq, by first | rfl | simp⟩
            · have HE : Hid (decide (ms[a]? = some x.data.toList) = false) := by
                show _ = _
                rw [List.getElem?_eq_none (by omega)]; simp
              go_wp2_with fail
              go_region
              all_goals go_wp2_with fail
              all_goals go_meet
              all_goals exact ⟨congrArg Value.bool HE.out.symm, m + 1, by first | rfl | simp⟩
          case rest =>
            obtain ⟨rfl, m', rfl⟩ := hcut
            by_cases hp : ms[a]? = some x.data.toList
            · rw [decide_eq_true hp]
              have HT := Lib.hid (HThere.out a hp)
              clear hp
              go_wp2_with fail
              go_roundw
              case rel => exact ⟨k + 1, ms, by omega, by omega, by go_num, HO.out, below_drewN HB.out m', HU.out, HT.out⟩
              case measure => simp [intOf]; omega
            · rw [decide_eq_false hp]
              have HUp := Lib.hid (up_new HU.out HSk.out hp)
              have HNw := Lib.hid (HNew.out a)
              have hown : (wA.drewN m').ownsRow w.heap.size 9 1 (.slice V ms.length cv) ms.length (ms.map encStr) := HO.out
              have HBd := Lib.hid (below_drewN HB.out m')
              clear hp HThere HNew HSk HO HV c1
              go_upto_region 13 with (at_builtin; refine wpList_append_own _ rfl _ _ 30 rfl w.heap.size 9 i0 (.string .empty) 1 16 Tryz.underlying30 hi hz0 hz1 hz2 rfl (by decide) _ _ _ rfl (hown.alloc _) ⟨(wA.drewN m').heap.size, 0, none⟩ 1 1 [.string ⟨#[]⟩] rfl rfl (cell_one_new _ _ _) (by simp [Value.oneCell']) (by unfold maxLen; omega) (by omega) (by simp; omega) ?_; intro v' w2 hown' hgrow hnil; have HO := Lib.hid hown'; have HG := Lib.hid (below_append HBd.out hBs hown hgrow); clear hown' hgrow hnil)
              clear hown
              rcases HO.out.2 with ⟨_, h0⟩ | ⟨g, cap, cur, rfl, hBg, hg, hcap1, hcap2, hsz, htk⟩
              · exact absurd h0 (Nat.succ_ne_zero _)
              rw [Nat.mul_one] at hsz htk
              have hcl : ((ms.drop a).map encStr).length = ms.length - a := by rw [List.length_map, List.length_drop]
              have hcells : ∀ j v, ((ms.drop a).map encStr)[j]? = some v → w2.cell? ⟨g, a + j, none⟩ = some v := fun j v hv => by
                have h1 : (ms.map encStr ++ [Value.string ⟨#[]⟩])[a + j]? = some v := by
                  rw [List.map_drop, List.getElem?_drop] at hv
                  rw [List.getElem?_append_left (by have := (List.getElem?_eq_some_iff.1 hv).1; omega)]
                  exact hv
                have h2 := HO.out.cells (g := g) rfl (a + j) v h1
                rw [addr_add, Nat.zero_add] at h2
                exact h2
              have HCl := Lib.hid hcl
              have HCells := Lib.hid hcells
              have HIns : Hid (∀ W : World, W.heap[g]? = some (.cells (splice cur.toList (a + 1) ((ms.drop a).map encStr)).toArray 9 (0, 0)) → (W.setCell ⟨g, a, none⟩ (.string x)).ownsRow w.heap.size 9 1 (.slice (some ⟨g, 0, none⟩) (ms.length + 1) cap) (ms.length + 1) ((ms.take a ++ x.data.toList :: ms.drop a).map encStr)) := fun W hW => own_insert hBg hcap1 hcap2 hsz htk hbl hW
              have hszl : cur.toList.length = cap := hsz
              have HSz := Lib.hid hszl
              have HGg := Lib.hid hg
              obtain ⟨cs, hcs⟩ : ∃ cs, cs = (ms.drop a).map encStr := ⟨_, rfl⟩
              rw [← hcs] at HCl HCells HIns
              have H1 : Hid (∀ v ∈ cs, v.oneCell' = true) := fun v hv => by
                rw [hcs] at hv
                obtain ⟨y, _, rfl⟩ := List.mem_map.1 hv
                rfl
              clear hcl hcells hsz hszl htk hg hcs HO
              have q1 : IntKind.i64.wrap ((a : Int) + 1) = (a : Int) + 1 := IntWalk.i64_in _ (by omega)
              have q2 : (0 : Int) ≤ (a : Int) + 1 := by omega
              have q3 : (a : Int) + 1 ≤ (ms.length : Int) + 1 := by omega
              have q4 : (0 : Int) ≤ (a : Int) := by omega
              have q5 : (a : Int) ≤ (ms.length : Int) + 1 := by omega
              rcases Nat.lt_or_ge a ms.length with hal | hal
              · obtain ⟨w4, hcp, HW4⟩ : ∃ w4, (Builtin.copy_ #[30, 30] 3 #[.slice (some ⟨g, a + 1, none⟩) (ms.length - a) (cap - (a + 1)), .slice (some ⟨g, a, none⟩) (ms.length + 1 - a) (cap - a)]).run Tryz.prog w2.drew = .ok (.int .i64 ((ms.length - a : Nat) : Int)) w4 ∧ Hid (w4.heap[g]? = some (.cells (splice cur.toList (a + 1) cs).toArray 9 (0, 0)) ∧ Below w.heap.size w w4) := by
                  have hr := run_copy_row Tryz.prog w2.drew 30 30 3 9 g (a + 1) (ms.length - a) (cap - (a + 1)) ⟨g, a, none⟩ (ms.length + 1 - a) (cap - a) cur 9 cs Tryz.underlying30 info_size HGg.out
                    (by rw [HCl.out]; show _ = min _ _; omega)
                    (fun j v hv => by rw [addr_add]; exact HCells.out j v hv)
                    (by have := HCl.out; have h2 := HSz.out; have h3 : cur.size = cap := h2; omega) H1.out
                  refine ⟨_, hr.trans (by rw [HCl.out]; rfl), ?_, below_setRow (HG.out.drew) hBg _⟩
                  have hgd : w2.drew.heap[g]? = some (.cells cur 9 (0, 0)) := HGg.out
                  rw [setRow_heap _ _ _ _ _ _ hgd]
                  simp [splice, HCl.out]
                have hcell4 : ∃ u, w4.cell? ⟨g, a, none⟩ = some u := by
                  rw [Lib.cell_of_heap HW4.out.1]
                  have hln : a < (splice cur.toList (a + 1) cs).length := by
                    rw [length_splice _ _ _ (by rw [HCl.out, HSz.out]; omega), HSz.out]; omega
                  exact ⟨_, by rw [List.getElem?_toArray, List.getElem?_eq_getElem hln]⟩
                obtain ⟨u4, d4⟩ := hcell4
                have f4 : w4.frozen? ⟨g, a, none⟩ = false := Lib.frozen_of_heap HW4.out.1 a
                have d5 := HC.out w4 HW4.out.2
                have HI4 := Lib.hid (HIns.out w4 HW4.out.1)
                have HB4 := Lib.hid (HW4.out.2.setCell (p := ⟨g, a, none⟩) hBg (.string x))
                have HLn : Hid ((ms.take a ++ x.data.toList :: ms.drop a).length = ms.length + 1) := by
                  show _ = _
                  rw [List.length_append, List.length_cons, List.length_take, List.length_drop]; omega
                clear HIns HCells HGg HCl HSz H1 HW4 HBd HB
                have q6 : ¬ cap = a + 1 := by omega
                have q7 : ¬ cap = a := by omega
                have q8 : a + 1 < cap := by omega
                have q9 : a < cap := by omega
                go_region
                go_wp2
                go_roundw
                case rel => exact ⟨k + 1, _, by omega, by rw [HLn.out]; omega, by go_num, by rw [HLn.out]; exact HI4.out, HB4.out, HUp.out, HNw.out⟩
                case measure => simp [intOf]; omega
              · have hcs0 : cs = [] := List.eq_nil_of_length_eq_zero (by rw [HCl.out]; omega)
                have HW4 : Hid (w2.drew.heap[g]? = some (.cells (splice cur.toList (a + 1) cs).toArray 9 (0, 0)) ∧ Below w.heap.size w w2.drew) := by
                  refine ⟨?_, HG.out.drew⟩
                  rw [hcs0]
                  have hgd : w2.drew.heap[g]? = some (.cells cur 9 (0, 0)) := HGg.out
                  simpa [splice] using hgd
                have hcp : ∀ (d sp : Option Addr) (dc sc : Nat), (Builtin.copy_ #[30, 30] 3 #[.slice d 0 dc, .slice sp 1 sc]).run Tryz.prog w2.drew = .ok (.int .i64 0) w2.drew := fun d sp dc sc => run_copy_none w2.drew 30 30 3 9 d sp 0 dc 1 sc Tryz.underlying30 info_size rfl
                have hcell4 : ∃ u, w2.drew.cell? ⟨g, a, none⟩ = some u := by
                  rw [Lib.cell_of_heap HW4.out.1]
                  have hln : a < (splice cur.toList (a + 1) cs).length := by
                    rw [length_splice _ _ _ (by rw [HCl.out, HSz.out]; omega), HSz.out]; omega
                  exact ⟨_, by rw [List.getElem?_toArray, List.getElem?_eq_getElem hln]⟩
                obtain ⟨u4, d4⟩ := hcell4
                have f4 : w2.drew.frozen? ⟨g, a, none⟩ = false := Lib.frozen_of_heap HW4.out.1 a
                have d5 := HC.out w2.drew HW4.out.2
                have HI4 := Lib.hid (HIns.out w2.drew HW4.out.1)
                have HB4 := Lib.hid (HW4.out.2.setCell (p := ⟨g, a, none⟩) hBg (.string x))
                have HLn : Hid ((ms.take a ++ x.data.toList :: ms.drop a).length = ms.length + 1) := by
                  show _ = _
                  rw [List.length_append, List.length_cons, List.length_take, List.length_drop]; omega
                clear HIns HCells HGg HCl HSz H1 HW4 HBd HB
                have ha2 : a = ms.length := by omega
                clear hcs0 hal q3 q5
                subst ha2
                go_region
                go_wp2
                go_roundw
                case rel => exact ⟨k + 1, _, by omega, by rw [HLn.out]; omega, by go_num, by rw [HLn.out]; exact HI4.out, HB4.out, HUp.out, HNw.out⟩
                case measure => simp [intOf]; omega
    · obtain rfl : n = k := by omega
      rw [List.take_of_length_le (by rw [HN.out]; exact Nat.le_refl _)] at H
      have eS : sortB xs = ms.map bs := by
        show (sortT (raw xs)).map bs = _
        rw [sortT_eq H.out.2.1 H.out.2.2]
      rw [enc_bs] at hown
      have eL : (sortB xs).length = ms.length := by rw [eS, List.length_map]
      rw [← eS] at hown
      obtain ⟨A', c', rfl, _⟩ := slIs_of_own eL hown
      have HS := Lib.hid hown
      have HE := Lib.hid eL
      have HB := Lib.hid H.out.1
      clear hown eS eL H
      go_wp2
      go_ret
      rw [HE.out]
      exact ⟨A', c', rfl, HS.out, HB.out⟩
theorem refSort_is (A : Option Addr) (n c : Nat) (xs : List ByteArray) (w : World) (hn : xs.length = n) (h : SlIs w A c xs) (hm : n ≤ 1000000000) :
    Calls Tryz.prog 31 #[.slice A n c] w fun e W' => ∃ A' c', e = .returned (.slice A' (sortB xs).length c') ∧ SlIs W' A' c' (sortB xs) ∧ Below w.heap.size w W' :=
  (refSort_own A n c xs w hn h hm).mono fun e W' ⟨A', c', he, ho, hb⟩ => by
    obtain ⟨A2, c2, h2, hs⟩ := slIs_of_own rfl ho
    cases h2
    exact ⟨A', c', he, hs, hb⟩

end Go.Proofs.YtghfmbmdfojapaaGreatDoor.Wsort
