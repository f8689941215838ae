/- The program's New. -/
import Derived.Test.YtgfpdaaofhanoaaGreatDoorVput
namespace Go.Proofs.YtgfpdaaofhanoaaGreatDoor.Vnew
open Go.RowKit Go.Maps Go.Proofs.YtgfpdaaofhanoaaGreatDoor.Pth Go.Proofs.YtgfpdaaofhanoaaGreatDoor.Pabs Go.Proofs.YtgfpdaaofhanoaaGreatDoor.Strs Go.Proofs.YtgfpdaaofhanoaaGreatDoor.Vfs Go.Proofs.YtgfpdaaofhanoaaGreatDoor.Vmap Go.Proofs.YtgfpdaaofhanoaaGreatDoor.Vnames Go.Proofs.YtgfpdaaofhanoaaGreatDoor.Vadd Go.Proofs.YtgfpdaaofhanoaaGreatDoor.Vput

/-- a slice of entries, three cells each -/
def EnIs (w : World) (A : Option Addr) (c : Nat) (l : List Raw) : Prop :=
  l.length ≤ c ∧ (l = [] ∨ ∃ b o, A = some ⟨b, o, none⟩ ∧ b < w.heap.size ∧ ∀ j x, l[j]? = some x → w.cell? ⟨b, o + j * 3, none⟩ = some (.string x.path) ∧ w.cell? ⟨b, o + j * 3 + 1, none⟩ = some (.bool x.dir) ∧ w.cell? ⟨b, o + j * 3 + 2, none⟩ = some (.string x.text))
theorem EnIs.below {w w' : World} {A : Option Addr} {c : Nat} {l : List Raw} (h : EnIs w A c l) (hb : Below w.heap.size w w') : EnIs w' A c l := by
  refine ⟨h.1, ?_⟩
  rcases h.2 with h0 | ⟨b, o, rfl, hlt, hc⟩
  · exact .inl h0
  · refine .inr ⟨b, o, rfl, Nat.lt_of_lt_of_le hlt hb.size, fun j x hx => ?_⟩
    obtain ⟨h1, h2, h3⟩ := hc j x hx
    exact ⟨(hb.cell (p := ⟨b, o + j * 3, none⟩) hlt).trans h1, (hb.cell (p := ⟨b, o + j * 3 + 1, none⟩) hlt).trans h2, (hb.cell (p := ⟨b, o + j * 3 + 2, none⟩) hlt).trans h3⟩
theorem EnIs.at_ {w : World} {A : Option Addr} {c k : Nat} {l : List Raw} (h : EnIs w A c l) {x : Raw} (hx : l[k]? = some x) :
    ∃ b o, A = some ⟨b, o, none⟩ ∧ b < w.heap.size ∧ ∀ W, Below w.heap.size w W → W.cell? ⟨b, o + k * 3, none⟩ = some (.string x.path) ∧ W.cell? ⟨b, o + k * 3 + 1, none⟩ = some (.bool x.dir) ∧ W.cell? ⟨b, o + k * 3 + 2, none⟩ = some (.string x.text) := by
  rcases h.2 with h0 | ⟨b, o, rfl, hb, hc⟩
  · rw [h0] at hx; cases hx
  · refine ⟨b, o, rfl, hb, fun W hW => ?_⟩
    obtain ⟨h1, h2, h3⟩ := hc k x hx
    exact ⟨(hW.cell (p := ⟨b, o + k * 3, none⟩) hb).trans h1, (hW.cell (p := ⟨b, o + k * 3 + 1, none⟩) hb).trans h2, (hW.cell (p := ⟨b, o + k * 3 + 2, none⟩) hb).trans h3⟩

/-- the root alone -/
theorem fs_start (w : World) : ∃ W1, (Instr.mapUpdate 50 (.map (some w.heap.size)) (.int .i64 1) (.map (some (w.heap.size + 1)))).run Tryz.prog ((w.alloc (.map #[] 0)).alloc (.map #[] 0)) = .ok () W1 ∧
    FsIs (W1.alloc (.cells #[.map (some w.heap.size)] 52)) ⟨W1.heap.size, 0, none⟩ w.heap.size [w.heap.size + 1] (dl []) [] ∧ Below w.heap.size w W1 := by
  have ho := (World.ownsMap_made w Tryz.prog 3 mapElem).alloc (.map #[] 0)
  have hn := World.ownsMap_made (w.alloc (.map #[] 0)) Tryz.prog 9 nodeElem
  rw [World.size_alloc] at hn
  obtain ⟨W1, hrun, ho2, hg⟩ := ho.update KI Tryz.underlying50 (by unfold maxLen; omega) (keyI (i := 1) (by omega) (by omega)) (val := .map (some (w.heap.size + 1))) (d := .lit (.int .i64 ((w.heap.size + 1 : Nat) : Int))) (ps := []) rfl
  have hs := hg.size
  simp only [World.size_alloc] at hs
  have hn1 := hn.kept hg (fun e => by have := Option.some.inj e; omega)
  have hnew := heap_alloc_new W1 (.cells #[.map (some w.heap.size)] 52)
  have hal := alloc_below W1 (.cells #[.map (some w.heap.size)] 52)
  refine ⟨W1, hrun, ⟨by rw [Lib.cell_of_heap hnew]; rfl, by show W1.heap.size < _; simp, rfl, by simp, ?_, fun j p b hp hb => ?_⟩, ?_⟩
  · refine ⟨_, 1, owns_block ho2 (hal.block _ (by omega)), Nat.le_refl _, ?_, fun i => ?_, fun j b hb => ?_⟩
    · rw [size_put (ho.tidy KI)]; rfl
    · by_cases hi : i = 1
      · subst hi
        rw [has_put_same ho.isMap (isKeyI _)]; rfl
      · rw [has_put_other (fun e => hi (by cases e; rfl))]
        show false = _
        symm
        rw [decide_eq_false_iff_not]
        simp; omega
    · have hj : j = 0 := by have := (List.getElem?_eq_some_iff.1 hb).1; simp at this; exact this
      subst hj
      have hbe : w.heap.size + 1 = b := by simpa using hb
      rw [← hbe]
      exact atKey_put_same ho.isMap (isKeyI _) _ _
  · have hj : j = 0 := by have := (List.getElem?_eq_some_iff.1 hb).1; simp at this; exact this
    subst hj
    have hbe : w.heap.size + 1 = b := by simpa using hb
    rw [← hbe]
    exact ⟨_, 0, owns_block hn1 (hal.block _ (by omega)), Nat.zero_le _, fun x => rfl, fun x e he => by cases he⟩
  · have h2 : Below w.heap.size w ((w.alloc (.map #[] 0)).alloc (.map #[] 0)) := (alloc_below w _).alloc (by simp) _
    exact h2.grown hg (by simp; omega) (fun k e => by rw [← Option.some.inj e]; exact Nat.le_refl _)

theorem abs_text (s : ByteArray) : (bs (absL s.data.toList) = absT (partsOf s)) ∨ (bs (absL s.data.toList) = ⟨#[]⟩ ∧ partsOf s = []) := by
  by_cases h : s.data.toList = []
  · right
    unfold partsOf
    rw [h]
    exact ⟨rfl, rfl⟩
  · left
    rw [absL_some _ h]; rfl
theorem putE_eq (L : List Ent) (x : Raw) : putE L x = putR x.dir (textOf x) L [] (partsOf x.path) := rfl

set_option maxRecDepth 100000 in
set_option maxHeartbeats 8000000 in
theorem new_is (A : Option Addr) (n c : Nat) (l : List Raw) (w : World) (hn : l.length = n) (h : EnIs w A c l) (hsm : ∀ x ∈ l, RawSmall x) (hm : n ≤ maxLen) :
    Calls Tryz.prog 9 #[.slice A n c] w fun e W' => ∃ fa B bl, e = .returned (.pointer (some fa)) ∧ FsIs W' fa B bl (dl (newL l)) (newL l) ∧ Below w.heap.size w W' := by
  unfold maxLen at hm
  obtain ⟨W1, hu, hF1, hB1⟩ := fs_start w
  have hcap := h.1
  obtain ⟨m, hmin⟩ : ∃ m : Nat, min (n : Int) 200 = (m : Int) := ⟨min n 200, by omega⟩
  have hm2 : m ≤ n := by omega
  have hm3 : m ≤ 200 := by omega
  have hmn : m = min n 200 := by omega
  have HN := Lib.hid hn
  have HE := Lib.hid h
  have HSM := Lib.hid hsm
  have HF1 := Lib.hid hF1
  have HB1 := Lib.hid hB1
  have HMN := Lib.hid hmn
  rw [hn] at hcap
  have hmm := @run_makeMap Tryz.prog
  clear hn h hsm hF1 hB1 hmn
  have HT : Hid (newL l = (l.take m).foldl putE []) := by
    show _ = _
    unfold newL
    congr 1
    have h1 := HN.out
    have h2 := HMN.out
    rcases Nat.le_total n 200 with h3 | h3
    · rw [List.take_of_length_le (by omega), List.take_of_length_le (by omega)]
    · rw [show m = 200 by omega]
  rw [HT.out]
  go_enter Tryz.func9, Tryz.ntmps9
  go_wp2
  go_loopw [17] (fun i wr => ∃ (k : Nat) (bl : List Nat), k ≤ m ∧ i = .int .i64 k ∧ Hid (FsIs wr ⟨W1.heap.size, 0, none⟩ w.heap.size bl (dl ((l.take k).foldl putE [])) ((l.take k).foldl putE []) ∧ Below w.heap.size w wr ∧ ∀ b ∈ bl, w.heap.size ≤ b)) (fun i _ => m - (intOf i).toNat)
  case atStart => exact ⟨0, [w.heap.size + 1], Nat.zero_le _, rfl, HF1.out, HB1.out.alloc HB1.out.size _, fun b hb => by rw [List.mem_singleton.1 hb]; omega⟩
  case round =>
    obtain ⟨k, bl, hk, rfl, H⟩ := hrel
    have hsz := H.out.2.1.size
    by_cases hlt : k < m
    · have hl : k < l.length := by have := HN.out; omega
      have hx : l[k]? = some l[k] := List.getElem?_eq_getElem hl
      obtain ⟨bA, oA, rfl, hbA, hcA⟩ := HE.out.at_ hx
      obtain ⟨c0, c1, c2⟩ := hcA wr H.out.2.1
      have hxs := HSM.out _ (List.getElem_mem hl)
      have HAbs := Lib.hid (fun W => abs_is l[k].path W hxs.path)
      have hpp := parts_small l[k].path hxs.path
      have HStep : Hid ((l.take (k + 1)).foldl putE [] = putR l[k].dir (textOf l[k]) ((l.take k).foldl putE []) [] (partsOf l[k].path)) := by
        show _ = _
        rw [List.take_succ_eq_append_getElem hl, List.foldl_append]; rfl
      have HPut : Hid (∀ W, Below wr.heap.size wr W → ∀ W2, FsIs W2 ⟨W1.heap.size, 0, none⟩ w.heap.size bl (dl ((l.take k).foldl putE [])) ((l.take k).foldl putE []) → Below w.heap.size w W2 →
          Calls Tryz.prog 22 #[.pointer (some ⟨W1.heap.size, 0, none⟩), .agg #[.string (bs (absL l[k].path.data.toList)), .bool l[k].dir, .string (textOf l[k])]] W2 fun r W' => r = .returned (.tuple #[]) ∧ ∃ bl', FsIs W' ⟨W1.heap.size, 0, none⟩ w.heap.size bl' (dl ((l.take (k + 1)).foldl putE [])) ((l.take (k + 1)).foldl putE []) ∧ Below w.heap.size w W' ∧ ∀ b ∈ bl', w.heap.size ≤ b) := fun W _ W2 hF hB2 => by
        have hsmk : Small (0 + (l.take k).length * 2000002) ((l.take k).foldl putE []) := foldl_small _ small_nil (fun y hy => HSM.out y (List.mem_of_mem_take hy))
        have hlk : (l.take k).length = k := by rw [List.length_take]; omega
        rw [hlk] at hsmk
        refine (put_is W2 ⟨W1.heap.size, 0, none⟩ w.heap.size w.heap.size bl _ (partsOf l[k].path) _ (textOf l[k]) l[k].dir hF (foldl_inv _ inv_nil) (abs_text _) (partsOf_good _) (by omega) (textOf_size _ hxs.text) (textOf_bare _) _ hsmk (by omega) hB2.size (Nat.le_refl _) H.out.2.2).mono ?_
        rintro r W' ⟨rfl, bl', hF', hb', hB', _⟩
        rw [HStep.out]
        exact ⟨rfl, bl', hF', hB2.trans hB', fun b hb => (hb' b hb).1⟩
      have hFk := H.out.1
      have HFn : Hid (∀ W, Below wr.heap.size wr W → FsIs W ⟨W1.heap.size, 0, none⟩ w.heap.size bl (dl ((l.take k).foldl putE [])) ((l.take k).foldl putE []) ∧ Below w.heap.size w W) := fun W hW => ⟨hFk.below hW, H.out.2.1.trans (hW.mono hsz)⟩
      have HNe : Hid (wr.heap.size ≠ W1.heap.size ∧ wr.heap.size ≠ w.heap.size ∧ ∀ b ∈ bl, wr.heap.size ≠ b) := ⟨by have := hFk.lt; show wr.heap.size ≠ W1.heap.size; have h9 : W1.heap.size < wr.heap.size := this; omega, by have := hFk.lt_outer; omega, fun b hb => by have := hFk.lt_inner hb; omega⟩
      have htd : textOf l[k] = if l[k].dir then ⟨#[]⟩ else l[k].text := rfl
      clear hcA hx hxs hpp HStep H hFk
      generalize bs (absL l[k].path.data.toList) = ab at *
      generalize textOf l[k] = tx at *
      generalize l[k].path = pa at *
      generalize l[k].text = te at *
      generalize l[k].dir = di at *
      go_wp2_with fail
      refine (HAbs.out _).mono ?_
      rintro e W2 ⟨rfl, hb2⟩
      have hg : W2.heap[wr.heap.size]? = some (.cells #[.string pa, .bool di, .string te] 40 (0, 0)) := (hb2.block _ (by simp)).trans (heap_alloc_new wr _)
      have hB2 : Below wr.heap.size wr W2 := (alloc_below wr _).trans (hb2.mono (by simp))
      have d0 : W2.cell? ⟨wr.heap.size, 0, none⟩ = some (.string pa) := by rw [Lib.cell_of_heap hg]; rfl
      have d1 : W2.cell? ⟨wr.heap.size, 1, none⟩ = some (.bool di) := by rw [Lib.cell_of_heap hg]; rfl
      have d2 : W2.cell? ⟨wr.heap.size, 2, none⟩ = some (.string te) := by rw [Lib.cell_of_heap hg]; rfl
      have f0 : W2.frozen? ⟨wr.heap.size, 0, none⟩ = false := Lib.frozen_of_heap hg 0
      have f2 : W2.frozen? ⟨wr.heap.size, 2, none⟩ = false := Lib.frozen_of_heap hg 2
      obtain ⟨hF2, hw2⟩ := HFn.out W2 hB2
      have HC : Hid (∀ v, Calls Tryz.prog 22 #[.pointer (some ⟨W1.heap.size, 0, none⟩), .agg #[.string ab, .bool di, .string tx]] (W2.setCell ⟨wr.heap.size, 0, none⟩ v) fun r W' => r = .returned (.tuple #[]) ∧ ∃ bl', FsIs W' ⟨W1.heap.size, 0, none⟩ w.heap.size bl' (dl ((l.take (k + 1)).foldl putE [])) ((l.take (k + 1)).foldl putE []) ∧ Below w.heap.size w W' ∧ ∀ b ∈ bl', w.heap.size ≤ b) := fun v =>
        HPut.out W2 hB2 _ (hF2.setCell _ v HNe.out.1 HNe.out.2.1 HNe.out.2.2) (hw2.setCell (p := ⟨wr.heap.size, 0, none⟩) hsz v)
      have HC2 : Hid (∀ v v', Calls Tryz.prog 22 #[.pointer (some ⟨W1.heap.size, 0, none⟩), .agg #[.string ab, .bool di, .string tx]] ((W2.setCell ⟨wr.heap.size, 0, none⟩ v).setCell ⟨wr.heap.size, 2, none⟩ v') fun r W' => r = .returned (.tuple #[]) ∧ ∃ bl', FsIs W' ⟨W1.heap.size, 0, none⟩ w.heap.size bl' (dl ((l.take (k + 1)).foldl putE [])) ((l.take (k + 1)).foldl putE []) ∧ Below w.heap.size w W' ∧ ∀ b ∈ bl', w.heap.size ≤ b) := fun v v' =>
        HPut.out W2 hB2 _ ((hF2.setCell _ v HNe.out.1 HNe.out.2.1 HNe.out.2.2).setCell _ v' HNe.out.1 HNe.out.2.1 HNe.out.2.2) ((hw2.setCell (p := ⟨wr.heap.size, 0, none⟩) hsz v).setCell (p := ⟨wr.heap.size, 2, none⟩) hsz v')
      clear hb2 hB2 hg hF2 hw2 HPut HFn HNe HAbs
      cases di with
      | true =>
        obtain rfl : tx = ⟨#[]⟩ := htd
        clear HC
        go_wp2_with fail
        refine (HC2.out _ _).mono ?_
        rintro e W3 ⟨rfl, bl', hF', hB', hb'⟩
        have HR := Lib.hid (And.intro hF' (And.intro hB' hb'))
        clear hF' hB' hb' HC2
        go_wp2
        go_roundw
        case rel => exact ⟨k + 1, bl', by omega, by go_num, HR.out⟩
        case measure => simp [intOf]; omega
      | false =>
        obtain rfl : tx = te := htd
        clear HC2
        go_wp2_with fail
        refine (HC.out _).mono ?_
        rintro e W3 ⟨rfl, bl', hF', hB', hb'⟩
        have HR := Lib.hid (And.intro hF' (And.intro hB' hb'))
        clear hF' hB' hb' HC
        go_wp2
        go_roundw
        case rel => exact ⟨k + 1, bl', by omega, by go_num, HR.out⟩
        case measure => simp [intOf]; omega
    · obtain rfl : m = k := by omega
      have HR := Lib.hid H.out
      clear H
      go_wp2
      go_ret
      exact ⟨_, _, bl, rfl, HR.out.1, HR.out.2.1⟩

end Go.Proofs.YtgfpdaaofhanoaaGreatDoor.Vnew
