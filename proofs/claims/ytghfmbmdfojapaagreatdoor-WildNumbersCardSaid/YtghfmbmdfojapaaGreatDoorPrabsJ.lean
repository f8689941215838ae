/- What the document's Parts and Abs answer. -/
import Derived.OwnWalk
import Derived.OwnWalkIn
import Derived.Laws.AppendOwnNone
import Derived.Test.YtghfmbmdfojapaaGreatDoorPfnJ
namespace Go.Proofs.YtghfmbmdfojapaaGreatDoor.Prabs
open Go.RowKit Go.Proofs.YtghfmbmdfojapaaGreatDoor.Pth Go.Proofs.YtghfmbmdfojapaaGreatDoor.Pfn Go.Proofs.YtghfmbmdfojapaaGreatDoor.Pabs

/-- without the empty ones -/
def ne (xs : List (List UInt8)) : List (List UInt8) := xs.filter (fun p => !p.isEmpty)
theorem ne_nil (xs : List (List UInt8)) : ne ([] :: xs) = ne xs := rfl
theorem ne_cons {p : List UInt8} (h : p ≠ []) (xs : List (List UInt8)) : ne (p :: xs) = p :: ne xs := by
  cases p with
  | nil => exact absurd rfl h
  | cons b t => rfl
theorem ne_length (xs : List (List UInt8)) : (ne xs).length ≤ xs.length := List.length_filter_le _ _
theorem pile_ne : ∀ (ps xs : List (List UInt8)), pileL xs (ne ps) = pileL xs ps
  | [], _ => rfl
  | p :: ps, xs => by
    by_cases h : p = []
    · rw [h, ne_nil, pileL_cons, stepL_none _ _ (.inl rfl), pile_ne ps xs]
    · rw [ne_cons h, pileL_cons, pileL_cons, pile_ne ps]
theorem ne_mem {ps : List (List UInt8)} {p : List UInt8} (h : p ∈ ne ps) : p ≠ [] := by
  have := (List.mem_filter.1 h).2
  intro e
  rw [e] at this
  cases this

/-- the parts so far, and the one that has begun -/
def Inv (s : ByteArray) (k f : Nat) (acc : List (List UInt8)) : Prop :=
  (k ≤ s.size → acc ++ ne (splitL (s.data.toList.drop f)) = ne (splitL s.data.toList) ∧ 47 ∉ (s.data.toList.drop f).take (k - f)) ∧ (s.size < k → acc = ne (splitL s.data.toList))
theorem inv_start (s : ByteArray) : Inv s 0 0 [] := ⟨fun _ => ⟨rfl, List.not_mem_nil⟩, fun h => absurd h (Nat.not_lt_zero _)⟩
theorem extract_bs (s : ByteArray) (f k : Nat) : s.extract f k = bs ((s.data.toList.drop f).take (k - f)) := by
  rw [← Lib.extract_data, bs_data]
theorem at_byte {s : ByteArray} {k f : Nat} (hf : f ≤ k) (hk : k < s.size) : s.data.toList.drop f = (s.data.toList.drop f).take (k - f) ++ s[k] :: s.data.toList.drop (k + 1) := by
  have hl : k < s.data.toList.length := hk
  have e : (s.data.toList.drop f).drop (k - f) = s[k] :: s.data.toList.drop (k + 1) := by
    rw [List.drop_drop, show f + (k - f) = k by omega, List.drop_eq_getElem_cons hl]
    rfl
  rw [← e, List.take_append_drop]
theorem inv_other {s : ByteArray} {k f : Nat} {acc : List (List UInt8)} (hf : f ≤ k) (hk : k < s.size) (hb : ¬ ((s[k].toNat : Nat) : Int) = 47) (h : Inv s k f acc) : Inv s (k + 1) f acc := by
  obtain ⟨h1, h2⟩ := h.1 (by omega)
  refine ⟨fun _ => ⟨h1, ?_⟩, fun hh => by omega⟩
  have hl : k < s.data.toList.length := hk
  rw [show k + 1 - f = (k - f) + 1 by omega, List.take_succ_eq_append_getElem (by rw [List.length_drop]; omega)]
  intro hm
  rcases List.mem_append.1 hm with hm | hm
  · exact h2 hm
  · have e := List.mem_singleton.1 hm
    rw [List.getElem_drop] at e
    have e2 : s.data.toList[f + (k - f)]'(by omega) = s[k] := by
      have : f + (k - f) = k := by omega
      simp only [this]
      rfl
    rw [e2] at e
    exact hb (by rw [← e]; rfl)
theorem cut_ne {s : ByteArray} {k f : Nat} (hf : f < k) (hk : k ≤ s.size) : (s.data.toList.drop f).take (k - f) ≠ [] := by
  intro e
  have : ((s.data.toList.drop f).take (k - f)).length = k - f := by rw [List.length_take, List.length_drop, len_data]; omega
  rw [e] at this
  simp at this
  omega
theorem inv_slash {s : ByteArray} {k f : Nat} {acc : List (List UInt8)} (hf : f < k) (hk : k < s.size) (hb : ((s[k].toNat : Nat) : Int) = 47) (h : Inv s k f acc) : Inv s (k + 1) (k + 1) (acc ++ [(s.data.toList.drop f).take (k - f)]) := by
  obtain ⟨h1, h2⟩ := h.1 (by omega)
  have e47 : s[k] = 47 := UInt8.toNat_inj.1 (show s[k].toNat = 47 by omega)
  rw [at_byte (by omega) hk, e47, splitL_app _ _ h2, ne_cons (cut_ne hf (by omega))] at h1
  refine ⟨fun _ => ⟨by rw [List.append_assoc]; exact h1, by rw [Nat.sub_self]; exact List.not_mem_nil⟩, fun hh => by omega⟩
theorem inv_slash0 {s : ByteArray} {k : Nat} {acc : List (List UInt8)} (hk : k < s.size) (hb : ((s[k].toNat : Nat) : Int) = 47) (h : Inv s k k acc) : Inv s (k + 1) (k + 1) acc := by
  obtain ⟨h1, h2⟩ := h.1 (by omega)
  have e47 : s[k] = 47 := UInt8.toNat_inj.1 (show s[k].toNat = 47 by omega)
  rw [at_byte (Nat.le_refl _) hk, e47, splitL_app _ _ h2, Nat.sub_self, List.take_zero, ne_nil] at h1
  refine ⟨fun _ => ⟨h1, by rw [Nat.sub_self]; exact List.not_mem_nil⟩, fun hh => by omega⟩
theorem inv_end {s : ByteArray} {f : Nat} {acc : List (List UInt8)} (hf : f < s.size) (h : Inv s s.size f acc) : Inv s (s.size + 1) (s.size + 1) (acc ++ [(s.data.toList.drop f).take (s.size - f)]) := by
  obtain ⟨h1, h2⟩ := h.1 (Nat.le_refl _)
  have e : (s.data.toList.drop f).take (s.size - f) = s.data.toList.drop f := List.take_of_length_le (by rw [List.length_drop, len_data]; omega)
  have hne := cut_ne hf (Nat.le_refl _)
  rw [e] at h2 hne ⊢
  rw [splitL_one _ h2, ne_cons hne] at h1
  exact ⟨fun hh => by omega, fun _ => h1⟩
theorem inv_end0 {s : ByteArray} {acc : List (List UInt8)} (h : Inv s s.size s.size acc) : Inv s (s.size + 1) (s.size + 1) acc := by
  obtain ⟨h1, _⟩ := h.1 (Nat.le_refl _)
  have e : s.data.toList.drop s.size = [] := List.drop_eq_nil_of_le (by rw [len_data]; omega)
  rw [e] at h1
  exact ⟨fun hh => by omega, fun _ => by rw [← h1]; exact (List.append_nil _).symm⟩

theorem below_append {B e n : Nat} {w wr w1 : World} {v : Value} {xs : List Value} {o : Obj} (hB : Below B w wr) (hBs : B ≤ wr.heap.size) (hown : wr.ownsRow B e 1 v n xs) (hg : (wr.alloc o).grownBy w1 v.ownBlock) : Below B w w1 :=
  (hB.alloc hBs o).grown hg (by simp; omega) (fun k e => (hown.lt k e).1)
theorem below_append0 {B e n : Nat} {w wr w1 : World} {v : Value} {xs : List Value} (hB : Below B w wr) (hBs : B ≤ wr.heap.size) (hown : wr.ownsRow B e 1 v n xs) (hg : wr.grownBy w1 v.ownBlock) : Below B w w1 :=
  hB.grown hg hBs (fun k e => (hown.lt k e).1)

/-- texts as cells -/
def cs (xs : List (List UInt8)) : List Value := xs.map fun x => Value.string (bs x)
theorem cs_app (a b : List (List UInt8)) : cs (a ++ b) = cs a ++ cs b := List.map_append
theorem cs_len (a : List (List UInt8)) : (cs a).length = a.length := List.length_map _

set_option maxRecDepth 100000 in
set_option maxHeartbeats 2000000 in
/-- the document's Parts -/
theorem refParts_is (s : ByteArray) (w : World) (hs : s.size ≤ 1099511627776) :
    Calls Tryz.prog 26 #[.string s] w fun e W' => ∃ v, e = .returned v ∧ W'.ownsRow w.heap.size 9 1 v (ne (splitL s.data.toList)).length (cs (ne (splitL s.data.toList))) ∧ Below w.heap.size w W' := by
  obtain ⟨i0, hi, hz0, hz1, hz2⟩ := info_parts infoString
  go_enter Tryz.func26, Tryz.ntmps26
  go_wp2
  go_loopw [3, 4, 5] (fun v fr i wr => ∃ (k f : Nat) (acc : List (List UInt8)), k ≤ s.size + 1 ∧ f ≤ k ∧ acc.length ≤ k ∧ i = .int .i64 k ∧ fr = .int .i64 f ∧ wr.ownsRow w.heap.size 9 1 v acc.length (cs acc) ∧ Below w.heap.size w wr ∧ Hid (Inv s k f acc))
    (fun _ _ i _ => s.size + 1 - (intOf i).toNat)
  case atStart => exact ⟨0, 0, [], Nat.zero_le _, Nat.le_refl _, Nat.le_refl _, rfl, rfl, World.ownsRow_nil _ _ _ _, Below.refl _ _, inv_start s⟩
  case round =>
    obtain ⟨k, f, acc, hk, hf, ha, rfl, rfl, hown, hB, hinv⟩ := hrel
    have hBs := hB.size
    by_cases hlt : k < s.size
    · have b1 : ((k : Int) == (s.size : Int)) = false := beq_eq_false_iff_ne.2 (by omega)
      by_cases hb : ((s[k].toNat : Nat) : Int) = 47
      · have b2 : (((s[k].toNat : Nat) : Int) == 47) = true := beq_iff_eq.2 hb
        by_cases hfk : f < k
        · have HS := Lib.hid (inv_slash hfk hlt hb hinv.out)
          rw [← data_bs ((s.data.toList.drop f).take (k - f)), ← extract_bs] at HS
          have HB := Lib.hid hB
          clear hB hinv
          go_wp2_with (at_builtin; refine wpList_append_own _ rfl _ _ 30 rfl w.heap.size 9 i0 (.string .empty) 1 16 Tryz.underlying30 hi hz0 hz1 hz2 rfl (by decide) _ _ _ rfl (hown.alloc _) ⟨wr.heap.size, 0, none⟩ 1 1 [.string (s.extract f k)] rfl rfl (cell_one_new _ _ _) (by simp [Value.oneCell']) (by unfold maxLen; omega) (by omega) (by simp; omega) ?_; intro v' w1 hown' hgrow _; have HO := Lib.hid hown'; have HG := Lib.hid (below_append HB.out hBs hown hgrow); clear hown' hgrow)
          go_roundw
          case rel => exact ⟨k + 1, k + 1, _, by omega, by omega, by simp; omega, by go_num, by go_num, by rw [cs_app, List.length_append]; exact HO.out, HG.out, HS⟩
          case measure => simp [intOf]; omega
        · obtain rfl : f = k := by omega
          have HS := Lib.hid (inv_slash0 hlt hb hinv.out)
          have HO := Lib.hid hown
          have HB := Lib.hid hB
          clear hown hB hinv
          go_wp2
          go_roundw
          case rel => exact ⟨f + 1, f + 1, acc, by omega, by omega, by omega, by go_num, by go_num, HO.out, HB.out, HS⟩
          case measure => simp [intOf]; omega
      · have b2 : (((s[k].toNat : Nat) : Int) == 47) = false := beq_eq_false_iff_ne.2 hb
        have HS := Lib.hid (inv_other hf hlt hb hinv.out)
        have HO := Lib.hid hown
        have HB := Lib.hid hB
        clear hown hB hinv
        go_wp2
        go_roundw
        case rel => exact ⟨k + 1, f, acc, by omega, by omega, by omega, by go_num, rfl, HO.out, HB.out, HS⟩
        case measure => simp [intOf]; omega
    · by_cases hle : k = s.size
      · subst hle
        by_cases hfk : f < s.size
        · have HS := Lib.hid (inv_end hfk hinv.out)
          rw [← data_bs ((s.data.toList.drop f).take (s.size - f)), ← extract_bs] at HS
          have HB := Lib.hid hB
          clear hB hinv
          go_wp2_with (at_builtin; refine wpList_append_own _ rfl _ _ 30 rfl w.heap.size 9 i0 (.string .empty) 1 16 Tryz.underlying30 hi hz0 hz1 hz2 rfl (by decide) _ _ _ rfl (hown.alloc _) ⟨wr.heap.size, 0, none⟩ 1 1 [.string (s.extract f s.size)] rfl rfl (cell_one_new _ _ _) (by simp [Value.oneCell']) (by unfold maxLen; omega) (by omega) (by simp; omega) ?_; intro v' w1 hown' hgrow _; have HO := Lib.hid hown'; have HG := Lib.hid (below_append HB.out hBs hown hgrow); clear hown' hgrow)
          go_roundw
          case rel => exact ⟨s.size + 1, s.size + 1, _, by omega, by omega, by simp; omega, by go_num, by go_num, by rw [cs_app, List.length_append]; exact HO.out, HG.out, HS⟩
          case measure => simp [intOf]
        · obtain rfl : f = s.size := by omega
          have HS := Lib.hid (inv_end0 hinv.out)
          have HO := Lib.hid hown
          have HB := Lib.hid hB
          clear hown hB hinv
          go_wp2
          go_roundw
          case rel => exact ⟨s.size + 1, s.size + 1, acc, by omega, by omega, by omega, by go_num, by go_num, HO.out, HB.out, HS⟩
          case measure => simp [intOf]
      · have HS := Lib.hid (hinv.out.2 (by omega))
        have HO := Lib.hid hown
        have HB := Lib.hid hB
        clear hown hB hinv
        go_wp2
        go_ret
        exact ⟨_, rfl, by rw [← HS.out]; exact HO.out, HB.out⟩

theorem cs_one {xs : List (List UInt8)} : ∀ u ∈ cs xs, u.oneCell' = true := fun u hu => by
  obtain ⟨x, _, rfl⟩ := List.mem_map.1 hu
  rfl
theorem cs_take (xs : List (List UInt8)) (k : Nat) : cs (xs.take k) = (cs xs).take k := List.map_take
theorem take_cells {w : World} {B e : Nat} {g c : Nat} {n : Nat} {xs : List (List UInt8)} (h : w.ownsRow B e 1 (.slice (some ⟨g, 0, none⟩) n c) n (cs xs)) (k : Nat) :
    ∀ j u, (cs (xs.take k))[j]? = some u → w.cell? ((⟨g, 0, none⟩ : Addr).add j) = some u := fun j u hu => by
  refine h.cells (g := g) rfl j u ?_
  rw [cs_take] at hu
  have hl := (List.getElem?_eq_some_iff.1 hu).1
  rw [List.length_take] at hl
  rwa [List.getElem?_take, if_pos (by omega)] at hu
theorem own_cell {w : World} {B e : Nat} {g c : Nat} {n : Nat} {xs : List (List UInt8)} (h : w.ownsRow B e 1 (.slice (some ⟨g, 0, none⟩) n c) n (cs xs)) {j : Nat} {x : List UInt8} (hx : xs[j]? = some x) :
    w.cell? ⟨g, j, none⟩ = some (.string (bs x)) := by
  have := h.cells (g := g) rfl j (.string (bs x)) (by simp [cs, hx])
  rw [show ((⟨g, 0, none⟩ : Addr).add j) = ⟨g, j, none⟩ by unfold Addr.add; by_cases h0 : j = 0 <;> simp [h0]] at this
  exact this

/-- a slice of the texts xs, that the call owns: nil, or a row -/
theorem own_cases {w : World} {B e : Nat} {v : Value} {xs : List (List UInt8)} (h : w.ownsRow B e 1 v xs.length (cs xs)) :
    (v = .slice none 0 0 ∧ xs = []) ∨ ∃ g c, v = .slice (some ⟨g, 0, none⟩) xs.length c ∧ xs.length ≤ c ∧ B ≤ g ∧ g < w.heap.size := by
  rcases h.2 with ⟨rfl, hn⟩ | ⟨g, cap, cur, rfl, hb, hg, hn, _, _, _⟩
  · exact .inl ⟨rfl, List.eq_nil_of_length_eq_zero hn⟩
  · exact .inr ⟨g, cap, rfl, hn, hb, (Array.getElem?_eq_some_iff.1 hg).1⟩

theorem own_form {w : World} {B e : Nat} {v : Value} {xs : List (List UInt8)} (h : w.ownsRow B e 1 v xs.length (cs xs)) :
    ∃ A c, v = .slice A xs.length c ∧ xs.length ≤ c ∧ ∀ (j : Nat) x, xs[j]? = some x → ∃ g, A = some ⟨g, 0, none⟩ ∧ g < w.heap.size ∧ w.cell? ⟨g, j, none⟩ = some (.string (bs x)) := by
  rcases own_cases h with ⟨rfl, rfl⟩ | ⟨g, c, rfl, hc, _, hg⟩
  · exact ⟨none, 0, rfl, Nat.le_refl _, fun j x hx => by cases hx⟩
  · exact ⟨_, c, rfl, hc, fun j x hx => ⟨g, rfl, hg, own_cell h hx⟩⟩

theorem flat_snoc (xs : List (List UInt8)) (k : Nat) (x : List UInt8) (h : xs[k]? = some x) : flatL (xs.take (k + 1)) = flatL (xs.take k) ++ 47 :: x := by
  obtain ⟨hk, rfl⟩ := List.getElem?_eq_some_iff.1 h
  rw [List.take_succ_eq_append_getElem hk, flatL_app, flatL_one]
theorem flat_take_le (xs : List (List UInt8)) (k : Nat) : (flatL (xs.take k)).length ≤ (flatL xs).length := by
  have := flatL_app (xs.take k) (xs.drop k)
  rw [List.take_append_drop] at this
  rw [this, List.length_append]
  omega

theorem sum2 (a b : List UInt8) : bs a ++ (⟨#[47]⟩ : ByteArray) ++ bs b = bs (a ++ 47 :: b) := by
  have e : (⟨#[47]⟩ : ByteArray) = bs [47] := rfl
  rw [e, ← bs_app, ← bs_app, List.append_assoc]; rfl

set_option maxRecDepth 100000 in
set_option maxHeartbeats 2000000 in
/-- the document's Abs -/
theorem refAbs_is (s : ByteArray) (w : World) (hs : s.size ≤ 1000000) :
    Calls Tryz.prog 39 #[.string s] w fun e W' => e = .returned (.string (bs (absL s.data.toList))) ∧ Below w.heap.size w W' := by
  rcases Nat.eq_zero_or_pos s.size with h0 | h0
  · have e1 := empty_of s h0
    have e2 : Hid (bs (absL s.data.toList) = ⟨#[]⟩) := by
      show _ = _
      rw [List.eq_nil_of_length_eq_zero (show s.data.toList.length = 0 from h0)]; rfl
    go_enter Tryz.func39, Tryz.ntmps39
    go_wp2
    go_ret
    exact ⟨ret_str e2.out.symm, Below.refl _ _⟩
  · have e1 := full_of s h0
    obtain ⟨i0, hi, hz0, hz1, hz2⟩ := info_parts infoString
    have hd : s.data.toList ≠ [] := fun e => by have : s.data.toList.length = s.size := rfl; rw [e] at this; simp at this; omega
    have HA := Lib.hid (absL_some s.data.toList hd)
    have HS := Lib.hid (fun W => refParts_is s W (by omega))
    have hb := parts_bounds s.data.toList
    have hl := splitL_length s.data.toList
    have hl2 := ne_length (splitL s.data.toList)
    rw [len_data] at hb hl
    rw [← pile_ne] at HA hb
    have HM := Lib.hid (fun p hp => ne_mem (ps := splitL s.data.toList) (p := p) hp)
    generalize splitL s.data.toList = qs at HA HS hb hl hl2 HM
    generalize ne qs = ps at HA HS hb hl2 HM
    clear hd
    go_enter Tryz.func39, Tryz.ntmps39
    go_wp2_with fail
    refine (HS.out _).mono ?_
    rintro e w1 ⟨v, rfl, hown, hb1⟩
    clear HS
    have HB := Lib.hid hb1
    have HO := Lib.hid hown
    clear hb1
    obtain ⟨A, c, rfl, hlc, hA⟩ := own_form hown
    clear hown HO
    have hn : ps.length ≤ 1000001 := by omega
    have HA2 := Lib.hid hA
    clear hA
    go_wp2
    go_loopw [3, 5] (fun v i wr => ∃ (k : Nat) (xs : List (List UInt8)), k ≤ ps.length ∧ xs.length ≤ k ∧ i = .int .i64 k ∧ wr.ownsRow w1.heap.size 9 1 v xs.length (cs xs) ∧ Hid (Below w1.heap.size w1 wr ∧ pileL xs (ps.drop k) = pileL [] ps))
      (fun _ i _ => ps.length - (intOf i).toNat)
    case atStart => exact ⟨0, [], Nat.zero_le _, Nat.le_refl _, rfl, World.ownsRow_nil _ _ _ _, Below.refl _ _, rfl⟩
    case round =>
      obtain ⟨k, xs, hk, hx, rfl, hown, H⟩ := hrel
      have hBs := H.out.1.size
      by_cases hlt : k < ps.length
      · obtain ⟨p, hp⟩ : ∃ p, ps[k]? = some p := ⟨_, List.getElem?_eq_getElem hlt⟩
        obtain ⟨g, rfl, hg, hcg⟩ := HA2.out k p hp
        have hc : wr.cell? ⟨g, k, none⟩ = some (.string (bs p)) := (H.out.1.cell (p := ⟨g, k, none⟩) hg).trans hcg
        clear hcg
        have HN : Hid (pileL (stepL xs p) (ps.drop (k + 1)) = pileL [] ps) := by
          obtain ⟨hi, rfl⟩ := List.getElem?_eq_some_iff.1 hp
          show _ = _
          rw [← pileL_cons, ← List.drop_eq_getElem_cons hi]
          exact H.out.2
        have h0 := HM.out p (List.mem_of_getElem? hp)
        have b1 := bool_of p [46]
        have b2 := bool_of p [46, 46]
        by_cases h1 : p = [46]
        · have HS : Hid (Below w1.heap.size w1 wr ∧ pileL xs (ps.drop (k + 1)) = pileL [] ps) := ⟨H.out.1, by have := HN.out; rwa [stepL_none _ _ (.inr h1)] at this⟩
          have HO := Lib.hid hown
          rw [decide_eq_true h1] at b1
          clear hown b2
          generalize bs p = t at hc b1
          go_wp2
          go_roundw
          case rel => exact ⟨k + 1, xs, by omega, by omega, by go_num, HO.out, HS⟩
          case measure => simp [intOf]; omega
        · rw [decide_eq_false h1] at b1
          by_cases h2 : p = [46, 46]
          · have HS : Hid (pileL (xs.take (xs.length - 1)) (ps.drop (k + 1)) = pileL [] ps) := by have := HN.out; rwa [h2, stepL_up] at this
            rw [decide_eq_true h2] at b2
            generalize bs p = t at hc b1 b2
            rcases own_cases hown with ⟨rfl, rfl⟩ | ⟨g3, c3, rfl, hgc, hg0, hg1⟩
            · go_wp2_with (at_builtin; refine wpList_append_own_none rfl _ _ 30 rfl w1.heap.size 9 i0 1 Tryz.underlying30 hi _ _ _ rfl (World.ownsRow_nil _ _ _ _) rfl ?_)
              go_roundw
              case rel => exact ⟨k + 1, [], by omega, Nat.zero_le _, by go_num, World.ownsRow_nil _ _ _ _, H.out.1, HS.out⟩
              case measure => simp [intOf]; omega
            · go_wp2_with (at_builtin; refine wpList_append_own _ rfl _ _ 30 rfl w1.heap.size 9 i0 (.string .empty) 1 16 Tryz.underlying30 hi hz0 hz1 hz2 rfl (by decide) _ _ _ rfl (World.ownsRow_nil _ _ _ _) ⟨g3, 0, none⟩ _ _ (cs (xs.take (xs.length - 1))) rfl (by rw [cs_len, List.length_take]; omega) (take_cells hown _) cs_one (by unfold maxLen; omega) (by omega) hBs ?_; intro v' w2 hown' hgrow _; have HO := Lib.hid hown'; have HG := Lib.hid (below_append0 H.out.1 hBs (World.ownsRow_nil wr w1.heap.size 9 1) hgrow); clear hown' hgrow)
              go_roundw
              case rel => exact ⟨k + 1, xs.take (xs.length - 1), by omega, by rw [List.length_take]; omega, by go_num, by rw [show (xs.take (xs.length - 1)).length = 0 + (max ((xs.length : Int) - 1) 0).toNat by rw [List.length_take]; omega]; exact HO.out, HG.out, HS.out⟩
              case measure => simp [intOf]; omega
          · have HS : Hid (pileL (xs ++ [p]) (ps.drop (k + 1)) = pileL [] ps) := by have := HN.out; rwa [stepL_put _ _ h0 h1 h2] at this
            rw [decide_eq_false h2] at b2
            have HT : Hid (cs xs ++ [.string (bs p)] = cs (xs ++ [p])) := by show cs xs ++ cs [p] = cs (xs ++ [p]); exact (cs_app _ _).symm
            generalize bs p = t at hc b1 b2 HT
            go_wp2_with (at_builtin; refine wpList_append_own _ rfl _ _ 30 rfl w1.heap.size 9 i0 (.string .empty) 1 16 Tryz.underlying30 hi hz0 hz1 hz2 rfl (by decide) _ _ _ rfl (hown.alloc _) ⟨wr.heap.size, 0, none⟩ 1 1 [.string t] rfl rfl (cell_one_new _ _ _) (by simp [Value.oneCell']) (by unfold maxLen; omega) (by omega) (by simp; omega) ?_; intro v' w2 hown' hgrow _; have HO := Lib.hid hown'; have HG := Lib.hid (below_append H.out.1 hBs hown hgrow); clear hown' hgrow)
            go_roundw
            case rel => exact ⟨k + 1, xs ++ [p], by omega, by simp; omega, by go_num, by rw [← HT.out, List.length_append]; exact HO.out, HG.out, HS.out⟩
            case measure => simp [intOf]; omega
      · have HX : Hid (pileL [] ps = xs) := by
          have := H.out.2
          rw [List.drop_eq_nil_of_le (by omega)] at this
          exact this.symm
        rw [HX.out] at HA hb
        clear HX HA2
        have hfl := flatL_length xs
        obtain ⟨A3, c3, rfl, hlc3, hA3⟩ := own_form hown
        have HC := Lib.hid hA3
        have HB3 := Lib.hid (HB.out.trans (H.out.1.mono HB.out.size))
        clear hown hA3 H HB
        go_wp2
        clear hlt
        go_loopw [6, 7] (fun tv i wx => ∃ (j : Nat), j ≤ xs.length ∧ i = .int .i64 j ∧ tv = .string (bs (flatL (xs.take j))) ∧ wr = wx)
          (fun _ i _ => xs.length - (intOf i).toNat)
        case atStart => exact ⟨0, Nat.zero_le _, rfl, rfl, rfl⟩
        case round =>
          obtain ⟨j, hj, rfl, rfl, rfl⟩ := hrel
          have hft := flat_take_le xs j
          by_cases hjl : j < xs.length
          · obtain ⟨x, hxj⟩ : ∃ x, xs[j]? = some x := ⟨_, List.getElem?_eq_getElem hjl⟩
            obtain ⟨g3, rfl, hg3, hc3⟩ := HC.out j x hxj
            have HF := Lib.hid (flat_snoc xs j x hxj)
            have hfs := flat_take_le xs (j + 1)
            rw [HF.out, List.length_append, List.length_cons] at hfs
            have HS2 := Lib.hid (sum2 (flatL (xs.take j)) x)
            have zt : (bs (flatL (xs.take j))).size ≤ 3000000 := by rw [size_bs]; omega
            have zx : (bs x).size ≤ 3000000 := by rw [size_bs]; omega
            rw [← HF.out] at HS2
            clear HF
            generalize bs (flatL (xs.take j)) = t at *
            generalize bs x = y at *
            have z1 : (⟨#[47]⟩ : ByteArray).size = 1 := rfl
            have z2 : (t ++ (⟨#[47]⟩ : ByteArray)).size ≤ 3000001 := by rw [ByteArray.size_append]; omega
            have a1 : ∀ W, (Op.stringOp .add t ⟨#[47]⟩).run Tryz.prog W = .ok (.string (t ++ (⟨#[47]⟩ : ByteArray))) W := fun W => run_string_add_sum W _ _ (by omega)
            have a2 : ∀ W, (Op.stringOp .add (t ++ (⟨#[47]⟩ : ByteArray)) y).run Tryz.prog W = .ok (.string (bs (flatL (xs.take (j + 1))))) W := fun W => by rw [run_string_add_sum W _ _ (by omega), HS2.out]
            go_wp2
            go_roundw
            case rel => exact ⟨j + 1, by omega, by go_num, rfl, trivial⟩
            case measure => simp [intOf]; omega
          · have hjj : j = xs.length := by omega
            subst hjj
            rw [List.take_length] at hft ⊢
            rcases Nat.eq_zero_or_pos (bs (flatL xs)).size with hz | hz
            · have e2 := empty_of _ hz
              have HE : Hid (bs (absL s.data.toList) = ⟨#[47]⟩) := by
                show _ = _
                rw [HA.out, List.eq_nil_of_length_eq_zero (l := flatL xs) (by rw [← size_bs]; exact hz)]
                rfl
              generalize bs (flatL xs) = t at *
              go_wp2
              go_ret
              exact ⟨ret_str HE.out.symm, HB3.out⟩
            · have e2 := full_of _ hz
              have HE : Hid (bs (absL s.data.toList) = bs (flatL xs)) := by
                show _ = _
                rw [HA.out]
                cases hq : flatL xs with
                | nil => rw [size_bs, hq] at hz; exact absurd hz (Nat.lt_irrefl _)
                | cons a b => rfl
              generalize bs (flatL xs) = t at *
              go_wp2
              go_ret
              exact ⟨ret_str HE.out.symm, HB3.out⟩

end Go.Proofs.YtghfmbmdfojapaaGreatDoor.Prabs
