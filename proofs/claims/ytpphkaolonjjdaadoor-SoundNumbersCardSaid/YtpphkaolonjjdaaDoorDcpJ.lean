/- P13.2 on plain lists: what is compiled may be (no program). -/
import Derived.Test.YtpphkaolonjjdaaDoorCplJ
import Derived.Test.YtpphkaolonjjdaaDoorCmcJ
namespace Go.Proofs.YtpphkaolonjjdaaDoor.Dcp
open Go.Proofs.YtpphkaolonjjdaaDoor.Spl Go.Proofs.YtpphkaolonjjdaaDoor.Nz Go.Proofs.YtpphkaolonjjdaaDoor.Fpl Go.Proofs.YtpphkaolonjjdaaDoor.Cpl Go.Proofs.YtpphkaolonjjdaaDoor.Cmc Go.Proofs.YtpphkaolonjjdaaDoor.Dpl

mutual
/-- each call takes so many arguments -/
def fitZ : Nz → Bool
  | .mk k s l => (decide (k ≠ 4) || fitsB s (l.length : Int) (lazyB s)) && fitsZ l
def fitsZ : List Nz → Bool
  | [] => true
  | n :: r => fitZ n && fitsZ r
end
/-- so many more lie on the pile behind it -/
def Eff (q b : Nat) (d : List Opp) (j : Nat) : Prop := ∀ n m : Int, 0 ≤ n → ∃ m', runP b q d n m = some (n + (j : Int), m')
theorem Eff.nil (q b : Nat) : Eff q b [] 0 := fun n m _ => ⟨m, by rw [runP]; congr 2; omega⟩
theorem Eff.app {q b i j : Nat} {d e : List Opp} (h : Eff q b d i) (g : Eff q b e j) : Eff q b (d ++ e) (i + j) := fun n m hn => by
  obtain ⟨m1, h1⟩ := h n m hn
  obtain ⟨m2, h2⟩ := g (n + (i : Int)) m1 (by omega)
  refine ⟨m2, ?_⟩
  rw [run_app, h1]
  show runP b q e _ _ = _
  rw [h2]
  congr 2; omega
/-- an instruction that takes what lies there -/
theorem Eff.op {q b j : Nat} {d : List Opp} {o : Opp} (h : Eff q b d j) (ho : takesP b q o = (j : Int)) : Eff q b (d ++ [o]) 1 := fun n m hn => by
  obtain ⟨m1, h1⟩ := h n m hn
  refine ⟨max m1 (n + (j : Int) - (j : Int) + 1), ?_⟩
  rw [run_app, h1]
  show runP b q [o] _ _ = _
  rw [runP, ho, if_neg (by omega), runP]
  congr 2; omega
/-- from B to B': so many more on each block's pile; new blocks leave one -/
def Sd (q : Nat) (B B' : List (List Opp)) (c : Nat → Nat) : Prop := B.length ≤ B'.length ∧ ∀ i r', B'[i]? = some r' → (∀ r, B[i]? = some r → ∃ d, r' = r ++ d ∧ Eff q i d (c i)) ∧ (B.length ≤ i → Eff q i r' 1)
theorem Sd.refl (q : Nat) (B : List (List Opp)) : Sd q B B fun _ => 0 := ⟨Nat.le_refl _, fun i r' h => ⟨fun r hr => ⟨[], by rw [hr] at h; cases h; exact (List.append_nil _).symm, Eff.nil _ _⟩, fun hi => by rw [List.getElem?_eq_none hi] at h; cases h⟩⟩
theorem Sd.trans {q : Nat} {B B1 B2 : List (List Opp)} {c d : Nat → Nat} (h : Sd q B B1 c) (g : Sd q B1 B2 d) (hd : ∀ i, B.length ≤ i → d i = 0) : Sd q B B2 fun i => c i + d i := by
  refine ⟨Nat.le_trans h.1 g.1, fun i r' hr' => ⟨fun r hr => ?_, fun hi => ?_⟩⟩
  · have h1 := (List.getElem?_eq_some_iff.1 hr).1
    obtain ⟨r1, hr1⟩ : ∃ r1, B1[i]? = some r1 := ⟨_, List.getElem?_eq_getElem (by have := h.1; omega)⟩
    obtain ⟨d1, e1, f1⟩ := (h.2 i r1 hr1).1 r hr
    obtain ⟨d2, e2, f2⟩ := (g.2 i r' hr').1 r1 hr1
    exact ⟨d1 ++ d2, by rw [e2, e1, List.append_assoc], f1.app f2⟩
  · by_cases h1 : i < B1.length
    · obtain ⟨r1, hr1⟩ : ∃ r1, B1[i]? = some r1 := ⟨_, List.getElem?_eq_getElem h1⟩
      obtain ⟨d2, e2, f2⟩ := (g.2 i r' hr').1 r1 hr1
      rw [hd i hi] at f2
      rw [e2]
      exact ((h.2 i r1 hr1).2 hi).app f2
    · exact (g.2 i r' hr').2 (by omega)
theorem Sd.same {q : Nat} {B B' : List (List Opp)} {c d : Nat → Nat} (h : Sd q B B' c) (e : ∀ i, i < B.length → c i = d i) : Sd q B B' d :=
  ⟨h.1, fun i r' hr' => ⟨fun r hr => by have h1 := (h.2 i r' hr').1 r hr; rw [e i (List.getElem?_eq_some_iff.1 hr).1] at h1; exact h1, (h.2 i r' hr').2⟩⟩
/-- the last instruction, behind what it takes -/
theorem Sd.last {q b j : Nat} {B B' : List (List Opp)} {o : Opp} (h : Sd q B B' fun i => if i = b then j else 0) (hb : b < B.length) (ho : takesP b q o = (j : Int)) : Sd q B (put B' b o) fun i => if i = b then 1 else 0 := by
  refine ⟨by rw [put_len]; exact h.1, fun i r' hr' => ?_⟩
  have hb' : b < B'.length := Nat.lt_of_lt_of_le hb h.1
  unfold put at hr'
  by_cases hi : i = b
  · subst hi
    rw [List.getElem?_set_self hb'] at hr'
    cases hr'
    refine ⟨fun r hr => ?_, fun h1 => by omega⟩
    have hg : B'[i]? = some (B'.getD i []) := by rw [List.getD_eq_getElem?_getD, List.getElem?_eq_getElem hb']; rfl
    obtain ⟨d, e, f⟩ := (h.2 i _ hg).1 r hr
    dsimp only at f ⊢
    rw [if_pos rfl] at f ⊢
    exact ⟨d ++ [o], by rw [e, List.append_assoc], f.op ho⟩
  · rw [List.getElem?_set_ne (fun e => hi e.symm)] at hr'
    have h1 := h.2 i r' hr'
    dsimp only at h1 ⊢
    rw [if_neg hi] at h1 ⊢
    exact h1

theorem fits_get (s : T) (n : Int) (lz : Bool) (h : fitsB s n lz = true) : lazyB s = lz := by
  unfold fitsB at h
  unfold lazyB
  cases e : lookI tab s with
  | none => rw [e] at h; cases h
  | some i =>
    rw [e] at h
    unfold fitI at h
    rw [Bool.and_eq_true] at h
    exact beq_iff_eq.1 h.1
theorem takes_push (b q : Nat) (s : T) : takesP b q ⟨1, 0, s, []⟩ = 0 := by simp [takesP, badB]
theorem takes_get (b q : Nat) : takesP b q ⟨2, 0, [], []⟩ = 1 := by simp [takesP, badB]
theorem takes_sub (b q : Nat) : takesP b q ⟨3, 0, [], []⟩ = 3 := by simp [takesP, badB]
theorem takes_join (b q n : Nat) : takesP b q ⟨4, (n : Int), [], []⟩ = (n : Int) := by simp [takesP, badB]
theorem takes_do (b q n : Nat) (s : T) (h : fitsB s (n : Int) false = true) : takesP b q ⟨5, (n : Int), s, []⟩ = (n : Int) := by simp [takesP, badB, h]
theorem takes_lazy (b q : Nat) (s : T) (f n : Nat) (h : fitsB s (n : Int) true = true) (hf : b < f) (hq : f + n ≤ q) : takesP b q ⟨6, 0, s, (List.range' f n).map Int.ofNat⟩ = ((0 : Nat) : Int) := by
  have h1 : farB b q ((List.range' f n).map Int.ofNat) = false := by
    unfold farB
    rw [List.any_eq_false]
    intro y hy
    obtain ⟨x, hx, rfl⟩ := List.mem_map.1 hy
    obtain ⟨h2, h3⟩ := List.mem_range'_1.1 hx
    have h4 : ¬ (Int.ofNat x ≤ (b : Int)) := by show ¬ ((x : Int) ≤ (b : Int)); omega
    have h5 : ¬ ((q : Int) ≤ Int.ofNat x) := by show ¬ ((q : Int) ≤ (x : Int)); omega
    rw [decide_eq_false h4, decide_eq_false h5]
    decide
  have h6 : ((List.range' f n).map Int.ofNat).length = n := by rw [List.length_map, List.length_range']
  unfold takesP badB
  simp [h1, h]

/-- a call's blocks: empty at first -/
theorem Sd.empties {q m : Nat} {B B' : List (List Opp)} (h : Sd q (B ++ List.replicate m []) B' fun i => if B.length ≤ i ∧ i < B.length + m then 1 else 0) : Sd q B B' fun _ => 0 := by
  have h0 := h.1
  rw [List.length_append, List.length_replicate] at h0
  refine ⟨by omega, fun i r' hr' => ⟨fun r hr => ?_, fun hi => ?_⟩⟩
  · have h1 := (List.getElem?_eq_some_iff.1 hr).1
    obtain ⟨d, e, f⟩ := (h.2 i r' hr').1 r (by rw [List.getElem?_append_left h1]; exact hr)
    dsimp only at f
    rw [if_neg (by omega)] at f
    exact ⟨d, e, f⟩
  · by_cases h1 : i < B.length + m
    · obtain ⟨d, e, f⟩ := (h.2 i r' hr').1 [] (by rw [List.getElem?_append_right hi, List.getElem?_replicate, if_pos (by omega)])
      dsimp only at f
      rw [if_pos ⟨hi, h1⟩] at f
      rw [e]
      exact f
    · exact (h.2 i r' hr').2 (by rw [List.length_append, List.length_replicate]; omega)
mutual
theorem node_sd (q : Nat) : ∀ (x : Nz), frmZ x = true → fitZ x = true → ∀ (b : Nat) (B : List (List Opp)), b < B.length → (nodeP x b B).length ≤ q → Sd q B (nodeP x b B) fun i => if i = b then 1 else 0
  | .mk k s l, hf, ht, b, B, hb, hq => by
    obtain ⟨hfb, _, hfl⟩ := frm_mk hf
    rw [fitZ, Bool.and_eq_true] at ht
    obtain ⟨ht1, ht2⟩ := ht
    unfold formB at hfb
    rw [nodeP] at hq ⊢
    by_cases h1 : k = 1
    · rw [if_pos h1]
      exact ((Sd.refl q B).same (d := fun i => if i = b then 0 else 0) fun i _ => by split <;> rfl).last hb (takes_push b q s)
    · rw [if_neg h1] at hfb hq ⊢
      by_cases h4 : k = 4 ∧ lazyB s = true
      · rw [if_pos h4] at hq ⊢
        rw [put_len] at hq
        have hl := lazy_len l B.length (B ++ List.replicate l.length [])
        rw [List.length_append, List.length_replicate] at hl
        have hS := lazies_sd q l hfl ht2 B.length (B ++ List.replicate l.length []) (by rw [List.length_append, List.length_replicate]; omega) hq
        rw [h4.1, h4.2] at ht1
        have hft : fitsB s (l.length : Int) true = true := by simpa using ht1
        exact (hS.empties.same (d := fun i => if i = b then 0 else 0) fun i _ => by split <;> rfl).last hb (takes_lazy b q s B.length l.length hft hb (by omega))
      · rw [if_neg h4] at hq ⊢
        rw [put_len] at hq
        have hS := nodes_sd q l hfl ht2 b B hb hq
        refine hS.last hb ?_
        unfold lastOp
        by_cases h2 : k = 2
        · rw [if_pos h2] at hfb ⊢
          rw [of_decide_eq_true hfb]
          exact takes_get b q
        · rw [if_neg h2] at hfb ⊢
          by_cases h3 : k = 3
          · rw [if_pos h3] at hfb ⊢
            rw [of_decide_eq_true hfb]
            exact takes_sub b q
          · rw [if_neg h3] at hfb ⊢
            by_cases h5 : k = 4
            · rw [if_pos h5]
              have hz : lazyB s = false := by
                cases e : lazyB s
                · rfl
                · exact absurd ⟨h5, e⟩ h4
              rw [h5, hz] at ht1
              exact takes_do b q l.length s (by simpa using ht1)
            · rw [if_neg h5]
              exact takes_join b q l.length
theorem nodes_sd (q : Nat) : ∀ (l : List Nz), frmsZ l = true → fitsZ l = true → ∀ (b : Nat) (B : List (List Opp)), b < B.length → (nodesP l b B).length ≤ q → Sd q B (nodesP l b B) fun i => if i = b then l.length else 0
  | [], _, _, b, B, _, _ => by
    rw [nodesP]
    exact (Sd.refl q B).same fun i _ => by split <;> rfl
  | n :: r, hf, ht, b, B, hb, hq => by
    obtain ⟨hf1, hf2⟩ := frms_cons hf
    rw [fitsZ, Bool.and_eq_true] at ht
    rw [nodesP] at hq ⊢
    have h1 := nodes_len r b (nodeP n b B)
    have h2 := node_len n b B
    exact ((node_sd q n hf1 ht.1 b B hb (by omega)).trans (nodes_sd q r hf2 ht.2 b (nodeP n b B) (by omega) hq) fun i hi => if_neg (by omega)).same fun i _ => by
      show (if i = b then 1 else 0) + (if i = b then r.length else 0) = if i = b then (n :: r).length else 0
      rw [List.length_cons]
      split <;> omega
theorem lazies_sd (q : Nat) : ∀ (l : List Nz), frmsZ l = true → fitsZ l = true → ∀ (f : Nat) (B : List (List Opp)), f + l.length ≤ B.length → (lazyP l f B).length ≤ q → Sd q B (lazyP l f B) fun i => if f ≤ i ∧ i < f + l.length then 1 else 0
  | [], _, _, f, B, _, _ => by
    rw [lazyP]
    exact (Sd.refl q B).same fun i _ => by
      show 0 = if f ≤ i ∧ i < f + 0 then 1 else 0
      rw [if_neg (by omega)]
  | n :: r, hf, ht, f, B, hb, hq => by
    obtain ⟨hf1, hf2⟩ := frms_cons hf
    rw [fitsZ, Bool.and_eq_true] at ht
    rw [List.length_cons] at hb
    rw [lazyP] at hq ⊢
    have h1 := lazy_len r (f + 1) (nodeP n f B)
    have h2 := node_len n f B
    exact ((node_sd q n hf1 ht.1 f B (by omega) (by omega)).trans (lazies_sd q r hf2 ht.2 (f + 1) (nodeP n f B) (by omega) hq) fun i hi => if_neg (by omega)).same fun i _ => by
      show (if i = f then 1 else 0) + (if f + 1 ≤ i ∧ i < f + 1 + r.length then 1 else 0) = if f ≤ i ∧ i < f + (n :: r).length then 1 else 0
      rw [List.length_cons]
      by_cases h3 : i = f
      · rw [if_pos h3, if_neg (by omega), if_pos (by omega)]
      · rw [if_neg h3]
        by_cases h4 : f + 1 ≤ i ∧ i < f + 1 + r.length
        · rw [if_pos h4, if_pos (by omega)]
        · rw [if_neg h4, if_neg (by omega)]
end
theorem block_one {q b : Nat} {l : List Opp} (h : Eff q b l 1) : 1 ≤ blockP b q l := by
  obtain ⟨m', h1⟩ := h 0 0 (Int.le_refl _)
  have h2 := run_le b q l 0 0 _ _ h1 (Int.le_refl _)
  have h3 : l ≠ [] := fun e => by rw [e, runP] at h1; cases h1
  have h4 := h2.2.2.2.2 h3
  unfold blockP
  rw [h1]
  show 1 ≤ if (0 : Int) + ((1 : Nat) : Int) = 1 then m' else -1
  rw [if_pos (by decide)]
  omega
theorem deep_one (q tot : Nat) (ht : tot ≤ 16384) : ∀ (B : List (List Opp)) (b : Nat) (m : Int), (∀ i r, B[i]? = some r → 1 ≤ blockP (b + i) q r) → m ≤ deepP q tot b B m ∧ (B ≠ [] → 1 ≤ deepP q tot b B m)
  | [], b, m, h => by
    rw [deepP, if_neg (by omega)]
    exact ⟨Int.le_refl _, fun h => absurd rfl h⟩
  | l :: r, b, m, h => by
    have h1 := h 0 l rfl
    rw [Nat.add_zero] at h1
    rw [deepP, if_neg (by omega)]
    obtain ⟨h2, _⟩ := deep_one q tot ht r (b + 1) (max m (blockP b q l)) fun i x hx => by
      have h3 := h (i + 1) x hx
      rw [show b + (i + 1) = b + 1 + i by omega] at h3
      exact h3
    exact ⟨by omega, fun _ => by omega⟩
/-- what is compiled may be -/
theorem comp_sound (x : Nz) (hf : frmZ x = true) (ht : fitZ x = true) (ho : opsP (compP x) ≤ 16384) : checkP (compP x) = true := by
  have hS := node_sd (compP x).length x hf ht 0 [[]] (by decide) (Nat.le_refl _)
  have hrow : ∀ i r, (compP x)[i]? = some r → 1 ≤ blockP (0 + i) (compP x).length r := fun i r hr => by
    rw [Nat.zero_add]
    have h1 := hS.2 i r hr
    by_cases hi : i = 0
    · subst hi
      obtain ⟨d, e, f⟩ := h1.1 [] rfl
      dsimp only at f
      rw [if_pos rfl] at f
      rw [e]
      exact block_one f
    · exact block_one (h1.2 (by show 1 ≤ i; omega))
  have hne : compP x ≠ [] := fun e => by
    have h1 := hS.1
    have h2 : (nodeP x 0 [[]]).length = 0 := by
      have h3 : (compP x).length = 0 := by rw [e]; rfl
      exact h3
    rw [h2] at h1
    exact absurd h1 (by decide)
  have h := (deep_one (compP x).length (opsP (compP x)) ho (compP x) 0 0 hrow).2 hne
  unfold checkP depthP
  exact decide_eq_true (by omega)

end Go.Proofs.YtpphkaolonjjdaaDoor.Dcp
