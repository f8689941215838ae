/- What Parse gives, on plain lists: each node has what one of its kind has, each call as many arguments as it takes; at most two nodes a byte, and one (no program). -/
import Derived.Test.YtpphkaolonjjdaaDoorDcpJ
namespace Go.Proofs.YtpphkaolonjjdaaDoor.Dps
open Go.Proofs.YtpphkaolonjjdaaDoor.Spl Go.Proofs.YtpphkaolonjjdaaDoor.Nz Go.Proofs.YtpphkaolonjjdaaDoor.Fpl Go.Proofs.YtpphkaolonjjdaaDoor.Cpl Go.Proofs.YtpphkaolonjjdaaDoor.Cmc Go.Proofs.YtpphkaolonjjdaaDoor.Dpl Go.Proofs.YtpphkaolonjjdaaDoor.Dcp

def gd (N : Nat) (n : Nod) : Prop := frmZ (toZ n) = true ∧ fitZ (toZ n) = true ∧ siz (toZ n) ≤ N
def gds (N : Nat) (l : List Nod) : Prop := frmsZ (toZs l) = true ∧ fitsZ (toZs l) = true ∧ sizs (toZs l) ≤ N
theorem gds_nil : gds 0 [] := ⟨rfl, rfl, Nat.le_refl _⟩
theorem gds_cons {N M : Nat} {n : Nod} {l : List Nod} (h : gd N n) (g : gds M l) : gds (N + M) (n :: l) := by
  refine ⟨?_, ?_, ?_⟩
  · rw [toZs, frmsZ, h.1, g.1]; rfl
  · rw [toZs, fitsZ, h.2.1, g.2.1]; rfl
  · rw [toZs, sizs]; have := h.2.2; have := g.2.2; omega
theorem gds_head {N : Nat} {n : Nod} {l : List Nod} (h : gds N (n :: l)) : frmZ (toZ n) = true ∧ fitZ (toZ n) = true ∧ ∃ M, gds M l ∧ siz (toZ n) + M ≤ N := by
  obtain ⟨h1, h2, h3⟩ := h
  rw [toZs, frmsZ, Bool.and_eq_true] at h1
  rw [toZs, fitsZ, Bool.and_eq_true] at h2
  rw [toZs, sizs] at h3
  exact ⟨h1.1, h2.1, _, ⟨h1.2, h2.2, Nat.le_refl _⟩, h3⟩
theorem gds_app : ∀ {N M : Nat} {l r : List Nod}, gds N l → gds M r → gds (N + M) (l ++ r)
  | N, M, [], r, _, g => ⟨g.1, g.2.1, by have := g.2.2; show sizs (toZs r) ≤ _; omega⟩
  | N, M, n :: l, r, h, g => by
    obtain ⟨h1, h2, K, h3, h4⟩ := gds_head h
    have h5 := gds_cons ⟨h1, h2, Nat.le_refl _⟩ (gds_app h3 g)
    exact ⟨h5.1, h5.2.1, by have := h5.2.2; show sizs (toZs (n :: (l ++ r))) ≤ _; omega⟩
theorem gds_le {N M : Nat} {l : List Nod} (h : gds N l) (hn : N ≤ M) : gds M l := ⟨h.1, h.2.1, Nat.le_trans h.2.2 hn⟩
theorem gd_le {N M : Nat} {n : Nod} (h : gd N n) (hn : N ≤ M) : gd M n := ⟨h.1, h.2.1, Nat.le_trans h.2.2 hn⟩
theorem gd_text (s : T) (hs : s.length ≤ 1000000) : gd 1 (.mk 1 s []) := by
  refine ⟨?_, by rfl, by show 1 + 0 ≤ 1; omega⟩
  show (formB 1 [] && (decide (s.length ≤ 1000000) && frmsZ [])) = true
  rw [decide_eq_true hs]; rfl
theorem gds_flush {N : Nat} {acc : List Nod} {cur : T} (h : gds N acc) (hc : cur.length ≤ 1000000) : gds (N + 2 * cur.length) (flushP acc cur) := by
  unfold flushP
  cases cur with
  | nil => exact gds_le h (by omega)
  | cons b r => exact gds_le (gds_app h (gds_cons (gd_text (b :: r) hc) gds_nil)) (by rw [List.length_cons]; omega)
theorem gd_whole {N : Nat} : ∀ {l : List Nod}, gds N l → gd (N + 1) (wholeP l)
  | [], h => ⟨rfl, rfl, by show 1 + 0 ≤ _; omega⟩
  | [n], h => by
    obtain ⟨h1, h2, K, h3, h4⟩ := gds_head h
    exact ⟨h1, h2, by show siz (toZ n) ≤ _; omega⟩
  | n :: n2 :: l, h => by
    refine ⟨?_, ?_, ?_⟩
    · show (formB 5 (toZs (n :: n2 :: l)) && (decide (([] : T).length ≤ 1000000) && frmsZ (toZs (n :: n2 :: l)))) = true
      rw [h.1]; rfl
    · show ((decide ((5 : Int) ≠ 4) || fitsB [] ((toZs (n :: n2 :: l)).length : Int) (lazyB [])) && fitsZ (toZs (n :: n2 :: l))) = true
      rw [h.2.1]; rfl
    · show 1 + sizs (toZs (n :: n2 :: l)) ≤ _
      have := h.2.2; omega

def sumL (L : List T) : Nat := (L.map List.length).sum
theorem sum_mem : ∀ {L : List T} {x : T}, x ∈ L → x.length ≤ sumL L
  | y :: r, x, h => by
    unfold sumL
    rw [List.map_cons, List.sum_cons]
    rcases List.mem_cons.1 h with e | h
    · rw [e]; omega
    · have := sum_mem h; unfold sumL at this; omega
theorem args_sum (o c : UInt8) : ∀ (s : T) (d : Nat) (m : Option Nat) (cur : T), sumL (argsP o c d m cur s) + (argsP o c d m cur s).length = cur.length + s.length + 1
  | [], d, m, cur => by rw [argsP]; unfold sumL; simp
  | b :: r, d, m, cur => by
    rw [argsP]
    split
    · rw [args_sum o c r]; simp only [List.length_append, List.length_cons, List.length_nil]; omega
    · split
      · rw [args_sum o c r]; simp only [List.length_append, List.length_cons, List.length_nil]; omega
      · split
        · have h := args_sum o c r 0 (m.map (· - 1)) []
          unfold sumL at h ⊢
          rw [List.map_cons, List.sum_cons, List.length_cons, List.length_cons]
          rw [List.length_nil] at h
          omega
        · rw [args_sum o c r]; simp only [List.length_append, List.length_cons, List.length_nil]; omega
theorem args_most (o c : UInt8) : ∀ (s : T) (d k : Nat) (cur : T), (argsP o c d (some k) cur s).length ≤ k + 1
  | [], d, k, cur => by rw [argsP]; show 1 ≤ k + 1; omega
  | b :: r, d, k, cur => by
    rw [argsP]
    split
    · exact args_most o c r _ _ _
    · split
      · exact args_most o c r _ _ _
      · split
        · rename_i h
          have h1 : k ≠ 0 := fun e => h.2.2 (by rw [e])
          have h2 := args_most o c r 0 (k - 1) []
          rw [List.length_cons]
          show (argsP o c 0 (some (k - 1)) [] r).length + 1 ≤ k + 1
          omega
        · exact args_most o c r _ _ _
theorem list_gd (p : T → Rd Nod) : ∀ (L : List T) (ns : List Nod), (∀ t ∈ L, ∀ n, p t = .ok n → gd (2 * t.length + 1) n) → listP p L = .ok ns → gds (2 * sumL L + L.length) ns ∧ ns.length = L.length
  | [], ns, _, h => by
    rw [listP] at h
    cases h
    exact ⟨gds_nil, rfl⟩
  | s :: r, ns, hp, h => by
    rw [listP] at h
    cases e : p s with
    | bad x => rw [e] at h; cases h
    | ok n =>
      rw [e] at h
      cases e2 : listP p r with
      | bad x => rw [e2] at h; cases h
      | ok ns2 =>
        rw [e2] at h
        cases h
        obtain ⟨h1, h2⟩ := list_gd p r ns2 (fun t ht => hp t (List.mem_cons_of_mem _ ht)) e2
        refine ⟨gds_le (gds_cons (hp s (List.mem_cons_self ..) n e) h1) ?_, by rw [List.length_cons, List.length_cons, h2]⟩
        unfold sumL
        rw [List.map_cons, List.sum_cons, List.length_cons]
        omega
theorem look_mem : ∀ {l : List (T × Inf)} {x : T} {i : Inf}, lookI l x = some i → (x, i) ∈ l
  | (y, j) :: l, x, i, h => by
    rw [lookI] at h
    split at h
    · rename_i e
      cases h
      rw [e]; exact List.mem_cons_self ..
    · exact List.mem_cons_of_mem _ (look_mem h)
theorem tab_mx : tab.all (fun p => decide (0 ≤ p.2.mx)) = true := by kernel_rfl

theorem take_len (p : UInt8 → Bool) : ∀ l : T, (l.takeWhile p).length ≤ l.length ∧ (l.dropWhile p).length ≤ l.length
  | [] => ⟨Nat.le_refl _, Nat.le_refl _⟩
  | b :: r => by
    obtain ⟨h1, h2⟩ := take_len p r
    rw [List.takeWhile_cons, List.dropWhile_cons, List.length_cons]
    split
    · rw [List.length_cons]; exact ⟨by omega, by omega⟩
    · exact ⟨by simp, by rw [List.length_cons]; omega⟩
theorem name_is {s f r : T} {i : Inf} (h : nameP s = some (f, r, i)) : f.length ≤ s.length ∧ r.length ≤ s.length ∧ lookI tab f = some i := by
  obtain ⟨h1, h2⟩ := take_len letB s
  unfold nameP at h
  split at h
  · rename_i b r' i' e1 e2
    split at h
    · cases h
      rw [← e1]
      exact ⟨h1, h2, e2⟩
    · cases h
  · cases h
theorem colon_len : ∀ (s : T) (d : Nat) (cur a r : T), colonP d cur s = some (a, r) → a.length + r.length ≤ cur.length + s.length
  | [], d, cur, a, r, h => by rw [colonP] at h; cases h
  | b :: t, d, cur, a, r, h => by
    rw [colonP] at h
    rw [List.length_cons]
    split at h
    · have := colon_len t _ _ a r h; simp only [List.length_append, List.length_cons, List.length_nil] at this; omega
    · split at h
      · have := colon_len t _ _ a r h; simp only [List.length_append, List.length_cons, List.length_nil] at this; omega
      · split at h
        · cases h; omega
        · have := colon_len t _ _ a r h; simp only [List.length_append, List.length_cons, List.length_nil] at this; omega
theorem equal_len : ∀ (s : T) (d : Nat) (cur a r : T), equalP d cur s = some (a, r) → a.length + r.length ≤ cur.length + s.length
  | [], d, cur, a, r, h => by rw [equalP] at h; cases h
  | b :: t, d, cur, a, r, h => by
    rw [equalP] at h
    rw [List.length_cons]
    split at h
    · have := equal_len t _ _ a r h; simp only [List.length_append, List.length_cons, List.length_nil] at this; omega
    · split at h
      · have := equal_len t _ _ a r h; simp only [List.length_append, List.length_cons, List.length_nil] at this; omega
      · split at h
        · cases h; omega
        · have := equal_len t _ _ a r h; simp only [List.length_append, List.length_cons, List.length_nil] at this; omega
theorem cuts_len {s a b c : T} (h : cutsP s = some (a, b, c)) : a.length + b.length + c.length ≤ s.length := by
  unfold cutsP at h
  cases e : colonP 0 [] s with
  | none => rw [e] at h; cases h
  | some ar =>
    obtain ⟨a', r⟩ := ar
    rw [e] at h
    have h1 := colon_len s 0 [] a' r e
    dsimp only at h
    cases e2 : equalP 0 [] r with
    | none => rw [e2] at h; cases h
    | some bc =>
      obtain ⟨b', c'⟩ := bc
      rw [e2] at h
      have h2 := equal_len r 0 [] b' c' e2
      cases h
      rw [List.length_nil] at h1 h2
      omega
theorem gd_mk {k : Nat} {f : T} {N : Nat} {ns : List Nod} (h : gds N ns) (hf : f.length ≤ 1000000) (hk : formB (k : Int) (toZs ns) = true) (ht : (decide ((k : Int) ≠ 4) || fitsB f (ns.length : Int) (lazyB f)) = true) : gd (1 + N) (.mk k f ns) := by
  refine ⟨?_, ?_, ?_⟩
  · show (formB (k : Int) (toZs ns) && (decide (f.length ≤ 1000000) && frmsZ (toZs ns))) = true
    rw [hk, decide_eq_true hf, h.1]; rfl
  · show ((decide ((k : Int) ≠ 4) || fitsB f ((toZs ns).length : Int) (lazyB f)) && fitsZ (toZs ns)) = true
    rw [toZs_len, ht, h.2.1]; rfl
  · show 1 + sizs (toZs ns) ≤ _
    have := h.2.2; omega
theorem ref_gd (p : T → Rd Nod) (M : Nat) (hM : M ≤ 1000000) (hp : ∀ t, t.length ≤ M → ∀ n, p t = .ok n → gd (2 * t.length + 1) n) (o : UInt8) (s : T) (hs : s.length ≤ M) (n : Nod) (h : refP p o s = .ok n) : gd (2 * s.length + 6) n := by
  unfold refP at h
  cases e : nameP s with
  | some fri =>
    obtain ⟨f, r, i⟩ := fri
    rw [e] at h
    dsimp only at h
    obtain ⟨h1, h2, h3⟩ := name_is e
    obtain ⟨L, hL⟩ : ∃ L, L = argsP o (shutOf o) 0 (if i.mx = 0 then none else some (i.mx.toNat - 1)) [] (Pure.left r) := ⟨_, rfl⟩
    rw [← hL] at h
    have hsum : sumL L + L.length = (Pure.left r).length + 1 := by rw [hL, args_sum]; rw [List.length_nil]; omega
    have hlf : (Pure.left r).length ≤ r.length := (take_len Pure.isBl r).2
    split at h
    · cases h
    · rename_i hmn
      cases e2 : listP p L with
      | bad x => rw [e2] at h; cases h
      | ok ns =>
        rw [e2] at h
        cases h
        have hL1 : 1 ≤ L.length := by
          cases L with
          | nil => unfold sumL at hsum; simp at hsum
          | cons _ _ => rw [List.length_cons]; omega
        obtain ⟨h4, h5⟩ := list_gd p L ns (fun t ht n hn => hp t (by have := sum_mem ht; omega) n hn) e2
        refine gd_le (gd_mk (k := 4) h4 (by omega) rfl ?_) (by omega)
        have hz : lazyB f = i.lz := by unfold lazyB; rw [h3]
        have hmx := List.all_eq_true.1 tab_mx _ (look_mem h3)
        have hmx := of_decide_eq_true hmx
        dsimp only at hmx
        rw [hz, h5]
        have hfit : fitsB f (L.length : Int) i.lz = true := by
          unfold fitsB
          rw [h3]
          show fitI i (L.length : Int) i.lz = true
          unfold fitI
          rw [beq_self_eq_true, decide_eq_true (show i.mn ≤ (L.length : Int) by omega)]
          by_cases h0 : i.mx = 0
          · rw [decide_eq_true h0]; rfl
          · have h6 : L.length ≤ i.mx.toNat - 1 + 1 := by rw [hL, if_neg h0]; exact args_most ..
            rw [decide_eq_true (show (L.length : Int) ≤ i.mx by omega), Bool.or_true]; rfl
        rw [hfit, Bool.or_true]
  | none =>
    rw [e] at h
    dsimp only at h
    cases e2 : cutsP s with
    | some abc =>
      obtain ⟨a, b, c⟩ := abc
      rw [e2] at h
      dsimp only at h
      have hc := cuts_len e2
      cases e3 : listP p [a, b, c] with
      | bad x => rw [e3] at h; cases h
      | ok ns =>
        rw [e3] at h
        cases h
        have hs3 : sumL [a, b, c] = a.length + b.length + c.length := by unfold sumL; simp; omega
        obtain ⟨h4, h5⟩ := list_gd p [a, b, c] ns (fun t ht n hn => hp t (by have := sum_mem ht; omega) n hn) e3
        have hl3 : ([a, b, c] : List T).length = 3 := rfl
        refine gd_le (gd_mk (k := 3) h4 (Nat.zero_le _) ?_ rfl) (by omega)
        show decide ((toZs ns).length = 3) = true
        rw [toZs_len, h5]; rfl
    | none =>
      rw [e2] at h
      dsimp only at h
      cases e3 : listP p [s] with
      | bad x => rw [e3] at h; cases h
      | ok ns =>
        rw [e3] at h
        cases h
        have hs1 : sumL [s] = s.length := by unfold sumL; simp
        obtain ⟨h4, h5⟩ := list_gd p [s] ns (fun t ht n hn => hp t (by have := sum_mem ht; omega) n hn) e3
        have hl1 : ([s] : List T).length = 1 := rfl
        refine gd_le (gd_mk (k := 2) h4 (Nat.zero_le _) ?_ rfl) (by omega)
        show decide ((toZs ns).length = 1) = true
        rw [toZs_len, h5]; rfl
theorem ends_lt2 (o c : UInt8) : ∀ (s : T) (d e : Nat), endsP o c d s = some e → e < s.length
  | [], d, e, h => by rw [endsP] at h; cases h
  | b :: r, d, e, h => by
    rw [endsP] at h
    rw [List.length_cons]
    have hm : ∀ d', (endsP o c d' r).map (· + 1) = some e → e < r.length + 1 := fun d' h => by
      obtain ⟨x, hx, rfl⟩ := Option.map_eq_some_iff.1 h
      have := ends_lt2 o c r d' x hx
      omega
    split at h
    · exact hm _ h
    · split at h
      · split at h
        · cases h; omega
        · exact hm _ h
      · exact hm _ h
theorem scan_gd (p : UInt8 → T → Rd Nod) (M : Nat) (hM : M ≤ 1000000) (hp : ∀ c t, t.length ≤ M → ∀ n, p c t = .ok n → gd (2 * t.length + 6) n) : ∀ (k : Nat) (acc : List Nod) (cur s : T) (N : Nat) (ns : List Nod), gds N acc → cur.length + s.length ≤ M → scanP p k acc cur s = .ok ns → gds (N + 2 * (cur.length + s.length)) ns
  | 0, acc, cur, s, N, ns, ha, hl, h => by
    rw [scanP] at h
    cases h
    exact gds_le (gds_flush ha (by omega)) (by omega)
  | k + 1, acc, cur, [], N, ns, ha, hl, h => by
    rw [scanP] at h
    cases h
    exact gds_le (gds_flush ha (by omega)) (by omega)
  | k + 1, acc, cur, b :: r, N, ns, ha, hl, h => by
    rw [scanP.eq_def] at h
    dsimp only at h
    rw [List.length_cons] at hl ⊢
    split at h
    · cases r with
      | nil =>
        dsimp only at h
        cases h
        have h1 : (cur ++ [36]).length = cur.length + 1 := by simp
        exact gds_le (gds_flush ha (by omega)) (by rw [h1, List.length_nil]; omega)
      | cons c r2 =>
        dsimp only at h
        rw [List.length_cons] at hl ⊢
        split at h
        · have h1 : (cur ++ [36]).length = cur.length + 1 := by simp
          exact gds_le (scan_gd p M hM hp k acc (cur ++ [36]) r2 N ns ha (by omega) h) (by omega)
        · split at h
          · cases e : endsP c (shutOf c) 1 r2 with
            | none => rw [e] at h; cases h
            | some x =>
              rw [e] at h
              dsimp only at h
              have hx := ends_lt2 c (shutOf c) r2 1 x e
              cases e2 : p c (r2.take x) with
              | bad y => rw [e2] at h; cases h
              | ok m =>
                rw [e2] at h
                dsimp only at h
                have ht : (r2.take x).length = x := by rw [List.length_take]; omega
                have hg := hp c (r2.take x) (by omega) m e2
                rw [ht] at hg
                have hd : (r2.drop (x + 1)).length = r2.length - (x + 1) := List.length_drop ..
                have hg2 := gds_app (gds_flush ha (show cur.length ≤ 1000000 by omega)) (gds_cons hg gds_nil)
                have h3 := scan_gd p M hM hp k _ [] (r2.drop (x + 1)) _ ns hg2 (by rw [List.length_nil]; omega) h
                rw [List.length_nil, hd] at h3
                exact gds_le h3 (by omega)
          · have hx : gd 2 (.mk 2 [] [.mk 1 [c] []]) := gd_mk (k := 2) (gds_cons (gd_text [c] (by show 1 ≤ 1000000; omega)) gds_nil) (Nat.zero_le _) rfl rfl
            have hg2 := gds_app (gds_flush ha (show cur.length ≤ 1000000 by omega)) (gds_cons hx gds_nil)
            have h3 := scan_gd p M hM hp k _ [] r2 _ ns hg2 (by rw [List.length_nil]; omega) h
            rw [List.length_nil] at h3
            exact gds_le h3 (by omega)
    · have h1 : (cur ++ [b]).length = cur.length + 1 := by simp
      exact gds_le (scan_gd p M hM hp k acc (cur ++ [b]) r N ns ha (by omega) h) (by omega)
theorem parseP_gd : ∀ (m : Nat) (s : T), s.length ≤ 1000000 → ∀ n, parseP m s = .ok n → gd (2 * s.length + 1) n
  | 0, s, hs, n, h => by
    rw [parseP] at h
    cases e : scanP (fun _ _ => .bad .deep) (s.length + 1) [] [] s with
    | bad x => rw [e] at h; cases h
    | ok ns =>
      rw [e] at h
      cases h
      have h1 := scan_gd (fun _ _ => .bad .deep) 1000000 (Nat.le_refl _) (fun c t _ n hn => by cases hn) _ [] [] s 0 ns gds_nil (by rw [List.length_nil]; omega) e
      rw [List.length_nil] at h1
      exact gd_le (gd_whole h1) (by omega)
  | m + 1, s, hs, n, h => by
    rw [parseP] at h
    cases e : scanP (refP (parseP m)) (s.length + 1) [] [] s with
    | bad x => rw [e] at h; cases h
    | ok ns =>
      rw [e] at h
      cases h
      have h1 := scan_gd (refP (parseP m)) 1000000 (Nat.le_refl _) (fun c t ht n hn => ref_gd (parseP m) 1000000 (Nat.le_refl _) (fun t ht n hn => parseP_gd m t ht n hn) c t ht n hn) _ [] [] s 0 ns gds_nil (by rw [List.length_nil]; omega) e
      rw [List.length_nil] at h1
      exact gd_le (gd_whole h1) (by omega)
/-- what Parse gives -/
theorem parse_gd (s : T) (hs : s.length ≤ 1000000) (n : Nod) (h : parse s = .ok n) : frmZ (toZ n) = true ∧ fitZ (toZ n) = true ∧ siz (toZ n) ≤ 2 * s.length + 1 := parseP_gd 40 s hs n h

end Go.Proofs.YtpphkaolonjjdaaDoor.Dps
