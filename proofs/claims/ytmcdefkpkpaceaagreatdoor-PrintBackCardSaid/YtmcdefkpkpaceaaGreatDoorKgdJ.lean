/- Texts in which each dollar stands ahead of a dollar or a round bracket: what is read of them is not too deep; what is written is such a text (no program). -/
import Derived.Test.YtmcdefkpkpaceaaGreatDoorKplJ
import Derived.StillTailTactics
import Derived.Deep.RegionHeld3
import Derived.Laws.Concat
import Derived.Test.YtmcdefkpkpaceaaGreatDoorNzJ
import Derived.Test.YtmcdefkpkpaceaaGreatDoorNodJ
import Derived.Test.YtmcdefkpkpaceaaGreatDoorQsameJ
namespace Go.Proofs.YtmcdefkpkpaceaaGreatDoor.Kgd
open Go.Proofs.YtmcdefkpkpaceaaGreatDoor.Spl Go.Proofs.YtmcdefkpkpaceaaGreatDoor.Nz Go.Proofs.YtmcdefkpkpaceaaGreatDoor.Qtp Go.Proofs.YtmcdefkpkpaceaaGreatDoor.Qparse Go.Proofs.YtmcdefkpkpaceaaGreatDoor.Kpl

def good : T → Bool
  | [] => true
  | b :: r => if b = 36 then (match r with
    | [] => false
    | c :: r2 => (decide (c = 36) || decide (c = 40)) && good r2) else good r
theorem good_cons {b : UInt8} (h : b ≠ 36) (r : T) : good (b :: r) = good r := by
  rw [good.eq_def]; simp [h]
theorem good_two (c : UInt8) (r : T) : good (36 :: c :: r) = ((decide (c = 36) || decide (c = 40)) && good r) := by
  rw [good.eq_def]; simp
theorem good_one : good [36] = false := by rw [good.eq_def]; simp
theorem good_app : ∀ (n : Nat) (a b : T), a.length ≤ n → good a = true → good b = true → good (a ++ b) = true
  | _, [], b, _, _, hb => hb
  | 0, _ :: _, _, h, _, _ => by simp at h
  | n + 1, x :: r, b, h, ha, hb => by
    rw [List.length_cons] at h
    by_cases hx : x = 36
    · subst hx
      match r, h, ha with
      | [], _, ha => rw [good_one] at ha; cases ha
      | c :: r2, h, ha =>
        rw [List.length_cons] at h
        rw [good_two, Bool.and_eq_true] at ha
        rw [List.cons_append, List.cons_append, good_two, ha.1, good_app n r2 b (by omega) ha.2 hb]; rfl
    · rw [good_cons hx] at ha
      rw [List.cons_append, good_cons hx]
      exact good_app n r b (by omega) ha hb
theorem good_add {a b : T} (ha : good a = true) (hb : good b = true) : good (a ++ b) = true := good_app a.length a b (Nat.le_refl _) ha hb
theorem good_split : ∀ (n : Nat) (a : T) (c : UInt8) (b : T), a.length ≤ n → c ≠ 36 → c ≠ 40 → good (a ++ c :: b) = true → good a = true ∧ good b = true
  | _, [], c, b, _, h1, _, h => by
    rw [List.nil_append, good_cons h1] at h
    exact ⟨rfl, h⟩
  | 0, _ :: _, _, _, h, _, _, _ => by simp at h
  | n + 1, x :: r, c, b, hn, h1, h2, h => by
    rw [List.length_cons] at hn
    by_cases hx : x = 36
    · subst hx
      match r, hn, h with
      | [], _, h =>
        rw [List.cons_append, List.nil_append, good_two, Bool.and_eq_true, Bool.or_eq_true, decide_eq_true_eq, decide_eq_true_eq] at h
        rcases h.1 with h | h
        · exact absurd h h1
        · exact absurd h h2
      | d :: r2, hn, h =>
        rw [List.length_cons] at hn
        rw [List.cons_append, List.cons_append, good_two, Bool.and_eq_true] at h
        obtain ⟨h3, h4⟩ := good_split n r2 c b (by omega) h1 h2 h.2
        exact ⟨by rw [good_two, h.1, h3]; rfl, h4⟩
    · rw [List.cons_append, good_cons hx] at h
      rw [good_cons hx]
      exact good_split n r c b (by omega) h1 h2 h
theorem good_cut {a : T} {c : UInt8} {b : T} (h1 : c ≠ 36) (h2 : c ≠ 40) (h : good (a ++ c :: b) = true) : good a = true ∧ good b = true := good_split a.length a c b (Nat.le_refl _) h1 h2 h
theorem good_left : ∀ (s : T), good s = true → good (Pure.left s) = true
  | [], h => h
  | b :: r, h => by
    unfold Pure.left
    rw [List.dropWhile_cons]
    split
    · rename_i hb
      have : b ≠ 36 := fun e => by rw [e] at hb; exact absurd hb (by decide)
      rw [good_cons this] at h
      exact good_left r h
    · exact h
theorem args_good (o c : UInt8) : ∀ (s : T) (d : Nat) (m : Option Nat) (cur : T), good (cur ++ s) = true → ∀ t ∈ argsP o c d m cur s, good t = true
  | [], d, m, cur, h, t, ht => by
    rw [argsP, List.mem_singleton] at ht
    rw [ht, ← List.append_nil cur]; exact h
  | b :: r, d, m, cur, h, t, ht => by
    have hs : good ((cur ++ [b]) ++ r) = true := by rw [List.append_assoc]; exact h
    rw [argsP] at ht
    split at ht
    · exact args_good o c r _ _ _ hs t ht
    · split at ht
      · exact args_good o c r _ _ _ hs t ht
      · split at ht
        · rename_i hb
          rw [hb.1] at h
          obtain ⟨h1, h2⟩ := good_cut (by decide) (by decide) h
          rcases List.mem_cons.1 ht with rfl | ht
          · exact h1
          · exact args_good o c r _ _ [] h2 t ht
        · exact args_good o c r _ _ _ hs t ht
theorem ends_at (o c : UInt8) : ∀ (s : T) (d e : Nat), endsP o c d s = some e → s[e]? = some c
  | [], d, e, h => by rw [endsP] at h; cases h
  | b :: r, d, e, h => by
    rw [endsP] at h
    have go : ∀ d, (endsP o c d r).map (· + 1) = some e → (b :: r)[e]? = some c := fun d h => by
      cases he : endsP o c d r with
      | none => rw [he] at h; cases h
      | some q =>
        rw [he] at h
        cases h
        rw [List.getElem?_cons_succ]
        exact ends_at o c r d q he
    split at h
    · exact go _ h
    · split at h
      · rename_i hb
        split at h
        · cases h
          rw [hb]; rfl
        · exact go _ h
      · exact go _ h
theorem take_drop_at {s : T} {e : Nat} {c : UInt8} (h : s[e]? = some c) : s = s.take e ++ c :: s.drop (e + 1) := by
  obtain ⟨hl, hc⟩ := List.getElem?_eq_some_iff.1 h
  rw [← hc, ← List.drop_eq_getElem_cons hl, List.take_append_drop]

/-! ### how deep what is read can be -/
theorem flush_lev {L : Nat} (hL : 1 ≤ L) {acc : List Nod} {cur : T} (h : ∀ a ∈ acc, levZ (toZ a) ≤ L) : ∀ a ∈ flushP acc cur, levZ (toZ a) ≤ L := by
  unfold flushP
  split
  · exact h
  · intro a ha
    rcases List.mem_append.1 ha with ha | ha
    · exact h a ha
    · rw [List.mem_singleton] at ha
      rw [ha, toZ, toZs, levZ, levsZ]; exact hL
theorem scan_lev (p : UInt8 → T → Rd Nod) (L : Nat) (hL : 1 ≤ L) (hp : ∀ o t m, good t = true → p o t = .ok m → levZ (toZ m) ≤ L) : ∀ (n : Nat) (acc : List Nod) (cur s : T) (l : List Nod), good s = true → (∀ a ∈ acc, levZ (toZ a) ≤ L) → scanP p n acc cur s = .ok l → ∀ a ∈ l, levZ (toZ a) ≤ L
  | 0, acc, cur, s, l, _, ha, h => by
    rw [scanP] at h
    cases h
    exact flush_lev hL ha
  | n + 1, acc, cur, [], l, _, ha, h => by
    rw [scanP] at h
    cases h
    exact flush_lev hL ha
  | n + 1, acc, cur, b :: r, l, hg, ha, h => by
    rw [scanP.eq_def] at h
    dsimp only at h
    split at h
    · rename_i hb
      subst hb
      split at h
      · rw [good_one] at hg; cases hg
      · rename_i c r2
        rw [good_two, Bool.and_eq_true, Bool.or_eq_true, decide_eq_true_eq, decide_eq_true_eq] at hg
        split at h
        · exact scan_lev p L hL hp n _ _ _ _ hg.2 ha h
        · rename_i h36
          have h40 : c = 40 := hg.1.resolve_left h36
          subst h40
          rw [if_pos (.inl rfl)] at h
          split at h
          · cases h
          · rename_i e he
            have hs : good (r2.take e ++ shutOf 40 :: r2.drop (e + 1)) = true := by rw [← take_drop_at (ends_at _ _ _ _ _ he)]; exact hg.2
            obtain ⟨g1, g2⟩ := good_cut (by decide) (by decide) hs
            split at h
            · cases h
            · rename_i m hm
              refine scan_lev p L hL hp n _ _ _ _ g2 ?_ h
              intro a ha2
              rcases List.mem_append.1 ha2 with ha2 | ha2
              · exact flush_lev hL ha a ha2
              · rw [List.mem_singleton] at ha2
                rw [ha2]
                exact hp _ _ _ g1 hm
    · rename_i hb
      rw [good_cons hb] at hg
      exact scan_lev p L hL hp n _ _ _ _ hg ha h
/-- with no reference left there is one Text -/
theorem scan_flat : ∀ (n : Nat) (cur s : T) (l : List Nod), good s = true → scanP (fun _ _ => .bad .deep) n [] cur s = .ok l → ∃ c, l = flushP [] c
  | 0, cur, s, l, _, h => by
    rw [scanP] at h
    cases h
    exact ⟨_, rfl⟩
  | n + 1, cur, [], l, _, h => by
    rw [scanP] at h
    cases h
    exact ⟨_, rfl⟩
  | n + 1, cur, b :: r, l, hg, h => by
    rw [scanP.eq_def] at h
    dsimp only at h
    split at h
    · rename_i hb
      subst hb
      split at h
      · rw [good_one] at hg; cases hg
      · rename_i c r2
        rw [good_two, Bool.and_eq_true, Bool.or_eq_true, decide_eq_true_eq, decide_eq_true_eq] at hg
        split at h
        · exact scan_flat n _ _ _ hg.2 h
        · rename_i h36
          have h40 : c = 40 := hg.1.resolve_left h36
          subst h40
          rw [if_pos (.inl rfl)] at h
          split at h
          · cases h
          · cases h
    · rename_i hb
      rw [good_cons hb] at hg
      exact scan_flat n _ _ _ hg h
theorem whole_lev {L : Nat} {l : List Nod} (h : ∀ a ∈ l, levZ (toZ a) ≤ L) (hL : 1 ≤ L) : levZ (toZ (wholeP l)) ≤ L + 1 := by
  match l, h with
  | [], _ => show levZ (toZ (.mk 1 [] [])) ≤ _; rw [toZ, toZs, levZ, levsZ]; omega
  | [n], h => exact Nat.le_succ_of_le (h n (List.mem_singleton_self _))
  | a :: b :: r, h =>
    show levZ (toZ (.mk 5 [] (a :: b :: r))) ≤ _
    rw [toZ, levZ]
    refine Nat.succ_le_succ (levs_of fun x hx => ?_)
    obtain ⟨j, hj⟩ := List.getElem?_of_mem hx
    rw [toZs_at] at hj
    cases hn : (a :: b :: r)[j]? with
    | none => rw [hn] at hj; cases hj
    | some m =>
      rw [hn] at hj
      cases hj
      exact h m (List.mem_of_getElem? hn)
theorem list_lev (p : T → Rd Nod) (L : Nat) (hp : ∀ t m, good t = true → p t = .ok m → levZ (toZ m) ≤ L) : ∀ (ts : List T) (l : List Nod), (∀ t ∈ ts, good t = true) → listP p ts = .ok l → levsZ (toZs l) ≤ L
  | [], l, _, h => by rw [listP] at h; cases h; rw [toZs, levsZ]; exact Nat.zero_le _
  | t :: r, l, hg, h => by
    rw [listP] at h
    split at h
    · cases h
    · rename_i n hn
      cases hr : listP p r with
      | bad e => rw [hr] at h; cases h
      | ok m =>
        rw [hr] at h
        cases h
        have h1 := hp _ _ (hg t (List.mem_cons_self ..)) hn
        have h2 := list_lev p L hp r m (fun t ht => hg t (List.mem_cons_of_mem _ ht)) hr
        rw [toZs, levsZ]; omega
theorem ref_lev (p : T → Rd Nod) (L : Nat) (hp : ∀ t m, good t = true → p t = .ok m → levZ (toZ m) ≤ L) (o : UInt8) (t : T) (n : Nod) (hg : good t = true) (h : refP p o t = .ok n) : levZ (toZ n) ≤ L + 1 := by
  have hm : ∀ (j : Nat) (f : T) (ts : List T), (∀ t ∈ ts, good t = true) → (listP p ts).map (Nod.mk j f) = .ok n → levZ (toZ n) ≤ L + 1 := by
    intro j f ts hts e
    cases hx : listP p ts with
    | bad e1 => rw [hx] at e; cases e
    | ok l =>
      rw [hx] at e
      cases e
      have := list_lev p L hp ts l hts hx
      rw [toZ, levZ]; omega
  unfold refP at h
  split at h
  · rename_i f r i hn
    obtain ⟨hsp, _⟩ := Qref.name_parts hn
    dsimp only at h
    obtain ⟨b, r', rfl, hbl⟩ : ∃ b r', r = b :: r' ∧ Pure.isBl b = true := by
      unfold nameP at hn
      split at hn
      · split at hn
        · rename_i hb
          simp only [Option.some.injEq, Prod.mk.injEq] at hn
          obtain ⟨_, rfl, _⟩ := hn
          exact ⟨_, _, rfl, hb⟩
        · cases hn
      · cases hn
    have hb36 : b ≠ 36 := fun e => by rw [e] at hbl; exact absurd hbl (by decide)
    have hb40 : b ≠ 40 := fun e => by rw [e] at hbl; exact absurd hbl (by decide)
    rw [hsp] at hg
    have g2 := (good_cut hb36 hb40 hg).2
    have g3 : good (Pure.left (b :: r')) = true := good_left _ (by rw [good_cons hb36]; exact g2)
    have g4 := args_good o (shutOf o) (Pure.left (b :: r')) 0 (if i.mx = 0 then none else some (i.mx.toNat - 1)) [] g3
    generalize argsP _ _ _ _ _ _ = l at h g4
    split at h
    · cases h
    · exact hm _ _ _ g4 h
  · split at h
    · rename_i a b c hk
      have hsp := Qcuts.cuts_split hk
      rw [hsp] at hg
      obtain ⟨g1, g2⟩ := good_cut (by decide) (by decide) hg
      obtain ⟨g3, g4⟩ := good_cut (by decide) (by decide) g2
      refine hm _ _ _ ?_ h
      intro t ht
      simp only [List.mem_cons, List.not_mem_nil, or_false] at ht
      rcases ht with rfl | rfl | rfl
      · exact g1
      · exact g3
      · exact g4
    · refine hm _ _ _ ?_ h
      intro t ht
      rw [List.mem_singleton] at ht
      rw [ht]; exact hg
theorem parseP_lev : ∀ (m : Nat) (s : T) (n : Nod), good s = true → parseP m s = .ok n → levZ (toZ n) ≤ 2 * m + 1
  | 0, s, n, hg, h => by
    rw [parseP] at h
    cases hx : scanP (fun _ _ => .bad .deep) (s.length + 1) [] [] s with
    | bad e => rw [hx] at h; cases h
    | ok l =>
      rw [hx] at h
      cases h
      obtain ⟨c, rfl⟩ := scan_flat _ _ _ _ hg hx
      unfold flushP
      split
      · show levZ (toZ (.mk 1 [] [])) ≤ _; rw [toZ, toZs, levZ, levsZ]; omega
      · show levZ (toZ (.mk 1 c [])) ≤ _; rw [toZ, toZs, levZ, levsZ]; omega
  | m + 1, s, n, hg, h => by
    rw [parseP] at h
    cases hx : scanP (refP (parseP m)) (s.length + 1) [] [] s with
    | bad e => rw [hx] at h; cases h
    | ok l =>
      rw [hx] at h
      cases h
      have h1 := scan_lev _ (2 * m + 2) (by omega) (fun o t n hg h => ref_lev (parseP m) (2 * m + 1) (fun t n hg h => parseP_lev m t n hg h) o t n hg h) _ _ _ _ _ hg (fun a ha => by cases ha) hx
      have h2 := whole_lev h1 (by omega)
      omega

/-! ### what is written is such a text -/
mutual
/-- no call's name holds a dollar -/
def nmZ : Nz → Bool
  | .mk k s l => (decide (k ≠ 4) || !s.contains 36) && nmZs l
def nmZs : List Nz → Bool
  | [] => true
  | n :: r => nmZ n && nmZs r
end
theorem nms_at : ∀ {l : List Nz} {x : Nz}, nmZs l = true → x ∈ l → nmZ x = true
  | [], _, _, h => by cases h
  | n :: r, x, h, hx => by
    rw [nmZs, Bool.and_eq_true] at h
    rcases List.mem_cons.1 hx with rfl | hx
    · exact h.1
    · exact nms_at h.2 hx
theorem nms_of : ∀ {l : List Nz}, (∀ x ∈ l, nmZ x = true) → nmZs l = true
  | [], _ => by rw [nmZs]
  | n :: r, h => by rw [nmZs, h n (List.mem_cons_self ..), nms_of fun x hx => h x (List.mem_cons_of_mem _ hx)]; rfl
theorem good_twice (a : T) : good (Spf.twice a) = true := by
  induction a with
  | nil => rfl
  | cons b r ih =>
    rw [Spf.twice_cons]
    split
    · show good (36 :: 36 :: Spf.twice r) = true
      rw [good_two, ih]; rfl
    · rename_i h
      show good (b :: Spf.twice r) = true
      rw [good_cons (by intro e; exact h (by simp [e]))]
      exact ih
theorem good_no : ∀ {s : T}, s.contains 36 = false → good s = true
  | [], _ => rfl
  | b :: r, h => by
    rw [List.contains_cons, Bool.or_eq_false_iff] at h
    have hb : b ≠ 36 := fun e => by rw [e] at h; exact absurd h.1 (by decide)
    rw [good_cons hb]
    exact good_no h.2
theorem good_join (b : T) (hb : good b = true) : ∀ (l : List Nz), (∀ x ∈ l, good (textZ x) = true) → good (joinL b (textsZ l)) = true
  | [], _ => by rw [textsZ]; rfl
  | n :: r, h => by
    have hr : ∀ (r : List Nz), (∀ x ∈ r, good (textZ x) = true) → good ((textsZ r).map (b ++ ·)).flatten = true := by
      intro r
      induction r with
      | nil => intro _; rw [textsZ]; rfl
      | cons m r ih =>
        intro h
        rw [textsZ, List.map_cons, List.flatten_cons]
        exact good_add (good_add hb (h m (List.mem_cons_self ..))) (ih fun x hx => h x (List.mem_cons_of_mem _ hx))
    rw [textsZ, joinL_cons]
    exact good_add (h n (List.mem_cons_self ..)) (hr r fun x hx => h x (List.mem_cons_of_mem _ hx))
theorem good_open : good [36, 40] = true := by decide
theorem good_shut : good [41] = true := by decide
theorem text_good : ∀ (N : Nat) (x : Nz), siz x ≤ N → okZ x = true → nmZ x = true → good (textZ x) = true
  | 0, x, h, _, _ => by have := siz_pos x; omega
  | N + 1, .mk k s l, h, ho, hm => by
    rw [siz] at h
    rw [ok_mk, Bool.and_eq_true] at ho
    rw [nmZ, Bool.and_eq_true] at hm
    have hl : ∀ x ∈ l, good (textZ x) = true := fun x hx => text_good N x (by have := sizs_le hx; omega) (oks_at ho.2 hx) (nms_at hm.2 hx)
    have j0 := good_join [] rfl l hl
    have j1 := good_join [44] (by decide) l hl
    rw [textZ]
    rcases shape_cases ho.1 with ⟨rfl, rfl⟩ | ⟨rfl, rfl, x, rfl⟩ | ⟨rfl, rfl, x, y, z, rfl⟩ | ⟨rfl, x, r, rfl⟩ | ⟨rfl, rfl, h1, h2⟩
    · rw [if_pos rfl]; exact good_twice _
    · rw [if_neg (by decide), if_pos rfl]
      exact good_add (good_add good_open j0) good_shut
    · have hx := hl x (by simp)
      have hy := hl y (by simp)
      have hz := hl z (by simp)
      rw [if_neg (by decide), if_neg (by decide), if_pos rfl]
      simp only [textsZ]
      exact good_add (good_add (good_add (good_add (good_add (good_add good_open hx) (by decide)) hy) (by decide)) hz) good_shut
    · rw [if_neg (by decide), if_neg (by decide), if_neg (by decide), if_pos rfl]
      have hs : good s = true := good_no (by
        have := hm.1
        rw [Bool.or_eq_true, decide_eq_true_eq, Bool.not_eq_true'] at this
        exact this.resolve_left fun h => h rfl)
      exact good_add (good_add (good_add (good_add good_open hs) (by decide)) j1) good_shut
    · rw [if_neg (by decide), if_neg (by decide), if_neg (by decide), if_neg (by decide), if_pos rfl]
      exact j0

end Go.Proofs.YtmcdefkpkpaceaaGreatDoor.Kgd

/- The document's text and all: an expansion as it would be written. -/
namespace Go.Proofs.YtmcdefkpkpaceaaGreatDoor.Qtxt
open Go.RowKit Go.Proofs.YtmcdefkpkpaceaaGreatDoor.Spl Go.Proofs.YtmcdefkpkpaceaaGreatDoor.Nodm Go.Proofs.YtmcdefkpkpaceaaGreatDoor.Nz Go.Proofs.YtmcdefkpkpaceaaGreatDoor.Qwhole Go.Proofs.YtmcdefkpkpaceaaGreatDoor.Qtp
open Go.Proofs.YtmcdefkpkpaceaaGreatDoor.Pure (bs)
open Go.Proofs.YtmcdefkpkpaceaaGreatDoor.Qput (add_bs)

def TextTo (N : Nat) : Prop := ∀ (x : Nz) (S : Nat → Prop) (v : Value) (w : World), wt x ≤ N → NzIn S w v x → Calls Tryz.prog 18 #[v] w fun e W' => e = .returned (.string (bs (textZ x))) ∧ Below w.heap.size w W'

set_option maxRecDepth 100000 in
set_option maxHeartbeats 2000000 in
theorem all_is (N : Nat) (HI : TextTo N) (b : T) (hb : b.length ≤ 1) (S : Nat → Prop) (A : Option Addr) (c : Nat) (l : List Nz) (w : World) (hN : wts l ≤ N) (hN2 : N ≤ 68719476736) (h : NzsIn S w A c l) :
    Calls Tryz.prog 36 #[.slice A l.length c, .string (bs b)] w fun e W' => e = .returned (.string (bs (joinL b (textsZ l)))) ∧ Below w.heap.size w W' := by
  have HH := Lib.hid h
  have HN := Lib.hid hN
  have hlb := wts_len l
  have hql : l.length ≤ 68719476736 := by omega
  have HL := Lib.hid (fun j => joinL_len b hb (l.take j) fun x _ => text_len (wt x) x (Nat.le_refl _))
  have hc := h.1
  obtain ⟨q, hq⟩ : ∃ q, q = l.length := ⟨_, rfl⟩
  rw [← hq] at hc hql ⊢
  have HQ := Lib.hid hq
  clear h hN hlb hq
  go_enter Tryz.func36, Tryz.ntmps36
  go_wp2_with fail
  go_loopw [5, 6] (fun sv i wr => ∃ j : Nat, j ≤ q ∧ i = .int .i64 j ∧ sv = .string (bs (joinL b (textsZ (l.take j)))) ∧ Hid (Below w.heap.size w wr)) (fun _ i _ => q - (intOf i).toNat)
  case atStart => exact ⟨0, Nat.zero_le _, rfl, rfl, Below.refl _ _⟩
  case round =>
    obtain ⟨j, hj, rfl, rfl, HB⟩ := hrel
    have hjl := HL.out j
    have hjw := wts_take l j
    have hN := HN.out
    by_cases hlt : j < q
    · have hjq : (j : Int) < (q : Int) := by omega
      obtain ⟨n1, h1⟩ : ∃ n, l[j]? = some n := ⟨l[j]'(by rw [← HQ.out]; exact hlt), List.getElem?_eq_getElem _⟩
      have HT : Hid (textsZ (l.take (j + 1)) = textsZ (l.take j) ++ [textZ n1]) := by
        show _ = _
        rw [List.take_add_one, h1, texts_map, texts_map, List.map_append]; rfl
      have hne : textsZ (l.take j) = [] ↔ j = 0 := by
        rw [texts_map, List.map_eq_nil_iff, List.take_eq_nil_iff]
        constructor
        · rintro (h | h)
          · exact h
          · rw [h] at h1; cases h1
        · exact .inl
      have hw1 := wts_le (List.mem_of_getElem? h1)
      have htl := text_len (wt n1) n1 (Nat.le_refl _)
      obtain ⟨k1, s1, m1⟩ := n1
      obtain ⟨bb, o, A1, c1, rfl, hbl, _, hn1, hcell1⟩ := HH.out.at_ h1
      obtain ⟨e0, e1, e2⟩ := hcell1 wr (HB.out.block bb hbl)
      have HC := Lib.hid (HI (.mk k1 s1 m1) S _ wr (by omega) (hn1.on HB.out))
      have hws : w.heap.size ≤ wr.heap.size := HB.out.size
      obtain ⟨t, ht⟩ : ∃ t, t = textZ (.mk k1 s1 m1) := ⟨_, rfl⟩
      rw [← ht] at HC HT htl
      clear ht hcell1 hn1 h1 hbl
      by_cases h0 : j = 0
      · have hJ : joinL b (textsZ (l.take (j + 1))) = t := by
          rw [HT.out, joinL_snoc, if_pos (hne.2 h0)]
        have hJ0 : joinL b (textsZ (l.take j)) = [] := by rw [hne.2 h0]; rfl
        have HJ := Lib.hid hJ
        rw [hJ0]
        have a1 : ∀ W, (Op.stringOp .add (bs []) (bs t)).run Tryz.prog W = .ok (.string (bs t)) W := fun W => add_bs [] t W (by rw [List.length_nil]; omega)
        clear hne hJ hJ0 HT htl hw1 hjl hjw
        subst h0
        simp only [Nat.zero_mul, Nat.add_zero] at e0 e1 e2
        go_wp2_with (go_at_call 18; refine HC.out.mono ?_; rintro e W' ⟨rfl, hb3⟩; have HB3 := Lib.hid (HB.out.trans (hb3.mono hws)); clear hb3)
        go_roundw
        case rel => exact ⟨0 + 1, by omega, by go_num, by rw [HJ.out], HB3.out⟩
        case measure => simp [intOf]; omega
      · have hJ : joinL b (textsZ (l.take (j + 1))) = joinL b (textsZ (l.take j)) ++ b ++ t := by
          rw [HT.out, joinL_snoc, if_neg (fun e => h0 (hne.1 e))]
        have HJ := Lib.hid hJ
        have hj0 : (0 : Int) < (j : Int) := by omega
        clear hne hJ HT
        generalize joinL b (textsZ (l.take j)) = J at *
        have a1 : ∀ W, (Op.stringOp .add (bs J) (bs b)).run Tryz.prog W = .ok (.string (bs (J ++ b))) W := fun W => add_bs J b W (by omega)
        have a2 : ∀ W, (Op.stringOp .add (bs (J ++ b)) (bs t)).run Tryz.prog W = .ok (.string (bs (J ++ b ++ t))) W := fun W => add_bs _ t W (by rw [List.length_append]; omega)
        clear htl hw1 hjl hjw
        generalize J ++ b ++ t = J2 at *
        generalize J ++ b = J1 at *
        go_wp2_with (go_at_call 18; refine HC.out.mono ?_; rintro e W' ⟨rfl, hb3⟩; have HB3 := Lib.hid (HB.out.trans (hb3.mono hws)); clear hb3)
        go_roundw
        case rel => exact ⟨j + 1, by omega, by go_num, by rw [HJ.out], HB3.out⟩
        case measure => simp [intOf]; omega
    · obtain rfl : j = q := by omega
      have HE : Hid (l.take j = l) := List.take_of_length_le (Nat.le_of_eq HQ.out.symm)
      go_wp2_with fail
      go_ret
      exact ⟨by rw [← HE.out, HE.out]; exact congrArg (fun x => Ending.returned (Value.string (bs (joinL b (textsZ x))))) HE.out, HB.out⟩

/-- a node whose text is t -/
def Nt (N : Nat) (w : World) (v : Value) (t : T) : Prop := ∃ S x, NzIn S w v x ∧ wt x ≤ N ∧ textZ x = t
theorem one_byte (s : T) (k : Nat) (hk : k < s.length) : (bs s).extract k (k + 1) = bs [s[k]] := Pure.ext_data (by
  have h := Lib.extract_toList (bs s) k (k + 1)
  rw [Lib.toList_data] at h
  rw [h]
  show (s.drop k).take (k + 1 - k) = [s[k]]
  rw [List.drop_eq_getElem_cons hk, Nat.add_sub_cancel_left]
  rfl)
theorem twice_snoc (a : T) (x : UInt8) : Spf.twice (a ++ [x]) = Spf.twice a ++ (if x = 36 then [36, 36] else [x]) := by
  unfold Spf.twice
  rw [List.flatMap_append]
  simp
theorem u8_is (x : UInt8) (c : UInt8) : ((((x.toNat : Nat) : Int)) == ((c.toNat : Nat) : Int)) = decide (x = c) := by
  rw [Bool.eq_iff_iff, beq_iff_eq, decide_eq_true_iff, ← UInt8.toNat_inj]; omega

set_option maxRecDepth 100000 in
set_option maxHeartbeats 2000000 in
theorem text_step (N : Nat) (HI : TextTo N) (k : Int) (s : T) (l : List Nz) (S : Nat → Prop) (A : Option Addr) (c : Nat) (w : World) (hN : wts l ≤ N) (hs : s.length ≤ 68719476736) (hN2 : N ≤ 68719476736) (h : NzsIn S w A c l) :
    Calls Tryz.prog 18 #[.agg #[.int .i64 k, .string (bs s), .slice A l.length c]] w fun e W' => e = .returned (.string (bs (textZ (.mk k s l)))) ∧ Below w.heap.size w W' := by
  obtain ⟨w1, hw1⟩ : ∃ w1, w.alloc (.cells #[.int .i64 k, .string (bs s), .slice A l.length c] 25) = w1 := ⟨_, rfl⟩
  have hz1 : w1.heap.size = w.heap.size + 1 := by rw [← hw1, World.size_alloc]
  have hx1 : w1.heap[w.heap.size]? = some (.cells #[.int .i64 k, .string (bs s), .slice A l.length c] 25) := by rw [← hw1]; exact heap_alloc_new w _
  have hb1 : Below w.heap.size w w1 := by rw [← hw1]; exact (Below.refl _ _).alloc (Nat.le_refl _) _
  have HW1 := Lib.hid hw1
  have HB1 := Lib.hid hb1
  have HX1 := Lib.hid hx1
  obtain ⟨a0, a1, a2⟩ := cells_three hx1
  have hn1 : NzsIn S w1 A c l := h.on (by rw [← hw1]; exact (Below.refl _ _).alloc (Nat.le_refl _) _)
  have HA0 := Lib.hid (all_is N HI [] (by decide) S A c l w1 hN hN2 hn1)
  have HA1 := Lib.hid (fun W hW => all_is N HI [44] (by decide) S A c l W hN hN2 (hn1.on hW))
  have HH := Lib.hid hn1
  have j0 := joinL_len [] (by decide) l fun x _ => text_len (wt x) x (Nat.le_refl _)
  have j1 := joinL_len [44] (by decide) l fun x _ => text_len (wt x) x (Nat.le_refl _)
  have hsz : (bs s).size = s.length := Pure.size_bs s
  have hws : w.heap.size ≤ w1.heap.size := by omega
  clear hw1 hx1 hb1 hn1 h
  by_cases k1 : k = 1
  · subst k1
    have hT : textZ (.mk 1 s l) = Spf.twice s := by rw [textZ]; rfl
    have HT := Lib.hid hT
    clear hT HA0 HA1 HH j0 j1 HI
    go_enter Tryz.func18, Tryz.ntmps18
    go_upto_region 1 with fail
    rw [HW1.out]
    go_wp2_with fail
    go_loop [3, 4] (fun sv i => ∃ j : Nat, j ≤ s.length ∧ sv = .string (bs (Spf.twice (s.take j))) ∧ i = .int .i64 j) (fun _ i => s.length - (intOf i).toNat)
    case atStart => exact ⟨0, Nat.zero_le _, rfl, rfl⟩
    case round =>
      obtain ⟨j, hj, rfl, rfl⟩ := hrel
      by_cases hlt : j < s.length
      · have hb : ((((bs s)[j]'(by rw [hsz]; exact hlt)).toNat : Nat) : Int) = (((s[j]).toNat : Nat) : Int) := rfl
        have hone := one_byte s j hlt
        have htl := twice_len (s.take j)
        have htk : (s.take j).length ≤ s.length := by rw [List.length_take]; omega
        have hsn := twice_snoc (s.take j) s[j]
        rw [← List.take_succ_eq_append_getElem hlt] at hsn
        have hjs : (j : Int) < (s.length : Int) := by omega
        by_cases h36 : s[j] = 36
        · rw [if_pos h36] at hsn
          have HS : Hid (Spf.twice (s.take j) ++ [36] ++ [36] = Spf.twice (s.take (j + 1))) := by show _ = _; rw [hsn, List.append_assoc]; rfl
          rw [h36] at hb hone
          generalize Spf.twice (s.take j) = J at *
          have c1 : ∀ W, (Op.stringOp .add (bs J) ⟨#[36]⟩).run Tryz.prog W = .ok (.string (bs (J ++ [36]))) W := fun W => add_bs J [36] W (by rw [List.length_singleton]; omega)
          have c2 : ∀ W, (Op.stringOp .add (bs (J ++ [36])) (bs [36])).run Tryz.prog W = .ok (.string (bs (J ++ [36] ++ [36]))) W := fun W => add_bs _ [36] W (by rw [List.length_append, List.length_singleton]; omega)
          have e1 : (((36 : UInt8).toNat : Nat) : Int) = 36 := rfl
          rw [e1] at hb
          clear hsn h36 e1 htl htk
          generalize J ++ [36] ++ [36] = J2 at *
          generalize J ++ [36] = J1 at *
          go_wp2_with fail
          go_round
          case rel => exact ⟨j + 1, by omega, by rw [HS.out], by go_num⟩
          case measure => simp [intOf]; omega
        · rw [if_neg h36] at hsn
          have HS : Hid (Spf.twice (s.take j) ++ [s[j]] = Spf.twice (s.take (j + 1))) := hsn.symm
          have e1 := u8_is s[j] 36
          rw [decide_eq_false h36, show (((36 : UInt8).toNat : Nat) : Int) = 36 from rfl] at e1
          have n1 : ¬ ((s[j].toNat : Nat) : Int) = 36 := by simpa using e1
          generalize s[j] = x at *
          generalize Spf.twice (s.take j) = J at *
          have c1 : ∀ W, (Op.stringOp .add (bs J) (bs [x])).run Tryz.prog W = .ok (.string (bs (J ++ [x]))) W := fun W => add_bs J [x] W (by rw [List.length_singleton]; omega)
          clear hsn h36 htl htk
          generalize J ++ [x] = J1 at *
          go_wp2_with fail
          go_round
          case rel => exact ⟨j + 1, by omega, by rw [HS.out], by go_num⟩
          case measure => simp [intOf]; omega
      · obtain rfl : j = s.length := by omega
        go_wp2_with fail
        go_ret
        exact ⟨congrArg (fun x => Ending.returned (Value.string (bs x))) HT.out.symm, HB1.out⟩
  · by_cases k2 : k = 2
    · subst k2
      have hT : textZ (.mk 2 s l) = [36, 40] ++ joinL [] (textsZ l) ++ [41] := by rw [textZ]; rfl
      have HT := Lib.hid hT
      generalize joinL [] (textsZ l) = J at *
      have c1 : ∀ W, (Op.stringOp .add ⟨#[36, 40]⟩ (bs J)).run Tryz.prog W = .ok (.string (bs ([36, 40] ++ J))) W := fun W => add_bs [36, 40] J W (by show 2 + _ ≤ _; omega)
      have c2 : ∀ W, (Op.stringOp .add (bs ([36, 40] ++ J)) ⟨#[41]⟩).run Tryz.prog W = .ok (.string (bs ([36, 40] ++ J ++ [41]))) W := fun W => add_bs _ [41] W (by rw [List.length_append]; show 2 + _ + 1 ≤ _; omega)
      clear hT HA1 HH j0 j1 HI k1
      generalize [36, 40] ++ J ++ [41] = J2 at *
      generalize [36, 40] ++ J = J1 at *
      go_enter Tryz.func18, Tryz.ntmps18
      go_upto_region 1 with fail
      rw [HW1.out]
      go_wp2_with (go_at_call 36; refine HA0.out.mono ?_; rintro e W' ⟨rfl, hb3⟩; have HB3 := Lib.hid (HB1.out.trans (hb3.mono hws)); clear hb3)
      go_ret
      exact ⟨congrArg (fun x => Ending.returned (Value.string (bs x))) HT.out.symm, HB3.out⟩
    · by_cases k5 : k = 5
      · subst k5
        have hT : textZ (.mk 5 s l) = joinL [] (textsZ l) := by rw [textZ]; rfl
        have HT := Lib.hid hT
        generalize joinL [] (textsZ l) = J at *
        clear hT HA1 HH j0 j1 HI k1 k2
        go_enter Tryz.func18, Tryz.ntmps18
        go_upto_region 1 with fail
        rw [HW1.out]
        go_wp2_with (go_at_call 36; refine HA0.out.mono ?_; rintro e W' ⟨rfl, hb3⟩; have HB3 := Lib.hid (HB1.out.trans (hb3.mono hws)); clear hb3)
        go_ret
        exact ⟨congrArg (fun x => Ending.returned (Value.string (bs x))) HT.out.symm, HB3.out⟩
      · by_cases k4 : k = 4
        · subst k4
          have hT : textZ (.mk 4 s l) = [36, 40] ++ s ++ [32] ++ joinL [44] (textsZ l) ++ [41] := by rw [textZ]; rfl
          have HT := Lib.hid hT
          generalize joinL [44] (textsZ l) = J at *
          have c1 : ∀ W, (Op.stringOp .add ⟨#[36, 40]⟩ (bs s)).run Tryz.prog W = .ok (.string (bs ([36, 40] ++ s))) W := fun W => add_bs [36, 40] s W (by show 2 + _ ≤ _; omega)
          have c2 : ∀ W, (Op.stringOp .add (bs ([36, 40] ++ s)) ⟨#[32]⟩).run Tryz.prog W = .ok (.string (bs ([36, 40] ++ s ++ [32]))) W := fun W => add_bs _ [32] W (by rw [List.length_append]; show 2 + _ + 1 ≤ _; omega)
          have c3 : ∀ W, (Op.stringOp .add (bs ([36, 40] ++ s ++ [32])) (bs J)).run Tryz.prog W = .ok (.string (bs ([36, 40] ++ s ++ [32] ++ J))) W := fun W => add_bs _ J W (by rw [List.length_append, List.length_append]; show 2 + _ + 1 + _ ≤ _; omega)
          have c4 : ∀ W, (Op.stringOp .add (bs ([36, 40] ++ s ++ [32] ++ J)) ⟨#[41]⟩).run Tryz.prog W = .ok (.string (bs ([36, 40] ++ s ++ [32] ++ J ++ [41]))) W := fun W => add_bs _ [41] W (by rw [List.length_append, List.length_append, List.length_append]; show 2 + _ + 1 + _ + 1 ≤ _; omega)
          clear hT HA0 HH j0 j1 HI k1 k2 k5
          generalize [36, 40] ++ s ++ [32] ++ J ++ [41] = J4 at *
          generalize [36, 40] ++ s ++ [32] ++ J = J3 at *
          generalize [36, 40] ++ s ++ [32] = J2 at *
          generalize [36, 40] ++ s = J1 at *
          have hp : w.heap.size < w1.heap.size := by omega
          go_enter Tryz.func18, Tryz.ntmps18
          go_upto_region 1 with fail
          rw [HW1.out]
          go_wp2_with fail
          go_region_held3 (fun w' => w'.cell? ⟨w.heap.size, 1, none⟩ = some (.string (bs s)) ∧ w'.cell? ⟨w.heap.size, 2, none⟩ = some (.slice A l.length c)) (first | go_keep | exact ⟨a1, a2⟩ | exact ⟨(hb3.cell (p := ⟨w.heap.size, 1, none⟩) hp).trans a1, (hb3.cell (p := ⟨w.heap.size, 2, none⟩) hp).trans a2⟩) (first | (go_at_call 36; refine (HA1.out _ (Below.drew (Below.refl _ _))).mono ?_; rintro e W' ⟨rfl, hb3⟩))
          have HB3 := Lib.hid (HB1.out.drew.trans (hb3.mono hws))
          clear hb3
          go_wp2_with fail
          go_ret
          exact ⟨congrArg (fun x => Ending.returned (Value.string (bs x))) HT.out.symm, HB3.out⟩
        · by_cases k3 : k = 3
          · subst k3
            by_cases hl3 : l.length = 3
            · obtain ⟨⟨k1', s1, m1⟩, ⟨k2', s2, m2⟩, ⟨k3', s3, m3⟩, rfl⟩ : ∃ x y z, l = [x, y, z] := by
                match l, hl3 with
                | [x, y, z], _ => exact ⟨x, y, z, rfl⟩
              obtain ⟨b, o, A1, c1, rfl, hbl, _, hn1, hcell1⟩ := HH.out.at_ (j := 0) rfl
              obtain ⟨b', o', A2, c2, hA2, _, _, hn2, hcell2⟩ := HH.out.at_ (j := 1) rfl
              cases hA2
              obtain ⟨b', o', A3, c3, hA3, _, _, hn3, hcell3⟩ := HH.out.at_ (j := 2) rfl
              cases hA3
              obtain ⟨d0, d1, d2⟩ := hcell1 w1 rfl
              obtain ⟨e0, e1, e2⟩ := hcell2 w1 rfl
              obtain ⟨f0, f1, f2⟩ := hcell3 w1 rfl
              simp only [Nat.zero_mul, Nat.add_zero, Nat.one_mul, Nat.add_assoc, Nat.reduceMul, Nat.reduceAdd] at d0 d1 d2 e0 e1 e2 f0 f1 f2
              simp only [wts] at hN
              have HW1 : Hid (w.alloc (.cells #[.int .i64 3, .string (bs s), .slice (some ⟨b, o, none⟩) 3 c] 25) = w1) := HW1
              have a2 : w1.cell? ⟨w.heap.size, 2, none⟩ = some (.slice (some ⟨b, o, none⟩) 3 c) := a2
              have hx1 : Nt N w1 _ (textZ (.mk k1' s1 m1)) := ⟨S, _, hn1, by omega, rfl⟩
              have hx2 : Nt N w1 _ (textZ (.mk k2' s2 m2)) := ⟨S, _, hn2, by omega, rfl⟩
              have hx3 : Nt N w1 _ (textZ (.mk k3' s3 m3)) := ⟨S, _, hn3, by omega, rfl⟩
              have l1 := text_len (wt (.mk k1' s1 m1)) _ (Nat.le_refl _)
              have l2 := text_len (wt (.mk k2' s2 m2)) _ (Nat.le_refl _)
              have l3 := text_len (wt (.mk k3' s3 m3)) _ (Nat.le_refl _)
              have hT : textZ (.mk 3 s [.mk k1' s1 m1, .mk k2' s2 m2, .mk k3' s3 m3]) = [36, 40] ++ textZ (.mk k1' s1 m1) ++ [58] ++ textZ (.mk k2' s2 m2) ++ [61] ++ textZ (.mk k3' s3 m3) ++ [41] := by rw [textZ]; rfl
              have HT := Lib.hid hT
              clear hT HA0 HA1 HH j0 j1 k1 k2 k5 k4 hl3 hcell1 hcell2 hcell3 hn1 hn2 hn3
              generalize textZ (.mk k1' s1 m1) = t1 at *
              generalize textZ (.mk k2' s2 m2) = t2 at *
              generalize textZ (.mk k3' s3 m3) = t3 at *
              have g1 : ∀ W, (Op.stringOp .add ⟨#[36, 40]⟩ (bs t1)).run Tryz.prog W = .ok (.string (bs ([36, 40] ++ t1))) W := fun W => add_bs [36, 40] t1 W (by show 2 + _ ≤ _; omega)
              have g2 : ∀ W, (Op.stringOp .add (bs ([36, 40] ++ t1)) ⟨#[58]⟩).run Tryz.prog W = .ok (.string (bs ([36, 40] ++ t1 ++ [58]))) W := fun W => add_bs _ [58] W (by simp only [List.length_append, List.length_cons, List.length_nil]; omega)
              have g3 : ∀ W, (Op.stringOp .add (bs ([36, 40] ++ t1 ++ [58])) (bs t2)).run Tryz.prog W = .ok (.string (bs ([36, 40] ++ t1 ++ [58] ++ t2))) W := fun W => add_bs _ t2 W (by simp only [List.length_append, List.length_cons, List.length_nil]; omega)
              have g4 : ∀ W, (Op.stringOp .add (bs ([36, 40] ++ t1 ++ [58] ++ t2)) ⟨#[61]⟩).run Tryz.prog W = .ok (.string (bs ([36, 40] ++ t1 ++ [58] ++ t2 ++ [61]))) W := fun W => add_bs _ [61] W (by simp only [List.length_append, List.length_cons, List.length_nil]; omega)
              have g5 : ∀ W, (Op.stringOp .add (bs ([36, 40] ++ t1 ++ [58] ++ t2 ++ [61])) (bs t3)).run Tryz.prog W = .ok (.string (bs ([36, 40] ++ t1 ++ [58] ++ t2 ++ [61] ++ t3))) W := fun W => add_bs _ t3 W (by simp only [List.length_append, List.length_cons, List.length_nil]; omega)
              have g6 : ∀ W, (Op.stringOp .add (bs ([36, 40] ++ t1 ++ [58] ++ t2 ++ [61] ++ t3)) ⟨#[41]⟩).run Tryz.prog W = .ok (.string (bs ([36, 40] ++ t1 ++ [58] ++ t2 ++ [61] ++ t3 ++ [41]))) W := fun W => add_bs _ [41] W (by simp only [List.length_append, List.length_cons, List.length_nil]; omega)
              clear l1 l2 l3
              generalize [36, 40] ++ t1 ++ [58] ++ t2 ++ [61] ++ t3 ++ [41] = J6 at *
              generalize [36, 40] ++ t1 ++ [58] ++ t2 ++ [61] ++ t3 = J5 at *
              generalize [36, 40] ++ t1 ++ [58] ++ t2 ++ [61] = J4 at *
              generalize [36, 40] ++ t1 ++ [58] ++ t2 = J3 at *
              generalize [36, 40] ++ t1 ++ [58] = J2 at *
              generalize [36, 40] ++ t1 = J1 at *
              generalize m1.length = z1 at *
              generalize m2.length = z2 at *
              generalize m3.length = z3 at *
              have hp : w.heap.size < w1.heap.size := by omega
              have HK := Lib.hid (fun (W : World) (hW : Below w1.heap.size w1 W) => (⟨hW, (hW.cell (p := ⟨w.heap.size, 2, none⟩) hp).trans a2, (hW.cell (p := ⟨b, o, none⟩) hbl).trans d0, (hW.cell (p := ⟨b, o + 1, none⟩) hbl).trans d1, (hW.cell (p := ⟨b, o + 2, none⟩) hbl).trans d2, (hW.cell (p := ⟨b, o + 3, none⟩) hbl).trans e0, (hW.cell (p := ⟨b, o + 4, none⟩) hbl).trans e1, (hW.cell (p := ⟨b, o + 5, none⟩) hbl).trans e2, (hW.cell (p := ⟨b, o + 6, none⟩) hbl).trans f0, (hW.cell (p := ⟨b, o + 7, none⟩) hbl).trans f1, (hW.cell (p := ⟨b, o + 8, none⟩) hbl).trans f2⟩ : (Below w1.heap.size w1 W ∧ W.cell? ⟨w.heap.size, 2, none⟩ = some (.slice (some ⟨b, o, none⟩) 3 c) ∧ W.cell? ⟨b, o, none⟩ = some (.int .i64 k1') ∧ W.cell? ⟨b, o + 1, none⟩ = some (.string (bs s1)) ∧ W.cell? ⟨b, o + 2, none⟩ = some (.slice A1 z1 c1) ∧ W.cell? ⟨b, o + 3, none⟩ = some (.int .i64 k2') ∧ W.cell? ⟨b, o + 4, none⟩ = some (.string (bs s2)) ∧ W.cell? ⟨b, o + 5, none⟩ = some (.slice A2 z2 c2) ∧ W.cell? ⟨b, o + 6, none⟩ = some (.int .i64 k3') ∧ W.cell? ⟨b, o + 7, none⟩ = some (.string (bs s3)) ∧ W.cell? ⟨b, o + 8, none⟩ = some (.slice A3 z3 c3))))
              have HT3 : Hid (∀ (W : World), (Below w1.heap.size w1 W ∧ W.cell? ⟨w.heap.size, 2, none⟩ = some (.slice (some ⟨b, o, none⟩) 3 c) ∧ W.cell? ⟨b, o, none⟩ = some (.int .i64 k1') ∧ W.cell? ⟨b, o + 1, none⟩ = some (.string (bs s1)) ∧ W.cell? ⟨b, o + 2, none⟩ = some (.slice A1 z1 c1) ∧ W.cell? ⟨b, o + 3, none⟩ = some (.int .i64 k2') ∧ W.cell? ⟨b, o + 4, none⟩ = some (.string (bs s2)) ∧ W.cell? ⟨b, o + 5, none⟩ = some (.slice A2 z2 c2) ∧ W.cell? ⟨b, o + 6, none⟩ = some (.int .i64 k3') ∧ W.cell? ⟨b, o + 7, none⟩ = some (.string (bs s3)) ∧ W.cell? ⟨b, o + 8, none⟩ = some (.slice A3 z3 c3)) → ∀ (v : Value) (t : T), Nt N w1 v t → Calls Tryz.prog 18 #[v] W fun e W' => e = .returned (.string (bs t)) ∧ (Below w1.heap.size w1 W' ∧ W'.cell? ⟨w.heap.size, 2, none⟩ = some (.slice (some ⟨b, o, none⟩) 3 c) ∧ W'.cell? ⟨b, o, none⟩ = some (.int .i64 k1') ∧ W'.cell? ⟨b, o + 1, none⟩ = some (.string (bs s1)) ∧ W'.cell? ⟨b, o + 2, none⟩ = some (.slice A1 z1 c1) ∧ W'.cell? ⟨b, o + 3, none⟩ = some (.int .i64 k2') ∧ W'.cell? ⟨b, o + 4, none⟩ = some (.string (bs s2)) ∧ W'.cell? ⟨b, o + 5, none⟩ = some (.slice A2 z2 c2) ∧ W'.cell? ⟨b, o + 6, none⟩ = some (.int .i64 k3') ∧ W'.cell? ⟨b, o + 7, none⟩ = some (.string (bs s3)) ∧ W'.cell? ⟨b, o + 8, none⟩ = some (.slice A3 z3 c3))) := fun W hW v t ⟨S', x, hx, hxw, hxt⟩ => by
                refine (HI x S' v W hxw (hx.on hW.1)).mono ?_
                rintro e W' ⟨he, hb⟩
                exact ⟨by rw [he, hxt], HK.out W' (hW.1.trans (hb.mono hW.1.size))⟩
              have k0 := HK.out w1 (Below.refl _ _)
              have k0d := HK.out w1.drew (Below.refl _ w1).drew
              go_enter Tryz.func18, Tryz.ntmps18
              go_upto_region 1 with fail
              rw [HW1.out]
              go_wp2_with fail
              go_region_held3 (fun w' => (Below w1.heap.size w1 w' ∧ w'.cell? ⟨w.heap.size, 2, none⟩ = some (.slice (some ⟨b, o, none⟩) 3 c) ∧ w'.cell? ⟨b, o, none⟩ = some (.int .i64 k1') ∧ w'.cell? ⟨b, o + 1, none⟩ = some (.string (bs s1)) ∧ w'.cell? ⟨b, o + 2, none⟩ = some (.slice A1 z1 c1) ∧ w'.cell? ⟨b, o + 3, none⟩ = some (.int .i64 k2') ∧ w'.cell? ⟨b, o + 4, none⟩ = some (.string (bs s2)) ∧ w'.cell? ⟨b, o + 5, none⟩ = some (.slice A2 z2 c2) ∧ w'.cell? ⟨b, o + 6, none⟩ = some (.int .i64 k3') ∧ w'.cell? ⟨b, o + 7, none⟩ = some (.string (bs s3)) ∧ w'.cell? ⟨b, o + 8, none⟩ = some (.slice A3 z3 c3)))
                (first | exact hz | exact k0 | exact k0d | assumption)
                (first | (go_at_call 18; refine (HT3.out _ (by assumption) _ _ (by first | exact hx1 | exact hx2 | exact hx3)).mono ?_; rintro e wz ⟨rfl, hz⟩))
              have HB3 := Lib.hid (HB1.out.trans (hz.1.mono hws))
              clear hz
              go_wp2_with fail
              go_ret
              exact ⟨congrArg (fun x => Ending.returned (Value.string (bs x))) HT.out.symm, HB3.out⟩
            · have hT : textZ (.mk 3 s l) = [] := by
                rw [textZ]
                have h3 : (textsZ l).length ≠ 3 := by rw [texts_map, List.length_map]; exact hl3
                generalize textsZ l = ts at h3 ⊢
                match ts, h3 with
                | [], _ => rfl
                | [_], _ => rfl
                | [_, _], _ => rfl
                | [_, _, _], h => exact absurd rfl h
                | _ :: _ :: _ :: _ :: _, _ => rfl
              have HT := Lib.hid hT
              have hl4 : ((l.length : Int) == 3) = false := by rw [beq_eq_false_iff_ne]; omega
              have hl5 : ¬ (l.length : Int) = 3 := by omega
              clear hT HA0 HA1 HH j0 j1 HI k1 k2 k5 k4 hl3
              go_enter Tryz.func18, Tryz.ntmps18
              go_upto_region 1 with fail
              rw [HW1.out]
              go_wp2_with fail
              go_ret
              exact ⟨congrArg (fun x => Ending.returned (Value.string (bs x))) HT.out.symm, HB1.out⟩
          · have hT : textZ (.mk k s l) = [] := by rw [textZ]; simp [k1, k2, k3, k4, k5]
            have HT := Lib.hid hT
            have b1 : (k == 1) = false := by rw [beq_eq_false_iff_ne]; exact k1
            have b2 : (k == 2) = false := by rw [beq_eq_false_iff_ne]; exact k2
            have b3 : (k == 3) = false := by rw [beq_eq_false_iff_ne]; exact k3
            have b4 : (k == 4) = false := by rw [beq_eq_false_iff_ne]; exact k4
            have b5 : (k == 5) = false := by rw [beq_eq_false_iff_ne]; exact k5
            clear hT HA0 HA1 HH j0 j1 HI
            go_enter Tryz.func18, Tryz.ntmps18
            go_upto_region 1 with fail
            rw [HW1.out]
            go_wp2_with fail
            go_ret
            exact ⟨congrArg (fun x => Ending.returned (Value.string (bs x))) HT.out.symm, HB1.out⟩

theorem text_all : ∀ N, N ≤ 68719476736 → TextTo N
  | 0, _ => fun x _ _ _ h _ => by have := wt_pos x; omega
  | N + 1, hN => fun x S v w h hx => by
    obtain ⟨k, s, l⟩ := x
    obtain ⟨A, c, rfl, hl⟩ := hx.inv
    rw [wt] at h
    exact text_step N (text_all N (by omega)) k s l S A c w (by omega) (by omega) (by omega) hl
/-- the document's text of an expansion -/
theorem refText_is (x : Nz) (S : Nat → Prop) (v : Value) (w : World) (hx : NzIn S w v x) (hw : wt x ≤ 68719476736) :
    Calls Tryz.prog 18 #[v] w fun e W' => e = .returned (.string (bs (textZ x))) ∧ Below w.heap.size w W' :=
  text_all _ (Nat.le_refl _) x S v w hw hx

end Go.Proofs.YtmcdefkpkpaceaaGreatDoor.Qtxt

/- The document's Print. -/
namespace Go.Proofs.YtmcdefkpkpaceaaGreatDoor.Qprt
open Go.RowKit Go.Proofs.YtmcdefkpkpaceaaGreatDoor.Spl Go.Proofs.YtmcdefkpkpaceaaGreatDoor.Nodm Go.Proofs.YtmcdefkpkpaceaaGreatDoor.Nz Go.Proofs.YtmcdefkpkpaceaaGreatDoor.Qwhole Go.Proofs.YtmcdefkpkpaceaaGreatDoor.Qtp Go.Proofs.YtmcdefkpkpaceaaGreatDoor.Qsame Go.Proofs.YtmcdefkpkpaceaaGreatDoor.Qlist
open Go.Proofs.YtmcdefkpkpaceaaGreatDoor.Pure (bs)

/-- may it be written? -/
noncomputable def prB (x : Nz) : Bool := match parse (textZ x) with
  | .ok m => sameB (toZ m) x
  | .bad _ => false
noncomputable def prT (x : Nz) : T := if prB x then textZ x else []

set_option maxRecDepth 100000 in
set_option maxHeartbeats 2000000 in
theorem refPrint_is (x : Nz) (S : Nat → Prop) (v : Value) (w : World) (hx : NzIn S w v x) (hw : wt x ≤ 68719476736) (ht : (textZ x).length ≤ 999999) :
    Calls Tryz.prog 8 #[v] w fun e W' => e = .returned (.tuple #[.string (bs (prT x)), .bool (prB x)]) ∧ Below w.heap.size w W' := by
  have HX := Lib.hid hx
  have HT := Lib.hid (fun W (hW : Below w.heap.size w W) => Qtxt.refText_is x S v W (hx.on hW) (by omega))
  have HP := Lib.hid (fun W => Qparse.refParse_is (textZ x) W (by omega))
  have HSm := Lib.hid (fun (m : Nod) (h : parse (textZ x) = .ok m) (S' : Nat → Prop) (u : Value) (W : World) (hu : NodeIn S' W u m) (hW : Below w.heap.size w W) => refSame_is (toZ m) x S' S u v W (Nz.NodeIn.toZ hu) (hx.on hW) (by have := Qbnd.parse_wt h; have := Qbnd.siz_wt (toZ m); omega))
  have HD : Hid (prB x = match parse (textZ x) with | .ok m => sameB (toZ m) x | .bad _ => false) := by show _ = _; rw [prB]
  have HU : Hid (prT x = if prB x then textZ x else []) := by show _ = _; rw [prT]
  obtain ⟨k, s, l⟩ := x
  obtain ⟨A, c, rfl, hl⟩ := hx.inv
  generalize textZ (.mk k s l) = t at *
  obtain ⟨z, hz⟩ : ∃ z, z = l.length := ⟨_, rfl⟩
  rw [← hz] at HT HSm HX ⊢
  obtain ⟨w1, hw1⟩ : ∃ w1, w.alloc (.cells #[.int .i64 k, .string (bs s), .slice A z c] 25) = w1 := ⟨_, rfl⟩
  have hz1 : w1.heap.size = w.heap.size + 1 := by rw [← hw1, World.size_alloc]
  have hx1 : w1.heap[w.heap.size]? = some (.cells #[.int .i64 k, .string (bs s), .slice A z c] 25) := by rw [← hw1]; exact heap_alloc_new w _
  have hb1 : Below w.heap.size w w1 := by rw [← hw1]; exact (Below.refl _ _).alloc (Nat.le_refl _) _
  have hf1 : Below w.heap.size w w1 := hb1
  have HW1 := Lib.hid hw1
  have HB1 := Lib.hid hb1
  have HX1 := Lib.hid hx1
  have HT1 := Lib.hid (HT.out w1 (by rw [← hw1]; exact (Below.refl _ _).alloc (Nat.le_refl _) _))
  obtain ⟨a0, a1, a2⟩ := cells_three hx1
  clear hx hl hz hw1 hx1 hb1 hf1 HT
  generalize hR : parse t = R at *
  cases R with
  | bad er =>
    obtain ⟨ne, hne⟩ : ∃ ne, ne = errNo (.bad er : Rd Nod) := ⟨_, rfl⟩
    have hn1 : ¬ ne = 0 := by rw [hne]; cases er <;> decide
    have hn2 : ¬ ((ne : Nat) : Int) = 0 := by omega
    have hn0 : (((ne : Nat) : Int) == 0) = false := by rw [beq_eq_false_iff_ne]; exact hn2
    have hn3 : (((ne : Nat) : Int) != 0) = true := by rw [bne_iff_ne]; exact hn2
    have hD := HD.out
    dsimp only at hD
    have hU := HU.out
    rw [hD] at hU
    rw [← hne] at HP
    have HP2 : Hid (∀ W : World, Calls Tryz.prog 4 #[.string (bs t)] W fun e W' => e = .returned (.tuple #[.agg #[.int .i64 0, .string .empty, .slice none 0 0], .int .i64 (ne : Int)]) ∧ Below W.heap.size W W') := fun W => (HP.out W).mono fun e W' ⟨u, he, hu, hb⟩ => ⟨by rw [he, show u = _ from hu], hb⟩
    have HD2 := Lib.hid hD
    have HU2 := Lib.hid hU
    clear hne hD hU HD HU HP HSm hR
    go_enter Tryz.func8, Tryz.ntmps8
    go_upto_region 1 with fail
    rw [HW1.out]
    go_wp2_with (first | (go_at_call 18; refine HT1.out.mono ?_; rintro e W2 ⟨rfl, hb2⟩; have HB2 := Lib.hid hb2; clear hb2) | (go_at_call 4; refine (HP2.out _).mono ?_; rintro e W3 ⟨rfl, hb3⟩; have HB3 := Lib.hid hb3; clear hb3))
    go_ret2
    rw [HD2.out, HU2.out]
    have hb2 := HB2.out
    have s2 := hb2.size
    have hb3 := HB3.out
    have s3 := hb3.size
    exact ⟨rfl, ((HB1.out.trans (hb2.mono (by omega))).trans (hb3.mono (by omega))).alloc (by omega) _⟩
  | ok m =>
    have HSm2 := Lib.hid (HSm.out m rfl)
    have hD := HD.out
    dsimp only at hD
    have hU := HU.out
    rw [hD] at hU
    have HD2 := Lib.hid hD
    have HU2 := Lib.hid hU
    obtain ⟨kk, ss, ll⟩ := m
    obtain ⟨lz, hlz⟩ : ∃ lz, lz = ll.length := ⟨_, rfl⟩
    have HP2 : Hid (∀ W : World, Calls Tryz.prog 4 #[.string (bs t)] W fun e W' => ∃ A2 c2, e = .returned (.tuple #[.agg #[.int .i64 (kk : Int), .string (bs ss), .slice A2 lz c2], .int .i64 0]) ∧ NodeIn (fun b => W.heap.size ≤ b) W' (.agg #[.int .i64 (kk : Int), .string (bs ss), .slice A2 lz c2]) (.mk kk ss ll) ∧ Below W.heap.size W W') := fun W => (HP.out W).mono fun e W' ⟨u, he, hu, hb⟩ => by
      have hu : NodeIn (fun b => W.heap.size ≤ b) W' u (.mk kk ss ll) := hu
      obtain ⟨A2, c2, rfl, hn⟩ := hu.inv
      rw [hlz]
      exact ⟨A2, c2, he, hu, hb⟩
    clear hD hU HD HU HSm hR HP hlz
    generalize sameB (toZ (.mk kk ss ll)) (.mk k s l) = b at *
    go_enter Tryz.func8, Tryz.ntmps8
    go_upto_region 1 with fail
    rw [HW1.out]
    go_upto_region 3 with (first | (go_at_call 18; refine HT1.out.mono ?_; rintro e W2 ⟨rfl, hb2⟩; have HB2 := Lib.hid hb2; clear hb2) | (go_at_call 4; refine (HP2.out _).mono ?_; rintro e W3 ⟨A2, c2, rfl, hn3, hb3⟩; have HN3 := Lib.hid hn3; have HB3 := Lib.hid hb3; clear hb3 hn3))
    obtain ⟨W4, hW4⟩ : ∃ W4, W3.alloc (.cells #[.int .i64 (kk : Int), .string (bs ss), .slice A2 lz c2] 25) = W4 := ⟨_, rfl⟩
    have hx4 : W4.heap[W3.heap.size]? = some (.cells #[.int .i64 (kk : Int), .string (bs ss), .slice A2 lz c2] 25) := by rw [← hW4]; exact heap_alloc_new W3 _
    have hb34 : Below W3.heap.size W3 W4 := by rw [← hW4]; exact (Below.refl _ _).alloc (Nat.le_refl _) _
    rw [hW4]
    have hb2 := HB2.out
    have hb3 := HB3.out
    have s2 := hb2.size
    have s3 := hb3.size
    have s4 := hb34.size
    have hb14 : Below w1.heap.size w1 W4 := hb2.trans ((hb3.mono (by omega)).trans (hb34.mono (by omega)))
    have hb04 : Below w.heap.size w W4 := HB1.out.trans (hb14.mono (by omega))
    obtain ⟨g0, g1, g2⟩ := cells_three ((hb14.block w.heap.size (by omega)).trans HX1.out)
    obtain ⟨d0, d1, d2⟩ := cells_three hx4
    have HC := Lib.hid (HSm2.out (fun b => W2.heap.size ≤ b) _ W4 (HN3.out.on hb34) hb04)
    have HB4 := Lib.hid hb04
    have hs4 : w.heap.size ≤ W4.heap.size := by omega
    clear hW4 hx4 hb34 hb2 hb3 hb14 hb04 HSm2 HN3 HP2 HT1 a0 a1 a2
    cases b with
    | false =>
      go_wp2_with (go_at_call 9; refine HC.out.mono ?_; rintro e W5 ⟨rfl, hb5⟩; have HB5 := Lib.hid (HB4.out.trans (hb5.mono hs4)); clear hb5)
      go_ret2
      rw [HD2.out, HU2.out]
      exact ⟨rfl, HB5.out⟩
    | true =>
      go_wp2_with (go_at_call 9; refine HC.out.mono ?_; rintro e W5 ⟨rfl, hb5⟩; have HB5 := Lib.hid (HB4.out.trans (hb5.mono hs4)); clear hb5)
      go_ret2
      rw [HD2.out, HU2.out]
      exact ⟨rfl, HB5.out⟩

end Go.Proofs.YtmcdefkpkpaceaaGreatDoor.Qprt

/- What is read has the shapes of its kinds, has few nodes; an expansion that may be written is such a one (no program). -/
namespace Go.Proofs.YtmcdefkpkpaceaaGreatDoor.Kwf
open Go.Proofs.YtmcdefkpkpaceaaGreatDoor.Spl Go.Proofs.YtmcdefkpkpaceaaGreatDoor.Nz Go.Proofs.YtmcdefkpkpaceaaGreatDoor.Qtp Go.Proofs.YtmcdefkpkpaceaaGreatDoor.Qparse Go.Proofs.YtmcdefkpkpaceaaGreatDoor.Kpl Go.Proofs.YtmcdefkpkpaceaaGreatDoor.Kgd Go.Proofs.YtmcdefkpkpaceaaGreatDoor.Qprt

/-- a thing within what is read: it has its shape, and is found again -/
def Wf (x : Nz) : Prop := okZ x = true ∧ nmZ x = true
def Wd (x : Nz) : Prop := Wf x ∧ lostZ x = false
theorem wf_mk {k : Int} {s : T} {l : List Nz} (h1 : shapeZ (.mk k s l) = true) (h2 : k = 4 → s.contains 36 = false) (h3 : ∀ x ∈ l, Wf x) : Wf (.mk k s l) := by
  refine ⟨by rw [ok_mk, h1, oks_of fun x hx => (h3 x hx).1]; rfl, ?_⟩
  rw [nmZ, nms_of fun x hx => (h3 x hx).2, Bool.and_true, Bool.or_eq_true, decide_eq_true_eq, Bool.not_eq_true']
  by_cases h : k = 4
  · exact .inr (h2 h)
  · exact .inl h
theorem wf_text (s : T) : Wf (.mk 1 s []) := wf_mk (by rw [shapeZ, if_pos rfl]; rfl) (fun e => absurd e (by decide)) fun x hx => by cases hx
theorem wd_text {s : T} (h : s.isEmpty = false) : Wd (.mk 1 s []) := ⟨wf_text s, by rw [lostZ, h]; rfl⟩
theorem mem_toZs {l : List Nod} {x : Nz} (h : x ∈ toZs l) : ∃ m ∈ l, x = toZ m := by
  obtain ⟨j, hj⟩ := List.getElem?_of_mem h
  rw [toZs_at] at hj
  cases hn : l[j]? with
  | none => rw [hn] at hj; cases hj
  | some m =>
    rw [hn] at hj
    cases hj
    exact ⟨m, List.mem_of_getElem? hn, rfl⟩
theorem flush_wd {acc : List Nod} {cur : T} (h : ∀ a ∈ acc, Wd (toZ a)) : ∀ a ∈ flushP acc cur, Wd (toZ a) := by
  unfold flushP
  split
  · exact h
  · rename_i he
    intro a ha
    rcases List.mem_append.1 ha with ha | ha
    · exact h a ha
    · rw [List.mem_singleton] at ha
      rw [ha, toZ, toZs]
      exact wd_text (by simpa using he)
theorem scan_wd (p : UInt8 → T → Rd Nod) (hp : ∀ o t m, p o t = .ok m → Wd (toZ m)) : ∀ (n : Nat) (acc : List Nod) (cur s : T) (l : List Nod), (∀ a ∈ acc, Wd (toZ a)) → scanP p n acc cur s = .ok l → ∀ a ∈ l, Wd (toZ a)
  | 0, acc, cur, s, l, ha, h => by
    rw [scanP] at h
    cases h
    exact flush_wd ha
  | n + 1, acc, cur, [], l, ha, h => by
    rw [scanP] at h
    cases h
    exact flush_wd ha
  | n + 1, acc, cur, b :: r, l, ha, h => by
    rw [scanP.eq_def] at h
    dsimp only at h
    split at h
    · split at h
      · cases h
        exact flush_wd ha
      · rename_i c r2
        split at h
        · exact scan_wd p hp n _ _ _ _ ha h
        · split at h
          · split at h
            · cases h
            · split at h
              · cases h
              · rename_i m hm
                refine scan_wd p hp n _ _ _ _ ?_ h
                intro a ha2
                rcases List.mem_append.1 ha2 with ha2 | ha2
                · exact flush_wd ha a ha2
                · rw [List.mem_singleton] at ha2
                  rw [ha2]
                  exact hp _ _ _ hm
          · refine scan_wd p hp n _ _ _ _ ?_ h
            intro a ha2
            rcases List.mem_append.1 ha2 with ha2 | ha2
            · exact flush_wd ha a ha2
            · rw [List.mem_singleton] at ha2
              rw [ha2]
              simp only [toZ, toZs]
              exact ⟨wf_mk (by rw [shapeZ, if_neg (by decide), if_pos (by decide)]; rfl) (by decide) fun x hx => by rw [List.mem_singleton.1 hx]; exact wf_text _, by rw [lostZ]; rfl⟩
    · exact scan_wd p hp n _ _ _ _ ha h
theorem whole_wf {l : List Nod} (h : ∀ a ∈ l, Wd (toZ a)) : Wf (toZ (wholeP l)) := by
  match l, h with
  | [], _ => show Wf (toZ (.mk 1 [] [])); simp only [toZ, toZs]; exact wf_text _
  | [n], h => exact (h n (List.mem_singleton_self _)).1
  | a :: b :: r, h =>
    show Wf (toZ (.mk 5 [] (a :: b :: r)))
    rw [toZ]
    refine wf_mk ?_ (by decide) fun x hx => ?_
    · rw [shapeZ, if_neg (by decide), if_neg (by decide), if_neg (by decide), if_neg (by decide), if_pos (by decide)]
      have h2 : (toZs (a :: b :: r)).any lostZ = false := by
        rw [List.any_eq_false]
        intro x hx
        obtain ⟨m, hm, rfl⟩ := mem_toZs hx
        rw [(h m hm).2]; decide
      rw [h2, toZs_len]; simp
    · obtain ⟨m, hm, rfl⟩ := mem_toZs hx
      exact (h m hm).1
theorem list_wf (p : T → Rd Nod) (hp : ∀ t m, p t = .ok m → Wf (toZ m)) : ∀ (ts : List T) (l : List Nod), listP p ts = .ok l → l.length = ts.length ∧ ∀ a ∈ l, Wf (toZ a)
  | [], l, h => by rw [listP] at h; cases h; exact ⟨rfl, fun a ha => by cases ha⟩
  | t :: r, l, h => by
    rw [listP] at h
    split at h
    · cases h
    · rename_i n hn
      cases hr : listP p r with
      | bad e => rw [hr] at h; cases h
      | ok m =>
        rw [hr] at h
        cases h
        have h1 := hp _ _ hn
        obtain ⟨h2, h3⟩ := list_wf p hp r m hr
        refine ⟨by rw [List.length_cons, List.length_cons, h2], fun a ha => ?_⟩
        rcases List.mem_cons.1 ha with rfl | ha
        · exact h1
        · exact h3 a ha
theorem args_pos (o c : UInt8) : ∀ (s : T) (d : Nat) (m : Option Nat) (cur : T), 0 < (argsP o c d m cur s).length
  | [], d, m, cur => by rw [argsP]; exact Nat.one_pos
  | b :: r, d, m, cur => by
    rw [argsP]
    split
    · exact args_pos o c r _ _ _
    · split
      · exact args_pos o c r _ _ _
      · split
        · exact Nat.succ_pos _
        · exact args_pos o c r _ _ _
theorem let_no : ∀ {s : T}, (s.takeWhile letB).contains 36 = false
  | [] => rfl
  | b :: r => by
    rw [List.takeWhile_cons]
    split
    · rename_i h
      have hb : b ≠ 36 := fun e => by rw [e] at h; exact absurd h (by decide)
      rw [List.contains_cons, let_no, Bool.or_false, beq_eq_false_iff_ne]
      exact fun e => hb e.symm
    · rfl
theorem ref_wd (p : T → Rd Nod) (hp : ∀ t m, p t = .ok m → Wf (toZ m)) (o : UInt8) (t : T) (n : Nod) (h : refP p o t = .ok n) : Wd (toZ n) := by
  have hm : ∀ (j : Nat) (f : T) (ts : List T), (listP p ts).map (Nod.mk j f) = .ok n → ∃ l, n = .mk j f l ∧ l.length = ts.length ∧ ∀ x ∈ toZs l, Wf x := by
    intro j f ts e
    cases hx : listP p ts with
    | bad e1 => rw [hx] at e; cases e
    | ok l =>
      rw [hx] at e
      cases e
      obtain ⟨h1, h2⟩ := list_wf p hp ts l hx
      refine ⟨l, rfl, h1, fun x hx => ?_⟩
      obtain ⟨m, hm, rfl⟩ := mem_toZs hx
      exact h2 m hm
  unfold refP at h
  split at h
  · rename_i f r i hn
    have hf : f.contains 36 = false := by
      unfold nameP at hn
      split at hn
      · split at hn
        · simp only [Option.some.injEq, Prod.mk.injEq] at hn
          obtain ⟨rfl, _, _⟩ := hn
          exact let_no
        · cases hn
      · cases hn
    have ha := args_pos o (shutOf o) (Pure.left r) 0 (if i.mx = 0 then none else some (i.mx.toNat - 1)) []
    dsimp only at h
    generalize argsP _ _ _ _ _ _ = l at h ha
    split at h
    · cases h
    · obtain ⟨l', rfl, h1, h2⟩ := hm _ _ _ h
      rw [toZ]
      exact ⟨wf_mk (by rw [shapeZ, if_neg (by decide), if_neg (by decide), if_neg (by decide), if_pos (by decide), toZs_len, h1, decide_eq_true ha]) (fun _ => hf) h2, by rw [lostZ]; rfl⟩
  · split at h
    · obtain ⟨l', rfl, h1, h2⟩ := hm _ _ _ h
      rw [toZ]
      exact ⟨wf_mk (by rw [shapeZ, if_neg (by decide), if_neg (by decide), if_pos (by decide), toZs_len, h1]; rfl) (by decide) h2, by rw [lostZ]; rfl⟩
    · obtain ⟨l', rfl, h1, h2⟩ := hm _ _ _ h
      rw [toZ]
      exact ⟨wf_mk (by rw [shapeZ, if_neg (by decide), if_pos (by decide), toZs_len, h1]; rfl) (by decide) h2, by rw [lostZ]; rfl⟩
theorem parseP_wf : ∀ (m : Nat) (s : T) (n : Nod), parseP m s = .ok n → Wf (toZ n)
  | 0, s, n, h => by
    rw [parseP] at h
    cases hx : scanP (fun _ _ => .bad .deep) (s.length + 1) [] [] s with
    | bad e => rw [hx] at h; cases h
    | ok l =>
      rw [hx] at h
      cases h
      exact whole_wf (scan_wd _ (fun _ _ _ h => by cases h) _ _ _ _ _ (fun a ha => by cases ha) hx)
  | m + 1, s, n, h => by
    rw [parseP] at h
    cases hx : scanP (refP (parseP m)) (s.length + 1) [] [] s with
    | bad e => rw [hx] at h; cases h
    | ok l =>
      rw [hx] at h
      cases h
      exact whole_wf (scan_wd _ (fun o t n h => ref_wd (parseP m) (fun t n h => parseP_wf m t n h) o t n h) _ _ _ _ _ (fun a ha => by cases ha) hx)
/-- an expansion that may be written has its shape all through, and is not too deep -/
theorem pr_ok {x : Nz} (h : prB x = true) : okZ x = true ∧ levZ x ≤ 81 := by
  unfold prB at h
  split at h
  · rename_i m hm
    have e := Qsame.same_iff.1 h
    have hw := parseP_wf 40 _ _ hm
    rw [e] at hw
    refine ⟨hw.1, ?_⟩
    have := parseP_lev 40 _ _ (text_good (siz x) x (Nat.le_refl _) hw.1 hw.2) hm
    rw [e] at this
    exact this
  · cases h

end Go.Proofs.YtmcdefkpkpaceaaGreatDoor.Kwf
