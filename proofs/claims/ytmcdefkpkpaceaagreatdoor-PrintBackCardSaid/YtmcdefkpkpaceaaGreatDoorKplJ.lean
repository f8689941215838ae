/- Which expansions have the shape of their kinds; how long their texts are, how deep they are (no program). -/
import Derived.Test.YtmcdefkpkpaceaaGreatDoorNzJ
import Derived.WalkKit
import Derived.WalkSpells
import Derived.IntWalk
import Derived.Below
import Derived.Lib.Hide
import Derived.Lib.Builder
import Derived.Deep.QuietTactic
import Derived.BigQuiet
import Derived.Deep.RegionHeld3
import Derived.Test.YtmcdefkpkpaceaaGreatDoorNodJ
import Derived.LaidEql
import Derived.MapKept
namespace Go.Proofs.YtmcdefkpkpaceaaGreatDoor.Kpl
open Go.Proofs.YtmcdefkpkpaceaaGreatDoor.Spl Go.Proofs.YtmcdefkpkpaceaaGreatDoor.Nz Go.Proofs.YtmcdefkpkpaceaaGreatDoor.Qtp

/-- is it not found again within a Cat? -/
def lostZ : Nz → Bool
  | .mk k s _ => decide (k = 5) || (decide (k = 1) && s.isEmpty)
/-- has it what one of its kind has? -/
def shapeZ : Nz → Bool
  | .mk k s l =>
    if k = 1 then l.isEmpty
    else if k = 2 then s.isEmpty && decide (l.length = 1)
    else if k = 3 then s.isEmpty && decide (l.length = 3)
    else if k = 4 then decide (0 < l.length)
    else if k = 5 then s.isEmpty && (decide (1 < l.length) && !l.any lostZ)
    else false
/-- bytes of its text beside the texts of those below -/
def frameZ : Nz → Nat
  | .mk k s l => if k = 1 then s.length + s.count 36 else if k = 2 then 3 else if k = 3 then 5 else if k = 4 then 4 + s.length + l.length - 1 else 0
mutual
def okZ : Nz → Bool
  | .mk k s l => shapeZ (.mk k s l) && okZs l
def okZs : List Nz → Bool
  | [] => true
  | n :: r => okZ n && okZs r
end
mutual
def lenZ : Nz → Nat
  | .mk k s l => frameZ (.mk k s l) + lensZ l
def lensZ : List Nz → Nat
  | [] => 0
  | n :: r => lenZ n + lensZ r
end
mutual
def levZ : Nz → Nat
  | .mk _ _ l => levsZ l + 1
def levsZ : List Nz → Nat
  | [] => 0
  | n :: r => max (levZ n) (levsZ r)
end
theorem ok_mk (k : Int) (s : T) (l : List Nz) : okZ (.mk k s l) = (shapeZ (.mk k s l) && okZs l) := by rw [okZ]
theorem oks_at : ∀ {l : List Nz} {x : Nz}, okZs l = true → x ∈ l → okZ x = true
  | [], _, _, h => by cases h
  | n :: r, x, h, hx => by
    rw [okZs, Bool.and_eq_true] at h
    rcases List.mem_cons.1 hx with rfl | hx
    · exact h.1
    · exact oks_at h.2 hx
theorem oks_of : ∀ {l : List Nz}, (∀ x ∈ l, okZ x = true) → okZs l = true
  | [], _ => by rw [okZs]
  | n :: r, h => by rw [okZs, h n (List.mem_cons_self ..), oks_of fun x hx => h x (List.mem_cons_of_mem _ hx)]; rfl
theorem levs_at : ∀ {l : List Nz} {x : Nz}, x ∈ l → levZ x ≤ levsZ l
  | [], _, h => by cases h
  | n :: r, x, h => by
    rw [levsZ]
    rcases List.mem_cons.1 h with rfl | h
    · omega
    · have := levs_at h
      omega
theorem levs_of : ∀ {l : List Nz} {L : Nat}, (∀ x ∈ l, levZ x ≤ L) → levsZ l ≤ L
  | [], _, _ => by rw [levsZ]; exact Nat.zero_le _
  | n :: r, L, h => by
    have h1 := h n (List.mem_cons_self ..)
    have h2 := levs_of (l := r) fun x hx => h x (List.mem_cons_of_mem _ hx)
    rw [levsZ]; omega
theorem lens_at : ∀ {l : List Nz} {x : Nz}, x ∈ l → lenZ x ≤ lensZ l
  | [], _, h => by cases h
  | n :: r, x, h => by
    rw [lensZ]
    rcases List.mem_cons.1 h with rfl | h
    · omega
    · have := lens_at h
      omega
theorem oks_app : ∀ a b : List Nz, okZs (a ++ b) = (okZs a && okZs b)
  | [], b => by rw [List.nil_append, okZs, Bool.true_and]
  | n :: r, b => by rw [List.cons_append, okZs, okZs, oks_app r b, Bool.and_assoc]
theorem lens_app : ∀ a b : List Nz, lensZ (a ++ b) = lensZ a + lensZ b
  | [], b => by rw [List.nil_append, lensZ, Nat.zero_add]
  | n :: r, b => by rw [List.cons_append, lensZ, lensZ, lens_app r b, Nat.add_assoc]
theorem levs_app : ∀ a b : List Nz, levsZ (a ++ b) = max (levsZ a) (levsZ b)
  | [], b => by rw [List.nil_append, levsZ, Nat.zero_max]
  | n :: r, b => by rw [List.cons_append, levsZ, levsZ, levs_app r b, Nat.max_assoc]
theorem take_snoc {α : Type} {l : List α} {j : Nat} {x : α} (h : l[j]? = some x) : l.take (j + 1) = l.take j ++ [x] := by
  rw [List.take_add_one, h]; rfl
theorem oks_snoc {l : List Nz} {j : Nat} {x : Nz} (h : l[j]? = some x) : okZs (l.take (j + 1)) = (okZs (l.take j) && okZ x) := by
  rw [take_snoc h, oks_app, okZs, okZs, Bool.and_true]
theorem lens_snoc {l : List Nz} {j : Nat} {x : Nz} (h : l[j]? = some x) : lensZ (l.take (j + 1)) = lensZ (l.take j) + lenZ x := by
  rw [take_snoc h, lens_app, lensZ, lensZ, Nat.add_zero]
theorem levs_snoc {l : List Nz} {j : Nat} {x : Nz} (h : l[j]? = some x) : levsZ (l.take (j + 1)) = max (levsZ (l.take j)) (levZ x) := by
  rw [take_snoc h, levs_app, levsZ, levsZ, Nat.max_zero]

theorem twice_count (a : T) : (Spf.twice a).length = a.length + a.count 36 := by
  induction a with
  | nil => rfl
  | cons b r ih =>
    rw [Spf.twice_cons, List.length_append, List.length_cons, ih, List.count_cons]
    by_cases h : b = 36
    · simp [h]; omega
    · simp [h]; omega
theorem joinL_cons (b : T) (t : T) (r : List T) : joinL b (t :: r) = t ++ (r.map (b ++ ·)).flatten := rfl
theorem lens_texts (hl : ∀ l : List Nz, l.length ≤ l.length) : ∀ (b : T) (l : List Nz), (∀ x ∈ l, (textZ x).length = lenZ x) → ((textsZ l).map (b ++ ·)).flatten.length = lensZ l + b.length * l.length
  | b, [], _ => by rw [textsZ, lensZ]; simp
  | b, n :: r, h => by
    have h1 := h n (List.mem_cons_self ..)
    have h2 := lens_texts hl b r fun x hx => h x (List.mem_cons_of_mem _ hx)
    rw [textsZ, List.map_cons, List.flatten_cons, List.length_append, List.length_append, h1, h2, lensZ, List.length_cons, Nat.mul_succ]; omega
theorem lens_join (b : T) (l : List Nz) (h : ∀ x ∈ l, (textZ x).length = lenZ x) : (joinL b (textsZ l)).length = lensZ l + b.length * (l.length - 1) := by
  match l, h with
  | [], _ => rw [textsZ, lensZ]; simp [joinL]
  | n :: r, h =>
    have h1 := h n (List.mem_cons_self ..)
    have h2 := lens_texts (fun _ => Nat.le_refl _) b r fun x hx => h x (List.mem_cons_of_mem _ hx)
    rw [textsZ, joinL_cons, List.length_append, h1, h2, lensZ, List.length_cons, Nat.add_sub_cancel, Nat.add_assoc]
theorem shape_cases {k : Int} {s : T} {l : List Nz} (h : shapeZ (.mk k s l) = true) :
    (k = 1 ∧ l = []) ∨ (k = 2 ∧ s = [] ∧ ∃ x, l = [x]) ∨ (k = 3 ∧ s = [] ∧ ∃ x y z, l = [x, y, z]) ∨ (k = 4 ∧ ∃ x r, l = x :: r) ∨ (k = 5 ∧ s = [] ∧ 1 < l.length ∧ l.any lostZ = false) := by
  rw [shapeZ] at h
  split at h
  · exact .inl ⟨by assumption, List.isEmpty_iff.1 h⟩
  · split at h
    · rw [Bool.and_eq_true, decide_eq_true_eq, List.isEmpty_iff] at h
      match l, h with
      | [x], h => exact .inr (.inl ⟨by assumption, h.1, x, rfl⟩)
    · split at h
      · rw [Bool.and_eq_true, decide_eq_true_eq, List.isEmpty_iff] at h
        match l, h with
        | [x, y, z], h => exact .inr (.inr (.inl ⟨by assumption, h.1, x, y, z, rfl⟩))
      · split at h
        · rw [decide_eq_true_eq] at h
          match l, h with
          | x :: r, h => exact .inr (.inr (.inr (.inl ⟨by assumption, x, r, rfl⟩)))
        · split at h
          · rw [Bool.and_eq_true, Bool.and_eq_true, decide_eq_true_eq, List.isEmpty_iff, Bool.not_eq_true'] at h
            exact .inr (.inr (.inr (.inr ⟨by assumption, h.1, h.2.1, h.2.2⟩)))
          · cases h
theorem ok_len : ∀ (N : Nat) (x : Nz), siz x ≤ N → okZ x = true → (textZ x).length = lenZ x
  | 0, x, h, _ => by have := siz_pos x; omega
  | N + 1, .mk k s l, h, ho => by
    rw [siz] at h
    rw [ok_mk, Bool.and_eq_true] at ho
    have hl : ∀ x ∈ l, (textZ x).length = lenZ x := fun x hx => ok_len N x (by have := sizs_le hx; omega) (oks_at ho.2 hx)
    have j0 := lens_join [] l hl
    have j1 := lens_join [44] l hl
    rw [textZ, lenZ, frameZ]
    rcases shape_cases ho.1 with ⟨rfl, rfl⟩ | ⟨rfl, rfl, x, rfl⟩ | ⟨rfl, rfl, x, y, z, rfl⟩ | ⟨rfl, x, r, rfl⟩ | ⟨rfl, rfl, h1, h2⟩
    · rw [if_pos rfl, if_pos rfl, twice_count, lensZ, Nat.add_zero]
    · rw [if_neg (by decide), if_pos rfl, if_neg (by decide), if_pos rfl]
      simp only [List.length_append, List.length_cons, List.length_nil] at j0 ⊢; omega
    · have hx := hl x (by simp)
      have hy := hl y (by simp)
      have hz := hl z (by simp)
      rw [if_neg (by decide), if_neg (by decide), if_pos rfl, if_neg (by decide), if_neg (by decide), if_pos rfl]
      simp only [textsZ, lensZ, List.length_append, List.length_cons, List.length_nil]; omega
    · rw [if_neg (by decide), if_neg (by decide), if_neg (by decide), if_pos rfl, if_neg (by decide), if_neg (by decide), if_neg (by decide), if_pos rfl]
      simp only [List.length_append, List.length_cons, List.length_nil] at j1 ⊢; omega
    · rw [if_neg (by decide), if_neg (by decide), if_neg (by decide), if_neg (by decide), if_pos rfl, if_neg (by decide), if_neg (by decide), if_neg (by decide), if_neg (by decide)]
      simp only [List.length_nil] at j0; omega
theorem text_ok {x : Nz} (h : okZ x = true) : (textZ x).length = lenZ x := ok_len (siz x) x (Nat.le_refl _) h

end Go.Proofs.YtmcdefkpkpaceaaGreatDoor.Kpl

/- The program's kinds: which small type a node is, and whether it has what one of that kind has. -/
namespace Go.Proofs.YtmcdefkpkpaceaaGreatDoor.Kkd
open Go.RowKit Go.Proofs.YtmcdefkpkpaceaaGreatDoor.Spl Go.Proofs.YtmcdefkpkpaceaaGreatDoor.Nodm Go.Proofs.YtmcdefkpkpaceaaGreatDoor.Nz Go.Proofs.YtmcdefkpkpaceaaGreatDoor.Qwhole Go.Proofs.YtmcdefkpkpaceaaGreatDoor.Kpl
open Go.Proofs.YtmcdefkpkpaceaaGreatDoor.Pure (bs)

theorem str_nil (s : T) : ((bs s).toList == []) = s.isEmpty := by
  rw [Lib.toList_data]
  cases s <;> rfl
theorem below_drewN {B : Nat} {w W : World} (h : Below B w W) (n : Nat) : Below B w (W.drewN n) := ⟨h.os, h.tape, h.output, h.size, h.block⟩
theorem alloc_below (w : World) (o : Obj) : Below w.heap.size w (w.alloc o) := (Below.refl _ _).alloc (Nat.le_refl _) _

set_option maxRecDepth 100000 in
set_option maxHeartbeats 1000000 in
theorem lost_is (k : Int) (s : T) (l : List Nz) (A : Option Addr) (q c : Nat) (w : World) :
    Calls Tryz.prog 49 #[.agg #[.int .i64 k, .string (bs s), .slice A q c]] w fun e W' => e = .returned (.bool (lostZ (.mk k s l))) ∧ Below w.heap.size w W' := by
  have HB := Lib.hid (alloc_below w (.cells #[.int .i64 k, .string (bs s), .slice A q c] 25))
  have HL : Hid (lostZ (.mk k s l) = (decide (k = 5) || (decide (k = 1) && s.isEmpty))) := by show _ = _; rw [lostZ]
  have he := str_nil s
  generalize s.isEmpty = z at *
  generalize bs s = x at *
  by_cases h5 : k = 5
  · subst h5
    have hl := HL.out
    rw [decide_eq_true rfl, Bool.true_or] at hl
    rw [hl]
    clear HL hl
    go_enter Tryz.func49, Tryz.ntmps49
    go_wp2
    go_ret
    exact ⟨rfl, HB.out⟩
  · have hl := HL.out
    rw [decide_eq_false h5, Bool.false_or] at hl
    have e5 : (k == 5) = false := beq_eq_false_iff_ne.2 h5
    by_cases h1 : k = 1
    · subst h1
      rw [decide_eq_true rfl, Bool.true_and] at hl
      rw [hl]
      clear HL hl h5
      go_enter Tryz.func49, Tryz.ntmps49
      go_wp2
      go_ret
      exact ⟨rfl, HB.out⟩
    · rw [decide_eq_false h1, Bool.false_and] at hl
      have e1 : (k == 1) = false := beq_eq_false_iff_ne.2 h1
      rw [hl]
      clear HL hl
      go_enter Tryz.func49, Tryz.ntmps49
      go_wp2
      go_ret
      exact ⟨rfl, HB.out⟩

set_option maxRecDepth 100000 in
set_option maxHeartbeats 1000000 in
theorem index_is (S : Nat → Prop) (A : Option Addr) (c : Nat) (l : List Nz) (w : World) (h : NzsIn S w A c l) (hl : l.length ≤ 1099511627776) :
    Calls Tryz.prog 60 #[.slice A l.length c, .func (.func 49) #[] #[]] w fun e W' => (∃ z : Int, e = .returned (.int .i64 z) ∧ decide (0 ≤ z) = l.any lostZ) ∧ Below w.heap.size w W' := by
  have HS := Lib.hid h
  obtain ⟨m, hm⟩ : ∃ m, m = l.length := ⟨_, rfl⟩
  rw [← hm] at hl ⊢
  have HM := Lib.hid hm
  clear h hm
  go_enter Tryz.func60, Tryz.ntmps60
  go_wp2
  go_loopw [8] (fun i wr => ∃ j : Nat, j ≤ m ∧ i = .int .i64 (j : Int) ∧ Hid (Below w.heap.size w wr) ∧ Hid ((l.take j).any lostZ = false)) (fun i _ => m - (intOf i).toNat)
  case atStart => exact ⟨0, Nat.zero_le _, rfl, Below.refl _ _, by show _ = _; rw [List.take_zero]; rfl⟩
  case round =>
    obtain ⟨j, hj, rfl, HB, HT⟩ := hrel
    by_cases hlt : j < m
    · have hl2 : j < l.length := by have := HM.out; omega
      obtain ⟨⟨k, s, l'⟩, hx⟩ : ∃ x, l[j]? = some x := ⟨_, List.getElem?_eq_getElem hl2⟩
      obtain ⟨b, o, A', c', rfl, hb, _, _, hc⟩ := HS.out.at_ hx
      obtain ⟨c0, c1, c2⟩ := hc wr (HB.out.block b hb)
      have HX : Hid ((l.take (j + 1)).any lostZ = lostZ (.mk k s l')) := by
        show _ = _
        rw [take_snoc hx, List.any_append, HT.out, List.any_cons, List.any_nil, Bool.false_or, Bool.or_false]
      have HA : Hid (lostZ (.mk k s l') = true → l.any lostZ = true) := fun h => List.any_eq_true.2 ⟨_, List.mem_of_getElem? hx, h⟩
      have HC := Lib.hid (fun W => lost_is k s l' A' l'.length c' W)
      generalize lostZ (.mk k s l') = z at *
      generalize bs s = x at *
      clear hx hc hl2
      obtain ⟨j1, hj1⟩ : ∃ j1, j1 = j + 1 := ⟨_, rfl⟩
      have w1 : IntKind.i64.wrap ((j : Int) + 1) = ((j1 : Nat) : Int) := by rw [hj1]; exact IntWalk.i64_in _ (by omega)
      have HJ := Lib.hid hj1
      clear hj1
      cases z with
      | true =>
        go_wp2_with (go_at_call 49; refine (HC.out _).mono ?_; rintro e W2 ⟨rfl, hb2⟩; have HB2 := Lib.hid (HB.out.trans (hb2.mono HB.out.size)); clear hb2)
        go_ret
        exact ⟨⟨_, rfl, by rw [HA.out (by first | exact rfl | trivial)]; exact decide_eq_true (by omega)⟩, HB2.out⟩
      | false =>
        go_wp2_with (go_at_call 49; refine (HC.out _).mono ?_; rintro e W2 ⟨rfl, hb2⟩; have HB2 := Lib.hid (HB.out.trans (hb2.mono HB.out.size)); clear hb2)
        go_roundw
        case rel => exact ⟨j1, by have := HJ.out; omega, rfl, HB2, by rw [HJ.out]; exact HX⟩
        case measure => have := HJ.out; simp only [intOf]; omega
    · obtain rfl : j = m := by omega
      have hm := HM.out
      have ht := HT.out
      rw [hm, List.take_length] at ht
      clear HT HM hm
      have HT := Lib.hid ht
      clear ht
      go_wp2
      go_ret
      exact ⟨⟨_, rfl, by rw [HT.out]; decide⟩, HB.out⟩

set_option maxRecDepth 100000 in
set_option maxHeartbeats 1000000 in
theorem contains_is (S : Nat → Prop) (A : Option Addr) (c : Nat) (l : List Nz) (w : World) (h : NzsIn S w A c l) (hl : l.length ≤ 1099511627776) :
    Calls Tryz.prog 48 #[.slice A l.length c, .func (.func 49) #[] #[]] w fun e W' => e = .returned (.bool (l.any lostZ)) ∧ Below w.heap.size w W' := by
  have HI := Lib.hid (index_is S A c l w h hl)
  generalize l.any lostZ = z at *
  generalize l.length = m at *
  clear h
  go_enter Tryz.func48, Tryz.ntmps48
  go_wp2_with (go_at_call 60; refine HI.out.mono ?_; rintro e W2 ⟨⟨y, rfl, hy⟩, hb2⟩; have HB2 := Lib.hid hb2; clear hb2)
  go_ret
  refine ⟨?_, HB2.out⟩
  rw [← hy]
  first | rfl | simp

end Go.Proofs.YtmcdefkpkpaceaaGreatDoor.Kkd

/- The program's table of lists that were measured: keys are places (a pointer and a length). -/
namespace Go.Proofs.YtmcdefkpkpaceaaGreatDoor.Kmp
open Go Go.RowKit Go.Proofs.YtmcdefkpkpaceaaGreatDoor.Spl Go.Proofs.YtmcdefkpkpaceaaGreatDoor.Nodm Go.Proofs.YtmcdefkpkpaceaaGreatDoor.Nz Go.Proofs.YtmcdefkpkpaceaaGreatDoor.Kpl
open Go.Proofs.YtmcdefkpkpaceaaGreatDoor.Pure (bs)

/-! ### a value of memory is one expansion alone -/
theorem three_det {w : World} {b o j : Nat} {v v' : Value} (h : Three w b o j v) (h' : Three w b o j v') : v = v' := by
  obtain ⟨x, y, z, rfl, e1, e2, e3⟩ := h
  obtain ⟨x', y', z', rfl, f1, f2, f3⟩ := h'
  rw [e1] at f1
  rw [e2] at f2
  rw [e3] at f3
  rw [Option.some.inj f1, Option.some.inj f2, Option.some.inj f3]
theorem row_det {S S' : Nat → Prop} {w : World} {A : Option Addr} {n : Nat} {vs vs' : Nat → Value} (h : RowIn S w A n vs) (h' : RowIn S' w A n vs') : ∀ j, j < n → vs j = vs' j := by
  intro j hj
  rcases h with h0 | ⟨b, o, rfl, _, _, _, h3⟩
  · omega
  · rcases h' with h0 | ⟨b', o', e, _, _, _, h3'⟩
    · omega
    · cases e
      exact three_det (h3 j hj) (h3' j hj)
theorem bs_inj {s t : T} (h : bs s = bs t) : s = t := by
  have := congrArg (fun x : ByteArray => x.data.toList) h
  simpa [bs] using this
theorem nz_det {S S' : Nat → Prop} {w : World} {v : Value} {x : Nz} (h : NzIn S w v x) : ∀ {x' : Nz}, NzIn S' w v x' → x = x' := by
  induction h with
  | mk k s l A c vs hc hr _ ih =>
    intro x' h'
    obtain ⟨k', s', l'⟩ := x'
    obtain ⟨A', c', e, _, vs', hr', hn'⟩ := h'.inv
    simp only [Value.agg.injEq, Array.mk.injEq, List.cons.injEq, Value.int.injEq, Value.string.injEq, Value.slice.injEq, and_true, true_and] at e
    obtain ⟨rfl, e2, rfl, e3, rfl⟩ := e
    rw [bs_inj e2]
    congr 1
    refine List.ext_getElem? fun j => ?_
    by_cases hj : j < l.length
    · have h1 : l[j]? = some l[j] := List.getElem?_eq_getElem hj
      have h2 : l'[j]? = some (l'[j]'(by omega)) := List.getElem?_eq_getElem _
      have h3 := hn' j _ h2
      have e0 := row_det hr (by rw [e3]; exact hr') j hj
      rw [← e0] at h3
      rw [h1, h2, ih j _ h1 h3]
    · rw [List.getElem?_eq_none (by omega), List.getElem?_eq_none (by omega)]
theorem nzs_det {S S' : Nat → Prop} {w : World} {A : Option Addr} {c c' : Nat} {l l' : List Nz} (h : NzsIn S w A c l) (h' : NzsIn S' w A c' l') (e : l.length = l'.length) : l = l' := by
  obtain ⟨_, vs, hr, hn⟩ := h
  obtain ⟨_, vs', hr', hn'⟩ := h'
  refine List.ext_getElem? fun j => ?_
  by_cases hj : j < l.length
  · have h1 : l[j]? = some l[j] := List.getElem?_eq_getElem hj
    have h2 : l'[j]? = some (l'[j]'(by omega)) := List.getElem?_eq_getElem _
    have h3 := hn' j _ h2
    have e0 := row_det hr (by rw [e]; exact hr') j hj
    rw [← e0] at h3
    rw [h1, h2, nz_det (hn j _ h1) h3]
  · rw [List.getElem?_eq_none (by omega), List.getElem?_eq_none (by omega)]
/-- a list that is not empty: where it lies -/
theorem nzs_at {S : Nat → Prop} {w : World} {A : Option Addr} {c : Nat} {l : List Nz} (h : NzsIn S w A c l) (hl : 0 < l.length) (h0 : ¬ S 0) : ∃ b o, A = some ⟨b, o, none⟩ ∧ b < w.heap.size ∧ S b ∧ Unm w b := by
  obtain ⟨_, vs, hr, _⟩ := h
  rcases hr with h1 | ⟨b, o, h1, h2, h3, h4, _⟩
  · omega
  · exact ⟨b, o, h1, h2, h3, h4.resolve_left h0⟩

/-! ### places as keys -/
def keyV (b o q : Nat) : Value := .agg #[.pointer (some ⟨b, o, none⟩), .int .i64 (q : Int)]
def extV (n l : Nat) : Value := .agg #[.int .i64 (n : Int), .int .i64 (l : Int)]

theorem sizeNode : (Tryz.prog.info? 25).map (·.size) = some 3 := by kernel_rfl
theorem stood : Tryz.prog.stoodInHeld 108 = false := by kernel_rfl

theorem equal_ptr (w : World) (d b o b' o' : Nat) (h : Unm w b) (h' : Unm w b') :
    (Op.equalIn (d + 1) 106 (.pointer (some ⟨b, o, none⟩)) (.pointer (some ⟨b', o', none⟩))).run Tryz.prog w = .ok (decide (b = b' ∧ o = o')) w := by
  obtain ⟨cs, t, hb⟩ := h
  obtain ⟨cs', t', hb'⟩ := h'
  obtain ⟨j, hj, hjs⟩ := Option.map_eq_some_iff.1 sizeNode
  by_cases e : b = b' ∧ o = o'
  · obtain ⟨rfl, rfl⟩ := e
    simp [Op.equalIn, run_underlying Tryz.underlying106, sizeOf, typeInfo, hj, run_sameAddr_same]
  · have hne : (⟨b, o, none⟩ : Addr) ≠ ⟨b', o', none⟩ := fun h => e (by simpa using h)
    rw [decide_eq_false e]
    simp [Op.equalIn, run_underlying Tryz.underlying106, sizeOf, typeInfo, hj, hjs, run_sameAddr_other w hne hb hb']
theorem equal_int (w : World) (d : Nat) (q q' : Int) : (Op.equalIn (d + 1) 3 (.int .i64 q) (.int .i64 q')).run Tryz.prog w = .ok (q == q') w := by
  simp [Op.equalIn, run_underlying Tryz.underlying3]
theorem part_ptr (w : World) (x y : Value) : (part 106 #[x, y] 0).run Tryz.prog w = .ok x w := by
  simp [part, isAgg, run_underlying Tryz.underlying106]
theorem part_int (w : World) (x y : Value) : (part 3 #[x, y] 1).run Tryz.prog w = .ok y w := by
  simp [part, isAgg, run_underlying Tryz.underlying3]
set_option maxRecDepth 100000 in
theorem equal_is (w : World) (b o q b' o' q' : Nat) (h : Unm w b) (h' : Unm w b') :
    (Op.equal 108 (keyV b o q) (keyV b' o' q')).run Tryz.prog w = .ok (decide (b = b' ∧ o = o' ∧ q = q')) w := by
  have hp := fun d => equal_ptr w d b o b' o' h h'
  have hi := fun d => equal_int w d (q : Int) (q' : Int)
  show (Op.equalIn (9998 + 2) _ _ _).run _ _ = _
  generalize 9998 = d
  unfold keyV
  rw [Op.equalIn]
  simp [run_underlying Tryz.underlying108, part_ptr, part_int, hp, hi]
  by_cases h1 : b = b'
  · by_cases h2 : o = o'
    · by_cases h3 : q = q'
      · rw [if_neg (by simp [h1, h2]), if_pos (by rw [h3]), decide_eq_true h1, decide_eq_true h2, decide_eq_true h3]; rfl
      · rw [if_neg (by simp [h1, h2]), if_neg (by omega), decide_eq_true h1, decide_eq_true h2, decide_eq_false h3]; rfl
    · rw [if_pos (fun _ => h2), decide_eq_false h2, Bool.false_and, Bool.and_false]
  · rw [if_pos (fun h => absurd h h1), decide_eq_false h1, Bool.false_and]

theorem check_ptr (w : World) (em : Bool) (d : Nat) (x : Option Addr) : (Instr.checkKey em (d + 1) 106 (.pointer x)).run Tryz.prog w = .ok () w := by
  simp [Instr.checkKey, run_underlying Tryz.underlying106]
theorem check_int (w : World) (em : Bool) (d : Nat) (q : Int) : (Instr.checkKey em (d + 1) 3 (.int .i64 q)).run Tryz.prog w = .ok () w := by
  simp [Instr.checkKey, run_underlying Tryz.underlying3]
set_option maxRecDepth 100000 in
theorem check_key (w : World) (em : Bool) (d b o q : Nat) : (Instr.checkKey em (d + 2) 108 (keyV b o q)).run Tryz.prog w = .ok () w := by
  have hp := fun x => check_ptr w em d x
  have hi := fun q => check_int w em d q
  unfold keyV
  rw [Instr.checkKey]
  simp [run_underlying Tryz.underlying108, part_ptr, part_int, hp, hi]

/-- a place among the table's entries -/
theorem find_asking (w : World) (b o q : Nat) (h : Unm w b) : ∀ (es : List MapEntry) (i : Nat), (∀ e ∈ es, ∃ b' o' q', e.key = keyV b' o' q' ∧ Unm w b') →
    ∃ r : Option (Nat × Value), (Instr.findAsking 108 (keyV b o q) es i).run Tryz.prog w = .ok r w ∧ (r = none ∨ ∃ j e, r = some (i + j, e.val) ∧ es[j]? = some e ∧ e.key = keyV b o q)
  | [], i, _ => ⟨none, by simp [Instr.findAsking], .inl rfl⟩
  | e :: r, i, he => by
    obtain ⟨b', o', q', e1, e2⟩ := he e (List.mem_cons_self ..)
    have hq := equal_is w b o q b' o' q' h e2
    by_cases hd : b = b' ∧ o = o' ∧ q = q'
    · rw [decide_eq_true hd, ← e1] at hq
      obtain ⟨rfl, rfl, rfl⟩ := hd
      exact ⟨some (i, e.val), by simp [Instr.findAsking, hq], .inr ⟨0, e, rfl, rfl, e1⟩⟩
    · rw [decide_eq_false hd, ← e1] at hq
      obtain ⟨x, h1, h2⟩ := find_asking w b o q h r (i + 1) fun y hy => he y (List.mem_cons_of_mem _ hy)
      refine ⟨x, by simp [Instr.findAsking, hq, h1], h2.imp id ?_⟩
      rintro ⟨j, y, rfl, h4, h5⟩
      exact ⟨j + 1, y, by rw [show i + 1 + j = i + (j + 1) by omega], by simpa using h4, h5⟩
theorem find_key (w : World) (b o q : Nat) (h : Unm w b) (es : List MapEntry) (he : ∀ e ∈ es, ∃ b' o' q', e.key = keyV b' o' q' ∧ Unm w b') :
    ∃ r : Option (Nat × Value), (Instr.findKey 108 (keyV b o q) es).run Tryz.prog w = .ok r w ∧ (r = none ∨ ∃ j e, r = some (j, e.val) ∧ es[j]? = some e ∧ e.key = keyV b o q) := by
  obtain ⟨r, h1, h2⟩ := find_asking w b o q h es 0 he
  cases es with
  | nil =>
    refine ⟨none, ?_, .inl rfl⟩
    simp [Instr.findKey, run_underlying Tryz.underlying108, Instr.findNow]
  | cons e t =>
    refine ⟨r, ?_, by simpa using h2⟩
    simp [Instr.findKey, run_underlying Tryz.underlying108, Instr.findNow, Instr.sameNow, h1]
theorem get_m {w : World} {r : Nat} {es : Array MapEntry} {n : Nat} (h : w.heap[r]? = some (.map es n)) : (getObj r).run Tryz.prog w = .ok (.map es n) w := by simp [getObj, Sem.run, h]
theorem set_m {w : World} {r : Nat} {es : Array MapEntry} {n : Nat} (h : w.heap[r]? = some (.map es n)) (o : Obj) : (setObj r o).run Tryz.prog w = .ok () { w with heap := w.heap.setIfInBounds r o } := by simp [setObj, Sem.run, h]

/-- the table: which entries it may have -/
def Table (E : Nat → Nat → Nat → Value → Prop) (mb : Nat) (w : World) : Prop :=
  ∃ es n, w.heap[mb]? = some (.map es n) ∧ ∀ e ∈ es.toList, ∃ b o q, e.key = keyV b o q ∧ Unm w b ∧ b ≠ mb ∧ E b o q e.val
theorem Table.lookup {E : Nat → Nat → Nat → Value → Prop} {mb : Nat} {w : World} (h : Table E mb w) (b o q : Nat) (hu : Unm w b) :
    ∃ (v : Value) (z : Bool), (Instr.lookup 43 (.map (some mb)) (keyV b o q) true).run Tryz.prog w = .ok (.tuple #[v, .bool z]) w ∧ ((z = false ∧ v = extV 0 0) ∨ (z = true ∧ E b o q v)) := by
  obtain ⟨es, n, hm, he⟩ := h
  obtain ⟨r, h1, h2⟩ := find_key w b o q hu es.toList fun e hx => by
    obtain ⟨b', o', q', e1, e2, _⟩ := he e hx
    exact ⟨b', o', q', e1, e2⟩
  have hc := check_key w es.isEmpty 9998 b o q
  rcases h2 with rfl | ⟨j, e, rfl, h3, h4⟩
  · refine ⟨extV 0 0, false, ?_, .inl ⟨rfl, rfl⟩⟩
    simp [Instr.lookup, run_underlying Tryz.underlying43, get_m hm, hc, h1]
    rfl
  · refine ⟨e.val, true, ?_, .inr ⟨rfl, ?_⟩⟩
    · simp [Instr.lookup, run_underlying Tryz.underlying43, get_m hm, hc, h1]
    · obtain ⟨b', o', q', e1, _, _, e3⟩ := he e (List.mem_of_getElem? h3)
      rw [h4] at e1
      simp only [keyV, Value.agg.injEq, Array.mk.injEq, List.cons.injEq, Value.pointer.injEq, Option.some.injEq, Addr.mk.injEq, Value.int.injEq, Int.natCast_inj, and_true, true_and] at e1
      obtain ⟨⟨rfl, rfl⟩, rfl⟩ := e1
      exact e3

/-- nothing but the block b, and new blocks, differs -/
structure Far (b : Nat) (w W : World) : Prop where
  os : W.os = w.os
  tape : W.tape = w.tape
  output : W.output = w.output
  size : w.heap.size ≤ W.heap.size
  block : ∀ k, k < w.heap.size → k ≠ b → W.heap[k]? = w.heap[k]?
theorem Far.below {B b : Nat} {w W : World} (h : Far b w W) (hB : B ≤ b) (hz : B ≤ w.heap.size) : Below B w W := ⟨h.os, h.tape, h.output, h.size, fun k hk => h.block k (by omega) (by omega)⟩
theorem Far.refl (b : Nat) (w : World) : Far b w w := ⟨rfl, rfl, rfl, Nat.le_refl _, fun _ _ _ => rfl⟩
theorem Far.of {b : Nat} {w W : World} (h : Below w.heap.size w W) : Far b w W := ⟨h.os, h.tape, h.output, h.size, fun k hk _ => h.block k hk⟩
theorem Far.trans {b : Nat} {w W X : World} (h : Far b w W) (k : Far b W X) : Far b w X := ⟨k.os.trans h.os, k.tape.trans h.tape, k.output.trans h.output, Nat.le_trans h.size k.size, fun j hj hb => (k.block j (Nat.lt_of_lt_of_le hj h.size) hb).trans (h.block j hj hb)⟩
theorem unm_lt {w : World} {b : Nat} (h : Unm w b) : b < w.heap.size := by
  obtain ⟨_, _, h⟩ := h
  exact (Array.getElem?_eq_some_iff.1 h).1
theorem Table.on {E : Nat → Nat → Nat → Value → Prop} {mb : Nat} {w W : World} (h : Table E mb w) (hb : Below w.heap.size w W) : Table E mb W := by
  obtain ⟨es, n, hm, he⟩ := h
  refine ⟨es, n, (hb.block mb (Array.getElem?_eq_some_iff.1 hm).1).trans hm, fun e hx => ?_⟩
  obtain ⟨b, o, q, e1, e2, e3, e4⟩ := he e hx
  exact ⟨b, o, q, e1, e2.move (hb.block b (unm_lt e2)), e3, e4⟩
theorem Table.made (E : Nat → Nat → Nat → Value → Prop) (w : World) : Table E w.heap.size (w.alloc (.map #[] 0)) :=
  ⟨#[], 0, heap_alloc_new w _, fun e h => by cases h⟩
theorem Table.update {E : Nat → Nat → Nat → Value → Prop} {mb : Nat} {w : World} (h : Table E mb w) (b o q : Nat) (hu : Unm w b) (hmb : b ≠ mb) (v : Value) (hE : E b o q v) :
    ∃ W, (Instr.mapUpdate 43 (.map (some mb)) (keyV b o q) v).run Tryz.prog w = .ok () W ∧ Table E mb W ∧ Far mb w W ∧ W.heap.size = w.heap.size := by
  obtain ⟨es, n, hm, he⟩ := h
  obtain ⟨r, h1, h2⟩ := find_key w b o q hu es.toList fun e hx => by
    obtain ⟨b', o', q', e1, e2, _⟩ := he e hx
    exact ⟨b', o', q', e1, e2⟩
  have hc := check_key w false 9998 b o q
  have hlt : mb < w.heap.size := (Array.getElem?_eq_some_iff.1 hm).1
  have hfar : ∀ (ob : Obj), Far mb w { w with heap := w.heap.setIfInBounds mb ob } := fun ob => ⟨rfl, rfl, rfl, by simp, fun k hk hne => by
    show (w.heap.setIfInBounds mb ob)[k]? = _
    rw [Array.getElem?_setIfInBounds_ne (fun e => hne e.symm)]⟩
  have hnew : ∀ (ob : Obj), ({ w with heap := w.heap.setIfInBounds mb ob } : World).heap[mb]? = some ob := fun ob => by
    show (w.heap.setIfInBounds mb ob)[mb]? = _
    rw [Array.getElem?_setIfInBounds_self_of_lt hlt]
  have hkeep : ∀ (ob : Obj) (b' : Nat), Unm w b' → b' ≠ mb → Unm { w with heap := w.heap.setIfInBounds mb ob } b' := fun ob b' h hne => h.move ((hfar ob).block b' (unm_lt h) hne)
  rcases h2 with rfl | ⟨j, e, rfl, h3, h4⟩
  · refine ⟨{ w with heap := w.heap.setIfInBounds mb (.map (es.push ⟨keyV b o q, v, n⟩) (n + 1)) }, ?_, ⟨_, _, hnew _, fun x hx => ?_⟩, hfar _, by simp⟩
    · simp [Instr.mapUpdate, run_underlying Tryz.underlying43, get_m hm, hc, h1, set_m hm]
    · rw [Array.toList_push, List.mem_append, List.mem_singleton] at hx
      rcases hx with hx | rfl
      · obtain ⟨b', o', q', e1, e2, e3, e4⟩ := he x hx
        exact ⟨b', o', q', e1, hkeep _ _ e2 e3, e3, e4⟩
      · exact ⟨b, o, q, rfl, hkeep _ _ hu hmb, hmb, hE⟩
  · have hs : Instr.sameBits 10000 (keyV b o q) (keyV b o q) = true := by
      unfold keyV
      rw [Instr.sameBits.eq_def]
      simp [Instr.sameBits]
    have hje : es[j]? = some e := by simpa using h3
    refine ⟨{ w with heap := w.heap.setIfInBounds mb (.map (es.modify j fun e => { e with key := keyV b o q, val := v }) n) }, ?_, ⟨_, _, hnew _, fun x hx => ?_⟩, hfar _, by simp⟩
    · simp [Instr.mapUpdate, run_underlying Tryz.underlying43, get_m hm, hc, h1, Instr.keyThatStays, hje, h4, hs, set_m hm]
    · obtain ⟨i, hi⟩ := List.getElem?_of_mem hx
      rw [Array.getElem?_toList, Array.getElem?_modify] at hi
      by_cases hij : j = i
      · rw [if_pos hij, ← hij, hje] at hi
        cases hi
        exact ⟨b, o, q, rfl, hkeep _ _ hu hmb, hmb, hE⟩
      · rw [if_neg hij] at hi
        obtain ⟨b', o', q', e1, e2, e3, e4⟩ := he x (by
          rw [← Array.getElem?_toList] at hi
          exact List.mem_of_getElem? hi)
        exact ⟨b', o', q', e1, hkeep _ _ e2 e3, e3, e4⟩

end Go.Proofs.YtmcdefkpkpaceaaGreatDoor.Kmp
