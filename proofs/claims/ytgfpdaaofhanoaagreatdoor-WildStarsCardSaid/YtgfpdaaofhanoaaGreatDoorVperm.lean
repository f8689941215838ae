/- What has been collected, whichever order it came in (no program). -/
import Derived.Test.YtgfpdaaofhanoaaGreatDoorVlook
namespace Go.Proofs.YtgfpdaaofhanoaaGreatDoor.Vperm
open Go.Proofs.YtgfpdaaofhanoaaGreatDoor.Pth Go.Proofs.YtgfpdaaofhanoaaGreatDoor.Srt Go.Proofs.YtgfpdaaofhanoaaGreatDoor.Vfs Go.Proofs.YtgfpdaaofhanoaaGreatDoor.Vnew

theorem filter_split {α : Type} (f g h : α → Bool) : ∀ (L : List α), (∀ e ∈ L, g e = (f e || h e)) → (∀ e ∈ L, ¬ (f e = true ∧ h e = true)) → (L.filter g).Perm (L.filter f ++ L.filter h)
  | [], _, _ => List.Perm.refl _
  | e :: L, h1, h2 => by
    have ih := filter_split f g h L (fun a ha => h1 a (List.mem_cons_of_mem _ ha)) (fun a ha => h2 a (List.mem_cons_of_mem _ ha))
    have e1 := h1 e List.mem_cons_self
    have e2 := h2 e List.mem_cons_self
    rw [List.filter_cons, List.filter_cons, List.filter_cons, e1]
    cases hf : f e <;> cases hh : h e
    · simpa using ih
    · simp only [Bool.false_or, if_true]
      exact (ih.cons e).trans (List.perm_middle.symm)
    · simp only [Bool.or_false, if_true]
      exact ih.cons e
    · exact absurd ⟨hf, hh⟩ e2
theorem filter_one : ∀ {L : List Ent}, (L.map Ent.pt).Nodup → ∀ {e0 : Ent}, e0 ∈ L → L.filter (fun e => decide (e.pt = e0.pt)) = [e0]
  | [], _, _, h => absurd h List.not_mem_nil
  | a :: L, hn, e0, h => by
    rw [List.map_cons, List.nodup_cons] at hn
    rw [List.filter_cons]
    rcases List.mem_cons.1 h with rfl | h'
    · have h0 : L.filter (fun e => decide (e.pt = e0.pt)) = [] := by
        rw [List.filter_eq_nil_iff]
        intro b hb
        simp only [decide_eq_true_eq]
        exact fun e => hn.1 (by rw [← e]; exact List.mem_map_of_mem hb)
      simp [h0]
    · have hne : ¬ a.pt = e0.pt := fun e => hn.1 (by rw [e]; exact List.mem_map_of_mem h')
      simp only [hne, decide_false]
      exact filter_one hn.2 h'

/-- the directory a thing is in -/
def upOf (e : Ent) : Wy := e.pt.dropLast
def nameOf (e : Ent) : List UInt8 := e.pt.getLastD []
theorem pt_snoc {e : Ent} (h : e.pt ≠ []) : e.pt = upOf e ++ [nameOf e] := by
  unfold upOf nameOf
  rw [List.getLastD_eq_getLast?, List.getLast?_eq_some_getLast h]
  exact (List.dropLast_concat_getLast h).symm
theorem upOf_snoc {e : Ent} {p : Wy} {x : List UInt8} (h : e.pt = p ++ [x]) : upOf e = p ∧ nameOf e = x := by
  unfold upOf nameOf
  rw [h]
  exact ⟨List.dropLast_concat, by simp⟩
theorem Inv.upOf_dl {L : List Ent} (hi : Inv L) {e : Ent} (he : e ∈ L) : upOf e ∈ dl L := by
  rw [mem_dl]
  exact (hi.up e he _ _ (pt_snoc (hi.ne e he))).imp id fun ⟨d, h1, h2, h3⟩ => ⟨d, h1, h3, h2⟩

/-- of the directories by their numbers those are done that are no longer to come -/
def doneO (L : List Ent) (left : Lit → Bool) (e : Ent) : Bool := !left (.int .i64 (num (dl L) (upOf e) : Nat))
def doneI (p : Wy) (left : Lit → Bool) (e : Ent) : Bool := decide (upOf e = p) && !left (.string (nameOf e))

theorem sameKey_int (i j : Int) : (Lit.int .i64 i).sameKey (.int .i64 j) = decide (i = j) := by
  simp [Lit.sameKey]
theorem sameKey_str (x y : List UInt8) : (Lit.string x).sameKey (.string y) = decide (x = y) := by
  rw [Bool.eq_iff_iff]
  simp [Lit.sameKey]

/-- a directory is begun -/
theorem begin_dir {L : List Ent} {p : Wy} {left : Lit → Bool} (h : ∀ e ∈ L, upOf e = p → left (.string (nameOf e)) = true) : L.filter (doneI p left) = [] := by
  rw [List.filter_eq_nil_iff]
  intro e he hd
  unfold doneI at hd
  rw [Bool.and_eq_true, decide_eq_true_eq] at hd
  rw [h e he hd.1] at hd
  cases hd.2
/-- one more name of it -/
theorem step_name {L : List Ent} (hi : Inv L) {p : Wy} {left : Lit → Bool} {e0 : Ent} {x : List UInt8} (he : e0 ∈ L) (hp : e0.pt = p ++ [x]) (hl : left (.string x) = true) :
    (L.filter (doneI p fun z => left z && !z.sameKey (.string x))).Perm (L.filter (doneI p left) ++ [e0]) := by
  rw [← filter_one hi.nodup he]
  refine filter_split _ _ _ L (fun e hm => ?_) (fun e hm => ?_)
  · unfold doneI
    show (decide (upOf e = p) && !(left (.string (nameOf e)) && !(Lit.string (nameOf e)).sameKey (.string x))) = _
    rw [sameKey_str]
    by_cases h1 : e.pt = e0.pt
    · obtain ⟨h2, h3⟩ := upOf_snoc (h1.trans hp)
      simp [h1, h2, h3]
    · have h4 : ¬ (upOf e = p ∧ nameOf e = x) := fun h5 => h1 (by rw [pt_snoc (hi.ne e hm), hp, h5.1, h5.2])
      by_cases h2 : upOf e = p
      · have h3 : nameOf e ≠ x := fun h5 => h4 ⟨h2, h5⟩
        simp [h1, h2, h3]
      · simp [h1, h2]
  · rintro ⟨h1, h2⟩
    obtain ⟨h3, h4⟩ := upOf_snoc ((of_decide_eq_true h2).trans hp)
    unfold doneI at h1
    rw [h4, hl] at h1
    simp at h1
/-- a directory is done -/
theorem end_dir {L : List Ent} (hi : Inv L) {p : Wy} {i : Int} {leftO leftI : Lit → Bool} (hp : p ∈ dl L) (hn : i = (num (dl L) p : Nat)) (hl : leftO (.int .i64 i) = true) (h0 : ∀ kl, leftI kl = false) :
    (L.filter (doneO L fun z => leftO z && !z.sameKey (.int .i64 i))).Perm (L.filter (doneO L leftO) ++ L.filter (doneI p leftI)) := by
  refine filter_split _ _ _ L (fun e hm => ?_) (fun e hm => ?_)
  · unfold doneO doneI
    show (!(leftO (.int .i64 (num (dl L) (upOf e) : Nat)) && !(Lit.int .i64 (num (dl L) (upOf e) : Nat)).sameKey (.int .i64 i))) = _
    rw [sameKey_int, h0]
    by_cases h1 : upOf e = p
    · rw [h1, ← hn]; simp
    · have h2 : ¬ (((num (dl L) (upOf e) : Nat) : Int) = i) := fun h3 => h1 (by
        obtain ⟨a, ha1, _, ha3⟩ := num_at (Inv.upOf_dl hi hm)
        obtain ⟨b, hb1, _, hb3⟩ := num_at hp
        have : a = b := by omega
        subst this
        rw [ha3] at hb3
        exact Option.some.inj hb3)
      simp [h1, h2]
  · rintro ⟨h1, h2⟩
    unfold doneO at h1
    unfold doneI at h2
    rw [Bool.and_eq_true, decide_eq_true_eq] at h2
    rw [h2.1, ← hn, hl] at h1
    cases h1
theorem end_all {L : List Ent} {left : Lit → Bool} (h0 : ∀ kl, left kl = false) : L.filter (doneO L left) = L := by
  rw [List.filter_eq_self]
  intro e _
  unfold doneO
  rw [h0]; rfl
theorem start_all {L : List Ent} {left : Lit → Bool} (h0 : ∀ e ∈ L, left (.int .i64 (num (dl L) (upOf e) : Nat)) = true) : L.filter (doneO L left) = [] := by
  rw [List.filter_eq_nil_iff]
  intro e he hd
  unfold doneO at hd
  rw [h0 e he] at hd
  cases hd

end Go.Proofs.YtgfpdaaofhanoaaGreatDoor.Vperm
