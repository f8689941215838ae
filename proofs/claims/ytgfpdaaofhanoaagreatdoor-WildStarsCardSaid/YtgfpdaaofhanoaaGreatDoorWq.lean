/- Walks without sorting (no program): what can be reckoned out. -/
import Derived.Test.YtgfpdaaofhanoaaGreatDoorWok
namespace Go.Proofs.YtgfpdaaofhanoaaGreatDoor.Wq
open Go.RowKit Go.Proofs.YtgfpdaaofhanoaaGreatDoor.Pth Go.Proofs.YtgfpdaaofhanoaaGreatDoor.Strs Go.Proofs.YtgfpdaaofhanoaaGreatDoor.Vfs Go.Proofs.YtgfpdaaofhanoaaGreatDoor.Vmap Go.Proofs.YtgfpdaaofhanoaaGreatDoor.Vnames Go.Proofs.YtgfpdaaofhanoaaGreatDoor.Vnew Go.Proofs.YtgfpdaaofhanoaaGreatDoor.Vfind Go.Proofs.YtgfpdaaofhanoaaGreatDoor.Vlook Go.Proofs.YtgfpdaaofhanoaaGreatDoor.Wdp Go.Proofs.YtgfpdaaofhanoaaGreatDoor.Wst Go.Proofs.YtgfpdaaofhanoaaGreatDoor.Wsp Go.Proofs.YtgfpdaaofhanoaaGreatDoor.Wnm Go.Proofs.YtgfpdaaofhanoaaGreatDoor.Wwk Go.Proofs.YtgfpdaaofhanoaaGreatDoor.Wwt Go.Proofs.YtgfpdaaofhanoaaGreatDoor.Wlx Go.Proofs.YtgfpdaaofhanoaaGreatDoor.Wly Go.Proofs.YtgfpdaaofhanoaaGreatDoor.Wex Go.Proofs.YtgfpdaaofhanoaaGreatDoor.Wok

def listQ (L : List Ent) (s : ByteArray) : List T := match lookN L s with
  | some q => if q.d then kids L (partsOf s) else []
  | none => []
def namesQ (L : List Ent) (st : Pt) (s : ByteArray) : List T := if st.magic then (listQ L s).filter (Gmatch.matchL st.text) else [st.text]
def stepQ (L : List Ent) (st : Pt) (k : T) (t : List T) : List (T × List T) := if dirP L k then (namesQ L st (bs k)).flatMap (stepX L k t) else []
def walksQ (L : List Ent) (sts : List Pt) : List (T × List T) := sts.foldl (fun W st => W.flatMap fun y => stepQ L st y.1 y.2) [([47], [])]
theorem list_perm {L : List Ent} (hi : Vfs.Inv L) (s : ByteArray) : (listN L s).Perm (listQ L s) := by
  unfold listN listQ
  cases lookN L s with
  | none => exact List.Perm.refl _
  | some q =>
    show (if q.d then Srt.sortT (kids L (partsOf s)) else []).Perm (if q.d then kids L (partsOf s) else [])
    cases q.d with
    | false => exact List.Perm.refl _
    | true =>
      have h1 : (Srt.sortT (kids L (partsOf s))).Nodup := (Srt.sortT_up _).imp fun h e => by rw [e] at h; exact List.lt_irrefl _ h
      exact (List.perm_ext_iff_of_nodup h1 (kids_nodup _ L hi.nodup)).2 fun x => Srt.sortT_mem _ x
theorem names_perm {L : List Ent} (hi : Vfs.Inv L) (st : Pt) (s : ByteArray) : (namesP L st s).Perm (namesQ L st s) := by
  unfold namesP namesQ
  split
  · exact (list_perm hi s).filter _
  · exact List.Perm.refl _
theorem step_perm {L : List Ent} (hi : Vfs.Inv L) (st : Pt) (k : T) (t : List T) : (stepW L st k t).Perm (stepQ L st k t) := by
  unfold stepW stepQ
  split
  · exact (names_perm hi st _).flatMap_right _
  · exact List.Perm.refl _
theorem walks_perm {L : List Ent} (hi : Vfs.Inv L) (sts : List Pt) : (walksP L sts).Perm (walksQ L sts) := by
  unfold walksP walksQ
  generalize [(([47] : T), ([] : List T))] = W0
  have h : ∀ (sts : List Pt) (W W' : List (T × List T)), W.Perm W' → (sts.foldl (fun W st => W.flatMap fun y => stepW L st y.1 y.2) W).Perm (sts.foldl (fun W st => W.flatMap fun y => stepQ L st y.1 y.2) W') := by
    intro sts
    induction sts with
    | nil => intro W W' h; exact h
    | cons st r ih =>
      intro W W' h
      exact ih _ _ ((flatMap_perm fun y _ => step_perm hi st y.1 y.2).trans (h.flatMap_right _))
  exact h sts _ _ (List.Perm.refl _)
/-- the names, unsorted -/
def foundQ (L : List Ent) (s : T) : List T := (walksQ L (stepsP s (partsP s))).map fun y => Lib.join y.2 [47]
/-- all that is asked of a word, as a check -/
def okQ (L : List Ent) (s : T) : Bool :=
  decide (s.length ≤ 400000) && decide ((partsP s).length ≤ 1000001) && decide (sizeP (partsP s) ≤ 140737488355328) && decide ((joinT (partsP s)).length ≤ 400000) &&
  (stepsP s (partsP s)).all (fun st => decide (st.text.length ≤ 400000)) && decide ((stepsP s (partsP s)).length ≤ 100000) &&
  (!anyM (partsP s) || (!(stepsP s (partsP s)).isEmpty && decide ((walksQ L (stepsP s (partsP s))).length ≤ 1000000000000) && (walksQ L (stepsP s (partsP s))).all fun y => decide ((Lib.join y.2 [47]).length ≤ 1000000000)))
theorem WordOk.of {L : List Ent} (hi : Vfs.Inv L) {s : T} (h : okQ L s = true) : WordOk L s := by
  unfold okQ at h
  simp only [Bool.and_eq_true, decide_eq_true_eq, List.all_eq_true] at h
  obtain ⟨⟨⟨⟨⟨⟨h1, h2⟩, h3⟩, h4⟩, h5⟩, h6⟩, h7⟩ := h
  have h8 : anyM (partsP s) = true → ((stepsP s (partsP s)) ≠ [] ∧ (walksQ L (stepsP s (partsP s))).length ≤ 1000000000000) ∧ ∀ y ∈ walksQ L (stepsP s (partsP s)), (Lib.join y.2 [47]).length ≤ 1000000000 := fun ha => by
    rw [ha] at h7
    simp only [Bool.not_true, Bool.false_or, Bool.and_eq_true, decide_eq_true_eq, List.all_eq_true, Bool.not_eq_true', List.isEmpty_eq_false_iff] at h7
    exact h7
  have hp := walks_perm hi (stepsP s (partsP s))
  exact ⟨h1, h2, h3, h4, h5, h6, fun ha => (h8 ha).1.1, fun ha => by rw [hp.length_eq]; exact (h8 ha).1.2, fun ha y hy => (h8 ha).2 y (hp.mem_iff.1 hy)⟩
theorem expand_magic {L : List Ent} (hi : Vfs.Inv L) {s : T} (h : anyM (partsP s) = true) : expandP L s = (foundQ L s).mergeSort fun x y => decide (x ≤ y) := by
  unfold expandP
  have hne : partsP s ≠ [] := fun e => by rw [e] at h; cases h
  rw [if_neg hne, if_pos h]
  exact sort_perm ((walks_perm hi _).map _)
theorem expand_one {L : List Ent} (hi : Vfs.Inv L) {s x : T} (h : anyM (partsP s) = true) (hf : foundQ L s = [x]) : expandP L s = [x] := by
  rw [expand_magic hi h, hf, List.mergeSort_singleton]
theorem expand_len {L : List Ent} (hi : Vfs.Inv L) {s : T} (h : anyM (partsP s) = true) : (expandP L s).length = (foundQ L s).length := by
  rw [expand_magic hi h, List.length_mergeSort]

end Go.Proofs.YtgfpdaaofhanoaaGreatDoor.Wq
