/- How much there is: few files with short names, words of few parts out of a list (no program). -/
import Derived.KernelRfl
import Derived.Test.YtghfmbmdfojapaaGreatDoorWdxJ
import Derived.Test.YtghfmbmdfojapaaGreatDoorPlaceJ
import Derived.Deep.DeepCutAuto
namespace Go.Proofs.YtghfmbmdfojapaaGreatDoor.Wbd
open Go.RowKit Go.Proofs.YtghfmbmdfojapaaGreatDoor.Pth Go.Proofs.YtghfmbmdfojapaaGreatDoor.Strs Go.Proofs.YtghfmbmdfojapaaGreatDoor.Vfs Go.Proofs.YtghfmbmdfojapaaGreatDoor.Vmap Go.Proofs.YtghfmbmdfojapaaGreatDoor.Vnames Go.Proofs.YtghfmbmdfojapaaGreatDoor.Vnew Go.Proofs.YtghfmbmdfojapaaGreatDoor.Vfind Go.Proofs.YtghfmbmdfojapaaGreatDoor.Vlook Go.Proofs.YtghfmbmdfojapaaGreatDoor.Wfind Go.Proofs.YtghfmbmdfojapaaGreatDoor.Wfs Go.Proofs.YtghfmbmdfojapaaGreatDoor.Wdp Go.Proofs.YtghfmbmdfojapaaGreatDoor.Wst Go.Proofs.YtghfmbmdfojapaaGreatDoor.Wsp Go.Proofs.YtghfmbmdfojapaaGreatDoor.Wnm Go.Proofs.YtghfmbmdfojapaaGreatDoor.Wly Go.Proofs.YtghfmbmdfojapaaGreatDoor.Wex Go.Proofs.YtghfmbmdfojapaaGreatDoor.Wok Go.Proofs.YtghfmbmdfojapaaGreatDoor.Wba Go.Proofs.YtghfmbmdfojapaaGreatDoor.Wbb Go.Proofs.YtghfmbmdfojapaaGreatDoor.Wdo Go.Proofs.YtghfmbmdfojapaaGreatDoor.Wdx Go.Proofs.YtghfmbmdfojapaaGreatDoor.Wfiles
open Go.Proofs.YtghfmbmdfojapaaGreatDoor.Prabs (ne)

/-! ### files -/
def Sml (B m : Nat) (L : List Ent) : Prop := L.length ≤ m ∧ ∀ e ∈ L, (flatL e.pt).length ≤ B
theorem Sml.mono {B m n : Nat} {L : List Ent} (h : Sml B m L) (hn : m ≤ n) : Sml B n L := ⟨Nat.le_trans h.1 hn, h.2⟩
theorem Sml.snoc {B m : Nat} {L : List Ent} (h : Sml B m L) {e : Ent} (h1 : (flatL e.pt).length ≤ B) : Sml B (m + 1) (L ++ [e]) :=
  ⟨by rw [List.length_append]; have := h.1; simp; exact this, fun a ha => by
    rcases List.mem_append.1 ha with k | k
    · exact h.2 a k
    · rw [List.mem_singleton.1 k]; exact h1⟩
theorem putR_sml {B : Nat} {dir : Bool} {text : ByteArray} : ∀ (rest : Wy) {L : List Ent} {pre : Wy} {m : Nat}, Sml B m L → (flatL (pre ++ rest)).length ≤ B → Sml B (m + rest.length) (putR dir text L pre rest)
  | [], _, _, _, h, _ => h
  | x :: r, L, pre, m, h, hf => by
    have hf2 : (flatL ((pre ++ [x]) ++ r)).length ≤ B := by rw [List.append_assoc]; exact hf
    cases hc : at_ L (pre ++ [x]) with
    | some n =>
      cases hn : n.dir with
      | true =>
        rw [putR_there hc hn]
        exact (putR_sml r h hf2).mono (by rw [List.length_cons]; omega)
      | false => rw [putR_file hc hn]; exact h.mono (by omega)
    | none =>
      rw [putR_new hc]
      have hs : Sml B (m + 1) (L ++ [nextE dir text pre x r]) := h.snoc (by rw [nextE_pt]; exact Nat.le_trans (flat_pre_le _ r) hf2)
      exact (putR_sml r hs hf2).mono (by rw [List.length_cons]; omega)
theorem putE_sml {m : Nat} {L : List Ent} (h : Sml 60 m L) {x : Raw} (hx : Tiny x) : Sml 60 (m + 4) (putE L x) := by
  have h1 := parts_bounds x.path.data.toList
  rw [len_data] at h1
  have h2 : (flatL (partsOf x.path)).length ≤ 60 := by
    rw [flatL_length]
    unfold partsOf
    have := hx.1
    omega
  exact (putR_sml _ h (by rw [List.nil_append]; exact h2)).mono (by have := hx.2.2; omega)
theorem fold_sml : ∀ (l : List Raw) {L : List Ent} {m : Nat}, Sml 60 m L → (∀ x ∈ l, Tiny x) → Sml 60 (m + l.length * 4) (l.foldl putE L)
  | [], _, _, h, _ => by simpa using h
  | x :: l, _, m, h, hl => (fold_sml l (putE_sml h (hl x List.mem_cons_self)) (fun y hy => hl y (List.mem_cons_of_mem _ hy))).mono (by rw [List.length_cons]; omega)
theorem newL_sml {l : List Raw} (hl : l.length ≤ 12) (h : ∀ x ∈ l, Tiny x) : Sml 60 48 (newL l) :=
  (fold_sml (l.take 200) (L := []) (m := 0) ⟨Nat.le_refl _, fun _ h => absurd h List.not_mem_nil⟩ (fun x hx => h x (List.mem_of_mem_take hx))).mono (by rw [List.length_take]; omega)
theorem tiny_raw {x : Raw} (h : Tiny x) : RawSmall x := ⟨Nat.le_trans h.1 (by decide), Nat.le_trans h.2.1 (by decide)⟩
theorem fs_ok {L : List Ent} (hi : Vfs.Inv L) (h : Sml 60 48 L) : FsOk L := FsOk.of hi (by have := h.1; omega) fun e he => by have := h.2 e he; omega
theorem names_le {L : List Ent} (h : Sml 60 48 L) {s : ByteArray} {x : T} (hx : x ∈ listN L s) : x.length ≤ 60 := by
  obtain ⟨e, he⟩ := Option.isSome_iff_exists.1 (list_mem hx)
  have hm := at_mem he
  have := h.2 e hm.1
  rw [hm.2, flatL_app, List.length_append, flatL_one, List.length_cons] at this
  omega
theorem doc_of {w : World} {f : Nat} {L : List Ent} (hf : FAt w f (rows L)) (hi : Vfs.Inv L) (h : Sml 60 48 L) : Doc w f L := by
  refine ⟨hf, hi, by have := h.1; omega, fun x hx => ?_, fun s y hy => by have := names_le h hy; omega⟩
  obtain ⟨e, he, rfl⟩ := List.mem_map.1 (show x ∈ L.map Vall.rawOf from hx)
  have h1 := h.2 e he
  refine ⟨?_, ?_⟩
  · show 1 ≤ wayB (pathB e.pt)
    rcases List.eq_nil_or_concat e.pt with h0 | ⟨r, y, hr⟩
    · exact absurd h0 (hi.ne e he)
    · rw [List.concat_eq_append] at hr
      rw [hr, Wlinks.way_path r y (hi.good e he y (by rw [hr]; simp)).2.2.2]
      omega
  · show (bs (flatL e.pt)).size ≤ 3000000
    rw [size_bs]; omega

/-! ### words -/
def pieceL : List T := [[42], [97, 46, 99], [42, 46, 99], [100, 105, 114], [63, 46, 99], [91, 97, 98, 93, 46, 99], [115, 117, 98], [46, 46], [46], [42], [102, 111, 111], [], [46, 42], [100, 42]]
theorem piece_all : (pieceL.all fun x => decide (x.length ≤ 6) && decide ((Glb.plainL x).length ≤ 6) && (Gmagic.magicL x || decide (Glb.plainL x = x))) = true := by kernel_rfl
theorem piece_is {x : T} (h : x ∈ pieceL) : x.length ≤ 6 ∧ (Glb.plainL x).length ≤ 6 ∧ (Gmagic.magicL x = false → Glb.plainL x = x) := by
  have h1 := List.all_eq_true.1 piece_all x h
  simp only [Bool.and_eq_true, Bool.or_eq_true, decide_eq_true_eq] at h1
  refine ⟨h1.1.1, h1.1.2, fun hm => ?_⟩
  rcases h1.2 with h2 | h2
  · rw [hm] at h2; cases h2
  · exact h2
/-- a word of the law's -/
structure InW (s : T) : Prop where
  parts : ∀ x ∈ splitL s, x ∈ pieceL
  num : (splitL s).length ≤ 5
  len : s.length ≤ 60
theorem ne_in {s x : T} (h : x ∈ ne (splitL s)) : x ∈ splitL s := (List.mem_filter.1 h).1
theorem ne_num {s : T} (h : InW s) : (ne (splitL s)).length ≤ 5 := Nat.le_trans (Prabs.ne_length _) h.num
theorem in_fine {s : T} (h : InW s) : ∀ x ∈ partsP s, x.magic = false → Fine x := fun x hx hm => by
  rw [parts_map] at hx
  obtain ⟨y, hy, rfl⟩ := List.mem_map.1 hx
  rw [pt1_magic] at hm
  have hp := (piece_is (h.parts y (ne_in hy))).2.2 hm
  have e : (pt1 y).text = y := by
    unfold pt1
    rw [hm, if_neg Bool.false_ne_true]
    exact hp
  unfold Fine
  rw [e]
  exact ⟨Prabs.ne_mem hy, splitL_mem s y (ne_in hy)⟩
theorem in_plain {s : T} (h : InW s) : ∀ x ∈ ne (splitL s), Gmagic.magicL x = false → Glb.plainL x = x := fun x hx hm => (piece_is (h.parts x (ne_in hx))).2.2 hm

/-! ### how far the document's walk grows -/
theorem flatMap_le {α β : Type} {f : α → List β} {m : Nat} : ∀ {l : List α}, (∀ a ∈ l, (f a).length ≤ m) → (l.flatMap f).length ≤ l.length * m
  | [], _ => by simp
  | a :: l, h => by
    rw [List.flatMap_cons, List.length_append, List.length_cons, Nat.succ_mul]
    have h1 := h a List.mem_cons_self
    have h2 := flatMap_le (l := l) fun b hb => h b (List.mem_cons_of_mem _ hb)
    omega
theorem docX_le {L : List Ent} (h : Sml 60 48 L) (b : Bool) {x : T} (hx : (Glb.plainL x).length ≤ 6) (W : T) : (docX L b x W).length ≤ 49 ∧ ∀ y ∈ docX L b x W, y.length ≤ W.length + 61 := by
  have hh : (headT W b).length ≤ W.length + 1 := by
    unfold headT
    split
    · exact Nat.zero_le _
    · rw [List.length_append, List.length_singleton]; omega
  cases hd : dirO (lookN L (bs (47 :: W))) with
  | false => rw [docX_off hd]; exact ⟨Nat.zero_le _, fun y hy => absurd hy List.not_mem_nil⟩
  | true =>
    cases hm : Gmagic.magicL x with
    | false =>
      rw [docX_plain hd hm]
      split
      · refine ⟨by simp, fun y hy => ?_⟩
        rw [List.mem_singleton.1 hy, List.length_append]
        omega
      · exact ⟨Nat.zero_le _, fun y hy => absurd hy List.not_mem_nil⟩
    | true =>
      rw [docX_magic hd hm]
      refine ⟨?_, fun y hy => ?_⟩
      · rw [List.length_map]
        have h1 := List.length_filter_le (Gmatch.matchL x) (listN L (bs (47 :: W)))
        have h2 := list_len L (bs (47 :: W))
        have := h.1
        omega
      · obtain ⟨z, hz, rfl⟩ := List.mem_map.1 hy
        have := names_le h (List.mem_filter.1 hz).1
        rw [List.length_append]
        omega
theorem docGo_le {L : List Ent} (h : Sml 60 48 L) : ∀ (r : List T) (b : Bool) (ways : List T) (M : Nat), (∀ x ∈ r, (Glb.plainL x).length ≤ 6) → (∀ W ∈ ways, W.length ≤ M) → (docGo L b ways r).length ≤ ways.length * 49 ^ r.length ∧ ∀ W ∈ docGo L b ways r, W.length ≤ M + 61 * r.length
  | [], _, ways, M, _, hw => ⟨by simp [docGo], fun W hW => by have := hw W hW; simp; exact this⟩
  | x :: r, b, ways, M, hr, hw => by
    have hx := hr x List.mem_cons_self
    have h1 : (docStep L b x ways).length ≤ ways.length * 49 := flatMap_le fun W _ => (docX_le h b hx W).1
    have h2 : ∀ W ∈ docStep L b x ways, W.length ≤ M + 61 := fun W hW => by
      obtain ⟨V, hV, hW⟩ := List.mem_flatMap.1 hW
      have h3 := (docX_le h b hx V).2 W hW
      have h4 := hw V hV
      omega
    obtain ⟨h5, h6⟩ := docGo_le h r false (docStep L b x ways) (M + 61) (fun y hy => hr y (List.mem_cons_of_mem _ hy)) h2
    refine ⟨?_, fun W hW => ?_⟩
    · refine Nat.le_trans h5 (Nat.le_trans (Nat.mul_le_mul_right _ h1) ?_)
      rw [List.length_cons, Nat.pow_succ, Nat.mul_assoc, Nat.mul_comm 49]
      exact Nat.le_refl _
    · have := h6 W hW
      rw [List.length_cons]
      omega
theorem pow_le {j : Nat} (h : j ≤ 5) : 49 ^ j ≤ 1000000000 := by
  obtain rfl | rfl | rfl | rfl | rfl | rfl : j = 0 ∨ j = 1 ∨ j = 2 ∨ j = 3 ∨ j = 4 ∨ j = 5 := by omega
  all_goals decide
theorem dG_le {L : List Ent} (h : Sml 60 48 L) {s : T} (hs : InW s) (j : Nat) (hj : j ≤ (ne (splitL s)).length) : (dG L s j).length ≤ 1000000000 ∧ ∀ W ∈ dG L s j, W.length ≤ 399999 := by
  have h5 := ne_num hs
  have hl : ((ne (splitL s)).take j).length = j := by rw [List.length_take]; omega
  obtain ⟨h1, h2⟩ := docGo_le h ((ne (splitL s)).take j) (!Lib.hasPrefix s [47]) [[]] 0 (fun x hx => (piece_is (hs.parts x (ne_in (List.mem_of_mem_take hx)))).2.1) (fun W hW => by rw [List.mem_singleton.1 hW]; exact Nat.le_refl _)
  rw [hl] at h1 h2
  refine ⟨Nat.le_trans h1 ?_, fun W hW => ?_⟩
  · show 1 * 49 ^ j ≤ _
    rw [Nat.one_mul]
    exact pow_le (by omega)
  · have := h2 W hW
    omega
theorem lens_le {m : Nat} : ∀ {xs : List T}, (∀ x ∈ xs, x.length ≤ m) → Lib.lens xs ≤ m * xs.length
  | [], _ => by simp [Lib.lens]
  | x :: xs, h => by
    have h1 := h x List.mem_cons_self
    have h2 := lens_le (xs := xs) fun y hy => h y (List.mem_cons_of_mem _ hy)
    simp only [Lib.lens, List.map_cons, List.sum_cons, List.length_cons, Nat.mul_succ] at *
    omega
theorem doc_word {L : List Ent} (h : Sml 60 48 L) {s : T} (hs : InW s) : DocW L s := by
  have h5 := ne_num hs
  refine ⟨by have := hs.len; omega, fun x hx => ?_, ?_, by omega, fun j hj => dG_le h hs j hj⟩
  · have := piece_is (hs.parts x (ne_in hx))
    omega
  · have h1 : Lib.lens ((ne (splitL s)).map Glb.plainL) ≤ 6 * ((ne (splitL s)).map Glb.plainL).length := lens_le fun y hy => by
      obtain ⟨x, hx, rfl⟩ := List.mem_map.1 hy
      exact (piece_is (hs.parts x (ne_in hx))).2.1
    rw [flatL_length]
    rw [List.length_map] at *
    omega

/-! ### the program's walk -/
theorem texts_le : ∀ (n : Nat) (l : List Pt), ∀ st ∈ goSteps n l, st.text.length ≤ sizeP l
  | n, [], st, h => by rw [goSteps_nil] at h; cases h
  | 0, _ :: _, st, h => by cases h
  | n + 1, a :: r, st, h => by
    rw [goSteps_cons] at h
    rcases List.mem_cons.1 h with rfl | h
    · exact Nat.le_trans (join_size _) (sizeP_take _ _)
    · exact Nat.le_trans (texts_le n _ st h) (sizeP_drop _ _)
theorem size_in {s : T} (hs : InW s) : sizeP (partsP s) ≤ 35 := by
  have h5 := ne_num hs
  have hl : (partsP s).length = (ne (splitL s)).length := by rw [parts_map, List.length_map]
  have h1 : Lib.lens ((partsP s).map Pt.text) ≤ 6 * ((partsP s).map Pt.text).length := lens_le fun y hy => by
    obtain ⟨x, hx, rfl⟩ := List.mem_map.1 hy
    rw [parts_map] at hx
    obtain ⟨z, hz, rfl⟩ := List.mem_map.1 hx
    have hp := piece_is (hs.parts z (ne_in hz))
    unfold pt1
    split
    · exact hp.1
    · exact hp.2.1
  unfold sizeP
  rw [List.length_map] at h1
  omega
theorem word_ok {L : List Ent} (hf : FsOk L) (h : Sml 60 48 L) {s : T} (hs : InW s) : WordOk L s := by
  have h5 := ne_num hs
  have hl : (partsP s).length = (ne (splitL s)).length := by rw [parts_map, List.length_map]
  have hz := size_in hs
  have hempty : ∀ (b : Bool), ∀ st ∈ (if b then [emptyP] else []), st.text.length ≤ 400000 := fun b st hst => by
    split at hst
    · rw [List.mem_singleton.1 hst]; exact Nat.zero_le _
    · cases hst
  have hall : anyM (partsP s) = true → ((walksP L (stepsP s (partsP s))).map fun y => Lib.join y.2 [47]) = docEnd L (Lib.hasSuffix s [47]) (dG L s (ne (splitL s)).length) := fun hm => by
    have hne : partsP s ≠ [] := fun e => by rw [e] at hm; cases hm
    rw [walks_all hf (in_fine hs), ← all_doc hf hne]
    unfold dG
    rw [List.take_length]
  have hG := dG_le h hs _ (Nat.le_refl (ne (splitL s)).length)
  have hend : (docEnd L (Lib.hasSuffix s [47]) (dG L s (ne (splitL s)).length)).length ≤ (dG L s (ne (splitL s)).length).length * 1 := flatMap_le fun W _ => endX_le L _ W
  refine ⟨by have := hs.len; omega, by omega, by omega, by have := join_size (partsP s); omega, fun st hst => ?_, ?_, fun hm e => ?_, fun hm => ?_, fun hm y hy => ?_⟩
  · unfold stepsP at hst
    rcases List.mem_append.1 hst with h1 | h1
    · rcases List.mem_append.1 h1 with h2 | h2
      · exact hempty _ st h2
      · have := texts_le _ _ st h2
        omega
    · exact hempty _ st h1
  · unfold stepsP
    rw [List.length_append, List.length_append]
    have h1 := goSteps_len (partsP s).length (partsP s)
    have h2 : (preP s).length ≤ 1 := by unfold preP; split <;> simp
    have h3 : (sufP s).length ≤ 1 := by unfold sufP; split <;> simp
    omega
  · unfold stepsP at e
    have h1 := (List.append_eq_nil_iff.1 (List.append_eq_nil_iff.1 e).1).2
    cases hp : partsP s with
    | nil => rw [hp] at hm; cases hm
    | cons a r => rw [hp] at h1; cases h1
  · have h1 := congrArg List.length (hall hm)
    rw [List.length_map] at h1
    omega
  · have h1 : Lib.join y.2 [47] ∈ docEnd L (Lib.hasSuffix s [47]) (dG L s (ne (splitL s)).length) := by
      rw [← hall hm]
      exact List.mem_map.2 ⟨y, hy, rfl⟩
    obtain ⟨W, hW, h2⟩ := List.mem_flatMap.1 h1
    have h3 := hG.2 W hW
    unfold endX at h2
    split at h2
    · split at h2
      · cases h2
      · split at h2
        · rw [List.mem_singleton.1 h2, List.length_append, List.length_singleton]; omega
        · cases h2
    · rw [List.mem_singleton.1 h2]; omega
theorem expand_small {L : List Ent} (h : Sml 60 48 L) (hf : FsOk L) {s : T} (hs : InW s) : (expandP L s).length ≤ 1000000000 ∧ ∀ y ∈ expandP L s, y.length ≤ 400000 := by
  have hG := dG_le h hs _ (Nat.le_refl (ne (splitL s)).length)
  rw [expand_eq hf (in_fine hs)]
  unfold expandR
  have ho : ∀ (b : Bool) (x : T), x.length ≤ 400000 → (oneL b x).length ≤ 1000000000 ∧ ∀ y ∈ oneL b x, y.length ≤ 400000 := fun b x hx => by
    unfold oneL
    split
    · exact ⟨by simp, fun y hy => by rw [List.mem_singleton.1 hy]; exact hx⟩
    · exact ⟨Nat.zero_le _, fun y hy => absurd hy List.not_mem_nil⟩
  split
  · exact ho _ _ (by decide)
  · split
    · have e : docGo L (!Lib.hasPrefix s [47]) [[]] (ne (splitL s)) = dG L s (ne (splitL s)).length := by unfold dG; rw [List.take_length]
      rw [e]
      have hend : (docEnd L (Lib.hasSuffix s [47]) (dG L s (ne (splitL s)).length)).length ≤ (dG L s (ne (splitL s)).length).length * 1 := flatMap_le fun W _ => endX_le L _ W
      refine ⟨Nat.le_trans (Srt.sortT_len _) (by omega), fun y hy => ?_⟩
      rw [Srt.sortT_mem] at hy
      obtain ⟨W, hW, h2⟩ := List.mem_flatMap.1 hy
      have h3 := hG.2 W hW
      unfold endX at h2
      split at h2
      · split at h2
        · cases h2
        · split at h2
          · rw [List.mem_singleton.1 h2, List.length_append, List.length_singleton]; omega
          · cases h2
      · rw [List.mem_singleton.1 h2]; omega
    · exact ho _ _ (by have := hs.len; omega)

end Go.Proofs.YtghfmbmdfojapaaGreatDoor.Wbd

/- The law's word: a word out of a list of parts. -/
namespace Go.Proofs.YtghfmbmdfojapaaGreatDoor.Wwo
open Go.RowKit Go.Proofs.YtghfmbmdfojapaaGreatDoor.Nums Go.Proofs.YtghfmbmdfojapaaGreatDoor.Place Go.Proofs.YtghfmbmdfojapaaGreatDoor.Pth Go.Proofs.YtghfmbmdfojapaaGreatDoor.Strs Go.Proofs.YtghfmbmdfojapaaGreatDoor.Wdp Go.Proofs.YtghfmbmdfojapaaGreatDoor.Wba Go.Proofs.YtghfmbmdfojapaaGreatDoor.Wdo Go.Proofs.YtghfmbmdfojapaaGreatDoor.Wbd

set_option maxHeartbeats 1000000 in
theorem piece_idx (p : Nat) (hp : p < 14) : ∃ y, y ∈ pieceL ∧ ∀ W, (Instr.index 51 (.agg #[.string ⟨#[42]⟩, .string ⟨#[97, 46, 99]⟩, .string ⟨#[42, 46, 99]⟩, .string ⟨#[100, 105, 114]⟩, .string ⟨#[63, 46, 99]⟩, .string ⟨#[91, 97, 98, 93, 46, 99]⟩, .string ⟨#[115, 117, 98]⟩, .string ⟨#[46, 46]⟩, .string ⟨#[46]⟩, .string ⟨#[42]⟩, .string ⟨#[102, 111, 111]⟩, .string ⟨#[]⟩, .string ⟨#[46, 42]⟩, .string ⟨#[100, 42]⟩]) (.int .i64 (p : Int))).run Tryz.prog W = .ok (.string (bs y)) W := by
  obtain rfl | rfl | rfl | rfl | rfl | rfl | rfl | rfl | rfl | rfl | rfl | rfl | rfl | rfl : p = 0 ∨ p = 1 ∨ p = 2 ∨ p = 3 ∨ p = 4 ∨ p = 5 ∨ p = 6 ∨ p = 7 ∨ p = 8 ∨ p = 9 ∨ p = 10 ∨ p = 11 ∨ p = 12 ∨ p = 13 := by omega
  · exact ⟨[42], by decide, fun W => (by kernel_rfl)⟩
  · exact ⟨[97, 46, 99], by decide, fun W => (by kernel_rfl)⟩
  · exact ⟨[42, 46, 99], by decide, fun W => (by kernel_rfl)⟩
  · exact ⟨[100, 105, 114], by decide, fun W => (by kernel_rfl)⟩
  · exact ⟨[63, 46, 99], by decide, fun W => (by kernel_rfl)⟩
  · exact ⟨[91, 97, 98, 93, 46, 99], by decide, fun W => (by kernel_rfl)⟩
  · exact ⟨[115, 117, 98], by decide, fun W => (by kernel_rfl)⟩
  · exact ⟨[46, 46], by decide, fun W => (by kernel_rfl)⟩
  · exact ⟨[46], by decide, fun W => (by kernel_rfl)⟩
  · exact ⟨[42], by decide, fun W => (by kernel_rfl)⟩
  · exact ⟨[102, 111, 111], by decide, fun W => (by kernel_rfl)⟩
  · exact ⟨[], by decide, fun W => (by kernel_rfl)⟩
  · exact ⟨[46, 42], by decide, fun W => (by kernel_rfl)⟩
  · exact ⟨[100, 42], by decide, fun W => (by kernel_rfl)⟩

/-- a word under way -/
structure WU (k : Nat) (s : T) : Prop where
  parts : ∀ x ∈ splitL s, x ∈ pieceL
  num : (splitL s).length ≤ k + 1
  len : s.length ≤ 8 * k
  start : k = 0 → s = []
theorem wu_start : WU 0 [] := ⟨fun x hx => by
  have : x = [] := List.mem_singleton.1 hx
  rw [this]; decide, Nat.le_refl _, Nat.le_refl _, fun _ => rfl⟩
theorem piece_no {y : T} (h : y ∈ pieceL) : 47 ∉ y ∧ y.length ≤ 6 := by
  have h1 : (pieceL.all fun x => !decide (47 ∈ x)) = true := by decide
  have h2 := List.all_eq_true.1 h1 y h
  rw [Bool.not_eq_true', decide_eq_false_iff_not] at h2
  exact ⟨h2, (piece_is h).1⟩
theorem WU.slash {k : Nat} {s y : T} (h : WU k s) (hy : y ∈ pieceL) : WU (k + 1) (s ++ 47 :: y) := by
  obtain ⟨h1, h2⟩ := piece_no hy
  refine ⟨fun x hx => ?_, ?_, ?_, fun e => by omega⟩
  · rw [split_app, splitL_one y h1] at hx
    rcases List.mem_append.1 hx with h3 | h3
    · exact h.parts x h3
    · rw [List.mem_singleton.1 h3]; exact hy
  · rw [split_app, splitL_one y h1, List.length_append, List.length_singleton]
    have := h.num; omega
  · rw [List.length_append, List.length_cons]
    have := h.len; omega
theorem wu_first {y : T} (hy : y ∈ pieceL) : WU 1 y := by
  obtain ⟨h1, h2⟩ := piece_no hy
  refine ⟨fun x hx => ?_, ?_, by omega, fun e => by omega⟩
  · rw [splitL_one y h1] at hx
    rw [List.mem_singleton.1 hx]; exact hy
  · rw [splitL_one y h1]; exact Nat.le_succ _
theorem WU.word {k : Nat} {s : T} (h : WU k s) (hk : k ≤ 4) : InW s := ⟨h.parts, by have := h.num; omega, by have := h.len; omega⟩

set_option maxRecDepth 100000 in
set_option maxHeartbeats 8000000 in
theorem word_is (A : Option Addr) (n c : Nat) (zs : List Int) (w : World) (h : IntIs w A n c zs) (hm : n ≤ maxLen) :
    Calls Tryz.prog 7 #[.slice A n c] w fun e W' => ∃ s : T, e = .returned (.string (bs s)) ∧ InW s ∧ Below w.heap.size w W' := by
  have hmm : n ≤ 9223372036854775807 := hm
  have HL := Lib.hid h
  clear h
  go_enter Tryz.func7, Tryz.ntmps7
  go_wp2_with fail
  go_loop [3, 4] (fun sv i => ∃ (k : Nat) (s : T), k ≤ n ∧ k ≤ 4 ∧ sv = .string (bs s) ∧ i = .int .i64 k ∧ Hid (WU k s)) (fun _ i => n - (intOf i).toNat)
  case atStart => exact ⟨0, [], Nat.zero_le _, Nat.zero_le _, rfl, rfl, wu_start⟩
  case round =>
    obtain ⟨k, s, hk, hk4, rfl, rfl, HU⟩ := hrel
    by_cases hlt : k < n
    · by_cases hlt2 : k < 4
      · obtain ⟨b, o, z, rfl, hwf, hcz⟩ := HL.out.at_ hlt
        have c1 := hcz w (Below.refl _ _)
        have hzb : -9223372036854775808 ≤ z ∧ z ≤ 9223372036854775807 := by
          simpa [Lit.wf, IntKind.min, IntKind.max, IntKind.signed, IntKind.bits] using hwf
        obtain ⟨hz1, hz2⟩ := hzb
        have htd : -9223372036854775808 ≤ z.tdiv 60 ∧ z.tdiv 60 ≤ 9223372036854775807 := by
          have hsg : Int.sign 60 = 1 := rfl
          rw [Int.tdiv_eq_ediv, hsg]
          split <;> omega
        have HW2 : Hid ((Lit.int .i64 (z.tdiv 60)).wf = true) := by
          show _ = _
          simp [Lit.wf, IntKind.min, IntKind.max, IntKind.signed, IntKind.bits]; omega
        have HP2 := Lib.hid (show ∀ W : World, Calls Tryz.prog 13 #[.int .i64 (z.tdiv 60), .int .i64 14] W fun e w' => e = .returned (.int .i64 ((place (z.tdiv 60) 14 : Nat) : Int)) ∧ W = w' from fun W => Wplace.place_is (z.tdiv 60) 14 W (by omega) (by omega) HW2.out)
        obtain ⟨y, hy, hix⟩ := piece_idx (place (z.tdiv 60) 14) (place_lt _ 14 (by omega))
        generalize place (z.tdiv 60) 14 = p2 at *
        have HY := Lib.hid hy
        have hyl := (piece_no hy).2
        have hsl := HU.out.len
        clear hcz hy
        by_cases hk0 : k = 0
        · subst hk0
          obtain rfl : s = [] := HU.out.start rfl
          rw [Nat.add_zero] at c1
          have HP1 := Lib.hid (show ∀ W : World, Calls Tryz.prog 13 #[.int .i64 z, .int .i64 60] W fun e w' => e = .returned (.int .i64 ((place z 60 : Nat) : Int)) ∧ W = w' from fun W => Wplace.place_is z 60 W (by omega) (by omega) hwf)
          have hq60 := place_lt z 60 (by omega)
          generalize place z 60 = q at *
          by_cases hq : 50 < q
          · have a1 : ∀ Wd, (Op.stringOp .add (bs []) ⟨#[47]⟩).run Tryz.prog Wd = .ok (.string (bs [47])) Wd := fun Wd => add_bs [] [47] _ Wd rfl (by decide)
            have a2 : ∀ Wd, (Op.stringOp .add (bs [47]) (bs y)).run Tryz.prog Wd = .ok (.string (bs (47 :: y))) Wd := fun Wd => add_bs [47] y _ Wd rfl (by show 1 + _ ≤ _; omega)
            have HU2 := Lib.hid (HU.out.slash HY.out)
            go_wp2_with fail
            refine (HP1.out _).mono ?_
            rintro e wb ⟨rfl, rfl⟩
            go_wp2_with fail
            refine (HP2.out _).mono ?_
            rintro e wb ⟨rfl, rfl⟩
            go_wp2_with fail
            go_round
            case rel => exact ⟨0 + 1, 47 :: y, by omega, by omega, rfl, by go_num, HU2⟩
            case measure => simp [intOf] <;> omega
          · have a2 : ∀ Wd, (Op.stringOp .add (bs []) (bs y)).run Tryz.prog Wd = .ok (.string (bs y)) Wd := fun Wd => add_bs [] y _ Wd rfl (by show 0 + _ ≤ _; omega)
            have HU2 := Lib.hid (wu_first HY.out)
            go_wp2_with fail
            refine (HP1.out _).mono ?_
            rintro e wb ⟨rfl, rfl⟩
            go_wp2_with fail
            refine (HP2.out _).mono ?_
            rintro e wb ⟨rfl, rfl⟩
            go_wp2_with fail
            go_round
            case rel => exact ⟨0 + 1, y, by omega, by omega, rfl, by go_num, HU2⟩
            case measure => simp [intOf] <;> omega
        · have hkp : ¬ ((k : Nat) : Int) = 0 := by omega
          have a1 : ∀ Wd, (Op.stringOp .add (bs s) ⟨#[47]⟩).run Tryz.prog Wd = .ok (.string (bs (s ++ [47]))) Wd := fun Wd => add_bs s [47] _ Wd rfl (by show _ + 1 ≤ _; omega)
          have a2 : ∀ Wd, (Op.stringOp .add (bs (s ++ [47])) (bs y)).run Tryz.prog Wd = .ok (.string (bs (s ++ 47 :: y))) Wd := fun Wd => add_bs (s ++ [47]) y _ Wd (by rw [List.append_assoc]; rfl) (by rw [List.length_append, List.length_singleton]; omega)
          have HU2 := Lib.hid (HU.out.slash HY.out)
          go_wp2_with fail
          refine (HP2.out _).mono ?_
          rintro e wb ⟨rfl, rfl⟩
          go_wp2_with fail
          go_round
          case rel => exact ⟨k + 1, s ++ 47 :: y, by omega, by omega, rfl, by go_num, HU2⟩
          case measure => simp [intOf]; omega
      · have HIn := Lib.hid (HU.out.word hk4)
        go_wp2
        go_ret
        exact ⟨s, rfl, HIn.out, Below.refl _ _⟩
    · have HIn := Lib.hid (HU.out.word hk4)
      go_wp2
      go_ret
      exact ⟨s, rfl, HIn.out, Below.refl _ _⟩

end Go.Proofs.YtghfmbmdfojapaaGreatDoor.Wwo
