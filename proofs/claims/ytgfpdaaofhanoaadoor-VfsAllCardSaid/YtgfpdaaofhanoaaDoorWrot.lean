/- What All answers makes the same again, in whichever order (no program). -/
import Derived.Test.YtgfpdaaofhanoaaDoorWall
namespace Go.Proofs.YtgfpdaaofhanoaaDoor.Wrot
open Go.Proofs.YtgfpdaaofhanoaaDoor.Pth Go.Proofs.YtgfpdaaofhanoaaDoor.Srt Go.Proofs.YtgfpdaaofhanoaaDoor.Vfs Go.Proofs.YtgfpdaaofhanoaaDoor.Vmap Go.Proofs.YtgfpdaaofhanoaaDoor.Vall Go.Proofs.YtgfpdaaofhanoaaDoor.Vflat Go.Proofs.YtgfpdaaofhanoaaDoor.Wfs Go.Proofs.YtgfpdaaofhanoaaDoor.Wall

theorem putR_in {L : List Ent} (hL : Vfs.Inv L) {e : Ent} (he : e ∈ L) : ∀ (rest : Wy) {K : List Ent} {pre : Wy}, (∀ d ∈ K, d ∈ L) → e.pt = pre ++ rest →
    (∀ d ∈ putR e.dir e.text K pre rest, d ∈ L) ∧ (∀ d ∈ K, d ∈ putR e.dir e.text K pre rest) ∧ (rest ≠ [] → e ∈ putR e.dir e.text K pre rest)
  | [], K, pre, hK, _ => ⟨hK, fun _ h => h, fun h => absurd rfl h⟩
  | x :: r, K, pre, hK, hp => by
    have hp2 : e.pt = (pre ++ [x]) ++ r := by rw [hp, List.append_assoc]; rfl
    cases hc : at_ K (pre ++ [x]) with
    | some d =>
      obtain ⟨hd, hdp⟩ := at_mem hc
      by_cases hr : r = []
      · have hde : d = e := eq_of_pt hL.nodup (hK d hd) he (by rw [hdp, hp2, hr, List.append_nil])
        have hput : putR e.dir e.text K pre (x :: r) = K := by
          cases hb : d.dir with
          | true => rw [putR_there hc hb, hr]; rfl
          | false => exact putR_file hc hb
        rw [hput]
        exact ⟨hK, fun _ h => h, fun _ => hde ▸ hd⟩
      · obtain ⟨d', h1, h2⟩ := hL.way r.length rfl he hp2 (by simp) hr
        have hdd : d' = d := eq_of_pt hL.nodup (at_mem h1).1 (hK d hd) ((at_mem h1).2.trans hdp.symm)
        rw [putR_there hc (by rw [← hdd]; exact h2)]
        obtain ⟨i1, i2, i3⟩ := putR_in hL he r hK hp2
        exact ⟨i1, i2, fun _ => i3 hr⟩
    | none =>
      rw [putR_new hc]
      by_cases hr : r = []
      · have hne : nextE e.dir e.text pre x r = e := by
          unfold nextE
          rw [if_pos hr, show pre ++ [x] = e.pt by rw [hp2, hr, List.append_nil]]
        rw [hne, hr, putR_nil]
        refine ⟨fun d hd => ?_, fun d hd => List.mem_append_left _ hd, fun _ => by simp⟩
        rcases List.mem_append.1 hd with h | h
        · exact hK d h
        · rw [List.mem_singleton.1 h]; exact he
      · obtain ⟨d', h1, h2⟩ := hL.way r.length rfl he hp2 (by simp) hr
        have hne : nextE e.dir e.text pre x r = d' := by
          obtain ⟨hm, hq⟩ := at_mem h1
          have hb := hL.bare d' hm h2
          unfold nextE
          rw [if_neg hr, ← hq, ← hb, ← h2]
        rw [hne]
        obtain ⟨i1, i2, i3⟩ := putR_in hL he r (K := K ++ [d']) (fun d hd => by
          rcases List.mem_append.1 hd with h | h
          · exact hK d h
          · rw [List.mem_singleton.1 h]; exact (at_mem h1).1) hp2
        exact ⟨i1, fun d hd => i2 d (List.mem_append_left _ hd), fun _ => i3 hr⟩

theorem put_in {L K : List Ent} (hL : Vfs.Inv L) (hK : ∀ d ∈ K, d ∈ L) {e : Ent} (he : e ∈ L) : (∀ d ∈ putE K (rawOf e), d ∈ L) ∧ (∀ d ∈ K, d ∈ putE K (rawOf e)) ∧ e ∈ putE K (rawOf e) := by
  have h1 : partsOf (rawOf e).path = e.pt := parts_flat e.pt (hL.good e he) (hL.ne e he)
  have h2 : textOf (rawOf e) = e.text := by
    unfold textOf
    cases hd : (rawOf e).dir with
    | true => exact (hL.bare e he hd).symm
    | false => rfl
  unfold putE
  rw [h1, h2]
  obtain ⟨i1, i2, i3⟩ := putR_in hL he e.pt (K := K) (pre := []) hK rfl
  exact ⟨i1, i2, i3 (hL.ne e he)⟩
theorem fold_in {L : List Ent} (hL : Vfs.Inv L) : ∀ (R : List Ent) {K : List Ent}, (∀ d ∈ K, d ∈ L) → (∀ d ∈ R, d ∈ L) →
    (∀ d ∈ (R.map rawOf).foldl putE K, d ∈ L) ∧ (∀ d ∈ K, d ∈ (R.map rawOf).foldl putE K) ∧ (∀ d ∈ R, d ∈ (R.map rawOf).foldl putE K)
  | [], _, hK, _ => ⟨hK, fun _ h => h, fun _ h => absurd h List.not_mem_nil⟩
  | e :: R, K, hK, hR => by
    obtain ⟨p1, p2, p3⟩ := put_in hL hK (hR e List.mem_cons_self)
    obtain ⟨i1, i2, i3⟩ := fold_in hL R p1 (fun d hd => hR d (List.mem_cons_of_mem _ hd))
    refine ⟨i1, fun d hd => i2 d (p2 d hd), fun d hd => ?_⟩
    rcases List.mem_cons.1 hd with rfl | h
    · exact i2 _ p3
    · exact i3 d h
/-- the same again -/
theorem new_again {L R : List Ent} (hL : Vfs.Inv L) (hR : R.Perm L) (hn : L.length ≤ 200) : (newL (R.map rawOf)).Perm L := by
  have e : newL (R.map rawOf) = (R.map rawOf).foldl putE [] := by
    unfold newL
    rw [List.take_of_length_le (by rw [List.length_map, hR.length_eq]; exact hn)]
  obtain ⟨i1, _, i3⟩ := fold_in hL R (K := []) (fun _ h => absurd h List.not_mem_nil) (fun d hd => hR.mem_iff.1 hd)
  rw [List.perm_ext_iff_of_nodup (nodup_of_map _ (newL_inv _).nodup) (nodup_of_map _ hL.nodup)]
  intro d
  rw [e]
  exact ⟨i1 d, fun h => i3 d (hR.mem_iff.2 h)⟩

/-- by their paths they are known -/
theorem same_flats {L : List Ent} (hL : Vfs.Inv L) : ∀ {M N : List Ent}, (∀ e ∈ M, e ∈ L) → (∀ e ∈ N, e ∈ L) → flats M = flats N → M = N
  | [], [], _, _, _ => rfl
  | [], _ :: _, _, _, h => by cases h
  | _ :: _, [], _, _, h => by cases h
  | a :: M, b :: N, hM, hN, h => by
    have h1 : flatL a.pt = flatL b.pt := (List.cons.inj h).1
    have ha := hM a List.mem_cons_self
    have hb := hN b List.mem_cons_self
    rw [eq_of_pt hL.nodup ha hb (flat_inj (hL.good a ha) (hL.good b hb) h1), same_flats hL (fun e he => hM e (List.mem_cons_of_mem _ he)) (fun e he => hN e (List.mem_cons_of_mem _ he)) (List.cons.inj h).2]
/-- there is one list of all in the order of their paths -/
theorem sorted_one {L M : List Ent} (hL : Vfs.Inv L) (hp : M.Perm L) (hu : Up (M.map fun e => flatL e.pt)) : M = sorted L := by
  refine same_flats hL (fun e he => hp.mem_iff.1 he) (fun e he => sorted_sub he) (up_unique hu (sorted_up L) fun t => ?_)
  rw [sorted_flats, sortT_mem]
  exact (hp.map _).mem_iff
theorem sorted_again {L R : List Ent} (hL : Vfs.Inv L) (hR : R.Perm L) (hn : L.length ≤ 200) : sorted (newL (R.map rawOf)) = sorted L := by
  have hp := new_again hL hR hn
  exact sorted_one hL ((sorted_perm (newL_inv _)).trans hp) (sorted_up _)

theorem putR_len (d : Bool) (t : ByteArray) : ∀ (rest : Wy) (K : List Ent) (pre : Wy), (putR d t K pre rest).length ≤ K.length + rest.length
  | [], _, _ => Nat.le_refl _
  | x :: r, K, pre => by
    cases hc : at_ K (pre ++ [x]) with
    | some n =>
      cases hn : n.dir with
      | true =>
        rw [putR_there hc hn]
        have := putR_len d t r K (pre ++ [x])
        rw [List.length_cons]; omega
      | false => rw [putR_file hc hn]; omega
    | none =>
      rw [putR_new hc]
      have := putR_len d t r (K ++ [nextE d t pre x r]) (pre ++ [x])
      rw [List.length_append, List.length_singleton] at this
      rw [List.length_cons]; omega
theorem fold_len : ∀ (l : List Raw) (K : List Ent), (∀ x ∈ l, (partsOf x.path).length ≤ 4) → (l.foldl putE K).length ≤ K.length + 4 * l.length
  | [], _, _ => Nat.le_refl _
  | x :: l, K, h => by
    have h1 := putR_len x.dir (textOf x) (partsOf x.path) K []
    have h2 := h x List.mem_cons_self
    have h3 := fold_len l (putE K x) (fun y hy => h y (List.mem_cons_of_mem _ hy))
    have h4 : (putE K x).length ≤ K.length + (partsOf x.path).length := h1
    rw [List.length_cons]
    show ((l.foldl putE (putE K x))).length ≤ _
    omega
theorem newL_len (l : List Raw) (h : ∀ x ∈ l, (partsOf x.path).length ≤ 4) : (newL l).length ≤ 4 * l.length := by
  have h1 := fold_len (l.take 200) [] (fun x hx => h x (List.mem_of_mem_take hx))
  have h2 : (l.take 200).length ≤ l.length := by rw [List.length_take]; exact Nat.min_le_right _ _
  unfold newL
  simp only [List.length_nil] at h1
  omega

end Go.Proofs.YtgfpdaaofhanoaaDoor.Wrot
