/- Level by level: the places of a walk as trees in memory, and the walks that they stand for. -/
import Derived.Test.YtgfpdaaofhanoaaGreatDoorWwa
namespace Go.Proofs.YtgfpdaaofhanoaaGreatDoor.Wlx
open Go.RowKit Go.Maps Go.Proofs.YtgfpdaaofhanoaaGreatDoor.Pth Go.Proofs.YtgfpdaaofhanoaaGreatDoor.Strs Go.Proofs.YtgfpdaaofhanoaaGreatDoor.Vfs Go.Proofs.YtgfpdaaofhanoaaGreatDoor.Vmap Go.Proofs.YtgfpdaaofhanoaaGreatDoor.Vfind Go.Proofs.YtgfpdaaofhanoaaGreatDoor.Vlook Go.Proofs.YtgfpdaaofhanoaaGreatDoor.Vperm Go.Proofs.YtgfpdaaofhanoaaGreatDoor.Wdp Go.Proofs.YtgfpdaaofhanoaaGreatDoor.Wnm Go.Proofs.YtgfpdaaofhanoaaGreatDoor.Wno Go.Proofs.YtgfpdaaofhanoaaGreatDoor.Wnn Go.Proofs.YtgfpdaaofhanoaaGreatDoor.Wlv Go.Proofs.YtgfpdaaofhanoaaGreatDoor.Wrc Go.Proofs.YtgfpdaaofhanoaaGreatDoor.Wwk Go.Proofs.YtgfpdaaofhanoaaGreatDoor.Wwt Go.Proofs.YtgfpdaaofhanoaaGreatDoor.Wwa

/-! ### trees are kept -/
theorem not_map_cell {w : World} {ab b o : Nat} {u : Option Nat} {ty : TypeId} {v : Value} (ha : w.heap[ab]? = some (.cells #[.map u] ty (0, 0))) (hc : w.cell? ⟨b, o, none⟩ = some v) (hv : v ≠ .map u) : b ≠ ab := fun e => by
  subst e
  rw [Lib.cell_of_heap ha] at hc
  cases o with
  | zero => exact hv (Option.some.inj hc).symm
  | succ o => cases hc
theorem TreeIs.kept {w W : World} {ab : Nat} {u : Option Nat} {ty : TypeId} (ha : w.heap[ab]? = some (.cells #[.map u] ty (0, 0))) (hk : ∀ k, k < w.heap.size → k ≠ ab → W.heap[k]? = w.heap[k]?) (hs : w.heap.size ≤ W.heap.size) :
    ∀ {n b : Nat} {ts : List (List T)}, TreeIs w n b ts → TreeIs W n b ts
  | 0, b, ts, ⟨hb, ⟨A, c, hc⟩, h2⟩ => by
    have h1 := not_map_cell ha hc (by simp)
    exact ⟨Nat.lt_of_lt_of_le hb hs, ⟨A, c, (World.cell?_of_block (w := w) (a := ⟨b, 1, none⟩) (hk b hb h1)).trans hc⟩, h2⟩
  | n + 1, b, ts, ⟨hb, A, c, ws, f, hc, hw, hne, ht, h2⟩ => by
    have h1 := not_map_cell ha hc (by simp)
    refine ⟨Nat.lt_of_lt_of_le hb hs, A, c, ws, f, (World.cell?_of_block (w := w) (a := ⟨b, 1, none⟩) (hk b hb h1)).trans hc, ⟨hw.1, ?_⟩, hne, fun y hy => TreeIs.kept ha hk hs (ht y hy), h2⟩
    refine hw.2.imp id ?_
    rintro ⟨b5, o5, e5, hl5, hc5⟩
    have h3 : b5 ≠ ab := by
      cases ws with
      | nil => exact absurd rfl hne
      | cons y r => exact not_map_cell ha (hc5 0 y rfl).1 (by simp)
    exact ⟨b5, o5, e5, Nat.lt_of_lt_of_le hl5 hs, fun j y hj => ⟨(World.cell?_of_block (w := w) (a := ⟨b5, o5 + j * 2, none⟩) (hk b5 hl5 h3)).trans (hc5 j y hj).1, (World.cell?_of_block (w := w) (a := ⟨b5, o5 + j * 2 + 1, none⟩) (hk b5 hl5 h3)).trans (hc5 j y hj).2⟩⟩

/-! ### the ways of a level -/
theorem ways_of_own {w : World} {base : Nat} {v : Value} {ws : List Wnn.Way} (h : w.ownsRow base 128 2 v ws.length (wcells ws)) (hne : ws ≠ []) : ∃ A c, v = .slice A ws.length c ∧ WaysAt w A c ws := by
  rcases h.2 with ⟨_, hn⟩ | ⟨g, cap, cur, rfl, _, hg, hn, _, _, _⟩
  · exact absurd (List.eq_nil_of_length_eq_zero hn) hne
  · refine ⟨_, cap, rfl, hn, .inr ⟨g, 0, rfl, (Array.getElem?_eq_some_iff.1 hg).1, fun j y hj => ?_⟩⟩
    have hcells : ∀ j u, (wcells ws)[j]? = some u → w.cell? ((⟨g, 0, none⟩ : Addr).add j) = some u := h.cells (g := g) rfl
    have hw : ∀ (ws : List Wnn.Way) (j : Nat) y, ws[j]? = some y → (wcells ws)[j * 2]? = some (.pointer (some ⟨y.1, 0, none⟩)) ∧ (wcells ws)[j * 2 + 1]? = some (.string (bs y.2)) := by
      intro ws
      induction ws with
      | nil => intro j y h; cases h
      | cons z r ih =>
        intro j y h
        cases j with
        | zero => cases h; exact ⟨rfl, rfl⟩
        | succ j =>
          have h2 := ih j y h
          have e1 : (j + 1) * 2 = j * 2 + 2 := by omega
          rw [e1]
          exact h2
    obtain ⟨h1, h2⟩ := hw ws j y hj
    have c1 := hcells _ _ h1
    have c2 := hcells _ _ h2
    rw [addr_add] at c1 c2
    refine ⟨?_, ?_⟩
    · exact c1
    · rw [Nat.add_assoc]; exact c2
/-- each way of each place -/
def ends (S : List Pl) : List (T × Wnn.Way) := S.flatMap fun e => e.ws.map fun y => (e.k, y)
def got (L : List Ent) (ats : List Att) : List (T × Wnn.Way) := ats.flatMap fun a => match lookN L (bs (a.1 ++ 47 :: a.2.2)) with
  | none => []
  | some nd => [(nd.p.data.toList, (a.2.1, a.2.2))]
theorem ends_app (a b : List Pl) : ends (a ++ b) = ends a ++ ends b := List.flatMap_append
theorem Steps.ends {L : List Ent} {ats : List Att} {S : List Pl} (h : Wwk.Steps L ats S) : (ends S).Perm (got L ats) := by
  induction h with
  | nil => exact List.Perm.refl _
  | @snoc ats S S' a hs hr ih =>
    have e1 : got L (ats ++ [a]) = got L ats ++ got L [a] := List.flatMap_append
    rw [e1]
    unfold Reached at hr
    cases hlk : lookN L (bs (a.1 ++ 47 :: a.2.2)) with
    | none =>
      rw [hlk] at hr
      have e2 : got L [a] = [] := by unfold got; rw [List.flatMap_cons, hlk]; rfl
      rw [e2, List.append_nil, show S' = S from hr]
      exact ih
    | some nd =>
      rw [hlk] at hr
      have e2 : got L [a] = [(nd.p.data.toList, (a.2.1, a.2.2))] := by unfold got; rw [List.flatMap_cons, hlk]; rfl
      rw [e2]
      have hr2 : Laid S nd (a.2.1, a.2.2) S' := hr
      rcases hr2 with ⟨S1, e, S2, v', rfl, hk, rfl⟩ | ⟨_, b, v', rfl⟩
      · refine List.Perm.trans ?_ (List.Perm.append_right _ ih)
        have e3 : Wlx.ends (S1 ++ ⟨e.k, e.b, e.d, v', e.ws ++ [(a.2.1, a.2.2)]⟩ :: S2) = Wlx.ends S1 ++ ((e.ws.map fun y => (e.k, y)) ++ ((nd.p.data.toList, (a.2.1, a.2.2)) :: Wlx.ends S2)) := by
          rw [ends_app]
          show _ ++ (((e.ws ++ [(a.2.1, a.2.2)]).map fun y => (e.k, y)) ++ Wlx.ends S2) = _
          rw [List.map_append, List.append_assoc, hk]; rfl
        have e4 : Wlx.ends (S1 ++ e :: S2) = Wlx.ends S1 ++ ((e.ws.map fun y => (e.k, y)) ++ Wlx.ends S2) := by rw [ends_app]; rfl
        rw [e3, e4, ← List.append_assoc, ← List.append_assoc]
        exact List.perm_middle.trans ((List.perm_append_singleton _ _).symm)
      · rw [ends_app]
        exact List.Perm.append_right _ ih
theorem Steps.ways {L : List Ent} {ats : List Att} {S : List Pl} (h : Wwk.Steps L ats S) : ∀ e ∈ S, e.ws ≠ [] := by
  induction h with
  | nil => intro e he; exact absurd he List.not_mem_nil
  | @snoc ats S S' a hs hr ih =>
    intro e he
    unfold Reached at hr
    split at hr
    · rw [hr] at he; exact ih e he
    · rcases hr with ⟨S1, e1, S2, v', rfl, hk, rfl⟩ | ⟨_, b, v', rfl⟩
      · rcases List.mem_append.1 he with h1 | h1
        · exact ih e (List.mem_append_left _ h1)
        · rcases List.mem_cons.1 h1 with rfl | h2
          · simp
          · exact ih e (List.mem_append_right _ (List.mem_cons_of_mem _ h2))
      · rcases List.mem_append.1 he with h1 | h1
        · exact ih e h1
        · rw [List.mem_singleton.1 h1]; simp

/-- whether a path leads to a directory -/
def dirP (L : List Ent) (k : T) : Bool := match L.find? fun e => decide (flatL e.pt = k) with
  | some e => e.dir
  | none => true
theorem find_uniq {α : Type} {p : α → Bool} {a : α} : ∀ {l : List α}, a ∈ l → p a = true → (∀ b ∈ l, p b = true → b = a) → l.find? p = some a
  | x :: l, hm, hp, hu => by
    rw [List.find?_cons]
    cases hx : p x with
    | true => rw [hu x List.mem_cons_self hx]
    | false =>
      rcases List.mem_cons.1 hm with rfl | h1
      · rw [hp] at hx; cases hx
      · exact find_uniq h1 hp fun b hb => hu b (List.mem_cons_of_mem _ hb)
theorem look_dir {L : List Ent} (hroot : ∀ e ∈ L, flatL e.pt ≠ [47]) (hinj : ∀ a ∈ L, ∀ b ∈ L, flatL a.pt = flatL b.pt → a = b) {s : ByteArray} {nd : Nd} (h : lookN L s = some nd) : nd.d = dirP L nd.p.data.toList := by
  unfold lookN at h
  split at h
  · cases h
  · unfold nodeAt at h
    split at h
    · cases h
      unfold dirP
      have : L.find? (fun e => decide (flatL e.pt = ndRoot.p.data.toList)) = none := by
        rw [List.find?_eq_none]
        intro e he h1
        exact hroot e he (of_decide_eq_true h1)
      rw [this]; rfl
    · obtain ⟨e, he, rfl⟩ := Option.map_eq_some_iff.1 h
      have hm := (at_mem he).1
      unfold dirP
      have hf : L.find? (fun c => decide (flatL c.pt = (ndOf L e).p.data.toList)) = some e := find_uniq hm (decide_eq_true rfl) fun b hb h1 => hinj b hb e hm (of_decide_eq_true h1)
      rw [hf]; rfl
theorem Steps.dirs {L : List Ent} (hd : ∀ s nd, lookN L s = some nd → nd.d = dirP L nd.p.data.toList) {ats : List Att} {S : List Pl} (h : Wwk.Steps L ats S) : ∀ e ∈ S, e.d = dirP L e.k := by
  induction h with
  | nil => intro e he; exact absurd he List.not_mem_nil
  | @snoc ats S S' a hs hr ih =>
    intro e he
    unfold Reached at hr
    split at hr
    · rw [hr] at he; exact ih e he
    · rename_i nd hlk
      rcases hr with ⟨S1, e1, S2, v', rfl, hk, rfl⟩ | ⟨_, b, v', rfl⟩
      · rcases List.mem_append.1 he with h1 | h1
        · exact ih e (List.mem_append_left _ h1)
        · rcases List.mem_cons.1 h1 with rfl | h2
          · exact ih e1 (List.mem_append_right _ List.mem_cons_self)
          · exact ih e (List.mem_append_right _ (List.mem_cons_of_mem _ h2))
      · rcases List.mem_append.1 he with h1 | h1
        · exact ih e h1
        · rw [List.mem_singleton.1 h1]; exact hd _ _ hlk

end Go.Proofs.YtgfpdaaofhanoaaGreatDoor.Wlx
