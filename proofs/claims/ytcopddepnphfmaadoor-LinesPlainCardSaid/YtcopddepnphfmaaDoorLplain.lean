/- Plain lines that go on: the text and what it must be; no program is named here. -/
import Derived.Test.YtcopddepnphfmaaDoorLwords
namespace Go.Proofs.YtcopddepnphfmaaDoor.Lplain
open Go.Proofs.YtcopddepnphfmaaDoor.Pure Go.Proofs.YtcopddepnphfmaaDoor.Ln Go.Proofs.YtcopddepnphfmaaDoor.Lall Go.Proofs.YtcopddepnphfmaaDoor.Lmem Go.Proofs.YtcopddepnphfmaaDoor.Lrows Go.Proofs.YtcopddepnphfmaaDoor.Lwords

abbrev Bs := List UInt8
def goes (w : Bs) : Bs := w ++ [32, 32, 92]
def rowsP : List Bs → List Bs
  | [] => []
  | [w] => [w]
  | w :: v :: r => goes w :: rowsP (v :: r)
theorem rowsP_snoc (cur : List Bs) (w : Bs) : rowsP (cur ++ [w]) = cur.map goes ++ [w] := by
  induction cur with
  | nil => rfl
  | cons x r ih =>
    cases r with
    | nil => rfl
    | cons y r => rw [List.cons_append, List.cons_append, rowsP, ← List.cons_append, ih]; rfl
def openT (cur : List Bs) : Bs := (cur.map (fun w => goes w ++ [10])).flatten
theorem openT_snoc (cur : List Bs) (w : Bs) : openT (cur ++ [w]) = openT cur ++ w ++ [32, 32, 92] ++ [10] := by simp [openT, goes]
theorem flat_open (cur : List Bs) (w rest : Bs) : flatN (cur.map goes ++ [w]) rest = openT cur ++ w ++ 10 :: rest := by
  induction cur with
  | nil => simp [flatN, openT]
  | cons x r ih => rw [List.map_cons, List.cons_append, flatN, ih]; simp [openT]
def textD (done : List (List Bs)) : Bs := (done.map (fun g => flatN (rowsP g) [])).flatten
theorem textD_snoc (done : List (List Bs)) (cur : List Bs) (w : Bs) : textD (done ++ [cur ++ [w]]) = textD done ++ openT cur ++ w ++ [10] := by
  unfold textD
  rw [List.map_append, List.flatten_append, List.map_singleton, List.flatten_singleton, rowsP_snoc, flat_open]
  simp
def joinS (g : List Bs) : Bs := Go.Lib.join g [32]
theorem joinS_one (w : Bs) : joinS [w] = w := Go.Lib.join_one w [32]
theorem joinS_snoc (cur : List Bs) (w : Bs) (h : cur ≠ []) : joinS (cur ++ [w]) = joinS cur ++ [32] ++ w := by
  cases cur with
  | nil => exact absurd rfl h
  | cons x r => unfold joinS; rw [List.cons_append, Go.Lib.join_cons, Go.Lib.join_cons, joinTail_snoc]; simp
theorem right_word {w : Bs} (h : Gw w) : right (w ++ [32, 32]) = w := by
  rw [right_app, if_pos (by rfl)]
  rcases List.eq_nil_or_concat w with rfl | ⟨u, c, rfl⟩
  · rfl
  · rw [List.concat_eq_append] at h ⊢
    have hc := h.no c (by simp)
    have hb : isBl c = false := by unfold isBl; simp [hc.1, hc.2.2.2.1, hc.2.2.2.2]
    rw [right_app, right_no hb, if_neg (by simp)]
theorem left_word {w r : Bs} (h : Gw w) : left (w ++ r) = w ++ r := by
  cases w with
  | nil => exact absurd rfl h.ne
  | cons c u =>
    have hc := h.no c (by simp)
    have hb : isBl c = false := by unfold isBl; simp [hc.1, hc.2.2.2.1, hc.2.2.2.2]
    rw [List.cons_append, left_cons, if_neg (by rw [hb]; decide)]
theorem goes_init (w : Bs) : (goes w).dropLast = w ++ [32, 32] := by
  unfold goes
  rw [show w ++ [32, 32, 92] = (w ++ [32, 32]) ++ [92] by simp, List.dropLast_concat]
theorem mid_words (l : List Bs) (h : ∀ w ∈ l, Gw w) : midP (l.map goes) = l := by
  induction l with
  | nil => rfl
  | cons w r ih =>
    have hw := h w (by simp)
    rw [List.map_cons, midP_cons, goes_init, left_word hw, right_word hw, if_neg hw.ne, ih (fun x hx => h x (by simp [hx]))]
theorem text_words (cur : List Bs) (w : Bs) (h : ∀ x ∈ cur ++ [w], Gw x) : textR false (cur.map goes ++ [w]) = joinS (cur ++ [w]) := by
  cases cur with
  | nil => exact (joinS_one w).symm
  | cons x r =>
    have hw := h w (by simp)
    have hx := h x (by simp)
    rw [List.map_cons, List.cons_append, plain_is (goes x) w (r.map goes) (fun t ht => by
      obtain ⟨y, _, rfl⟩ := List.mem_map.1 ht
      exact ⟨y ++ [32, 32], by simp [goes]⟩), goes_init, right_word hx, mid_words r (fun y hy => h y (by simp [hy]))]
    have := left_word (r := []) hw
    rw [List.append_nil] at this
    rw [this]
    rfl
theorem join_no (g : List Bs) (h : ∀ x ∈ g, Gw x) : ∀ c ∈ joinS g, c ≠ 35 := by
  cases g with
  | nil => intro c hc; exact absurd hc (by simp [joinS, Go.Lib.join_nil])
  | cons x r =>
    intro c hc
    unfold joinS at hc
    rw [Go.Lib.join_cons] at hc
    rcases List.mem_append.1 hc with hc | hc
    · exact ((h x (by simp)).no c hc).2.1
    · unfold Go.Lib.joinTail at hc
      obtain ⟨t, ht, hct⟩ := List.mem_flatten.1 hc
      obtain ⟨y, hy, rfl⟩ := List.mem_map.1 ht
      rcases List.mem_append.1 hct with hct | hct
      · rw [List.mem_singleton.1 hct]; decide
      · exact ((h y (by simp [hy])).no c hct).2.1
theorem goes_odd {w : Bs} (h : Gw w) : (∀ c ∈ goes w, c ≠ 10) ∧ odd (goes w) = true := by
  refine ⟨fun c hc => ?_, ?_⟩
  · rcases List.mem_append.1 hc with hc | hc
    · exact (h.no c hc).1
    · have : c = 32 ∨ c = 32 ∨ c = 92 := by simpa using hc
      rcases this with rfl | rfl | rfl <;> decide
  · unfold odd goes
    rw [show w ++ [32, 32, 92] = (w ++ [32]) ++ 32 :: [92] by simp, tb_stop _ _ _ (by decide)]; rfl
def OkG (g : List Bs) : Prop := g ≠ [] ∧ ∀ x ∈ g, Gw x
/-- each group is one line -/
theorem all_groups (done : List (List Bs)) : ∀ n, (∀ g ∈ done, OkG g) → ∃ ls, allL (textD done) n = ls ∧ ls.length = done.length ∧ ∀ (j : Nat) g, done[j]? = some g → ∃ N, ls[j]? = some (joinS g, N, false) := by
  induction done with
  | nil => intro n _; exact ⟨[], by unfold textD; exact allL_nil n, rfl, fun j g h => by cases h⟩
  | cons g r ih =>
    intro n h
    obtain ⟨hne, hg⟩ := h g (by simp)
    rcases List.eq_nil_or_concat g with h0 | ⟨cur, w, h0⟩
    · exact absurd h0 hne
    · rw [List.concat_eq_append] at h0
      subst h0
      have hw := hg w (by simp)
      have hz : odd w = false := by unfold odd; rw [hw.ok.2]; rfl
      have hP : ∀ x ∈ cur.map goes, (∀ c ∈ x, c ≠ 10) ∧ odd x = true := fun x hx => by
        obtain ⟨y, hy, rfl⟩ := List.mem_map.1 hx
        exact goes_odd (hg y (by simp [hy]))
      have e0 : textD ((cur ++ [w]) :: r) = flatN (cur.map goes ++ [w]) (textD r) := by
        unfold textD
        rw [List.map_cons, List.flatten_cons, rowsP_snoc, flat_open, flat_open]
        simp
      have e1 := flat_all w (textD r) (fun c hc => (hw.no c hc).1) hz (cur.map goes) hP n
      have ht : isTab ((cur.map goes ++ [w]).head (by simp)) = false := by
        have key : ∀ (x : Bs) (s : Bs), Gw x → isTab (x ++ s) = false := fun x s hx => by
          cases x with
          | nil => exact absurd rfl hx.ne
          | cons c u =>
            have := (hx.no c (by simp)).2.2.2.1
            unfold isTab
            rw [List.cons_append, List.head?_cons]
            simpa using this
        cases cur with
        | nil => have := key w [] hw; rwa [List.append_nil] at this
        | cons x s => exact key x [32, 32, 92] (hg x (by simp))
      rw [ht, if_neg (by decide), text_words cur w hg] at e1
      have hb : bare (joinS (cur ++ [w])) = joinS (cur ++ [w]) := bare_end [] _ (join_no _ hg)
      rw [hb] at e1
      obtain ⟨ls, i1, i2, i3⟩ := ih (n + ((cur.map goes).length + 1)) (fun g' hg' => h g' (by simp [hg']))
      rw [e0, e1, i1]
      refine ⟨_, rfl, by rw [List.length_cons, i2, List.length_cons], fun j g' hj => ?_⟩
      cases j with
      | zero => cases hj; exact ⟨n, rfl⟩
      | succ j =>
        obtain ⟨N, hN⟩ := i3 j g' (by simpa using hj)
        exact ⟨N, by rw [List.getElem?_cons_succ]; exact hN⟩

/-- what must come out so far -/
def wants (done : List (List Bs)) (cur : List Bs) : List Bs := done.map joinS ++ (if cur = [] then [] else [joinS cur])
theorem wants_put (done : List (List Bs)) (cur : List Bs) : cur ≠ [] → wants done cur = done.map joinS ++ [joinS cur] := fun h => by unfold wants; rw [if_neg h]
theorem wants_nil (done : List (List Bs)) : wants done [] = done.map joinS := by unfold wants; simp

end Go.Proofs.YtcopddepnphfmaaDoor.Lplain
