/- Names of files on lists of bytes: the last of a byte, the ways, the parts, the pile; no program. -/
import Derived.Lib.SplitLaws
import Derived.Lib.LastIndexByte
import Derived.Lib.Join
import Derived.Lib.Hide
namespace Go.Proofs.YtgfpdaaofhanoaaGreatDoor.Pth

/-- a text of bytes -/
def bs (l : List UInt8) : ByteArray := ⟨l.toArray⟩
theorem size_bs (l : List UInt8) : (bs l).size = l.length := by simp [bs, ByteArray.size]
theorem data_bs (l : List UInt8) : (bs l).data.toList = l := rfl
theorem bs_data (s : ByteArray) : bs s.data.toList = s := rfl
theorem len_data (s : ByteArray) : s.data.toList.length = s.size := rfl
theorem bs_app (a b : List UInt8) : bs (a ++ b) = bs a ++ bs b := by
  have : (bs (a ++ b)).data.toList = (bs a ++ bs b).data.toList := by rw [ByteArray.data_append, Array.toList_append]; rfl
  rw [← bs_data (bs (a ++ b)), this, bs_data]
theorem app_data (a b : ByteArray) : (a ++ b).data.toList = a.data.toList ++ b.data.toList := by rw [ByteArray.data_append, Array.toList_append]
theorem eq_of_data {a b : ByteArray} (h : a.data.toList = b.data.toList) : a = b := by rw [← bs_data a, h, bs_data]
theorem take_data (s : ByteArray) (k : Nat) : (s.extract 0 k).data.toList = s.data.toList.take k := Lib.extract_from_zero s k
theorem drop_data (s : ByteArray) (k : Nat) : (s.extract k s.size).data.toList = s.data.toList.drop k := Lib.extract_to_end s k

/-- behind the last c; 0 if there is none -/
def lastB (c : UInt8) : List UInt8 → Nat
  | [] => 0
  | b :: t => match lastB c t with
    | 0 => if b = c then 1 else 0
    | n + 1 => n + 2
theorem lastB_cons (c b : UInt8) (t : List UInt8) : lastB c (b :: t) = if lastB c t = 0 then (if b = c then 1 else 0) else lastB c t + 1 := by
  rw [lastB]
  cases lastB c t with
  | zero => rfl
  | succ n => rfl
theorem lastB_le (c : UInt8) : ∀ l, lastB c l ≤ l.length
  | [] => Nat.le_refl _
  | b :: t => by
    have := lastB_le c t
    rw [lastB_cons, List.length_cons]
    split
    · split <;> omega
    · omega
theorem lastB_snoc (c b : UInt8) : ∀ l, lastB c (l ++ [b]) = if b = c then l.length + 1 else lastB c l
  | [] => by
    rw [List.nil_append, lastB_cons]
    rfl
  | x :: t => by
    rw [List.cons_append, lastB_cons, lastB_snoc c b t]
    by_cases h : b = c
    · rw [if_pos h, if_pos h, if_neg (by omega), List.length_cons]
    · rw [if_neg h, if_neg h, lastB_cons]
theorem lastB_none (c : UInt8) : ∀ l, c ∉ l → lastB c l = 0
  | [], _ => rfl
  | b :: t, h => by
    rw [lastB_cons, lastB_none c t (fun k => h (List.mem_cons_of_mem _ k)), if_pos rfl, if_neg (fun e => h (by rw [e]; exact List.mem_cons_self))]
theorem lastB_take_succ (c : UInt8) (s : ByteArray) (k : Nat) (h : k < s.size) : lastB c (s.data.toList.take (k + 1)) = if s[k] = c then k + 1 else lastB c (s.data.toList.take k) := by
  have hk : k < s.data.toList.length := h
  rw [List.take_succ_eq_append_getElem hk, lastB_snoc, List.length_take, Nat.min_eq_left (by omega)]
  rfl
theorem lastIdx_is (c : UInt8) (s : ByteArray) : ∀ k, k ≤ s.size → Lib.lastIdx s (c.toNat : Int) k = (lastB c (s.data.toList.take k) : Int) - 1
  | 0, _ => rfl
  | k + 1, h => by
    rw [Lib.lastIdx, lastB_take_succ c s k (by omega), lastIdx_is c s k (by omega)]
    have e : s.data[k]! = s[k]'(by omega) := by rw [getElem!_pos s.data k (by show k < s.size; omega)]; rfl
    rw [e]
    by_cases hc : s[k]'(by omega) = c
    · rw [if_pos (by rw [hc]), if_pos hc]; omega
    · rw [if_neg (fun x => hc (UInt8.toNat_inj.1 (by omega))), if_neg hc]
theorem lastIndexByte_is (c : UInt8) (s : ByteArray) : Lib.lastIndexByte s (c.toNat : Int) = (lastB c s.data.toList : Int) - 1 := by
  rw [Lib.lastIndexByte, lastIdx_is c s s.size (Nat.le_refl _), ← len_data, List.take_length]

/-- where the way ends -/
def wayB (s : ByteArray) : Nat := lastB 47 s.data.toList
theorem wayB_le (s : ByteArray) : wayB s ≤ s.size := lastB_le 47 _
def dirB (s : ByteArray) : ByteArray := if wayB s = 0 then ⟨#[46, 47]⟩ else s.extract 0 (wayB s)
def notdirB (s : ByteArray) : ByteArray := s.extract (wayB s) s.size
/-- behind the last dot of what is no way -/
def dotB (s : ByteArray) : Nat := lastB 46 (notdirB s).data.toList
theorem dotB_le (s : ByteArray) : dotB s ≤ (notdirB s).size := lastB_le 46 _
def sufB (s : ByteArray) : ByteArray := if dotB s = 0 then ⟨#[]⟩ else (notdirB s).extract (dotB s - 1) (notdirB s).size
theorem notdirB_size (s : ByteArray) : (notdirB s).size = s.size - wayB s := by rw [notdirB, ByteArray.size_extract]; omega
theorem sufB_size (s : ByteArray) : (sufB s).size ≤ s.size := by
  rw [sufB]
  split
  · exact Nat.zero_le _
  · rw [ByteArray.size_extract, notdirB_size]; omega
def baseB (s : ByteArray) : ByteArray := s.extract 0 (s.size - (sufB s).size)

/-- what goes together is the whole -/
theorem base_suffix (s : ByteArray) : baseB s ++ sufB s = s := by
  apply eq_of_data
  rw [app_data, baseB, take_data]
  have h : (sufB s).data.toList = s.data.toList.drop (s.size - (sufB s).size) := by
    by_cases h0 : dotB s = 0
    · have e : sufB s = ⟨#[]⟩ := by rw [sufB, if_pos h0]
      rw [e]
      show [] = s.data.toList.drop (s.size - 0)
      rw [Nat.sub_zero, ← len_data, List.drop_length]
    · have e : sufB s = (notdirB s).extract (dotB s - 1) (notdirB s).size := by rw [sufB, if_neg h0]
      have hd := dotB_le s
      have hw := wayB_le s
      have hn := notdirB_size s
      have hz : (sufB s).size = (notdirB s).size - (dotB s - 1) := by rw [e, ByteArray.size_extract]; omega
      rw [hz, e, drop_data, notdirB, drop_data, List.drop_drop]
      rw [← notdirB]
      congr 1
      omega
  rw [h, List.take_append_drop]
theorem way_whole (s : ByteArray) : s.extract 0 (wayB s) ++ notdirB s = s := by
  apply eq_of_data
  rw [app_data, take_data, notdirB, drop_data, List.take_append_drop]
theorem notdir_whole (s : ByteArray) (h : wayB s = 0) : notdirB s = s := by
  apply eq_of_data
  rw [notdirB, h, drop_data, List.drop_zero]
theorem notdir_less (s : ByteArray) (h : wayB s ≠ 0) : notdirB s ≠ s := fun e => by
  have := notdirB_size s
  have := wayB_le s
  rw [e] at *
  omega

/-- the parts: cut at each slash -/
def splitL : List UInt8 → List (List UInt8)
  | [] => [[]]
  | b :: t => if b = 47 then [] :: splitL t else match splitL t with
    | p :: ps => (b :: p) :: ps
    | [] => [[b]]
theorem splitL_ne : ∀ l, splitL l ≠ []
  | [] => by simp [splitL]
  | b :: t => by
    rw [splitL]
    split
    · simp
    · split <;> simp
theorem splitL_cons (b : UInt8) (t : List UInt8) (h : b ≠ 47) : ∃ p ps, splitL t = p :: ps ∧ splitL (b :: t) = (b :: p) :: ps := by
  cases hs : splitL t with
  | nil => exact absurd hs (splitL_ne t)
  | cons p ps => exact ⟨p, ps, rfl, by rw [splitL, if_neg h, hs]⟩
theorem splitL_slash (t : List UInt8) : splitL (47 :: t) = [] :: splitL t := by rw [splitL, if_pos rfl]
/-- what has no slash is one part, ahead of others -/
theorem splitL_app : ∀ (p t : List UInt8), 47 ∉ p → splitL (p ++ 47 :: t) = p :: splitL t
  | [], t, _ => splitL_slash t
  | b :: p, t, h => by
    obtain ⟨q, qs, h1, h2⟩ := splitL_cons b (p ++ 47 :: t) (fun e => h (by rw [e]; exact List.mem_cons_self))
    rw [splitL_app p t (fun k => h (List.mem_cons_of_mem _ k))] at h1
    rw [List.cons_append, h2]
    cases h1
    rfl
theorem splitL_one : ∀ (p : List UInt8), 47 ∉ p → splitL p = [p]
  | [], _ => rfl
  | b :: p, h => by
    obtain ⟨q, qs, h1, h2⟩ := splitL_cons b p (fun e => h (by rw [e]; exact List.mem_cons_self))
    rw [splitL_one p (fun k => h (List.mem_cons_of_mem _ k))] at h1
    rw [h2]
    cases h1
    rfl
theorem splitL_mem : ∀ (l : List UInt8) (p : List UInt8), p ∈ splitL l → 47 ∉ p
  | [], p, h => by
    have : p = [] := by simpa [splitL] using h
    rw [this]; exact List.not_mem_nil
  | b :: t, p, h => by
    by_cases hb : b = 47
    · rw [hb, splitL_slash] at h
      rcases List.mem_cons.1 h with rfl | h
      · exact List.not_mem_nil
      · exact splitL_mem t p h
    · obtain ⟨q, qs, h1, h2⟩ := splitL_cons b t hb
      rw [h2] at h
      have ih := splitL_mem t
      rw [h1] at ih
      rcases List.mem_cons.1 h with rfl | h
      · intro k
        rcases List.mem_cons.1 k with e | k
        · exact hb e.symm
        · exact ih q List.mem_cons_self k
      · exact ih p (List.mem_cons_of_mem _ h)
theorem splitL_length : ∀ l : List UInt8, (splitL l).length ≤ l.length + 1
  | [] => Nat.le_refl _
  | b :: t => by
    have ih := splitL_length t
    by_cases hb : b = 47
    · rw [hb, splitL_slash]; simp only [List.length_cons]; omega
    · obtain ⟨q, qs, h1, h2⟩ := splitL_cons b t hb
      rw [h1] at ih
      rw [h2]
      simp only [List.length_cons] at *; omega
theorem splitL_total : ∀ l : List UInt8, Lib.lens (splitL l) + (splitL l).length = l.length + 1
  | [] => rfl
  | b :: t => by
    have ih := splitL_total t
    by_cases hb : b = 47
    · rw [hb, splitL_slash]; simp only [Lib.lens, List.map_cons, List.sum_cons, List.length_cons, List.length_nil] at *; omega
    · obtain ⟨q, qs, h1, h2⟩ := splitL_cons b t hb
      rw [h1] at ih
      rw [h2]
      simp only [Lib.lens, List.map_cons, List.sum_cons, List.length_cons] at *; omega

/-- the library's cut at a slash is this one -/
theorem index_slash : ∀ l : List UInt8, (47 ∉ l ∧ Lib.index l [47] = -1) ∨ ∃ (p t : List UInt8), l = p ++ 47 :: t ∧ 47 ∉ p ∧ Lib.index l [47] = p.length
  | [] => .inl ⟨List.not_mem_nil, by simp [Lib.index]⟩
  | b :: t => by
    by_cases hb : b = 47
    · exact .inr ⟨[], t, by rw [hb]; rfl, List.not_mem_nil, by rw [hb, Lib.index]; simp [List.isPrefixOf]⟩
    · have hp : ([47] : List UInt8).isPrefixOf (b :: t) = false := by simp [List.isPrefixOf, Ne.symm hb]
      have hix : Lib.index (b :: t) [47] = if Lib.index t [47] == -1 then -1 else Lib.index t [47] + 1 := by rw [Lib.index, hp]; simp
      rcases index_slash t with ⟨h1, h2⟩ | ⟨p, u, rfl, h1, h2⟩
      · exact .inl ⟨fun k => (List.mem_cons.1 k).elim (fun e => hb e.symm) h1, by rw [hix, h2]; rfl⟩
      · refine .inr ⟨b :: p, u, rfl, fun k => (List.mem_cons.1 k).elim (fun e => hb e.symm) h1, ?_⟩
        rw [hix, h2, if_neg (by simp), List.length_cons]; omega
theorem splitK_is : ∀ (k : Nat) (l : List UInt8), l.count 47 = k → Lib.splitK [47] 0 k l = splitL l
  | 0, l, h => by
    rw [Lib.splitK, splitL_one l (List.count_eq_zero.1 h)]
  | k + 1, l, h => by
    rcases index_slash l with ⟨h1, _⟩ | ⟨p, t, rfl, h1, h2⟩
    · rw [List.count_eq_zero.2 h1] at h; omega
    · rw [Lib.splitK, h2, if_neg (by simp), splitL_app p t h1]
      have hc : t.count 47 = k := by
        rw [List.count_append, List.count_eq_zero.2 h1, List.count_cons_self] at h; omega
      have e1 : ((p.length : Int)).toNat = p.length := by omega
      rw [e1, Nat.add_zero, List.take_left, show ([47] : List UInt8).length = 1 from rfl]
      have e2 : (p ++ 47 :: t).drop (p.length + 1) = t := by
        rw [← List.drop_drop, List.drop_left]; rfl
      rw [e2, splitK_is k t hc]

def partsB (s : ByteArray) : List ByteArray := (splitL s.data.toList).map bs
theorem splitB_is (s : ByteArray) : Lib.splitB ⟨#[47]⟩ 0 (Lib.countB s ⟨#[47]⟩) s = partsB s := by
  have h := Lib.splitB_data ⟨#[47]⟩ 0 (Lib.countB s ⟨#[47]⟩) s
  have e : (⟨#[47]⟩ : ByteArray).data.toList = [47] := rfl
  have hc : s.data.toList.count 47 = Lib.countB s ⟨#[47]⟩ := (Lib.count_one 47 _).symm
  rw [e, splitK_is _ _ hc] at h
  rw [partsB, ← h, List.map_map]
  exact (List.map_id _).symm

/-- one part more on the pile -/
def stepL (xs : List (List UInt8)) (p : List UInt8) : List (List UInt8) :=
  if p = [] ∨ p = [46] then xs else if p = [46, 46] then xs.take (xs.length - 1) else xs ++ [p]
def pileL (xs ps : List (List UInt8)) : List (List UInt8) := ps.foldl stepL xs
theorem pileL_cons (xs ps : List (List UInt8)) (p : List UInt8) : pileL xs (p :: ps) = pileL (stepL xs p) ps := rfl
theorem pileL_snoc (xs ps : List (List UInt8)) (p : List UInt8) : pileL xs (ps ++ [p]) = stepL (pileL xs ps) p := by
  rw [pileL, List.foldl_append]; rfl
theorem stepL_none (xs : List (List UInt8)) (p : List UInt8) (h : p = [] ∨ p = [46]) : stepL xs p = xs := by rw [stepL, if_pos h]
theorem stepL_up (xs : List (List UInt8)) : stepL xs [46, 46] = xs.take (xs.length - 1) := by rw [stepL, if_neg (by simp), if_pos rfl]
theorem stepL_put (xs : List (List UInt8)) (p : List UInt8) (h0 : p ≠ []) (h1 : p ≠ [46]) (h2 : p ≠ [46, 46]) : stepL xs p = xs ++ [p] := by
  rw [stepL, if_neg (fun h => h.elim h0 h1), if_neg h2]
theorem stepL_length (xs : List (List UInt8)) (p : List UInt8) : (stepL xs p).length ≤ xs.length + 1 := by
  rw [stepL]
  split
  · omega
  · split
    · rw [List.length_take]; omega
    · simp
theorem lens_app (a b : List (List UInt8)) : Lib.lens (a ++ b) = Lib.lens a + Lib.lens b := by simp [Lib.lens]
theorem lens_take (a : List (List UInt8)) (k : Nat) : Lib.lens (a.take k) ≤ Lib.lens a := by
  have := lens_app (a.take k) (a.drop k)
  rw [List.take_append_drop] at this
  omega
theorem stepL_lens (xs : List (List UInt8)) (p : List UInt8) : Lib.lens (stepL xs p) ≤ Lib.lens xs + p.length := by
  rw [stepL]
  split
  · omega
  · split
    · exact Nat.le_trans (lens_take _ _) (by omega)
    · rw [lens_app]; simp [Lib.lens]
theorem pileL_length : ∀ (ps xs : List (List UInt8)), (pileL xs ps).length ≤ xs.length + ps.length
  | [], xs => Nat.le_refl _
  | p :: ps, xs => by
    have := pileL_length ps (stepL xs p)
    have := stepL_length xs p
    rw [pileL_cons, List.length_cons]; omega
theorem pileL_lens : ∀ (ps xs : List (List UInt8)), Lib.lens (pileL xs ps) ≤ Lib.lens xs + Lib.lens ps
  | [], xs => Nat.le_refl _
  | p :: ps, xs => by
    have := pileL_lens ps (stepL xs p)
    have := stepL_lens xs p
    rw [pileL_cons]
    simp only [Lib.lens, List.map_cons, List.sum_cons] at *; omega

/-- each with a slash ahead -/
def flatL (xs : List (List UInt8)) : List UInt8 := (xs.map (47 :: ·)).flatten
theorem flatL_cons (x : List UInt8) (r : List (List UInt8)) : flatL (x :: r) = 47 :: (x ++ flatL r) := rfl
theorem flatL_app (a b : List (List UInt8)) : flatL (a ++ b) = flatL a ++ flatL b := by simp [flatL]
theorem flatL_one (p : List UInt8) : flatL [p] = 47 :: p := by simp [flatL]
theorem flatL_nil (xs : List (List UInt8)) (h : flatL xs = []) : xs = [] := by
  cases xs with
  | nil => rfl
  | cons x r => rw [flatL_cons] at h; cases h
theorem flatL_length (xs : List (List UInt8)) : (flatL xs).length = Lib.lens xs + xs.length := by
  induction xs with
  | nil => rfl
  | cons x r ih => rw [flatL_cons]; simp only [Lib.lens, List.map_cons, List.sum_cons, List.length_cons, List.length_append] at *; omega
/-- a slash, if there is nothing -/
def orSlash (l : List UInt8) : List UInt8 := match l with
  | [] => [47]
  | b :: t => b :: t
theorem join_flat (xs : List (List UInt8)) : 47 :: Lib.join xs [47] = orSlash (flatL xs) := by
  cases xs with
  | nil => rfl
  | cons x r => rw [Lib.join_cons]; rfl
theorem join_length_le (xs : List (List UInt8)) : (Lib.join xs [47]).length ≤ Lib.lens xs + xs.length := by
  cases xs with
  | nil => exact Nat.zero_le _
  | cons x r => rw [Lib.join_length, List.length_cons]; simp only [List.length_cons, List.length_nil]; omega

/-- a name from / on -/
def absL (l : List UInt8) : List UInt8 := match l with
  | [] => []
  | b :: t => orSlash (flatL (pileL [] (splitL (b :: t))))
theorem absL_some (l : List UInt8) (h : l ≠ []) : absL l = orSlash (flatL (pileL [] (splitL l))) := by
  cases l with
  | nil => exact absurd rfl h
  | cons b t => rfl
theorem orSlash_length (l : List UInt8) : (orSlash l).length ≤ l.length + 1 := by
  cases l with
  | nil => exact Nat.le_refl _
  | cons b t => exact Nat.le_succ _
theorem parts_bounds (l : List UInt8) : Lib.lens (pileL [] (splitL l)) + (pileL [] (splitL l)).length ≤ 2 * l.length + 2 := by
  have h1 := splitL_total l
  have h2 := splitL_length l
  have h3 := pileL_lens (splitL l) []
  have h4 := pileL_length (splitL l) []
  simp only [List.length_nil, Lib.lens, List.map_nil, List.sum_nil] at h3 h4
  simp only [Lib.lens] at *
  omega
theorem absL_length (l : List UInt8) : (absL l).length ≤ 2 * l.length + 3 := by
  cases l with
  | nil => exact Nat.zero_le _
  | cons b t =>
    have h1 := parts_bounds (b :: t)
    have h2 := orSlash_length (flatL (pileL [] (splitL (b :: t))))
    rw [flatL_length] at h2
    show (orSlash _).length ≤ _
    omega

/-- a part that stays -/
def Good (p : List UInt8) : Prop := p ≠ [] ∧ p ≠ [46] ∧ p ≠ [46, 46] ∧ 47 ∉ p
theorem stepL_good {xs : List (List UInt8)} {p : List UInt8} (h : ∀ x ∈ xs, Good x) (hp : 47 ∉ p) : ∀ x ∈ stepL xs p, Good x := by
  intro x hx
  by_cases h0 : p = [] ∨ p = [46]
  · rw [stepL_none _ _ h0] at hx; exact h x hx
  · by_cases h2 : p = [46, 46]
    · rw [h2, stepL_up] at hx; exact h x (List.mem_of_mem_take hx)
    · rw [stepL_put _ _ (fun e => h0 (.inl e)) (fun e => h0 (.inr e)) h2] at hx
      rcases List.mem_append.1 hx with hx | hx
      · exact h x hx
      · rw [List.mem_singleton.1 hx]; exact ⟨fun e => h0 (.inl e), fun e => h0 (.inr e), h2, hp⟩
theorem pileL_good : ∀ (ps xs : List (List UInt8)), (∀ x ∈ xs, Good x) → (∀ p ∈ ps, 47 ∉ p) → ∀ x ∈ pileL xs ps, Good x
  | [], _, h, _ => h
  | p :: ps, xs, h, hp => pileL_good ps (stepL xs p) (stepL_good h (hp p List.mem_cons_self)) (fun q hq => hp q (List.mem_cons_of_mem _ hq))
theorem pileL_stays : ∀ (ps xs : List (List UInt8)), (∀ p ∈ ps, Good p) → pileL xs ps = xs ++ ps
  | [], xs, _ => (List.append_nil _).symm
  | p :: ps, xs, h => by
    obtain ⟨h0, h1, h2, _⟩ := h p List.mem_cons_self
    rw [pileL_cons, stepL_put _ _ h0 h1 h2, pileL_stays ps _ (fun q hq => h q (List.mem_cons_of_mem _ hq))]
    simp
theorem split_flat : ∀ (r : List (List UInt8)) (x : List UInt8), 47 ∉ x → (∀ p ∈ r, 47 ∉ p) → splitL (x ++ flatL r) = x :: r
  | [], x, hx, _ => by
    have : flatL [] = [] := rfl
    rw [this, List.append_nil]; exact splitL_one x hx
  | y :: r, x, hx, h => by
    rw [flatL_cons, splitL_app _ _ hx, split_flat r y (h y List.mem_cons_self) (fun q hq => h q (List.mem_cons_of_mem _ hq))]
theorem split_flat0 (r : List (List UInt8)) (h : ∀ p ∈ r, 47 ∉ p) (hr : r ≠ []) : splitL (flatL r) = [] :: r := by
  cases r with
  | nil => exact absurd rfl hr
  | cons y r => rw [flatL_cons, splitL_slash, split_flat r y (h y List.mem_cons_self) (fun q hq => h q (List.mem_cons_of_mem _ hq))]
theorem pile_nil (ps : List (List UInt8)) : pileL [] ([] :: ps) = pileL [] ps := by rw [pileL_cons, stepL_none _ _ (.inl rfl)]
theorem abs_flat (xs : List (List UInt8)) (h : ∀ x ∈ xs, Good x) : absL (orSlash (flatL xs)) = orSlash (flatL xs) := by
  cases xs with
  | nil => rfl
  | cons x r =>
    have e : orSlash (flatL (x :: r)) = flatL (x :: r) := rfl
    rw [e, absL_some _ (by rw [flatL_cons]; simp), split_flat0 _ (fun p hp => (h p hp).2.2.2) (by simp), pile_nil, pileL_stays _ _ h, List.nil_append, e]
/-- Abs of Abs is Abs -/
theorem abs_abs (l : List UInt8) : absL (absL l) = absL l := by
  cases l with
  | nil => rfl
  | cons b t => exact abs_flat _ (pileL_good _ _ (fun _ h => absurd h List.not_mem_nil) (splitL_mem _))

/-- parts put together, a slash ahead of the first one or not -/
def textL (lead : Bool) (ps : List (List UInt8)) : List UInt8 := match lead, ps with
  | true, ps => flatL ps
  | false, [] => []
  | false, p :: r => p ++ flatL r
theorem text_snoc (lead : Bool) (ps : List (List UInt8)) (p : List UInt8) (h : lead = true ∨ ps ≠ []) : textL lead (ps ++ [p]) = textL lead ps ++ 47 :: p := by
  cases lead with
  | true => show flatL _ = flatL _ ++ _; rw [flatL_app, flatL_one]
  | false =>
    cases ps with
    | nil => exact (h.elim (fun e => by cases e) (fun e => absurd rfl e))
    | cons q r => show q ++ flatL (r ++ [p]) = q ++ flatL r ++ _; rw [flatL_app, flatL_one, List.append_assoc]
theorem abs_text0 (lead : Bool) (ps : List (List UInt8)) (h : ∀ p ∈ ps, 47 ∉ p) (hs : textL lead ps ≠ []) : absL (textL lead ps) = orSlash (flatL (pileL [] ps)) := by
  rw [absL_some _ hs]
  cases lead with
  | true =>
    have hp : ps ≠ [] := fun e => hs (by rw [e]; rfl)
    show orSlash (flatL (pileL [] (splitL (flatL ps)))) = _
    rw [split_flat0 ps h hp, pile_nil]
  | false =>
    cases ps with
    | nil => exact absurd rfl hs
    | cons q r =>
      show orSlash (flatL (pileL [] (splitL (q ++ flatL r)))) = _
      rw [split_flat r q (h q List.mem_cons_self) (fun p hp => h p (List.mem_cons_of_mem _ hp))]
/-- what Abs of parts put together is, a slash behind the last one or not -/
theorem abs_text (lead last : Bool) (ps : List (List UInt8)) (h : ∀ p ∈ ps, 47 ∉ p) :
    absL (textL lead ps ++ (if last then [47] else [])) = if flatL (pileL [] ps) = [] ∧ textL lead ps ++ (if last then [47] else []) ≠ [] then [47] else flatL (pileL [] ps) := by
  have hor : ∀ l : List UInt8, orSlash l = if l = [] then [47] else l := fun l => by cases l <;> rfl
  cases last with
  | false =>
    simp only [Bool.false_eq_true, if_false, List.append_nil]
    by_cases hs : textL lead ps = []
    · rw [hs, if_neg (fun h => h.2 rfl)]
      have : pileL [] ps = [] := by
        cases lead with
        | true => rw [flatL_nil ps hs]; rfl
        | false =>
          cases ps with
          | nil => rfl
          | cons q r =>
            have hq : q ++ flatL r = [] := hs
            obtain ⟨rfl, hr⟩ := List.append_eq_nil_iff.1 hq
            rw [flatL_nil r hr]; rfl
      rw [this]; rfl
    · rw [abs_text0 lead ps h hs, hor]
      by_cases h0 : flatL (pileL [] ps) = []
      · rw [if_pos h0, if_pos ⟨h0, hs⟩]
      · rw [if_neg h0, if_neg (fun k => h0 k.1)]
  | true =>
    simp only [if_true]
    have hne : textL lead ps ++ [47] ≠ [] := by simp
    have key : absL (textL lead ps ++ [47]) = orSlash (flatL (pileL [] ps)) := by
      by_cases hl : lead = true ∨ ps ≠ []
      · have e := text_snoc lead ps [] hl
        rw [← e, abs_text0 lead (ps ++ [[]]) (fun p hp => (List.mem_append.1 hp).elim (h p) (fun k => by rw [List.mem_singleton.1 k]; exact List.not_mem_nil)) (by rw [e]; exact hne), pileL_snoc, stepL_none _ _ (.inl rfl)]
      · have h1 : lead = false := by cases lead with
          | true => exact absurd (.inl rfl) hl
          | false => rfl
        have h2 : ps = [] := Classical.byContradiction fun k => hl (.inr k)
        rw [h1, h2]; rfl
    rw [key, hor]
    by_cases h0 : flatL (pileL [] ps) = []
    · rw [if_pos h0, if_pos ⟨h0, hne⟩]
    · rw [if_neg h0, if_neg (fun k => h0 k.1)]

end Go.Proofs.YtgfpdaaofhanoaaGreatDoor.Pth
