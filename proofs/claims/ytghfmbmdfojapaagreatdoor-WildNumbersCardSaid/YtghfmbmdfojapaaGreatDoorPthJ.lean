/- Names of files on lists of bytes: the last of a byte, the ways, the parts, the pile; no program. -/
import Derived.Lib.SplitLaws
import Derived.Lib.LastIndexByte
import Derived.Lib.Join
import Derived.Lib.Hide
namespace Go.Proofs.YtghfmbmdfojapaaGreatDoor.Pth

/-- a text of bytes -/
def bs (l : List UInt8) : ByteArray := ⟨l.toArray⟩
theorem size_bs (l : List UInt8) : (bs l).size = l.length := by simp [bs, ByteArray.size]
theorem data_bs (l : List UInt8) : (bs l).data.toList = l := rfl
theorem bs_data (s : ByteArray) : bs s.data.toList = s := rfl
theorem len_data (s : ByteArray) : s.data.toList.length = s.size := rfl
theorem bs_app (a b : List UInt8) : bs (a ++ b) = bs a ++ bs b := by
  have : (bs (a ++ b)).data.toList = (bs a ++ bs b).data.toList := by rw [ByteArray.data_append, Array.toList_append]; rfl
  rw [← bs_data (bs (a ++ b)), this, bs_data]
theorem app_data (a b : ByteArray) : (a ++ b).data.toList = a.data.toList ++ b.data.toList := by rw [ByteArray.data_append, Array.toList_append]
theorem eq_of_data {a b : ByteArray} (h : a.data.toList = b.data.toList) : a = b := by rw [← bs_data a, h, bs_data]
theorem take_data (s : ByteArray) (k : Nat) : (s.extract 0 k).data.toList = s.data.toList.take k := Lib.extract_from_zero s k
theorem drop_data (s : ByteArray) (k : Nat) : (s.extract k s.size).data.toList = s.data.toList.drop k := Lib.extract_to_end s k

/-- behind the last c; 0 if there is none -/
def lastB (c : UInt8) : List UInt8 → Nat
  | [] => 0
  | b :: t => match lastB c t with
    | 0 => if b = c then 1 else 0
    | n + 1 => n + 2
theorem lastB_cons (c b : UInt8) (t : List UInt8) : lastB c (b :: t) = if lastB c t = 0 then (if b = c then 1 else 0) else lastB c t + 1 := by
  rw [lastB]
  cases lastB c t with
  | zero => rfl
  | succ n => rfl
theorem lastB_le (c : UInt8) : ∀ l, lastB c l ≤ l.length
  | [] => Nat.le_refl _
  | b :: t => by
    have := lastB_le c t
    rw [lastB_cons, List.length_cons]
    split
    · split <;> omega
    · omega
theorem lastB_snoc (c b : UInt8) : ∀ l, lastB c (l ++ [b]) = if b = c then l.length + 1 else lastB c l
  | [] => by
    rw [List.nil_append, lastB_cons]
    rfl
  | x :: t => by
    rw [List.cons_append, lastB_cons, lastB_snoc c b t]
    by_cases h : b = c
    · rw [if_pos h, if_pos h, if_neg (by omega), List.length_cons]
    · rw [if_neg h, if_neg h, lastB_cons]
theorem lastB_none (c : UInt8) : ∀ l, c ∉ l → lastB c l = 0
  | [], _ => rfl
  | b :: t, h => by
    rw [lastB_cons, lastB_none c t (fun k => h (List.mem_cons_of_mem _ k)), if_pos rfl, if_neg (fun e => h (by rw [e]; exact List.mem_cons_self))]
theorem lastB_take_succ (c : UInt8) (s : ByteArray) (k : Nat) (h : k < s.size) : lastB c (s.data.toList.take (k + 1)) = if s[k] = c then k + 1 else lastB c (s.data.toList.take k) := by
  have hk : k < s.data.toList.length := h
  rw [List.take_succ_eq_append_getElem hk, lastB_snoc, List.length_take, Nat.min_eq_left (by omega)]
  rfl
theorem lastIdx_is (c : UInt8) (s : ByteArray) : ∀ k, k ≤ s.size → Lib.lastIdx s (c.toNat : Int) k = (lastB c (s.data.toList.take k) : Int) - 1
  | 0, _ => rfl
  | k + 1, h => by
    rw [Lib.lastIdx, lastB_take_succ c s k (by omega), lastIdx_is c s k (by omega)]
    have e : s.data[k]! = s[k]'(by omega) := by rw [getElem!_pos s.data k (by show k < s.size; omega)]; rfl
    rw [e]
    by_cases hc : s[k]'(by omega) = c
    · rw [if_pos (by rw [hc]), if_pos hc]; omega
    · rw [if_neg (fun x => hc (UInt8.toNat_inj.1 (by omega))), if_neg hc]
theorem lastIndexByte_is (c : UInt8) (s : ByteArray) : Lib.lastIndexByte s (c.toNat : Int) = (lastB c s.data.toList : Int) - 1 := by
  rw [Lib.lastIndexByte, lastIdx_is c s s.size (Nat.le_refl _), ← len_data, List.take_length]

/-- where the way ends -/
def wayB (s : ByteArray) : Nat := lastB 47 s.data.toList
theorem wayB_le (s : ByteArray) : wayB s ≤ s.size := lastB_le 47 _
def dirB (s : ByteArray) : ByteArray := if wayB s = 0 then ⟨#[46, 47]⟩ else s.extract 0 (wayB s)
def notdirB (s : ByteArray) : ByteArray := s.extract (wayB s) s.size
/-- behind the last dot of what is no way -/
def dotB (s : ByteArray) : Nat := lastB 46 (notdirB s).data.toList
theorem dotB_le (s : ByteArray) : dotB s ≤ (notdirB s).size := lastB_le 46 _
def sufB (s : ByteArray) : ByteArray := if dotB s = 0 then ⟨#[]⟩ else (notdirB s).extract (dotB s - 1) (notdirB s).size
theorem notdirB_size (s : ByteArray) : (notdirB s).size = s.size - wayB s := by rw [notdirB, ByteArray.size_extract]; omega
theorem sufB_size (s : ByteArray) : (sufB s).size ≤ s.size := by
  rw [sufB]
  split
  · exact Nat.zero_le _
  · rw [ByteArray.size_extract, notdirB_size]; omega
def baseB (s : ByteArray) : ByteArray := s.extract 0 (s.size - (sufB s).size)

/-- what goes together is the whole -/
theorem base_suffix (s : ByteArray) : baseB s ++ sufB s = s := by
  apply eq_of_data
  rw [app_data, baseB, take_data]
  have h : (sufB s).data.toList = s.data.toList.drop (s.size - (sufB s).size) := by
    by_cases h0 : dotB s = 0
    · have e : sufB s = ⟨#[]⟩ := by rw [sufB, if_pos h0]
      rw [e]
      show [] = s.data.toList.drop (s.size - 0)
      rw [Nat.sub_zero, ← len_data, List.drop_length]
    · have e : sufB s = (notdirB s).extract (dotB s - 1) (notdirB s).size := by rw [sufB, if_neg h0]
      have hd := dotB_le s
      have hw := wayB_le s
      have hn := notdirB_size s
      have hz : (sufB s).size = (notdirB s).size - (dotB s - 1) := by rw [e, ByteArray.size_extract]; omega
      rw [hz, e, drop_data, notdirB, drop_data, List.drop_drop]
      rw [← notdirB]
      congr 1
      omega
  rw [h, List.take_append_drop]
theorem way_whole (s : ByteArray) : s.extract 0 (wayB s) ++ notdirB s = s := by
  apply eq_of_data
  rw [app_data, take_data, notdirB, drop_data, List.take_append_drop]
theorem notdir_whole (s : ByteArray) (h : wayB s = 0) : notdirB s = s := by
  apply eq_of_data
  rw [notdirB, h, drop_data, List.drop_zero]
theorem notdir_less (s : ByteArray) (h : wayB s ≠ 0) : notdirB s ≠ s := fun e => by
  have := notdirB_size s
  have := wayB_le s
  rw [e] at *
  omega

/-- the parts: cut at each slash -/
def splitL : List UInt8 → List (List UInt8)
  | [] => [[]]
  | b :: t => if b = 47 then [] :: splitL t else match splitL t with
    | p :: ps => (b :: p) :: ps
    | [] => [[b]]
theorem splitL_ne : ∀ l, splitL l ≠ []
  | [] => by simp [splitL]
  | b :: t => by
    rw [splitL]
    split
    · simp
    · split <;> simp
theorem splitL_cons (b : UInt8) (t : List UInt8) (h : b ≠ 47) : ∃ p ps, splitL t = p :: ps ∧ splitL (b :: t) = (b :: p) :: ps := by
  cases hs : splitL t with
  | nil => exact absurd hs (splitL_ne t)
  | cons p ps => exact ⟨p, ps, rfl, by rw [splitL, if_neg h, hs]⟩
theorem splitL_slash (t : List UInt8) : splitL (47 :: t) = [] :: splitL t := by rw [splitL, if_pos rfl]
/-- what has no slash is one part, ahead of others -/
theorem splitL_app : ∀ (p t : List UInt8), 47 ∉ p → splitL (p ++ 47 :: t) = p :: splitL t
  | [], t, _ => splitL_slash t
  | b :: p, t, h => by
    obtain ⟨q, qs, h1, h2⟩ := splitL_cons b (p ++ 47 :: t) (fun e => h (by rw [e]; exact List.mem_cons_self))
    rw [splitL_app p t (fun k => h (List.mem_cons_of_mem _ k))] at h1
    rw [List.cons_append, h2]
    cases h1
    rfl
theorem splitL_one : ∀ (p : List UInt8), 47 ∉ p → splitL p = [p]
  | [], _ => rfl
  | b :: p, h => by
    obtain ⟨q, qs, h1, h2⟩ := splitL_cons b p (fun e => h (by rw [e]; exact List.mem_cons_self))
    rw [splitL_one p (fun k => h (List.mem_cons_of_mem _ k))] at h1
    rw [h2]
    cases h1
    rfl
theorem splitL_mem : ∀ (l : List UInt8) (p : List UInt8), p ∈ splitL l → 47 ∉ p
  | [], p, h => by
    have : p = [] := by simpa [splitL] using h
    rw [this]; exact List.not_mem_nil
  | b :: t, p, h => by
    by_cases hb : b = 47
    · rw [hb, splitL_slash] at h
      rcases List.mem_cons.1 h with rfl | h
      · exact List.not_mem_nil
      · exact splitL_mem t p h
    · obtain ⟨q, qs, h1, h2⟩ := splitL_cons b t hb
      rw [h2] at h
      have ih := splitL_mem t
      rw [h1] at ih
      rcases List.mem_cons.1 h with rfl | h
      · intro k
        rcases List.mem_cons.1 k with e | k
        · exact hb e.symm
        · exact ih q List.mem_cons_self k
      · exact ih p (List.mem_cons_of_mem _ h)
theorem splitL_length : ∀ l : List UInt8, (splitL l).length ≤ l.length + 1
  | [] => Nat.le_refl _
  | b :: t => by
    have ih := splitL_length t
    by_cases hb : b = 47
    · rw [hb, splitL_slash]; simp only [List.length_cons]; omega
    · obtain ⟨q, qs, h1, h2⟩ := splitL_cons b t hb
      rw [h1] at ih
      rw [h2]
      simp only [List.length_cons] at *; omega
theorem splitL_total : ∀ l : List UInt8, Lib.lens (splitL l) + (splitL l).length = l.length + 1
  | [] => rfl
  | b :: t => by
    have ih := splitL_total t
    by_cases hb : b = 47
    · rw [hb, splitL_slash]; simp only [Lib.lens, List.map_cons, List.sum_cons, List.length_cons, List.length_nil] at *; omega
    · obtain ⟨q, qs, h1, h2⟩ := splitL_cons b t hb
      rw [h1] at ih
      rw [h2]
      simp only [Lib.lens, List.map_cons, List.sum_cons, List.length_cons] at *; omega

/-- the library's cut at a slash is this one -/
theorem index_slash : ∀ l : List UInt8, (47 ∉ l ∧ Lib.index l [47] = -1) ∨ ∃ (p t : List UInt8), l = p ++ 47 :: t ∧ 47 ∉ p ∧ Lib.index l [47] = p.length
  | [] => .inl ⟨List.not_mem_nil, by simp [Lib.index]⟩
  | b :: t => by
    by_cases hb : b = 47
    · exact .inr ⟨[], t, by rw [hb]; rfl, List.not_mem_nil, by rw [hb, Lib.index]; simp [List.isPrefixOf]⟩
    · have hp : ([47] : List UInt8).isPrefixOf (b :: t) = false := by simp [List.isPrefixOf, Ne.symm hb]
      have hix : Lib.index (b :: t) [47] = if Lib.index t [47] == -1 then -1 else Lib.index t [47] + 1 := by rw [Lib.index, hp]; simp
      rcases index_slash t with ⟨h1, h2⟩ | ⟨p, u, rfl, h1, h2⟩
      · exact .inl ⟨fun k => (List.mem_cons.1 k).elim (fun e => hb e.symm) h1, by rw [hix, h2]; rfl⟩
      · refine .inr ⟨b :: p, u, rfl, fun k => (List.mem_cons.1 k).elim (fun e => hb e.symm) h1, ?_⟩
        rw [hix, h2, if_neg (by simp), List.length_cons]; omega
theorem splitK_is : ∀ (k : Nat) (l : List UInt8), l.count 47 = k → Lib.splitK [47] 0 k l = splitL l
  | 0, l, h => by
    rw [Lib.splitK, splitL_one l (List.count_eq_zero.1 h)]
  | k + 1, l, h => by
    rcases index_slash l with ⟨h1, _⟩ | ⟨p, t, rfl, h1, h2⟩
    · rw [List.count_eq_zero.2 h1] at h; omega
    · rw [Lib.splitK, h2, if_neg (by simp), splitL_app p t h1]
      have hc : t.count 47 = k := by
        rw [List.count_append, List.count_eq_zero.2 h1, List.count_cons_self] at h; omega
      have e1 : ((p.length : Int)).toNat = p.length := by omega
      rw [e1, Nat.add_zero, List.take_left, show ([47] : List UInt8).length = 1 from rfl]
      have e2 : (p ++ 47 :: t).drop (p.length + 1) = t := by
        rw [← List.drop_drop, List.drop_left]; rfl
      rw [e2, splitK_is k t hc]

def partsB (s : ByteArray) : List ByteArray := (splitL s.data.toList).map bs
theorem splitB_is (s : ByteArray) : Lib.splitB ⟨#[47]⟩ 0 (Lib.countB s ⟨#[47]⟩) s = partsB s := by
  have h := Lib.splitB_data ⟨#[47]⟩ 0 (Lib.countB s ⟨#[47]⟩) s
  have e : (⟨#[47]⟩ : ByteArray).data.toList = [47] := rfl
  have hc : s.data.toList.count 47 = Lib.countB s ⟨#[47]⟩ := (Lib.count_one 47 _).symm
  rw [e, splitK_is _ _ hc] at h
  rw [partsB, ← h, List.map_map]
  exact (List.map_id _).symm

/-- one part more on the pile -/
def stepL (xs : List (List UInt8)) (p : List UInt8) : List (List UInt8) :=
  if p = [] ∨ p = [46] then xs else if p = [46, 46] then xs.take (xs.length - 1) else xs ++ [p]
def pileL (xs ps : List (List UInt8)) : List (List UInt8) := ps.foldl stepL xs
theorem pileL_cons (xs ps : List (List UInt8)) (p : List UInt8) : pileL xs (p :: ps) = pileL (stepL xs p) ps := rfl
theorem pileL_snoc (xs ps : List (List UInt8)) (p : List UInt8) : pileL xs (ps ++ [p]) = stepL (pileL xs ps) p := by
  rw [pileL, List.foldl_append]; rfl
theorem stepL_none (xs : List (List UInt8)) (p : List UInt8) (h : p = [] ∨ p = [46]) : stepL xs p = xs := by rw [stepL, if_pos h]
theorem stepL_up (xs : List (List UInt8)) : stepL xs [46, 46] = xs.take (xs.length - 1) := by rw [stepL, if_neg (by simp), if_pos rfl]
theorem stepL_put (xs : List (List UInt8)) (p : List UInt8) (h0 : p ≠ []) (h1 : p ≠ [46]) (h2 : p ≠ [46, 46]) : stepL xs p = xs ++ [p] := by
  rw [stepL, if_neg (fun h => h.elim h0 h1), if_neg h2]
theorem stepL_length (xs : List (List UInt8)) (p : List UInt8) : (stepL xs p).length ≤ xs.length + 1 := by
  rw [stepL]
  split
  · omega
  · split
    · rw [List.length_take]; omega
    · simp
theorem lens_app (a b : List (List UInt8)) : Lib.lens (a ++ b) = Lib.lens a + Lib.lens b := by simp [Lib.lens]
theorem lens_take (a : List (List UInt8)) (k : Nat) : Lib.lens (a.take k) ≤ Lib.lens a := by
  have := lens_app (a.take k) (a.drop k)
  rw [List.take_append_drop] at this
  omega
theorem stepL_lens (xs : List (List UInt8)) (p : List UInt8) : Lib.lens (stepL xs p) ≤ Lib.lens xs + p.length := by
  rw [stepL]
  split
  · omega
  · split
    · exact Nat.le_trans (lens_take _ _) (by omega)
    · rw [lens_app]; simp [Lib.lens]
theorem pileL_length : ∀ (ps xs : List (List UInt8)), (pileL xs ps).length ≤ xs.length + ps.length
  | [], xs => Nat.le_refl _
  | p :: ps, xs => by
    have := pileL_length ps (stepL xs p)
    have := stepL_length xs p
    rw [pileL_cons, List.length_cons]; omega
theorem pileL_lens : ∀ (ps xs : List (List UInt8)), Lib.lens (pileL xs ps) ≤ Lib.lens xs + Lib.lens ps
  | [], xs => Nat.le_refl _
  | p :: ps, xs => by
    have := pileL_lens ps (stepL xs p)
    have := stepL_lens xs p
    rw [pileL_cons]
    simp only [Lib.lens, List.map_cons, List.sum_cons] at *; omega

/-- each with a slash ahead -/
def flatL (xs : List (List UInt8)) : List UInt8 := (xs.map (47 :: ·)).flatten
theorem flatL_cons (x : List UInt8) (r : List (List UInt8)) : flatL (x :: r) = 47 :: (x ++ flatL r) := rfl
theorem flatL_app (a b : List (List UInt8)) : flatL (a ++ b) = flatL a ++ flatL b := by simp [flatL]
theorem flatL_one (p : List UInt8) : flatL [p] = 47 :: p := by simp [flatL]
theorem flatL_nil (xs : List (List UInt8)) (h : flatL xs = []) : xs = [] := by
  cases xs with
  | nil => rfl
  | cons x r => rw [flatL_cons] at h; cases h
theorem flatL_length (xs : List (List UInt8)) : (flatL xs).length = Lib.lens xs + xs.length := by
  induction xs with
  | nil => rfl
  | cons x r ih => rw [flatL_cons]; simp only [Lib.lens, List.map_cons, List.sum_cons, List.length_cons, List.length_append] at *; omega
/-- a slash, if there is nothing -/
def orSlash (l : List UInt8) : List UInt8 := match l with
  | [] => [47]
  | b :: t => b :: t
theorem join_flat (xs : List (List UInt8)) : 47 :: Lib.join xs [47] = orSlash (flatL xs) := by
  cases xs with
  | nil => rfl
  | cons x r => rw [Lib.join_cons]; rfl
theorem join_length_le (xs : List (List UInt8)) : (Lib.join xs [47]).length ≤ Lib.lens xs + xs.length := by
  cases xs with
  | nil => exact Nat.zero_le _
  | cons x r => rw [Lib.join_length, List.length_cons]; simp only [List.length_cons, List.length_nil]; omega

/-- a name from / on -/
def absL (l : List UInt8) : List UInt8 := match l with
  | [] => []
  | b :: t => orSlash (flatL (pileL [] (splitL (b :: t))))
theorem absL_some (l : List UInt8) (h : l ≠ []) : absL l = orSlash (flatL (pileL [] (splitL l))) := by
  cases l with
  | nil => exact absurd rfl h
  | cons b t => rfl
theorem orSlash_length (l : List UInt8) : (orSlash l).length ≤ l.length + 1 := by
  cases l with
  | nil => exact Nat.le_refl _
  | cons b t => exact Nat.le_succ _
theorem parts_bounds (l : List UInt8) : Lib.lens (pileL [] (splitL l)) + (pileL [] (splitL l)).length ≤ 2 * l.length + 2 := by
  have h1 := splitL_total l
  have h2 := splitL_length l
  have h3 := pileL_lens (splitL l) []
  have h4 := pileL_length (splitL l) []
  simp only [List.length_nil, Lib.lens, List.map_nil, List.sum_nil] at h3 h4
  simp only [Lib.lens] at *
  omega
theorem absL_length (l : List UInt8) : (absL l).length ≤ 2 * l.length + 3 := by
  cases l with
  | nil => exact Nat.zero_le _
  | cons b t =>
    have h1 := parts_bounds (b :: t)
    have h2 := orSlash_length (flatL (pileL [] (splitL (b :: t))))
    rw [flatL_length] at h2
    show (orSlash _).length ≤ _
    omega

/-- a part that stays -/
def Good (p : List UInt8) : Prop := p ≠ [] ∧ p ≠ [46] ∧ p ≠ [46, 46] ∧ 47 ∉ p
theorem stepL_good {xs : List (List UInt8)} {p : List UInt8} (h : ∀ x ∈ xs, Good x) (hp : 47 ∉ p) : ∀ x ∈ stepL xs p, Good x := by
  intro x hx
  by_cases h0 : p = [] ∨ p = [46]
  · rw [stepL_none _ _ h0] at hx; exact h x hx
  · by_cases h2 : p = [46, 46]
    · rw [h2, stepL_up] at hx; exact h x (List.mem_of_mem_take hx)
    · rw [stepL_put _ _ (fun e => h0 (.inl e)) (fun e => h0 (.inr e)) h2] at hx
      rcases List.mem_append.1 hx with hx | hx
      · exact h x hx
      · rw [List.mem_singleton.1 hx]; exact ⟨fun e => h0 (.inl e), fun e => h0 (.inr e), h2, hp⟩
theorem pileL_good : ∀ (ps xs : List (List UInt8)), (∀ x ∈ xs, Good x) → (∀ p ∈ ps, 47 ∉ p) → ∀ x ∈ pileL xs ps, Good x
  | [], _, h, _ => h
  | p :: ps, xs, h, hp => pileL_good ps (stepL xs p) (stepL_good h (hp p List.mem_cons_self)) (fun q hq => hp q (List.mem_cons_of_mem _ hq))
theorem pileL_stays : ∀ (ps xs : List (List UInt8)), (∀ p ∈ ps, Good p) → pileL xs ps = xs ++ ps
  | [], xs, _ => (List.append_nil _).symm
  | p :: ps, xs, h => by
    obtain ⟨h0, h1, h2, _⟩ := h p List.mem_cons_self
    rw [pileL_cons, stepL_put _ _ h0 h1 h2, pileL_stays ps _ (fun q hq => h q (List.mem_cons_of_mem _ hq))]
    simp
theorem split_flat : ∀ (r : List (List UInt8)) (x : List UInt8), 47 ∉ x → (∀ p ∈ r, 47 ∉ p) → splitL (x ++ flatL r) = x :: r
  | [], x, hx, _ => by
    have : flatL [] = [] := rfl
    rw [this, List.append_nil]; exact splitL_one x hx
  | y :: r, x, hx, h => by
    rw [flatL_cons, splitL_app _ _ hx, split_flat r y (h y List.mem_cons_self) (fun q hq => h q (List.mem_cons_of_mem _ hq))]
theorem split_flat0 (r : List (List UInt8)) (h : ∀ p ∈ r, 47 ∉ p) (hr : r ≠ []) : splitL (flatL r) = [] :: r := by
  cases r with
  | nil => exact absurd rfl hr
  | cons y r => rw [flatL_cons, splitL_slash, split_flat r y (h y List.mem_cons_self) (fun q hq => h q (List.mem_cons_of_mem _ hq))]
theorem pile_nil (ps : List (List UInt8)) : pileL [] ([] :: ps) = pileL [] ps := by rw [pileL_cons, stepL_none _ _ (.inl rfl)]
theorem abs_flat (xs : List (List UInt8)) (h : ∀ x ∈ xs, Good x) : absL (orSlash (flatL xs)) = orSlash (flatL xs) := by
  cases xs with
  | nil => rfl
  | cons x r =>
    have e : orSlash (flatL (x :: r)) = flatL (x :: r) := rfl
    rw [e, absL_some _ (by rw [flatL_cons]; simp), split_flat0 _ (fun p hp => (h p hp).2.2.2) (by simp), pile_nil, pileL_stays _ _ h, List.nil_append, e]
/-- Abs of Abs is Abs -/
theorem abs_abs (l : List UInt8) : absL (absL l) = absL l := by
  cases l with
  | nil => rfl
  | cons b t => exact abs_flat _ (pileL_good _ _ (fun _ h => absurd h List.not_mem_nil) (splitL_mem _))

/-- parts put together, a slash ahead of the first one or not -/
def textL (lead : Bool) (ps : List (List UInt8)) : List UInt8 := match lead, ps with
  | true, ps => flatL ps
  | false, [] => []
  | false, p :: r => p ++ flatL r
theorem text_snoc (lead : Bool) (ps : List (List UInt8)) (p : List UInt8) (h : lead = true ∨ ps ≠ []) : textL lead (ps ++ [p]) = textL lead ps ++ 47 :: p := by
  cases lead with
  | true => show flatL _ = flatL _ ++ _; rw [flatL_app, flatL_one]
  | false =>
    cases ps with
    | nil => exact (h.elim (fun e => by cases e) (fun e => absurd rfl e))
    | cons q r => show q ++ flatL (r ++ [p]) = q ++ flatL r ++ _; rw [flatL_app, flatL_one, List.append_assoc]
theorem abs_text0 (lead : Bool) (ps : List (List UInt8)) (h : ∀ p ∈ ps, 47 ∉ p) (hs : textL lead ps ≠ []) : absL (textL lead ps) = orSlash (flatL (pileL [] ps)) := by
  rw [absL_some _ hs]
  cases lead with
  | true =>
    have hp : ps ≠ [] := fun e => hs (by rw [e]; rfl)
    show orSlash (flatL (pileL [] (splitL (flatL ps)))) = _
    rw [split_flat0 ps h hp, pile_nil]
  | false =>
    cases ps with
    | nil => exact absurd rfl hs
    | cons q r =>
      show orSlash (flatL (pileL [] (splitL (q ++ flatL r)))) = _
      rw [split_flat r q (h q List.mem_cons_self) (fun p hp => h p (List.mem_cons_of_mem _ hp))]
/-- what Abs of parts put together is, a slash behind the last one or not -/
theorem abs_text (lead last : Bool) (ps : List (List UInt8)) (h : ∀ p ∈ ps, 47 ∉ p) :
    absL (textL lead ps ++ (if last then [47] else [])) = if flatL (pileL [] ps) = [] ∧ textL lead ps ++ (if last then [47] else []) ≠ [] then [47] else flatL (pileL [] ps) := by
  have hor : ∀ l : List UInt8, orSlash l = if l = [] then [47] else l := fun l => by cases l <;> rfl
  cases last with
  | false =>
    simp only [Bool.false_eq_true, if_false, List.append_nil]
    by_cases hs : textL lead ps = []
    · rw [hs, if_neg (fun h => h.2 rfl)]
      have : pileL [] ps = [] := by
        cases lead with
        | true => rw [flatL_nil ps hs]; rfl
        | false =>
          cases ps with
          | nil => rfl
          | cons q r =>
            have hq : q ++ flatL r = [] := hs
            obtain ⟨rfl, hr⟩ := List.append_eq_nil_iff.1 hq
            rw [flatL_nil r hr]; rfl
      rw [this]; rfl
    · rw [abs_text0 lead ps h hs, hor]
      by_cases h0 : flatL (pileL [] ps) = []
      · rw [if_pos h0, if_pos ⟨h0, hs⟩]
      · rw [if_neg h0, if_neg (fun k => h0 k.1)]
  | true =>
    simp only [if_true]
    have hne : textL lead ps ++ [47] ≠ [] := by simp
    have key : absL (textL lead ps ++ [47]) = orSlash (flatL (pileL [] ps)) := by
      by_cases hl : lead = true ∨ ps ≠ []
      · have e := text_snoc lead ps [] hl
        rw [← e, abs_text0 lead (ps ++ [[]]) (fun p hp => (List.mem_append.1 hp).elim (h p) (fun k => by rw [List.mem_singleton.1 k]; exact List.not_mem_nil)) (by rw [e]; exact hne), pileL_snoc, stepL_none _ _ (.inl rfl)]
      · have h1 : lead = false := by cases lead with
          | true => exact absurd (.inl rfl) hl
          | false => rfl
        have h2 : ps = [] := Classical.byContradiction fun k => hl (.inr k)
        rw [h1, h2]; rfl
    rw [key, hor]
    by_cases h0 : flatL (pileL [] ps) = []
    · rw [if_pos h0, if_pos ⟨h0, hne⟩]
    · rw [if_neg h0, if_neg (fun k => h0 k.1)]

end Go.Proofs.YtghfmbmdfojapaaGreatDoor.Pth

/- The stand-in file system on lists (no program). -/
namespace Go.Proofs.YtghfmbmdfojapaaGreatDoor.Vfs
open Go.Proofs.YtghfmbmdfojapaaGreatDoor.Pth

abbrev Wy := List (List UInt8)
/-- a thing that is there: its parts, whether it is a directory, its text -/
structure Ent where
  pt : Wy
  dir : Bool
  text : ByteArray

def at_ (L : List Ent) (p : Wy) : Option Ent := L.find? fun e => decide (e.pt = p)

theorem at_mem {L : List Ent} {p : Wy} {e : Ent} (h : at_ L p = some e) : e ∈ L ∧ e.pt = p :=
  ⟨List.mem_of_find?_eq_some h, by have := List.find?_some h; simpa using this⟩
theorem at_none {L : List Ent} {p : Wy} : at_ L p = none ↔ ∀ e ∈ L, e.pt ≠ p := by
  unfold at_
  rw [List.find?_eq_none]
  simp
theorem at_app (L M : List Ent) (p : Wy) : at_ (L ++ M) p = (at_ L p).or (at_ M p) := List.find?_append
theorem at_one (e : Ent) (p : Wy) : at_ [e] p = if e.pt = p then some e else none := by
  unfold at_
  by_cases h : e.pt = p <;> simp [h]
theorem at_snoc_other {L : List Ent} {e : Ent} {p : Wy} (h : e.pt ≠ p) : at_ (L ++ [e]) p = at_ L p := by
  rw [at_app, at_one, if_neg h]; cases at_ L p <;> rfl
theorem at_snoc_same {L : List Ent} {e : Ent} {p : Wy} (h0 : at_ L p = none) (h : e.pt = p) : at_ (L ++ [e]) p = some e := by
  rw [at_app, at_one, if_pos h, h0]; rfl
theorem at_snoc_some {L : List Ent} {e d : Ent} {p : Wy} (h0 : at_ L p = some d) : at_ (L ++ [e]) p = some d := by
  rw [at_app, h0]; rfl

structure Inv (L : List Ent) : Prop where
  nodup : (L.map Ent.pt).Nodup
  ne : ∀ e ∈ L, e.pt ≠ []
  good : ∀ e ∈ L, ∀ x ∈ e.pt, Good x
  up : ∀ e ∈ L, ∀ q x, e.pt = q ++ [x] → q = [] ∨ ∃ d ∈ L, d.pt = q ∧ d.dir = true
  bare : ∀ e ∈ L, e.dir = true → e.text = ⟨#[]⟩

theorem inv_nil : Inv [] := ⟨List.nodup_nil, fun _ h => absurd h List.not_mem_nil, fun _ h => absurd h List.not_mem_nil, fun _ h => absurd h List.not_mem_nil, fun _ h => absurd h List.not_mem_nil⟩

theorem eq_of_pt : ∀ {L : List Ent}, (L.map Ent.pt).Nodup → ∀ {a b : Ent}, a ∈ L → b ∈ L → a.pt = b.pt → a = b
  | [], _, _, _, h, _, _ => absurd h List.not_mem_nil
  | c :: L, hn, a, b, ha, hb, e => by
    rw [List.map_cons, List.nodup_cons] at hn
    rcases List.mem_cons.1 ha with rfl | ha' <;> rcases List.mem_cons.1 hb with rfl | hb'
    · rfl
    · exact absurd (by rw [e]; exact List.mem_map_of_mem hb') hn.1
    · exact absurd (by rw [← e]; exact List.mem_map_of_mem ha') hn.1
    · exact eq_of_pt hn.2 ha' hb' e
theorem Inv.at_of {L : List Ent} (h : Inv L) {e : Ent} (he : e ∈ L) : at_ L e.pt = some e := by
  cases hc : at_ L e.pt with
  | none => exact absurd rfl (at_none.1 hc e he)
  | some d =>
    obtain ⟨hd, hp⟩ := at_mem hc
    rw [eq_of_pt h.nodup hd he hp]
/-- each part of a way that is there is a directory -/
theorem Inv.way {L : List Ent} (h : Inv L) : ∀ (n : Nat) {e : Ent} {p s : Wy}, s.length = n → e ∈ L → e.pt = p ++ s → p ≠ [] → s ≠ [] → ∃ d, at_ L p = some d ∧ d.dir = true
  | 0, _, _, s, hn, _, _, _, hs => absurd (List.eq_nil_of_length_eq_zero hn) hs
  | n + 1, e, p, s, hn, he, hp, hp0, hs => by
    have hd := List.dropLast_concat_getLast hs
    have hl : s.dropLast.length = n := by rw [List.length_dropLast]; omega
    have e1 : e.pt = (p ++ s.dropLast) ++ [s.getLast hs] := by rw [List.append_assoc, hd, hp]
    rcases h.up e he _ _ e1 with h0 | ⟨d, hdm, hdp, hdd⟩
    · exact absurd (List.append_eq_nil_iff.1 h0).1 hp0
    · by_cases h0 : s.dropLast = []
      · rw [h0, List.append_nil] at hdp
        exact ⟨d, by rw [← hdp]; exact h.at_of hdm, hdd⟩
      · exact Inv.way h n hl hdm hdp hp0 h0
theorem Inv.pre {L : List Ent} (h : Inv L) {e : Ent} {p s : Wy} (he : at_ L (p ++ s) = some e) (hp0 : p ≠ []) (hs : s ≠ []) : ∃ d, at_ L p = some d ∧ d.dir = true := by
  obtain ⟨hm, hp⟩ := at_mem he
  exact h.way s.length rfl hm hp hp0 hs

/-- laid down part by part, from pre on -/
def putR (dir : Bool) (text : ByteArray) : List Ent → Wy → Wy → List Ent
  | L, _, [] => L
  | L, pre, x :: r => match at_ L (pre ++ [x]) with
    | some n => if n.dir then putR dir text L (pre ++ [x]) r else L
    | none => putR dir text (L ++ [if r = [] then ⟨pre ++ [x], dir, text⟩ else ⟨pre ++ [x], true, ⟨#[]⟩⟩]) (pre ++ [x]) r

/-- what the next step lays -/
def nextE (dir : Bool) (text : ByteArray) (pre : Wy) (x : List UInt8) (r : Wy) : Ent := if r = [] then ⟨pre ++ [x], dir, text⟩ else ⟨pre ++ [x], true, ⟨#[]⟩⟩
theorem nextE_pt (dir : Bool) (text : ByteArray) (pre : Wy) (x : List UInt8) (r : Wy) : (nextE dir text pre x r).pt = pre ++ [x] := by unfold nextE; split <;> rfl
theorem nextE_dir (dir : Bool) (text : ByteArray) (pre : Wy) (x : List UInt8) (r : Wy) (h : r ≠ []) : (nextE dir text pre x r).dir = true := by rw [nextE, if_neg h]
theorem nextE_bare {dir : Bool} {text : ByteArray} (hb : dir = true → text = ⟨#[]⟩) (pre : Wy) (x : List UInt8) (r : Wy) (h : (nextE dir text pre x r).dir = true) : (nextE dir text pre x r).text = ⟨#[]⟩ := by
  unfold nextE at *
  split
  · rename_i h0
    rw [if_pos h0] at h
    exact hb h
  · rfl

theorem putR_nil (dir : Bool) (text : ByteArray) (L : List Ent) (pre : Wy) : putR dir text L pre [] = L := rfl
theorem putR_there {dir : Bool} {text : ByteArray} {L : List Ent} {pre r : Wy} {x : List UInt8} {n : Ent} (h : at_ L (pre ++ [x]) = some n) (hd : n.dir = true) : putR dir text L pre (x :: r) = putR dir text L (pre ++ [x]) r := by
  rw [putR, h]; simp [hd]
theorem putR_file {dir : Bool} {text : ByteArray} {L : List Ent} {pre r : Wy} {x : List UInt8} {n : Ent} (h : at_ L (pre ++ [x]) = some n) (hd : n.dir = false) : putR dir text L pre (x :: r) = L := by
  rw [putR, h]; simp [hd]
theorem putR_new {dir : Bool} {text : ByteArray} {L : List Ent} {pre r : Wy} {x : List UInt8} (h : at_ L (pre ++ [x]) = none) : putR dir text L pre (x :: r) = putR dir text (L ++ [nextE dir text pre x r]) (pre ++ [x]) r := by
  rw [putR, h]; rfl

/-- a directory, or the root -/
def IsDir (L : List Ent) (p : Wy) : Prop := p = [] ∨ ∃ d, at_ L p = some d ∧ d.dir = true
theorem IsDir.snoc {L : List Ent} {p : Wy} (h : IsDir L p) (e : Ent) : IsDir (L ++ [e]) p := h.imp id fun ⟨d, h1, h2⟩ => ⟨d, at_snoc_some h1, h2⟩

theorem Inv.snoc {L : List Ent} (h : Inv L) {e : Ent} {pre : Wy} {x : List UInt8} (he : e.pt = pre ++ [x]) (hn : at_ L e.pt = none) (hd : IsDir L pre) (hg : ∀ y ∈ e.pt, Good y) (hb : e.dir = true → e.text = ⟨#[]⟩) : Inv (L ++ [e]) := by
  refine ⟨?_, fun a ha => ?_, fun a ha => ?_, fun a ha q y hq => ?_, fun a ha => ?_⟩
  · rw [List.map_append, List.nodup_append]
    refine ⟨h.nodup, by simp, fun a ha b hb2 => ?_⟩
    obtain ⟨c, hc, rfl⟩ := List.mem_map.1 ha
    rw [List.mem_singleton.1 hb2]
    exact at_none.1 hn c hc
  · rcases List.mem_append.1 ha with h1 | h1
    · exact h.ne a h1
    · rw [List.mem_singleton.1 h1, he]; simp
  · rcases List.mem_append.1 ha with h1 | h1
    · exact h.good a h1
    · rw [List.mem_singleton.1 h1]; exact hg
  · rcases List.mem_append.1 ha with h1 | h1
    · rcases h.up a h1 q y hq with h2 | ⟨d, hd1, hd2⟩
      · exact .inl h2
      · exact .inr ⟨d, List.mem_append_left _ hd1, hd2⟩
    · rw [List.mem_singleton.1 h1, he] at hq
      have e1 : pre = q := (List.append_inj' hq rfl).1
      rw [← e1]
      rcases hd with h2 | ⟨d, hd1, hd2⟩
      · exact .inl h2
      · exact .inr ⟨d, List.mem_append_left _ (at_mem hd1).1, (at_mem hd1).2, hd2⟩
  · rcases List.mem_append.1 ha with h1 | h1
    · exact h.bare a h1
    · rw [List.mem_singleton.1 h1]; exact hb

theorem putR_inv {dir : Bool} {text : ByteArray} (hb : dir = true → text = ⟨#[]⟩) : ∀ (rest : Wy) {L : List Ent} {pre : Wy}, Inv L → IsDir L pre → (∀ y ∈ pre ++ rest, Good y) → Inv (putR dir text L pre rest)
  | [], L, pre, h, _, _ => h
  | x :: r, L, pre, h, hd, hg => by
    cases hc : at_ L (pre ++ [x]) with
    | some n =>
      cases hn : n.dir with
      | true =>
        rw [putR_there hc hn]
        exact putR_inv hb r h (.inr ⟨n, hc, hn⟩) (by rw [List.append_assoc]; exact hg)
      | false => rw [putR_file hc hn]; exact h
    | none =>
      rw [putR_new hc]
      have hs : Inv (L ++ [nextE dir text pre x r]) := h.snoc (nextE_pt ..) (by rw [nextE_pt]; exact hc) hd (fun y hy => hg y (by rw [nextE_pt] at hy; rcases List.mem_append.1 hy with h1 | h1; exact List.mem_append_left _ h1; exact List.mem_append_right _ (by rw [List.mem_singleton.1 h1]; exact List.mem_cons_self))) (nextE_bare hb _ _ _)
      by_cases hr : r = []
      · subst hr
        exact hs
      · exact putR_inv hb r hs (.inr ⟨_, at_snoc_same hc (nextE_pt ..), nextE_dir _ _ _ _ _ hr⟩) (by rw [List.append_assoc]; exact hg)

/-- something on the way refuses it, or it is there -/
theorem putR_stop {dir : Bool} {text : ByteArray} {L : List Ent} (h : Inv L) : ∀ (q : Wy) {pre s : Wy} {n : Ent}, q ≠ [] → at_ L (pre ++ q) = some n → (s = [] ∨ n.dir = false) → putR dir text L pre (q ++ s) = L
  | [], _, _, _, h0, _, _ => absurd rfl h0
  | [x], pre, s, n, _, hn, hs => by
    cases hd : n.dir with
    | false => exact putR_file hn hd
    | true =>
      rcases hs with rfl | h1
      · exact putR_there hn hd
      · rw [hd] at h1; cases h1
  | x :: y :: q, pre, s, n, _, hn, hs => by
    have e : pre ++ x :: y :: q = (pre ++ [x]) ++ (y :: q) := by simp
    rw [e] at hn
    obtain ⟨d, hd1, hd2⟩ := h.pre hn (by simp) (by simp)
    show putR dir text L pre (x :: ((y :: q) ++ s)) = L
    rw [putR_there hd1 hd2]
    exact putR_stop h (y :: q) (by simp) hn hs

/-! ### how much there is -/
structure Small (m : Nat) (L : List Ent) : Prop where
  len : L.length ≤ m
  way : ∀ e ∈ L, (flatL e.pt).length ≤ 3000000
  text : ∀ e ∈ L, e.text.size ≤ 1000000
theorem small_nil : Small 0 [] := ⟨Nat.le_refl _, fun _ h => absurd h List.not_mem_nil, fun _ h => absurd h List.not_mem_nil⟩
theorem Small.mono {m n : Nat} {L : List Ent} (h : Small m L) (hn : m ≤ n) : Small n L := ⟨Nat.le_trans h.len hn, h.way, h.text⟩
theorem Small.snoc {m : Nat} {L : List Ent} (h : Small m L) {e : Ent} (h1 : (flatL e.pt).length ≤ 3000000) (h2 : e.text.size ≤ 1000000) : Small (m + 1) (L ++ [e]) :=
  ⟨by rw [List.length_append]; have := h.len; simp; exact this,
   fun a ha => by rcases List.mem_append.1 ha with k | k; exact h.way a k; rw [List.mem_singleton.1 k]; exact h1,
   fun a ha => by rcases List.mem_append.1 ha with k | k; exact h.text a k; rw [List.mem_singleton.1 k]; exact h2⟩
theorem flat_pre_le (a b : Wy) : (flatL a).length ≤ (flatL (a ++ b)).length := by rw [flatL_app, List.length_append]; omega
theorem putR_small {dir : Bool} {text : ByteArray} (ht : text.size ≤ 1000000) : ∀ (rest : Wy) {L : List Ent} {pre : Wy} {m : Nat}, Small m L → (flatL (pre ++ rest)).length ≤ 3000000 → Small (m + rest.length) (putR dir text L pre rest)
  | [], _, _, _, h, _ => h
  | x :: r, L, pre, m, h, hf => by
    have hf2 : (flatL ((pre ++ [x]) ++ r)).length ≤ 3000000 := by rw [List.append_assoc]; exact hf
    cases hc : at_ L (pre ++ [x]) with
    | some n =>
      cases hn : n.dir with
      | true =>
        rw [putR_there hc hn]
        exact (putR_small ht r h hf2).mono (by rw [List.length_cons]; omega)
      | false => rw [putR_file hc hn]; exact h.mono (by omega)
    | none =>
      rw [putR_new hc]
      have hs : Small (m + 1) (L ++ [nextE dir text pre x r]) := h.snoc (by rw [nextE_pt]; exact Nat.le_trans (flat_pre_le _ r) hf2) (by unfold nextE; split; exact ht; exact Nat.zero_le _)
      exact (putR_small ht r hs hf2).mono (by rw [List.length_cons]; omega)

/-! ### entries as they come in -/
structure Raw where
  path : ByteArray
  dir : Bool
  text : ByteArray
def partsOf (s : ByteArray) : Wy := pileL [] (splitL s.data.toList)
theorem partsOf_good (s : ByteArray) : ∀ x ∈ partsOf s, Good x := pileL_good _ _ (fun _ h => absurd h List.not_mem_nil) (splitL_mem _)
theorem partsOf_empty : partsOf ⟨#[]⟩ = [] := rfl
def textOf (x : Raw) : ByteArray := if x.dir then ⟨#[]⟩ else x.text
theorem textOf_bare (x : Raw) : x.dir = true → textOf x = ⟨#[]⟩ := fun h => by rw [textOf, if_pos h]
theorem textOf_size (x : Raw) (h : x.text.size ≤ 1000000) : (textOf x).size ≤ 1000000 := by
  unfold textOf; split
  · exact Nat.zero_le _
  · exact h
def putE (L : List Ent) (x : Raw) : List Ent := putR x.dir (textOf x) L [] (partsOf x.path)
def newL (l : List Raw) : List Ent := (l.take 200).foldl putE []

structure RawSmall (x : Raw) : Prop where
  path : x.path.size ≤ 1000000
  text : x.text.size ≤ 1000000
theorem parts_small (s : ByteArray) (h : s.size ≤ 1000000) : (flatL (partsOf s)).length ≤ 2000003 ∧ (partsOf s).length ≤ 2000002 := by
  have := parts_bounds s.data.toList
  rw [len_data] at this
  rw [flatL_length]
  unfold partsOf
  omega
theorem putE_inv {L : List Ent} (h : Inv L) (x : Raw) : Inv (putE L x) := putR_inv (textOf_bare x) _ h (.inl rfl) (by simpa using partsOf_good x.path)
theorem putE_small {m : Nat} {L : List Ent} (h : Small m L) (x : Raw) (hx : RawSmall x) : Small (m + 2000002) (putE L x) := by
  have hp := parts_small x.path hx.path
  exact (putR_small (textOf_size x hx.text) _ h (by rw [List.nil_append]; omega)).mono (by omega)
theorem foldl_inv : ∀ (l : List Raw) {L : List Ent}, Inv L → Inv (l.foldl putE L)
  | [], _, h => h
  | x :: l, _, h => foldl_inv l (putE_inv h x)
theorem foldl_small : ∀ (l : List Raw) {L : List Ent} {m : Nat}, Small m L → (∀ x ∈ l, RawSmall x) → Small (m + l.length * 2000002) (l.foldl putE L)
  | [], _, _, h, _ => by simpa using h
  | x :: l, _, m, h, hl => (foldl_small l (putE_small h x (hl x List.mem_cons_self)) (fun y hy => hl y (List.mem_cons_of_mem _ hy))).mono (by rw [List.length_cons, Nat.succ_mul]; omega)
theorem newL_inv (l : List Raw) : Inv (newL l) := foldl_inv _ inv_nil
theorem newL_small (l : List Raw) (h : ∀ x ∈ l, RawSmall x) : Small 400000400 (newL l) :=
  (foldl_small (l.take 200) small_nil (fun x hx => h x (List.mem_of_mem_take hx))).mono (by rw [List.length_take]; have : min 200 l.length ≤ 200 := Nat.min_le_left _ _; omega)

/-! ### directories by numbers -/
def dirs (L : List Ent) : List Wy := (L.filter (·.dir)).map Ent.pt
def dl (L : List Ent) : List Wy := [] :: dirs L
theorem dl_file {L : List Ent} {e : Ent} (h : e.dir = false) : dl (L ++ [e]) = dl L := by simp [dl, dirs, h]
theorem dl_dir {L : List Ent} {e : Ent} (h : e.dir = true) : dl (L ++ [e]) = dl L ++ [e.pt] := by simp [dl, dirs, h]
theorem dl_nil : dl [] = [[]] := rfl
theorem dl_len (L : List Ent) : (dl L).length ≤ L.length + 1 := by
  unfold dl dirs
  rw [List.length_cons, List.length_map]
  have := List.length_filter_le (·.dir) L
  omega
theorem mem_dl {L : List Ent} {p : Wy} : p ∈ dl L ↔ p = [] ∨ ∃ e ∈ L, e.dir = true ∧ e.pt = p := by
  unfold dl dirs
  rw [List.mem_cons, List.mem_map]
  simp [List.mem_filter, and_assoc]
theorem Inv.dl_nodup {L : List Ent} (h : Inv L) : (dl L).Nodup := by
  unfold dl
  rw [List.nodup_cons]
  refine ⟨fun hm => ?_, ?_⟩
  · obtain ⟨e, he, h0⟩ := List.mem_map.1 hm
    exact h.ne e (List.mem_filter.1 he).1 h0
  · exact List.Sublist.nodup (List.Sublist.map _ List.filter_sublist) h.nodup
theorem Inv.isDir {L : List Ent} (h : Inv L) {p : Wy} : p ∈ dl L ↔ IsDir L p := by
  rw [mem_dl]
  constructor
  · rintro (h0 | ⟨e, he, hd, rfl⟩)
    · exact .inl h0
    · exact .inr ⟨e, h.at_of he, hd⟩
  · rintro (h0 | ⟨e, he, hd⟩)
    · exact .inl h0
    · exact .inr ⟨e, (at_mem he).1, hd, (at_mem he).2⟩
/-- the number of a directory among ds -/
def num (ds : List Wy) (p : Wy) : Nat := ds.idxOf p + 1
theorem num_app {ds : List Wy} {p q : Wy} (h : p ∈ ds) : num (ds ++ [q]) p = num ds p := by rw [num, num, List.idxOf_append, if_pos h]
theorem num_last {ds : List Wy} {q : Wy} (h : q ∉ ds) : num (ds ++ [q]) q = ds.length + 1 := by rw [num, List.idxOf_append, if_neg h, List.idxOf_cons_self, Nat.zero_add]
theorem num_root (L : List Ent) : num (dl L) [] = 1 := rfl
theorem num_at {ds : List Wy} {p : Wy} (h : p ∈ ds) : ∃ i, num ds p = i + 1 ∧ i < ds.length ∧ ds[i]? = some p := by
  have hlt := List.idxOf_lt_length_of_mem h
  exact ⟨ds.idxOf p, rfl, hlt, by rw [List.getElem?_eq_getElem hlt, List.getElem_idxOf]⟩
theorem num_of {ds : List Wy} (hn : ds.Nodup) {p : Wy} {i : Nat} (h : ds[i]? = some p) : num ds p = i + 1 := by
  obtain ⟨hi, rfl⟩ := List.getElem?_eq_some_iff.1 h
  rw [num, List.Nodup.idxOf_getElem hn i hi]

end Go.Proofs.YtghfmbmdfojapaaGreatDoor.Vfs
