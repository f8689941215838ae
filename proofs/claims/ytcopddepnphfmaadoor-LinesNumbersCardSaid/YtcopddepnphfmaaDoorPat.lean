/- Plain facts on patterns: how a text is read as a pattern, what it matches, what it puts; no program is named here. -/
import Derived.Lib.IndexBytes
import Derived.Lib.IndexLaws
import Derived.Lib.TrimByte
import Derived.Lib.Bytealg
import Derived.Lib.Strings
namespace Go.Proofs.YtcopddepnphfmaaDoor.Pat
open Go

def bs (l : List UInt8) : ByteArray := ⟨l.toArray⟩
theorem bs_data (l : List UInt8) : (bs l).data.toList = l := rfl
theorem bs_self (s : ByteArray) : bs s.data.toList = s := Lib.mk_data s
theorem bs_inj {a b : List UInt8} (h : bs a = bs b) : a = b := by rw [← bs_data a, ← bs_data b, h]
theorem size_bs (l : List UInt8) : (bs l).size = l.length := by rw [Lib.size_eq, bs_data]
theorem ext_data {a b : ByteArray} (h : a.data.toList = b.data.toList) : a = b := by rw [← bs_self a, ← bs_self b, h]
theorem bs_app (a b : List UInt8) : bs a ++ bs b = bs (a ++ b) := ext_data (by simp [bs])
theorem app_data (a b : ByteArray) : (a ++ b).data.toList = a.data.toList ++ b.data.toList := by simp

/-- a pattern: has it a place, what is ahead, what is behind -/
structure Pt where
  has : Bool
  pre : List UInt8
  post : List UInt8

/-- of the backslashes at the end half are left -/
def cutAt (acc : List UInt8) (b : Nat) : List UInt8 := acc.take (acc.length - b + b / 2)

/-- a text is read: so many backslashes stand right ahead, this was read -/
def go : List UInt8 → Nat → List UInt8 → Pt
  | [], _, acc => ⟨false, acc, []⟩
  | c :: r, b, acc =>
    if c = 92 then go r (b + 1) (acc ++ [c])
    else if c = 37 then
      if b % 2 = 0 then ⟨true, cutAt acc b, r⟩ else go r 0 (cutAt acc b ++ [c])
    else go r 0 (acc ++ [c])

def ofL (l : List UInt8) : Pt := go l 0 []

/-- how many backslashes right behind p, if b stood ahead of it -/
def run : Nat → List UInt8 → Nat
  | b, [] => b
  | b, c :: p => if c = 92 then run (b + 1) p else run 0 p
def trail (p : List UInt8) : Nat := p.length - (Lib.trimRightB p 92).length

theorem run_snoc (p : List UInt8) (c : UInt8) : ∀ b, run b (p ++ [c]) = if c = 92 then run b p + 1 else 0 := by
  induction p with
  | nil => intro b; simp only [List.nil_append, run]
  | cons x p ih =>
    intro b
    simp only [List.cons_append, run]
    split
    · exact ih _
    · exact ih _
theorem trim_snoc (p : List UInt8) (c : UInt8) : Lib.trimRightB (p ++ [c]) 92 = if c = 92 then Lib.trimRightB p 92 else p ++ [c] := by
  unfold Lib.trimRightB
  rw [List.reverse_append, List.reverse_singleton, List.singleton_append, List.dropWhile_cons]
  by_cases h : c = 92
  · subst h; simp
  · simp [h]
theorem trim_le (p : List UInt8) : (Lib.trimRightB p 92).length ≤ p.length := by
  unfold Lib.trimRightB
  rw [List.length_reverse]
  exact Nat.le_trans (List.dropWhile_sublist _).length_le (by simp)
theorem trail_snoc (p : List UInt8) (c : UInt8) : trail (p ++ [c]) = if c = 92 then trail p + 1 else 0 := by
  unfold trail
  have h1 := trim_le p
  rw [trim_snoc]
  split
  · simp; omega
  · simp
theorem run_trail : ∀ (n : Nat) (p : List UInt8), p.length = n → run 0 p = trail p := by
  intro n
  induction n with
  | zero => intro p hp; rw [List.eq_nil_of_length_eq_zero hp]; rfl
  | succ n ih =>
    intro p hp
    rcases List.eq_nil_or_concat p with rfl | ⟨q, c, rfl⟩
    · cases hp
    · rw [List.concat_eq_append] at hp ⊢
      rw [run_snoc, trail_snoc, ih q (by simpa using hp)]
theorem trail_le (p : List UInt8) : trail p ≤ p.length := by unfold trail; omega

theorem go_plain (p r : List UInt8) (h : 37 ∉ p) : ∀ b acc, go (p ++ r) b acc = go r (run b p) (acc ++ p) := by
  induction p with
  | nil => intro b acc; simp [run]
  | cons c p ih =>
    intro b acc
    have hc : c ≠ 37 := fun e => h (by simp [e])
    have hp : 37 ∉ p := fun e => h (by simp [e])
    simp only [List.cons_append, go, run]
    by_cases h2 : c = 92
    · rw [if_pos h2, if_pos h2, ih hp]; simp
    · rw [if_neg h2, if_neg hc, if_neg h2, ih hp]; simp
theorem go_none (u acc : List UInt8) (h : 37 ∉ u) : go u 0 acc = ⟨false, acc ++ u, []⟩ := by
  have := go_plain u [] h 0 acc
  rw [List.append_nil] at this
  rw [this]; rfl
theorem cutAt_app (acc p : List UInt8) : cutAt (acc ++ p) (trail p) = acc ++ p.take (p.length - trail p + trail p / 2) := by
  have h := trail_le p
  unfold cutAt
  rw [List.length_append, List.take_append, List.take_of_length_le (by omega)]
  congr 2
  omega
theorem go_some (p r acc : List UInt8) (h : 37 ∉ p) :
    go (p ++ 37 :: r) 0 acc = if trail p % 2 = 0 then ⟨true, acc ++ p.take (p.length - trail p + trail p / 2), r⟩ else go r 0 (acc ++ p.take (p.length - trail p + trail p / 2) ++ [37]) := by
  rw [go_plain p _ h, run_trail _ p rfl]
  simp only [go]
  rw [if_neg (by decide), if_pos trivial, cutAt_app]

theorem go_size : ∀ (l : List UInt8) (b : Nat) (acc : List UInt8), (go l b acc).pre.length + (go l b acc).post.length ≤ acc.length + l.length := by
  intro l
  induction l with
  | nil => intro b acc; simp [go]
  | cons c r ih =>
    intro b acc
    have h1 : (cutAt acc b).length ≤ acc.length := by unfold cutAt; rw [List.length_take]; omega
    simp only [go]
    split
    · have := ih (b + 1) (acc ++ [c]); simp at this ⊢; omega
    · split
      · split
        · simp; omega
        · have := ih 0 (cutAt acc b ++ [c]); simp at this ⊢; omega
      · have := ih 0 (acc ++ [c]); simp at this ⊢; omega

/-! ### as texts -/
def hasB (s : ByteArray) : Bool := (ofL s.data.toList).has
def preB (s : ByteArray) : ByteArray := bs (ofL s.data.toList).pre
def postB (s : ByteArray) : ByteArray := bs (ofL s.data.toList).post
theorem ofB_size (s : ByteArray) : (preB s).size + (postB s).size ≤ s.size := by
  have := go_size s.data.toList 0 []
  rw [preB, postB, size_bs, size_bs, Lib.size_eq]
  simpa [ofL] using this
theorem preB_le (s : ByteArray) : (preB s).size ≤ s.size := by have := ofB_size s; omega
theorem postB_le (s : ByteArray) : (postB s).size ≤ s.size := by have := ofB_size s; omega

theorem mem_of_index {l : List UInt8} (h : Lib.indexByte l 37 = -1) : 37 ∉ l := by
  intro hm
  obtain ⟨k, hk⟩ := List.mem_iff_getElem?.1 hm
  exact Lib.indexByte_none h k hk
theorem split_at {l : List UInt8} {k : Nat} (h : Lib.indexByte l 37 = k) : k < l.length ∧ 37 ∉ l.take k ∧ l = l.take k ++ 37 :: l.drop (k + 1) := by
  obtain ⟨h1, h2⟩ := Lib.indexByte_some h
  obtain ⟨hk, e⟩ := List.getElem?_eq_some_iff.1 h1
  refine ⟨hk, fun hm => ?_, ?_⟩
  · obtain ⟨j, hj⟩ := List.mem_iff_getElem?.1 hm
    rw [List.getElem?_take] at hj
    split at hj
    · exact h2 j (by omega) hj
    · cases hj
  · rw [← e, ← List.drop_eq_getElem_cons hk, List.take_append_drop]

/-- the program's step: no percent -/
theorem step_none (u : ByteArray) (acc : List UInt8) (h : Lib.indexByte u.data.toList 37 = -1) : go u.data.toList 0 acc = ⟨false, acc ++ u.data.toList, []⟩ := go_none _ _ (mem_of_index h)
/-- how many backslashes stand right ahead of place k -/
def backs (u : ByteArray) (k : Nat) : Nat := trail (u.data.toList.take k)
theorem backs_le (u : ByteArray) (k : Nat) : backs u k ≤ k := by
  have := trail_le (u.data.toList.take k)
  rw [List.length_take] at this
  unfold backs; omega
theorem step_some (u : ByteArray) (k : Nat) (acc : List UInt8) (h : Lib.indexByte u.data.toList 37 = k) :
    k < u.size ∧ go u.data.toList 0 acc = if backs u k % 2 = 0 then ⟨true, acc ++ (u.extract 0 (k - backs u k + backs u k / 2)).data.toList, (u.extract (k + 1) u.size).data.toList⟩ else go (u.extract (k + 1) u.size).data.toList 0 (acc ++ (u.extract 0 (k - backs u k + backs u k / 2)).data.toList ++ [37]) := by
  obtain ⟨hk, hm, e⟩ := split_at h
  have hb := backs_le u k
  refine ⟨by rw [Lib.size_eq]; exact hk, ?_⟩
  have hl : (u.data.toList.take k).length = k := by rw [List.length_take]; omega
  have q := go_some (u.data.toList.take k) (u.data.toList.drop (k + 1)) acc hm
  rw [← e, hl, List.take_take, Nat.min_eq_left (by have : trail (u.data.toList.take k) ≤ k := hb; omega)] at q
  rw [Lib.extract_upto, Lib.extract_from]
  exact q

end Go.Proofs.YtcopddepnphfmaaDoor.Pat
