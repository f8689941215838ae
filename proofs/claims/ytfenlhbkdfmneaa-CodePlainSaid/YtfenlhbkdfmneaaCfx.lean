/- What the texts of CodeBlocks and CodePlain are compiled to, in numbers (no program). -/
import Derived.Test.YtfenlhbkdfmneaaCfm
import Derived.Test.YtfenlhbkdfmneaaCmc
namespace Go.Proofs.Ytfenlhbkdfmneaa.Cfx
open Go.Proofs.Ytfenlhbkdfmneaa.Spl Go.Proofs.Ytfenlhbkdfmneaa.Nz Go.Proofs.Ytfenlhbkdfmneaa.Cpl Go.Proofs.Ytfenlhbkdfmneaa.Cfm Go.Proofs.Ytfenlhbkdfmneaa.Cmc

/-- the first block of level i -/
def atB (w i : Nat) : Nat := if i = 0 then 0 else 1 + (i - 1) * w
def lazyO (w i : Nat) : Opp := ⟨6, 0, [111, 114], (List.range' (1 + i * w) w).map Int.ofNat⟩
def deepD (w k : Nat) : Bool := match parse (deepT w k) with
  | .ok m => decide (compP (toZ m) = deepB w k) && (frmZ (toZ m) && (decide (siz (toZ m) ≤ 400000) && (decide ((deepB w k).length = 1 + k * w) && (decide (opsP (deepB w k) = 1 + k * w) && (decide ((deepT w k).length ≤ 1000) && ((List.range k).all (fun i => decide ((deepB w k)[atB w i]? = some [lazyO w i])) && decide ((deepB w k)[atB w k]? = some [⟨1, 0, [120], []⟩])))))))
  | .bad _ => false
theorem deep_all : ((List.range 12).all fun k => (List.range 7).all fun w => w == 0 || deepD w k) = true := by kernel_rfl
structure DeepIs (w k : Nat) (m : Nod) : Prop where
  parse : parse (deepT w k) = .ok m
  comp : compP (toZ m) = deepB w k
  frm : frmZ (toZ m) = true
  siz : siz (toZ m) ≤ 400000
  len : (deepB w k).length = 1 + k * w
  ops : opsP (deepB w k) = 1 + k * w
  txt : (deepT w k).length ≤ 1000
  lz : ∀ i, i < k → (deepB w k)[atB w i]? = some [lazyO w i]
  last : (deepB w k)[atB w k]? = some [⟨1, 0, [120], []⟩]
theorem deep_is {k w : Nat} (hk : k < 12) (hw : w < 7) (h0 : 0 < w) : ∃ m, DeepIs w k m := by
  have h := List.all_eq_true.1 (List.all_eq_true.1 deep_all k (List.mem_range.2 hk)) w (List.mem_range.2 hw)
  have hz : (w == 0) = false := by rw [beq_eq_false_iff_ne]; omega
  rw [hz, Bool.false_or] at h
  unfold deepD at h
  split at h
  · simp only [Bool.and_eq_true, decide_eq_true_eq, List.all_eq_true, List.mem_range] at h
    obtain ⟨h1, h2, h3, h4, h5, h6, h7, h8⟩ := h
    exact ⟨_, ‹_›, h1, h2, h3, h4, h5, h6, h7, h8⟩
  · cases h
/-- the text under way: j arguments -/
def argsT (x : T) (j : Nat) : T := [36, 40, 111, 114, 32] ++ x ++ (List.replicate j [44, 121]).flatten
theorem args_zero (x : T) : [36, 40, 111, 114, 32] ++ x = argsT x 0 := by unfold argsT; rw [List.replicate_zero]; simp
theorem args_succ (x : T) (j : Nat) : argsT x j ++ [44, 121] = argsT x (j + 1) := by
  unfold argsT
  rw [List.replicate_succ', List.flatten_append]
  simp
theorem args_done (w k : Nat) : argsT (deepT w k) (w - 1) ++ [41] = deepT w (k + 1) := by
  rw [deepT]; rfl
theorem args_len (x : T) : ∀ j, (argsT x j).length = 5 + x.length + 2 * j
  | 0 => by rw [← args_zero, List.length_append]; rfl
  | j + 1 => by rw [← args_succ, List.length_append, args_len x j]; show _ + 2 = _; omega
theorem deep_len {w : Nat} (h0 : 0 < w) (hw : w < 7) : ∀ k, (deepT w k).length ≤ 1 + 16 * k
  | 0 => Nat.le_refl _
  | k + 1 => by
    have h := deep_len h0 hw k
    rw [← args_done, List.length_append, args_len]
    show _ + 1 ≤ _
    omega

def plainD (k d : Nat) : Bool := match parse (plainT k d) with
  | .ok m => decide (compP (toZ m) = [plainB k d]) && (frmZ (toZ m) && (decide (siz (toZ m) ≤ 400000) && (decide ((plainB k d).length = 1 + 2 * (k - 1) + 1 + d) && (decide ((plainT k d).length ≤ 1000) && ((List.range d).all (fun i => decide ((plainB k d)[(plainB k d).length - 1 - i]? = some ⟨5, 1, [115, 116, 114, 105, 112], []⟩)) && (decide ((plainB k d)[2 * (k - 1) + 1]? = some ⟨5, (k : Int), [99, 97, 108, 108], []⟩) && decide ((plainB k d)[0]? = some ⟨1, 0, [102], []⟩)))))))
  | .bad _ => false
theorem plain_all : ((List.range 10).all fun d => (List.range 9).all fun k => k == 0 || plainD k d) = true := by kernel_rfl
structure PlainIs (k d : Nat) (m : Nod) : Prop where
  parse : parse (plainT k d) = .ok m
  comp : compP (toZ m) = [plainB k d]
  frm : frmZ (toZ m) = true
  siz : siz (toZ m) ≤ 400000
  len : (plainB k d).length = 1 + 2 * (k - 1) + 1 + d
  txt : (plainT k d).length ≤ 1000
  strip : ∀ i, i < d → (plainB k d)[(plainB k d).length - 1 - i]? = some ⟨5, 1, [115, 116, 114, 105, 112], []⟩
  call : (plainB k d)[2 * (k - 1) + 1]? = some ⟨5, (k : Int), [99, 97, 108, 108], []⟩
  first : (plainB k d)[0]? = some ⟨1, 0, [102], []⟩
theorem plain_is {k d : Nat} (hk : k < 9) (hd : d < 10) (h0 : 0 < k) : ∃ m, PlainIs k d m := by
  have h := List.all_eq_true.1 (List.all_eq_true.1 plain_all d (List.mem_range.2 hd)) k (List.mem_range.2 hk)
  have hz : (k == 0) = false := by rw [beq_eq_false_iff_ne]; omega
  rw [hz, Bool.false_or] at h
  unfold plainD at h
  split at h
  · simp only [Bool.and_eq_true, decide_eq_true_eq, List.all_eq_true, List.mem_range] at h
    obtain ⟨h1, h2, h3, h4, h5, h6, h7, h8⟩ := h
    exact ⟨_, ‹_›, h1, h2, h3, h4, h5, h6, h7, h8⟩
  · cases h
/-- the call under way: q variables -/
def digC (i : Nat) : T := [UInt8.ofNat (48 + i)]
def varsT (q : Nat) : T := [36, 40, 99, 97, 108, 108, 32, 102] ++ ((List.range' 1 q).map fun i => [44, 36, 40, 97] ++ [UInt8.ofNat (48 + i)] ++ [41]).flatten
theorem vars_succ (q : Nat) : varsT q ++ [44, 36, 40, 97] ++ digC (1 + q) ++ [41] = varsT (q + 1) := by
  unfold varsT digC
  rw [List.range'_concat, List.map_append, List.flatten_append]
  simp
theorem vars_done (k : Nat) : varsT (k - 1) ++ [41] = plainT k 0 := by
  rw [plainT]; rfl
theorem vars_len : ∀ q, (varsT q).length = 8 + 6 * q
  | 0 => rfl
  | q + 1 => by
    rw [← vars_succ, List.length_append, List.length_append, List.length_append, vars_len q]
    show _ + 4 + 1 + 1 = _
    omega
theorem plain_len (k : Nat) : ∀ d, (plainT k d).length = (plainT k 0).length + 9 * d
  | 0 => rfl
  | d + 1 => by
    show ([36, 40, 115, 116, 114, 105, 112, 32] ++ plainT k d ++ [41]).length = _
    rw [List.length_append, List.length_append, plain_len k d]
    show 8 + _ + 1 = _
    omega

end Go.Proofs.Ytfenlhbkdfmneaa.Cfx
