/- An expansion as it would be written (no program). -/
import Derived.Test.YtpphkaolonjjdaaDoorNz
import Derived.Test.YtpphkaolonjjdaaDoorSpf
namespace Go.Proofs.YtpphkaolonjjdaaDoor.Qtp
open Go.Proofs.YtpphkaolonjjdaaDoor.Spl Go.Proofs.YtpphkaolonjjdaaDoor.Nz

/-- texts with something between -/
def joinL (b : T) : List T → T
  | [] => []
  | t :: r => t ++ (r.map (b ++ ·)).flatten
theorem joinL_snoc (b : T) (ts : List T) (t : T) : joinL b (ts ++ [t]) = if ts = [] then t else joinL b ts ++ b ++ t := by
  cases ts with
  | nil => simp [joinL]
  | cons x r => simp [joinL]
mutual
def textZ : Nz → T
  | .mk k s l =>
    let ts := textsZ l
    if k = 1 then Spf.twice s
    else if k = 2 then [36, 40] ++ joinL [] ts ++ [41]
    else if k = 3 then (match ts with
      | [x, y, z] => [36, 40] ++ x ++ [58] ++ y ++ [61] ++ z ++ [41]
      | _ => [])
    else if k = 4 then [36, 40] ++ s ++ [32] ++ joinL [44] ts ++ [41]
    else if k = 5 then joinL [] ts
    else []
def textsZ : List Nz → List T
  | [] => []
  | n :: r => textZ n :: textsZ r
end
theorem texts_map : ∀ l, textsZ l = l.map textZ
  | [] => rfl
  | n :: r => by rw [textsZ, List.map_cons, texts_map r]
mutual
/-- nodes and bytes -/
def wt : Nz → Nat
  | .mk _ s l => 1 + s.length + wts l
def wts : List Nz → Nat
  | [] => 0
  | n :: r => wt n + wts r
end
theorem wts_le : ∀ {l : List Nz} {x : Nz}, x ∈ l → wt x ≤ wts l
  | [], _, h => by cases h
  | n :: r, x, h => by
    rw [wts]
    rcases List.mem_cons.1 h with rfl | h
    · omega
    · have := wts_le h
      omega
theorem wt_pos (x : Nz) : 1 ≤ wt x := by cases x; rw [wt]; omega
theorem wts_len : ∀ l : List Nz, l.length ≤ wts l
  | [] => Nat.zero_le _
  | n :: r => by
    have := wts_len r
    have := wt_pos n
    rw [wts, List.length_cons]; omega
theorem wts_take : ∀ (l : List Nz) (j : Nat), wts (l.take j) ≤ wts l
  | [], j => by rw [List.take_nil]; exact Nat.le_refl _
  | n :: r, 0 => Nat.zero_le _
  | n :: r, j + 1 => by
    have := wts_take r j
    rw [List.take_succ_cons, wts, wts]; omega
theorem joinL_len (b : T) (hb : b.length ≤ 1) : ∀ (l : List Nz), (∀ x ∈ l, (textZ x).length + 1 ≤ 6 * wt x) → (joinL b (textsZ l)).length ≤ 6 * wts l
  | [], _ => Nat.zero_le _
  | n :: r, h => by
    have hr : ∀ (r : List Nz), (∀ x ∈ r, (textZ x).length + 1 ≤ 6 * wt x) → ((textsZ r).map (b ++ ·)).flatten.length ≤ 6 * wts r := by
      intro r
      induction r with
      | nil => intro _; exact Nat.zero_le _
      | cons m r ih =>
        intro h
        have h1 := h m (List.mem_cons_self ..)
        have h2 := ih fun x hx => h x (List.mem_cons_of_mem _ hx)
        rw [textsZ, List.map_cons, List.flatten_cons, List.length_append, List.length_append, wts]; omega
    have h1 := h n (List.mem_cons_self ..)
    have h2 := hr r fun x hx => h x (List.mem_cons_of_mem _ hx)
    rw [textsZ, joinL, List.length_append, wts]; omega
theorem twice_len (a : T) : (Spf.twice a).length ≤ 2 * a.length := by
  induction a with
  | nil => exact Nat.le_refl _
  | cons b r ih =>
    rw [Spf.twice_cons, List.length_append, List.length_cons]
    split
    · show 2 + _ ≤ _; omega
    · show 1 + _ ≤ _; omega
theorem text_len : ∀ (N : Nat) (x : Nz), wt x ≤ N → (textZ x).length + 1 ≤ 6 * wt x
  | 0, x, h => by have := wt_pos x; omega
  | N + 1, .mk k s l, h => by
    rw [wt] at h
    have hl : ∀ x ∈ l, (textZ x).length + 1 ≤ 6 * wt x := fun x hx => text_len N x (by have := wts_le hx; omega)
    have j0 := joinL_len [] (by decide) l hl
    have j1 := joinL_len [44] (by decide) l hl
    have h2 := twice_len s
    rw [textZ, wt]
    split
    · omega
    · split
      · simp only [List.length_append, List.length_cons, List.length_nil]; omega
      · split
        · split
          · rename_i x y z e
            rw [texts_map] at e
            match l, e with
            | [a, b, c], e =>
              simp only [List.map_cons, List.map_nil, List.cons.injEq, and_true] at e
              obtain ⟨rfl, rfl, rfl⟩ := e
              have ha := hl a (by simp)
              have hb := hl b (by simp)
              have hc := hl c (by simp)
              simp only [List.length_append, List.length_cons, List.length_nil, wts]; omega
          · simp only [List.length_nil]; omega
        · split
          · simp only [List.length_append, List.length_cons, List.length_nil]; omega
          · split
            · omega
            · simp only [List.length_nil]; omega

end Go.Proofs.YtpphkaolonjjdaaDoor.Qtp
