/- Expansions of whatever kinds (also such as come from a caller), in memory; those that are read are among them. -/
import Derived.Test.YtpphkaolonjjdaaDoorNod
namespace Go.Proofs.YtpphkaolonjjdaaDoor.Nz
open Go Go.RowKit Go.Proofs.YtpphkaolonjjdaaDoor.Spl Go.Proofs.YtpphkaolonjjdaaDoor.Nodm
open Go.Proofs.YtpphkaolonjjdaaDoor.Pure (bs)

inductive Nz
  | mk (k : Int) (s : T) (l : List Nz)
/-- a value that is such an expansion, whose rows lie in blocks of S -/
inductive NzIn (S : Nat → Prop) (w : World) : Value → Nz → Prop
  | mk (k : Int) (s : T) (l : List Nz) (A : Option Addr) (c : Nat) (vs : Nat → Value) (hc : l.length ≤ c) (hr : RowIn S w A l.length vs) (hn : ∀ j n, l[j]? = some n → NzIn S w (vs j) n) : NzIn S w (.agg #[.int .i64 k, .string (bs s), .slice A l.length c]) (.mk k s l)
theorem NzIn.move {S S' : Nat → Prop} {w W : World} {v : Value} {n : Nz} (h : NzIn S w v n) (hs : ∀ b, S b → b < w.heap.size → S' b ∧ W.heap[b]? = w.heap[b]?) (hsz : w.heap.size ≤ W.heap.size) : NzIn S' W v n := by
  induction h with
  | mk k s l A c vs hc hr _ ih => exact .mk k s l A c vs hc (hr.move hs hsz) ih
theorem NzIn.on {S : Nat → Prop} {w W : World} {v : Value} {n : Nz} (h : NzIn S w v n) (hb : Below w.heap.size w W) : NzIn S W v n :=
  h.move (fun b hS hl => ⟨hS, hb.block b hl⟩) hb.size
theorem NzIn.mono {S S' : Nat → Prop} {w : World} {v : Value} {n : Nz} (h : NzIn S w v n) (hs : ∀ b, S b → b < w.heap.size → S' b) : NzIn S' w v n :=
  h.move (fun b hS hl => ⟨hs b hS hl, rfl⟩) (Nat.le_refl _)
theorem NzIn.leaf (S : Nat → Prop) (w : World) (k : Int) (s : T) (A : Option Addr) (c : Nat) : NzIn S w (.agg #[.int .i64 k, .string (bs s), .slice A 0 c]) (.mk k s []) :=
  .mk k s [] A c (fun _ => .nilFunc) (Nat.zero_le _) (.inl rfl) fun j n h => by cases h
def NzsIn (S : Nat → Prop) (w : World) (A : Option Addr) (c : Nat) (l : List Nz) : Prop := l.length ≤ c ∧ ∃ vs : Nat → Value, RowIn S w A l.length vs ∧ ∀ j n, l[j]? = some n → NzIn S w (vs j) n
theorem NzsIn.move {S S' : Nat → Prop} {w W : World} {A : Option Addr} {c : Nat} {l : List Nz} (h : NzsIn S w A c l) (hs : ∀ b, S b → b < w.heap.size → S' b ∧ W.heap[b]? = w.heap[b]?) (hsz : w.heap.size ≤ W.heap.size) : NzsIn S' W A c l :=
  ⟨h.1, h.2.imp fun _ h => ⟨h.1.move hs hsz, fun j n hj => (h.2 j n hj).move hs hsz⟩⟩
theorem NzsIn.on {S : Nat → Prop} {w W : World} {A : Option Addr} {c : Nat} {l : List Nz} (h : NzsIn S w A c l) (hb : Below w.heap.size w W) : NzsIn S W A c l :=
  h.move (fun b hS hl => ⟨hS, hb.block b hl⟩) hb.size
theorem NzsIn.node {S : Nat → Prop} {w : World} {A : Option Addr} {c : Nat} {l : List Nz} (h : NzsIn S w A c l) (k : Int) (s : T) : NzIn S w (.agg #[.int .i64 k, .string (bs s), .slice A l.length c]) (.mk k s l) := by
  obtain ⟨h1, vs, h2, h3⟩ := h
  exact .mk k s l A c vs h1 h2 h3
theorem NzIn.inv {S : Nat → Prop} {w : World} {v : Value} {k : Int} {s : T} {l : List Nz} (h : NzIn S w v (.mk k s l)) : ∃ A c, v = .agg #[.int .i64 k, .string (bs s), .slice A l.length c] ∧ NzsIn S w A c l := by
  cases h with
  | mk _ _ _ A c vs hc hr hn => exact ⟨A, c, rfl, hc, vs, hr, hn⟩
/-- one of a slice: its three cells, also later; and itself -/
theorem NzsIn.at_ {S : Nat → Prop} {w : World} {A : Option Addr} {c j : Nat} {l : List Nz} (h : NzsIn S w A c l) {k : Int} {s : T} {m : List Nz} (hj : l[j]? = some (.mk k s m)) :
    ∃ b o A' c', A = some ⟨b, o, none⟩ ∧ b < w.heap.size ∧ S b ∧ NzIn S w (.agg #[.int .i64 k, .string (bs s), .slice A' m.length c']) (.mk k s m) ∧ ∀ W : World, W.heap[b]? = w.heap[b]? → W.cell? ⟨b, o + j * 3, none⟩ = some (.int .i64 k) ∧ W.cell? ⟨b, o + j * 3 + 1, none⟩ = some (.string (bs s)) ∧ W.cell? ⟨b, o + j * 3 + 2, none⟩ = some (.slice A' m.length c') := by
  obtain ⟨hc, vs, hr, hn⟩ := h
  have hl := (List.getElem?_eq_some_iff.1 hj).1
  rcases hr with h0 | ⟨b, o, h1, h2, hS, _, h3⟩
  · omega
  · obtain ⟨A', c', hv, hm⟩ := (hn j _ hj).inv
    refine ⟨b, o, A', c', h1, h2, hS, hm.node k s, fun W hW => ?_⟩
    obtain ⟨x, y, z, e0, e1, e2, e3⟩ := (h3 j hl).move hW
    rw [hv] at e0
    simp only [Value.agg.injEq, Array.mk.injEq, List.cons.injEq, and_true] at e0
    obtain ⟨rfl, rfl, rfl⟩ := e0
    exact ⟨e1, e2, e3⟩
mutual
def toZ : Nod → Nz
  | .mk k s l => .mk (k : Int) s (toZs l)
def toZs : List Nod → List Nz
  | [] => []
  | n :: r => toZ n :: toZs r
end
theorem toZs_len : ∀ l, (toZs l).length = l.length
  | [] => rfl
  | n :: r => by rw [toZs, List.length_cons, List.length_cons, toZs_len r]
theorem toZs_at : ∀ (l : List Nod) (j : Nat), (toZs l)[j]? = (l[j]?).map toZ
  | [], _ => rfl
  | n :: r, 0 => rfl
  | n :: r, j + 1 => by rw [toZs, List.getElem?_cons_succ, List.getElem?_cons_succ, toZs_at r j]
theorem NodeIn.toZ {S : Nat → Prop} {w : World} {v : Value} {n : Nod} (h : NodeIn S w v n) : NzIn S w v (Nz.toZ n) := by
  induction h with
  | mk k s l A c vs hc hr _ ih =>
    rw [Nz.toZ, ← toZs_len l]
    refine .mk (k : Int) s (toZs l) A c vs (by rw [toZs_len]; exact hc) (by rw [toZs_len]; exact hr) fun j n hj => ?_
    rw [toZs_at] at hj
    cases hx : l[j]? with
    | none => rw [hx] at hj; cases hj
    | some m =>
      rw [hx] at hj
      cases hj
      exact ih j m hx
mutual
theorem toZ_inj : ∀ {n m : Nod}, toZ n = toZ m → n = m
  | .mk k s l, .mk k' s' l', h => by
    rw [toZ, toZ] at h
    injection h with h1 h2 h3
    rw [toZs_inj h3, h2, Int.ofNat.inj h1]
theorem toZs_inj : ∀ {l m : List Nod}, toZs l = toZs m → l = m
  | [], [], _ => rfl
  | [], _ :: _, h => by rw [toZs, toZs] at h; cases h
  | _ :: _, [], h => by rw [toZs, toZs] at h; cases h
  | n :: r, n' :: r', h => by
    rw [toZs, toZs] at h
    injection h with h1 h2
    rw [toZ_inj h1, toZs_inj h2]
end
mutual
/-- how many nodes -/
def siz : Nz → Nat
  | .mk _ _ l => 1 + sizs l
def sizs : List Nz → Nat
  | [] => 0
  | n :: r => siz n + sizs r
end
theorem sizs_le : ∀ {l : List Nz} {x : Nz}, x ∈ l → siz x ≤ sizs l
  | [], _, h => by cases h
  | n :: r, x, h => by
    rw [sizs]
    rcases List.mem_cons.1 h with rfl | h
    · omega
    · have := sizs_le h
      omega
theorem siz_pos (x : Nz) : 1 ≤ siz x := by cases x; rw [siz]; omega
theorem sizs_len : ∀ l : List Nz, l.length ≤ sizs l
  | [] => Nat.zero_le _
  | n :: r => by
    have := sizs_len r
    have := siz_pos n
    rw [sizs, List.length_cons]; omega
theorem size_lt {k : Int} {s : T} {l : List Nz} {x : Nz} (h : x ∈ l) : siz x < siz (Nz.mk k s l) := by
  have := sizs_le h
  rw [siz]
  omega

end Go.Proofs.YtpphkaolonjjdaaDoor.Nz
