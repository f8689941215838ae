/- Expansions of whatever kinds (also such as come from a caller), in memory; those that are read are among them. -/
import Derived.Test.YtpphkaolonjjdaaDoorNodJ
import Derived.Test.YtpphkaolonjjdaaDoorStrsJ
namespace Go.Proofs.YtpphkaolonjjdaaDoor.Nz
open Go Go.RowKit Go.Proofs.YtpphkaolonjjdaaDoor.Spl Go.Proofs.YtpphkaolonjjdaaDoor.Nodm
open Go.Proofs.YtpphkaolonjjdaaDoor.Pure (bs)

inductive Nz
  | mk (k : Int) (s : T) (l : List Nz)
/-- a value that is such an expansion, whose rows lie in blocks of S -/
inductive NzIn (S : Nat → Prop) (w : World) : Value → Nz → Prop
  | mk (k : Int) (s : T) (l : List Nz) (A : Option Addr) (c : Nat) (vs : Nat → Value) (hc : l.length ≤ c) (hr : RowIn S w A l.length vs) (hn : ∀ j n, l[j]? = some n → NzIn S w (vs j) n) : NzIn S w (.agg #[.int .i64 k, .string (bs s), .slice A l.length c]) (.mk k s l)
theorem NzIn.move {S S' : Nat → Prop} {w W : World} {v : Value} {n : Nz} (h : NzIn S w v n) (hs : ∀ b, S b → b < w.heap.size → S' b ∧ W.heap[b]? = w.heap[b]?) (hsz : w.heap.size ≤ W.heap.size) : NzIn S' W v n := by
  induction h with
  | mk k s l A c vs hc hr _ ih => exact .mk k s l A c vs hc (hr.move hs hsz) ih
theorem NzIn.on {S : Nat → Prop} {w W : World} {v : Value} {n : Nz} (h : NzIn S w v n) (hb : Below w.heap.size w W) : NzIn S W v n :=
  h.move (fun b hS hl => ⟨hS, hb.block b hl⟩) hb.size
theorem NzIn.mono {S S' : Nat → Prop} {w : World} {v : Value} {n : Nz} (h : NzIn S w v n) (hs : ∀ b, S b → b < w.heap.size → S' b) : NzIn S' w v n :=
  h.move (fun b hS hl => ⟨hs b hS hl, rfl⟩) (Nat.le_refl _)
theorem NzIn.leaf (S : Nat → Prop) (w : World) (k : Int) (s : T) (A : Option Addr) (c : Nat) : NzIn S w (.agg #[.int .i64 k, .string (bs s), .slice A 0 c]) (.mk k s []) :=
  .mk k s [] A c (fun _ => .nilFunc) (Nat.zero_le _) (.inl rfl) fun j n h => by cases h
def NzsIn (S : Nat → Prop) (w : World) (A : Option Addr) (c : Nat) (l : List Nz) : Prop := l.length ≤ c ∧ ∃ vs : Nat → Value, RowIn S w A l.length vs ∧ ∀ j n, l[j]? = some n → NzIn S w (vs j) n
theorem NzsIn.move {S S' : Nat → Prop} {w W : World} {A : Option Addr} {c : Nat} {l : List Nz} (h : NzsIn S w A c l) (hs : ∀ b, S b → b < w.heap.size → S' b ∧ W.heap[b]? = w.heap[b]?) (hsz : w.heap.size ≤ W.heap.size) : NzsIn S' W A c l :=
  ⟨h.1, h.2.imp fun _ h => ⟨h.1.move hs hsz, fun j n hj => (h.2 j n hj).move hs hsz⟩⟩
theorem NzsIn.on {S : Nat → Prop} {w W : World} {A : Option Addr} {c : Nat} {l : List Nz} (h : NzsIn S w A c l) (hb : Below w.heap.size w W) : NzsIn S W A c l :=
  h.move (fun b hS hl => ⟨hS, hb.block b hl⟩) hb.size
theorem NzsIn.node {S : Nat → Prop} {w : World} {A : Option Addr} {c : Nat} {l : List Nz} (h : NzsIn S w A c l) (k : Int) (s : T) : NzIn S w (.agg #[.int .i64 k, .string (bs s), .slice A l.length c]) (.mk k s l) := by
  obtain ⟨h1, vs, h2, h3⟩ := h
  exact .mk k s l A c vs h1 h2 h3
theorem NzIn.inv {S : Nat → Prop} {w : World} {v : Value} {k : Int} {s : T} {l : List Nz} (h : NzIn S w v (.mk k s l)) : ∃ A c, v = .agg #[.int .i64 k, .string (bs s), .slice A l.length c] ∧ NzsIn S w A c l := by
  cases h with
  | mk _ _ _ A c vs hc hr hn => exact ⟨A, c, rfl, hc, vs, hr, hn⟩
/-- one of a slice: its three cells, also later; and itself -/
theorem NzsIn.at_ {S : Nat → Prop} {w : World} {A : Option Addr} {c j : Nat} {l : List Nz} (h : NzsIn S w A c l) {k : Int} {s : T} {m : List Nz} (hj : l[j]? = some (.mk k s m)) :
    ∃ b o A' c', A = some ⟨b, o, none⟩ ∧ b < w.heap.size ∧ S b ∧ NzIn S w (.agg #[.int .i64 k, .string (bs s), .slice A' m.length c']) (.mk k s m) ∧ ∀ W : World, W.heap[b]? = w.heap[b]? → W.cell? ⟨b, o + j * 3, none⟩ = some (.int .i64 k) ∧ W.cell? ⟨b, o + j * 3 + 1, none⟩ = some (.string (bs s)) ∧ W.cell? ⟨b, o + j * 3 + 2, none⟩ = some (.slice A' m.length c') := by
  obtain ⟨hc, vs, hr, hn⟩ := h
  have hl := (List.getElem?_eq_some_iff.1 hj).1
  rcases hr with h0 | ⟨b, o, h1, h2, hS, _, h3⟩
  · omega
  · obtain ⟨A', c', hv, hm⟩ := (hn j _ hj).inv
    refine ⟨b, o, A', c', h1, h2, hS, hm.node k s, fun W hW => ?_⟩
    obtain ⟨x, y, z, e0, e1, e2, e3⟩ := (h3 j hl).move hW
    rw [hv] at e0
    simp only [Value.agg.injEq, Array.mk.injEq, List.cons.injEq, and_true] at e0
    obtain ⟨rfl, rfl, rfl⟩ := e0
    exact ⟨e1, e2, e3⟩
mutual
def toZ : Nod → Nz
  | .mk k s l => .mk (k : Int) s (toZs l)
def toZs : List Nod → List Nz
  | [] => []
  | n :: r => toZ n :: toZs r
end
theorem toZs_len : ∀ l, (toZs l).length = l.length
  | [] => rfl
  | n :: r => by rw [toZs, List.length_cons, List.length_cons, toZs_len r]
theorem toZs_at : ∀ (l : List Nod) (j : Nat), (toZs l)[j]? = (l[j]?).map toZ
  | [], _ => rfl
  | n :: r, 0 => rfl
  | n :: r, j + 1 => by rw [toZs, List.getElem?_cons_succ, List.getElem?_cons_succ, toZs_at r j]
theorem NodeIn.toZ {S : Nat → Prop} {w : World} {v : Value} {n : Nod} (h : NodeIn S w v n) : NzIn S w v (Nz.toZ n) := by
  induction h with
  | mk k s l A c vs hc hr _ ih =>
    rw [Nz.toZ, ← toZs_len l]
    refine .mk (k : Int) s (toZs l) A c vs (by rw [toZs_len]; exact hc) (by rw [toZs_len]; exact hr) fun j n hj => ?_
    rw [toZs_at] at hj
    cases hx : l[j]? with
    | none => rw [hx] at hj; cases hj
    | some m =>
      rw [hx] at hj
      cases hj
      exact ih j m hx
mutual
theorem toZ_inj : ∀ {n m : Nod}, toZ n = toZ m → n = m
  | .mk k s l, .mk k' s' l', h => by
    rw [toZ, toZ] at h
    injection h with h1 h2 h3
    rw [toZs_inj h3, h2, Int.ofNat.inj h1]
theorem toZs_inj : ∀ {l m : List Nod}, toZs l = toZs m → l = m
  | [], [], _ => rfl
  | [], _ :: _, h => by rw [toZs, toZs] at h; cases h
  | _ :: _, [], h => by rw [toZs, toZs] at h; cases h
  | n :: r, n' :: r', h => by
    rw [toZs, toZs] at h
    injection h with h1 h2
    rw [toZ_inj h1, toZs_inj h2]
end
mutual
/-- how many nodes -/
def siz : Nz → Nat
  | .mk _ _ l => 1 + sizs l
def sizs : List Nz → Nat
  | [] => 0
  | n :: r => siz n + sizs r
end
theorem sizs_le : ∀ {l : List Nz} {x : Nz}, x ∈ l → siz x ≤ sizs l
  | [], _, h => by cases h
  | n :: r, x, h => by
    rw [sizs]
    rcases List.mem_cons.1 h with rfl | h
    · omega
    · have := sizs_le h
      omega
theorem siz_pos (x : Nz) : 1 ≤ siz x := by cases x; rw [siz]; omega
theorem sizs_len : ∀ l : List Nz, l.length ≤ sizs l
  | [] => Nat.zero_le _
  | n :: r => by
    have := sizs_len r
    have := siz_pos n
    rw [sizs, List.length_cons]; omega
theorem size_lt {k : Int} {s : T} {l : List Nz} {x : Nz} (h : x ∈ l) : siz x < siz (Nz.mk k s l) := by
  have := sizs_le h
  rw [siz]
  omega

end Go.Proofs.YtpphkaolonjjdaaDoor.Nz

/- What the laws of references ask of the plain Parse (no program). -/
namespace Go.Proofs.YtpphkaolonjjdaaDoor.Spf
open Go.Proofs.YtpphkaolonjjdaaDoor.Spl
open Go.Proofs.YtpphkaolonjjdaaDoor.Fpl (lookI)

def textN : Nod → T
  | .mk _ s _ => s
theorem scan_nil (p : UInt8 → T → Rd Nod) (n : Nat) (acc : List Nod) (cur : T) : scanP p (n + 1) acc cur [] = .ok (flushP acc cur) := rfl
theorem scan_other (p : UInt8 → T → Rd Nod) (n : Nat) (acc : List Nod) (cur : T) {b : UInt8} (r : T) (h : b ≠ 36) : scanP p (n + 1) acc cur (b :: r) = scanP p n acc (cur ++ [b]) r := by
  rw [scanP.eq_def]
  exact if_neg h
theorem scan_two (p : UInt8 → T → Rd Nod) (n : Nat) (acc : List Nod) (cur : T) (r : T) : scanP p (n + 1) acc cur (36 :: 36 :: r) = scanP p n acc (cur ++ [36]) r := rfl
theorem scan_ref (p : UInt8 → T → Rd Nod) (n : Nat) (acc : List Nod) (cur : T) (c : UInt8) (r : T) (h : c = 40 ∨ c = 123) : scanP p (n + 1) acc cur (36 :: c :: r) = match endsP c (shutOf c) 1 r with
    | none => .bad .form
    | some e => match p c (r.take e) with
      | .bad x => .bad x
      | .ok m => scanP p n (flushP acc cur ++ [m]) [] (r.drop (e + 1)) := by
  rcases h with rfl | rfl <;> rfl

/-! ### a text without a dollar; each dollar doubled -/
theorem scan_plain (p : UInt8 → T → Rd Nod) : ∀ (r : T) (n : Nat) (acc : List Nod) (cur : T), r.length < n → 36 ∉ r → scanP p n acc cur r = .ok (flushP acc (cur ++ r))
  | [], n + 1, acc, cur, _, _ => by rw [scan_nil, List.append_nil]
  | b :: r, n + 1, acc, cur, hn, hd => by
    have hb : b ≠ 36 := fun e => hd (by rw [e]; exact List.mem_cons_self)
    rw [scan_other p n acc cur r hb, scan_plain p r n acc (cur ++ [b]) (by rw [List.length_cons] at hn; omega) (fun h => hd (List.mem_cons_of_mem _ h)), List.append_assoc]
    rfl
/-- each dollar twice -/
def twice (s : T) : T := s.flatMap fun b => if b = 36 then [36, 36] else [b]
theorem twice_cons (b : UInt8) (r : T) : twice (b :: r) = (if b = 36 then [36, 36] else [b]) ++ twice r := rfl
theorem scan_twice (p : UInt8 → T → Rd Nod) : ∀ (r : T) (n : Nat) (acc : List Nod) (cur : T), (twice r).length < n → scanP p n acc cur (twice r) = .ok (flushP acc (cur ++ r))
  | [], n + 1, acc, cur, _ => by
    show scanP p (n + 1) acc cur [] = _
    rw [scan_nil, List.append_nil]
  | b :: r, n + 1, acc, cur, hn => by
    rw [twice_cons] at hn ⊢
    by_cases hb : b = 36
    · subst hb
      rw [if_pos rfl] at hn ⊢
      show scanP p (n + 1) acc cur (36 :: 36 :: twice r) = _
      have hl : (twice r).length + 2 < n + 1 := by
        have : ([36, 36] ++ twice r : T).length = (twice r).length + 2 := by rw [List.length_append]; show 2 + _ = _; omega
        omega
      rw [scan_two, scan_twice p r n acc (cur ++ [36]) (by omega), List.append_assoc]
      rfl
    · rw [if_neg hb] at hn ⊢
      show scanP p (n + 1) acc cur (b :: twice r) = _
      have hl : (twice r).length + 1 < n + 1 := by
        have : ([b] ++ twice r : T).length = (twice r).length + 1 := by rw [List.length_append]; show 1 + _ = _; omega
        omega
      rw [scan_other p n acc cur _ hb, scan_twice p r n acc (cur ++ [b]) (by omega), List.append_assoc]
      rfl
theorem whole_flush (s : T) : wholeP (flushP [] s) = .mk 1 s [] := by
  cases s <;> rfl
theorem parse_twice (s : T) : parse (twice s) = .ok (.mk 1 s []) := by
  unfold parse
  rw [parseP, scan_twice _ s _ [] [] (Nat.lt_succ_self _)]
  show Rd.ok (wholeP (flushP [] ([] ++ s))) = _
  rw [List.nil_append, whole_flush]
theorem parse_plain (s : T) (h : 36 ∉ s) : parse s = .ok (.mk 1 s []) := by
  unfold parse
  rw [parseP, scan_plain _ s _ [] [] (Nat.lt_succ_self _) h]
  show Rd.ok (wholeP (flushP [] ([] ++ s))) = _
  rw [List.nil_append, whole_flush]

/-! ### references within references -/
def openT (c : Bool) : T := if c then [36, 123] else [36, 40]
def shutT (c : Bool) : T := if c then [125] else [41]
def deepT (c : Bool) : Nat → T
  | 0 => [97]
  | k + 1 => openT c ++ deepT c k ++ shutT c
def opB (c : Bool) : UInt8 := if c then 123 else 40
def shB (c : Bool) : UInt8 := if c then 125 else 41
theorem open_is (c : Bool) : openT c = [36, opB c] := by cases c <;> rfl
theorem shut_is (c : Bool) : shutT c = [shB c] := by cases c <;> rfl
theorem shut_of (c : Bool) : shutOf (opB c) = shB c := by cases c <;> rfl
theorem op_two (c : Bool) : opB c = 40 ∨ opB c = 123 := by cases c <;> simp [opB]
theorem deep_succ (c : Bool) (k : Nat) : deepT c (k + 1) = 36 :: opB c :: (deepT c k ++ [shB c]) := by
  rw [deepT, open_is, shut_is]
  simp
/-- k references around the text a -/
def chainN : Nat → Nod
  | 0 => .mk 1 [97] []
  | k + 1 => .mk 2 [] [chainN k]
theorem ends_other (o c : UInt8) (d : Nat) {b : UInt8} (r : T) (h1 : b ≠ o) (h2 : b ≠ c) : endsP o c d (b :: r) = (endsP o c d r).map (· + 1) := by
  rw [endsP, if_neg h1, if_neg h2]
theorem ends_open (o c : UInt8) (d : Nat) (r : T) : endsP o c d (o :: r) = (endsP o c (d + 1) r).map (· + 1) := by
  rw [endsP, if_pos rfl]
theorem ends_shut (o c : UInt8) (d : Nat) (r : T) (h : c ≠ o) : endsP o c d (c :: r) = if d ≤ 1 then some 0 else (endsP o c (d - 1) r).map (· + 1) := by
  rw [endsP, if_neg h, if_pos rfl]
theorem br (c : Bool) : shB c ≠ opB c ∧ (36 : UInt8) ≠ opB c ∧ (36 : UInt8) ≠ shB c ∧ (97 : UInt8) ≠ opB c ∧ (97 : UInt8) ≠ shB c := by cases c <;> decide
theorem map_add (x : Option Nat) (a b : Nat) : (x.map (· + a)).map (· + b) = x.map (· + (a + b)) := by
  cases x with
  | none => rfl
  | some y => show some (y + a + b) = some (y + (a + b)); rw [Nat.add_assoc]
/-- what is whole is passed by -/
theorem ends_deep (c : Bool) : ∀ (k d : Nat) (r : T), 1 ≤ d → endsP (opB c) (shB c) d (deepT c k ++ r) = (endsP (opB c) (shB c) d r).map (· + (deepT c k).length)
  | 0, d, r, _ => by
    obtain ⟨_, _, _, h1, h2⟩ := br c
    exact ends_other _ _ d r h1 h2
  | k + 1, d, r, hd => by
    obtain ⟨h0, h1, h2, _, _⟩ := br c
    rw [deep_succ]
    show endsP (opB c) (shB c) d (36 :: opB c :: (deepT c k ++ [shB c] ++ r)) = _
    rw [ends_other _ _ d _ h1 h2, ends_open, List.append_assoc, ends_deep c k (d + 1) _ (by omega)]
    show Option.map _ (Option.map _ (Option.map _ (endsP (opB c) (shB c) (d + 1) (shB c :: r)))) = _
    rw [ends_shut _ _ _ _ h0, if_neg (by omega), Nat.add_sub_cancel, map_add, map_add, map_add]
    have hl : (36 :: opB c :: (deepT c k ++ [shB c])).length = 1 + (deepT c k).length + 1 + 1 := by
      rw [List.length_cons, List.length_cons, List.length_append, List.length_singleton]; omega
    rw [hl]
    refine congrArg (fun n => Option.map (fun x => x + n) (endsP (opB c) (shB c) d r)) ?_
    omega
theorem ends_at (c : Bool) (k : Nat) (r : T) : endsP (opB c) (shB c) 1 (deepT c k ++ shB c :: r) = some (deepT c k).length := by
  rw [ends_deep c k 1 _ (Nat.le_refl _), ends_shut _ _ _ _ (br c).1, if_pos (Nat.le_refl _)]
  show some (0 + _) = _
  rw [Nat.zero_add]
theorem ends_no (c : Bool) (k : Nat) : endsP (opB c) (shB c) 1 (deepT c k) = none := by
  have := ends_deep c k 1 [] (Nat.le_refl _)
  rw [List.append_nil] at this
  rw [this]; rfl
theorem name_deep (c : Bool) (k : Nat) : nameP (deepT c k) = none := by
  cases k with
  | zero => rfl
  | succ k =>
    rw [deep_succ]
    have h : letB 36 = false := by decide
    have h2 : lookI Fpl.tab [] = none := by kernel_rfl
    unfold nameP
    rw [List.dropWhile_cons_of_neg (by rw [h]; exact Bool.false_ne_true), List.takeWhile_cons_of_neg (by rw [h]; exact Bool.false_ne_true), h2]
theorem colon_no : ∀ (s : T) (d : Nat) (cur : T), 58 ∉ s → colonP d cur s = none
  | [], _, _, _ => rfl
  | b :: r, d, cur, h => by
    have hr : 58 ∉ r := fun x => h (List.mem_cons_of_mem _ x)
    have hb : ¬ (b = 58 ∧ d = 0) := fun e => h (by rw [e.1]; exact List.mem_cons_self)
    rw [colonP]
    split
    · exact colon_no r _ _ hr
    · split
      · exact colon_no r _ _ hr
      · first
        | exact colon_no r _ _ hr
        | (rw [if_neg hb]; exact colon_no r _ _ hr)
theorem deep_mem (c : Bool) : ∀ k, 58 ∉ deepT c k
  | 0 => by show (58 : UInt8) ∉ [97]; decide
  | k + 1 => by
    rw [deep_succ]
    have ho : (58 : UInt8) ≠ opB c := by cases c <;> decide
    have hs : (58 : UInt8) ≠ shB c := by cases c <;> decide
    intro h0
    rcases List.mem_cons.1 h0 with h1 | h1
    · exact absurd h1 (by decide)
    rcases List.mem_cons.1 h1 with h2 | h2
    · exact ho h2
    rcases List.mem_append.1 h2 with h3 | h3
    · exact deep_mem c k h3
    · exact hs (List.mem_singleton.1 h3)
theorem ref_deep (p : T → Rd Nod) (o : UInt8) (c : Bool) (k : Nat) : refP p o (deepT c k) = (listP p [deepT c k]).map (.mk 2 []) := by
  unfold refP cutsP
  rw [name_deep, colon_no _ 0 [] (deep_mem c k)]
def deepR (m k : Nat) : Rd Nod := if k ≤ m then .ok (chainN k) else .bad .deep
theorem list_one (p : T → Rd Nod) (s : T) : (listP p [s]).map (Nod.mk 2 []) = match p s with
    | .bad e => Rd.bad e
    | .ok n => Rd.ok (.mk 2 [] [n]) := by
  rw [listP]
  cases p s <;> rfl
/-- what a walk makes of a reference at the front -/
theorem scan_deep (p : UInt8 → T → Rd Nod) (n : Nat) (c : Bool) (k : Nat) (r : T) : scanP p (n + 1) [] [] (deepT c (k + 1) ++ r) = match p (opB c) (deepT c k) with
    | .bad x => Rd.bad x
    | .ok m => scanP p n [m] [] r := by
  have e : deepT c (k + 1) ++ r = 36 :: opB c :: (deepT c k ++ shB c :: r) := by rw [deep_succ]; simp
  rw [e, scan_ref p n [] [] (opB c) _ (op_two c), shut_of, ends_at]
  show (match p (opB c) ((deepT c k ++ shB c :: r).take (deepT c k).length) with
      | .bad x => Rd.bad x
      | .ok m => scanP p n (flushP [] [] ++ [m]) [] ((deepT c k ++ shB c :: r).drop ((deepT c k).length + 1))) = _
  rw [List.take_left, List.drop_append, List.drop_of_length_le (by omega), show (deepT c k).length + 1 - (deepT c k).length = 1 by omega]
  rfl
theorem parse_deep (c : Bool) : ∀ (k m : Nat), parseP m (deepT c k) = deepR m k
  | 0, 0 => rfl
  | 0, m + 1 => rfl
  | k + 1, 0 => by
    have h := scan_deep (fun _ _ => Rd.bad .deep) (deepT c (k + 1)).length c k []
    rw [List.append_nil] at h
    rw [parseP, h]; rfl
  | k + 1, m + 1 => by
    have h := scan_deep (refP (parseP m)) (deepT c (k + 1)).length c k []
    rw [List.append_nil] at h
    rw [parseP, h, ref_deep, list_one, parse_deep c k m]
    unfold deepR
    by_cases hk : k ≤ m
    · rw [if_pos hk, if_pos (by omega)]
      have hl : ∃ u, (deepT c (k + 1)).length = u + 1 := ⟨(deepT c k).length + 2, by rw [deep_succ]; simp⟩
      obtain ⟨u, hu⟩ := hl
      rw [hu]; rfl
    · rw [if_neg hk, if_neg (by omega)]; rfl
/-- the last bracket left off -/
theorem parse_less (c : Bool) (k m : Nat) : parseP m (deepT c (k + 1)).dropLast = .bad .form := by
  have e : (deepT c (k + 1)).dropLast = 36 :: opB c :: deepT c k := by
    rw [deep_succ]
    show 36 :: (opB c :: (deepT c k ++ [shB c])).dropLast = _
    rw [show opB c :: (deepT c k ++ [shB c]) = (opB c :: deepT c k) ++ [shB c] from rfl, List.dropLast_concat]
  have h : ∀ p n, scanP p (n + 1) [] [] (36 :: opB c :: deepT c k) = .bad .form := fun p n => by
    rw [scan_ref p n [] [] (opB c) _ (op_two c), shut_of, ends_no]
  rw [e]
  cases m with
  | zero => rw [parseP, h]; rfl
  | succ m => rw [parseP, h]; rfl
/-- one bracket more -/
theorem parse_more (c : Bool) (k m : Nat) : parseP m (deepT c (k + 1) ++ shutT c) = match deepR m (k + 1) with
    | .bad e => Rd.bad e
    | .ok n => Rd.ok (.mk 5 [] [n, .mk 1 (shutT c) []]) := by
  have hl : ∃ u, (deepT c (k + 1) ++ shutT c).length = u + 2 := ⟨(deepT c k).length + 2, by rw [deep_succ, shut_is]; simp⟩
  obtain ⟨u, hu⟩ := hl
  have hs : shB c ≠ 36 := (br c).2.2.1.symm
  cases m with
  | zero => rw [parseP, scan_deep]; rfl
  | succ m =>
    rw [parseP, scan_deep, ref_deep, list_one, parse_deep c k m]
    unfold deepR
    by_cases hk : k ≤ m
    · rw [if_pos hk, if_pos (by omega)]
      show Rd.map wholeP (scanP _ (deepT c (k + 1) ++ shutT c).length [_] [] (shutT c)) = _
      rw [hu, shut_is, scan_other _ _ _ _ _ hs, scan_nil]; rfl
    · rw [if_neg hk, if_neg (by omega)]; rfl

/-! ### calls -/
def digT (n : Nat) : T := [48 + UInt8.ofNat n]
def argT (c : Bool) (i : Nat) : T := (if c then [123] else [40]) ++ digT i ++ [44, 120] ++ shutT c
def argsT (c : Bool) : Nat → T
  | 0 => []
  | 1 => argT c 0
  | k + 2 => argsT c (k + 1) ++ [44] ++ argT c (k + 1)
def fnL : List (T × Nat × Nat) := [([115, 116, 114, 105, 112], 1, 1), ([115, 117, 98, 115, 116], 3, 3), ([105, 102], 2, 3), ([111, 114], 1, 99), ([99, 97, 108, 108], 1, 99), ([105, 110, 116, 99, 109, 112], 2, 5), ([102, 111, 114, 101, 97, 99, 104], 3, 3), ([119, 111, 114, 100], 2, 2)]
def callT (c : Bool) (f : T) (k : Nat) : T := openT c ++ f ++ [32, 32] ++ argsT c k ++ shutT c
def callB (c : Bool) (x : T × Nat × Nat) (k : Nat) : Bool :=
  match parse (callT c x.1 k) with
  | .bad .few => decide (k < x.2.1)
  | .ok (.mk 4 f l) => decide (x.2.1 ≤ k) && decide (f = x.1) && decide (l.length = min k x.2.2) &&
    l.all (fun n => match n with | .mk 1 _ [] => true | _ => false) &&
    (decide (k ≤ x.2.2) || (match l[x.2.2 - 1]? with | some n => decide (5 < (textN n).length) | none => false))
  | _ => false
theorem call_all : (fnL.all fun x => (List.range 8).all fun k => callB false x (k + 1) && callB true x (k + 1)) = true := by kernel_rfl

/-! ### the document's example -/
theorem parse_sub : parse [36, 40, 97, 58, 46, 99, 61, 46, 111, 41] = .ok (.mk 3 [] [.mk 1 [97] [], .mk 1 [46, 99] [], .mk 1 [46, 111] []]) := by kernel_rfl
theorem parse_open : parse [36, 40, 97] = .bad .form := by kernel_rfl
theorem parse_dollar : parse [120, 36, 36, 121] = .ok (.mk 1 [120, 36, 121] []) := by kernel_rfl

end Go.Proofs.YtpphkaolonjjdaaDoor.Spf

/- An expansion as it would be written (no program). -/
namespace Go.Proofs.YtpphkaolonjjdaaDoor.Qtp
open Go.Proofs.YtpphkaolonjjdaaDoor.Spl Go.Proofs.YtpphkaolonjjdaaDoor.Nz

/-- texts with something between -/
def joinL (b : T) : List T → T
  | [] => []
  | t :: r => t ++ (r.map (b ++ ·)).flatten
theorem joinL_snoc (b : T) (ts : List T) (t : T) : joinL b (ts ++ [t]) = if ts = [] then t else joinL b ts ++ b ++ t := by
  cases ts with
  | nil => simp [joinL]
  | cons x r => simp [joinL]
mutual
def textZ : Nz → T
  | .mk k s l =>
    let ts := textsZ l
    if k = 1 then Spf.twice s
    else if k = 2 then [36, 40] ++ joinL [] ts ++ [41]
    else if k = 3 then (match ts with
      | [x, y, z] => [36, 40] ++ x ++ [58] ++ y ++ [61] ++ z ++ [41]
      | _ => [])
    else if k = 4 then [36, 40] ++ s ++ [32] ++ joinL [44] ts ++ [41]
    else if k = 5 then joinL [] ts
    else []
def textsZ : List Nz → List T
  | [] => []
  | n :: r => textZ n :: textsZ r
end
theorem texts_map : ∀ l, textsZ l = l.map textZ
  | [] => rfl
  | n :: r => by rw [textsZ, List.map_cons, texts_map r]
mutual
/-- nodes and bytes -/
def wt : Nz → Nat
  | .mk _ s l => 1 + s.length + wts l
def wts : List Nz → Nat
  | [] => 0
  | n :: r => wt n + wts r
end
theorem wts_le : ∀ {l : List Nz} {x : Nz}, x ∈ l → wt x ≤ wts l
  | [], _, h => by cases h
  | n :: r, x, h => by
    rw [wts]
    rcases List.mem_cons.1 h with rfl | h
    · omega
    · have := wts_le h
      omega
theorem wt_pos (x : Nz) : 1 ≤ wt x := by cases x; rw [wt]; omega
theorem wts_len : ∀ l : List Nz, l.length ≤ wts l
  | [] => Nat.zero_le _
  | n :: r => by
    have := wts_len r
    have := wt_pos n
    rw [wts, List.length_cons]; omega
theorem wts_take : ∀ (l : List Nz) (j : Nat), wts (l.take j) ≤ wts l
  | [], j => by rw [List.take_nil]; exact Nat.le_refl _
  | n :: r, 0 => Nat.zero_le _
  | n :: r, j + 1 => by
    have := wts_take r j
    rw [List.take_succ_cons, wts, wts]; omega
theorem joinL_len (b : T) (hb : b.length ≤ 1) : ∀ (l : List Nz), (∀ x ∈ l, (textZ x).length + 1 ≤ 6 * wt x) → (joinL b (textsZ l)).length ≤ 6 * wts l
  | [], _ => Nat.zero_le _
  | n :: r, h => by
    have hr : ∀ (r : List Nz), (∀ x ∈ r, (textZ x).length + 1 ≤ 6 * wt x) → ((textsZ r).map (b ++ ·)).flatten.length ≤ 6 * wts r := by
      intro r
      induction r with
      | nil => intro _; exact Nat.zero_le _
      | cons m r ih =>
        intro h
        have h1 := h m (List.mem_cons_self ..)
        have h2 := ih fun x hx => h x (List.mem_cons_of_mem _ hx)
        rw [textsZ, List.map_cons, List.flatten_cons, List.length_append, List.length_append, wts]; omega
    have h1 := h n (List.mem_cons_self ..)
    have h2 := hr r fun x hx => h x (List.mem_cons_of_mem _ hx)
    rw [textsZ, joinL, List.length_append, wts]; omega
theorem twice_len (a : T) : (Spf.twice a).length ≤ 2 * a.length := by
  induction a with
  | nil => exact Nat.le_refl _
  | cons b r ih =>
    rw [Spf.twice_cons, List.length_append, List.length_cons]
    split
    · show 2 + _ ≤ _; omega
    · show 1 + _ ≤ _; omega
theorem text_len : ∀ (N : Nat) (x : Nz), wt x ≤ N → (textZ x).length + 1 ≤ 6 * wt x
  | 0, x, h => by have := wt_pos x; omega
  | N + 1, .mk k s l, h => by
    rw [wt] at h
    have hl : ∀ x ∈ l, (textZ x).length + 1 ≤ 6 * wt x := fun x hx => text_len N x (by have := wts_le hx; omega)
    have j0 := joinL_len [] (by decide) l hl
    have j1 := joinL_len [44] (by decide) l hl
    have h2 := twice_len s
    rw [textZ, wt]
    split
    · omega
    · split
      · simp only [List.length_append, List.length_cons, List.length_nil]; omega
      · split
        · split
          · rename_i x y z e
            rw [texts_map] at e
            match l, e with
            | [a, b, c], e =>
              simp only [List.map_cons, List.map_nil, List.cons.injEq, and_true] at e
              obtain ⟨rfl, rfl, rfl⟩ := e
              have ha := hl a (by simp)
              have hb := hl b (by simp)
              have hc := hl c (by simp)
              simp only [List.length_append, List.length_cons, List.length_nil, wts]; omega
          · simp only [List.length_nil]; omega
        · split
          · simp only [List.length_append, List.length_cons, List.length_nil]; omega
          · split
            · omega
            · simp only [List.length_nil]; omega

end Go.Proofs.YtpphkaolonjjdaaDoor.Qtp
