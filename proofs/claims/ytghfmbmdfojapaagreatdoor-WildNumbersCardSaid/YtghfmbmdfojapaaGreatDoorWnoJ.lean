/- The names of all ways to a place: the trail's text, namesOf. -/
import Derived.Deep.LoopGhost
import Derived.Test.YtghfmbmdfojapaaGreatDoorStepAny
import Derived.Test.YtghfmbmdfojapaaGreatDoorWnmJ
import Derived.Maps.AppendAt
namespace Go.Proofs.YtghfmbmdfojapaaGreatDoor.Wno
open Go.RowKit Go.Proofs.YtghfmbmdfojapaaGreatDoor.Pth Go.Proofs.YtghfmbmdfojapaaGreatDoor.Strs Go.Proofs.YtghfmbmdfojapaaGreatDoor.StepAny Go.Proofs.YtghfmbmdfojapaaGreatDoor.Wdp Go.Proofs.YtghfmbmdfojapaaGreatDoor.Wst Go.Proofs.YtghfmbmdfojapaaGreatDoor.Wnm

/-! ### a trail -/
def ptr (q : Option Nat) : Value := .pointer (q.map fun b => ⟨b, 0, none⟩)
def TrailIs (w : World) : Option Nat → List T → Prop
  | q, [] => q = none
  | q, x :: r => ∃ b q', q = some b ∧ w.heap[b]? = some (.cells #[.string (bs x), ptr q'] 127 (0, 0)) ∧ TrailIs w q' r
/-- trails lie in blocks of their own kind -/
theorem TrailIs.kept {w W : World} (hk : ∀ (k : Nat) c, w.heap[k]? = some (.cells c 127 (0, 0)) → W.heap[k]? = w.heap[k]?) : ∀ {q : Option Nat} {xs : List T}, TrailIs w q xs → TrailIs W q xs
  | _, [], h => h
  | _, _ :: _, ⟨b, q', h1, h2, h5⟩ => ⟨b, q', h1, (hk b _ h2).trans h2, TrailIs.kept hk h5⟩
theorem TrailIs.below {w W : World} (hb : Below w.heap.size w W) {q : Option Nat} {xs : List T} (h : TrailIs w q xs) : TrailIs W q xs :=
  h.kept fun k _ hk => hb.block k (Array.getElem?_eq_some_iff.1 hk).1
theorem vals_app (a b : List T) : vals (a ++ b) = vals a ++ vals b := by rw [vals, vals, vals, List.map_append, List.map_append]

set_option maxRecDepth 100000 in
set_option maxHeartbeats 4000000 in
theorem text_is (q : Option Nat) (xs : List T) (w : World) (h : TrailIs w q xs) (hm : xs.length ≤ 1000000) (hl : (Lib.join xs [47]).length ≤ 140737488355328) :
    Calls Tryz.prog 64 #[ptr q] w fun e W' => e = .returned (.string (bs (Lib.join xs [47]))) ∧ Below w.heap.size w W' := by
  obtain ⟨i0, hi0, hz0, hz1, hz2⟩ := info_parts infoString
  have HT := Lib.hid h
  have HJ := Lib.hid hl
  clear h hl
  go_enter Tryz.func64, Tryz.ntmps64
  go_wp2_with fail
  go_loopg [0, 3] (xs.length + 1) (fun g s0 s3 wr => ∃ (q' : Option Nat) (ys zs : List T), s0 = ptr q' ∧ wr.ownsRow w.heap.size 9 1 s3 ys.length (vals ys) ∧ zs.length < g ∧ ys.length + zs.length ≤ 1000000 ∧ Hid (TrailIs w q' zs ∧ ys ++ zs = xs) ∧ Hid (Below w.heap.size w wr))
  case atStart => exact ⟨q, [], xs, rfl, World.ownsRow_nil _ _ _ _, Nat.lt_succ_self _, by simpa using hm, ⟨HT.out, rfl⟩, Below.refl _ _⟩
  case round =>
    obtain ⟨q', ys, zs, rfl, hown, hg, hlen, HR, HB⟩ := hrel
    have hBs := HB.out.size
    cases zs with
    | nil =>
      have hq := HR.out.1
      unfold TrailIs at hq
      subst hq
      have hxs : ys = xs := by have := HR.out.2; simpa using this
      subst hxs
      obtain ⟨A, c, rfl, hs⟩ := slIs_of_own (xs := ys.map bs) (by rw [List.length_map]) hown
      have HJo := Lib.hid (joins_is A ys.length c ys wr rfl hs HJ.out (by simp at hlen; omega))
      clear hown hs HR
      unfold ptr
      go_wp2_with fail
      refine HJo.out.mono ?_
      rintro e w3 ⟨rfl, hb3⟩
      have HB3 := Lib.hid (HB.out.trans (hb3.mono hBs))
      clear hb3 HB HJo
      go_wp2
      go_ret
      exact ⟨rfl, HB3.out⟩
    | cons x r =>
      obtain ⟨b, q2, rfl, hh, hr⟩ := HR.out.1
      have hb : b < w.heap.size := (Array.getElem?_eq_some_iff.1 hh).1
      have hc0 : w.cell? ⟨b, 0, none⟩ = some (.string (bs x)) := by rw [Lib.cell_of_heap hh]; rfl
      have hc1 : w.cell? ⟨b, 1, none⟩ = some (ptr q2) := by rw [Lib.cell_of_heap hh]; rfl
      have d0 : wr.cell? ⟨b, 0, none⟩ = some (.string (bs x)) := (HB.out.cell (p := ⟨b, 0, none⟩) hb).trans hc0
      have HR2 : Hid (TrailIs w q2 r ∧ (ys ++ [x]) ++ r = xs) := ⟨hr, by rw [List.append_assoc]; exact HR.out.2⟩
      have HC1 := Lib.hid (fun W (hW : Below w.heap.size w W) => (hW.cell (p := ⟨b, 1, none⟩) hb).trans hc1)
      have HOw := Lib.hid hown
      rw [List.length_cons] at hg hlen
      clear hown hc0 hc1 hr HR hh
      unfold ptr
      go_upto_region 4 with fail
      go_wp2_with (at_builtin; refine wpList_append_own _ rfl _ _ 30 rfl w.heap.size 9 i0 (.string .empty) 1 16 Tryz.underlying30 hi0 hz0 hz1 hz2 rfl (by decide) _ _ _ rfl (HOw.out.alloc _) ⟨wr.heap.size, 0, none⟩ 1 1 [.string (bs x)] rfl rfl (cell_one_new _ _ _) (by simp [Value.oneCell']) (by unfold maxLen; omega) (by omega) (by simp; omega) ?_; intro v' w4 hown' hgrow _; have HO := Lib.hid hown'; have HG := Lib.hid (below_append HB.out hBs HOw.out hgrow); have d1 := HC1.out w4 HG.out; unfold ptr at d1; clear hown' hgrow)
      obtain ⟨g, rfl⟩ : ∃ g, gk = g + 1 := ⟨gk - 1, by omega⟩
      go_roundg g
      case measure => omega
      case rel => exact ⟨q2, ys ++ [x], r, rfl, by rw [List.length_append, vals_app]; exact HO.out, by omega, by rw [List.length_append]; simp; omega, HR2.out, HG.out⟩

end Go.Proofs.YtghfmbmdfojapaaGreatDoor.Wno

/- namesOf: the names of all ways to a place. -/
namespace Go.Proofs.YtghfmbmdfojapaaGreatDoor.Wnn
open Go.RowKit Go.Proofs.YtghfmbmdfojapaaGreatDoor.Pth Go.Proofs.YtghfmbmdfojapaaGreatDoor.Strs Go.Proofs.YtghfmbmdfojapaaGreatDoor.StepAny Go.Proofs.YtghfmbmdfojapaaGreatDoor.Wdp Go.Proofs.YtghfmbmdfojapaaGreatDoor.Wst Go.Proofs.YtghfmbmdfojapaaGreatDoor.Wnm Go.Proofs.YtghfmbmdfojapaaGreatDoor.Wno

abbrev Way := Nat × T
def wcells (ws : List Way) : List Value := ws.flatMap fun y => [.pointer (some ⟨y.1, 0, none⟩), .string (bs y.2)]
/-- a slice of ways -/
def WaysAt (w : World) (A : Option Addr) (c : Nat) (ws : List Way) : Prop :=
  ws.length ≤ c ∧ (ws = [] ∨ ∃ b o, A = some ⟨b, o, none⟩ ∧ b < w.heap.size ∧ ∀ (j : Nat) y, ws[j]? = some y → w.cell? ⟨b, o + j * 2, none⟩ = some (.pointer (some ⟨y.1, 0, none⟩)) ∧ w.cell? ⟨b, o + j * 2 + 1, none⟩ = some (.string (bs y.2)))
theorem WaysAt.below {w W : World} {A : Option Addr} {c : Nat} {ws : List Way} (h : WaysAt w A c ws) (hb : Below w.heap.size w W) : WaysAt W A c ws :=
  ⟨h.1, h.2.imp id fun ⟨b, o, e, hl, hc⟩ => ⟨b, o, e, Nat.lt_of_lt_of_le hl hb.size, fun j y hj => ⟨(hb.cell (p := ⟨b, o + j * 2, none⟩) hl).trans (hc j y hj).1, (hb.cell (p := ⟨b, o + j * 2 + 1, none⟩) hl).trans (hc j y hj).2⟩⟩⟩
theorem WaysAt.at_ {w : World} {A : Option Addr} {c k : Nat} {ws : List Way} (h : WaysAt w A c ws) {y : Way} (hy : ws[k]? = some y) :
    ∃ b o, A = some ⟨b, o, none⟩ ∧ b < w.heap.size ∧ ∀ W, Below w.heap.size w W → W.cell? ⟨b, o + k * 2, none⟩ = some (.pointer (some ⟨y.1, 0, none⟩)) ∧ W.cell? ⟨b, o + k * 2 + 1, none⟩ = some (.string (bs y.2)) := by
  rcases h.2 with rfl | ⟨b, o, e, hl, hc⟩
  · cases hy
  · exact ⟨b, o, e, hl, fun W hb => ⟨(hb.cell (p := ⟨b, o + k * 2, none⟩) hl).trans (hc k y hy).1, (hb.cell (p := ⟨b, o + k * 2 + 1, none⟩) hl).trans (hc k y hy).2⟩⟩
/-- the ways to a place, so many steps from where the walk began, and their names -/
def TreeIs (w : World) : Nat → Nat → List (List T) → Prop
  | 0, b, ts => b < w.heap.size ∧ (∃ A c, w.cell? ⟨b, 1, none⟩ = some (.slice A 0 c)) ∧ ts = [[]]
  | n + 1, b, ts => b < w.heap.size ∧ ∃ (A : Option Addr) (c : Nat) (ws : List Way) (f : Nat → List (List T)), w.cell? ⟨b, 1, none⟩ = some (.slice A ws.length c) ∧ WaysAt w A c ws ∧ ws ≠ [] ∧ (∀ y ∈ ws, TreeIs w n y.1 (f y.1)) ∧ ts = ws.flatMap fun y => (f y.1).map (· ++ [y.2])
theorem TreeIs.ne {w : World} : ∀ {n b : Nat} {ts : List (List T)}, TreeIs w n b ts → ts ≠ []
  | 0, _, _, h => by rw [h.2.2]; simp
  | n + 1, b, ts, ⟨_, A, c, ws, f, _, _, h1, h2, h3⟩ => by
    cases ws with
    | nil => exact absurd rfl h1
    | cons y r =>
      have := (h2 y List.mem_cons_self).ne
      rw [h3]
      intro e
      rw [List.flatMap_cons] at e
      exact this (List.map_eq_nil_iff.1 (List.append_eq_nil_iff.1 e).1)
theorem TreeIs.lt {w : World} {n b : Nat} {ts : List (List T)} (h : TreeIs w n b ts) : b < w.heap.size := by
  cases n with
  | zero => exact h.1
  | succ n => exact h.1

/-! ### what is still to be gone -/
structure Ld where
  n : Nat
  b : Nat
  q : Option Nat
  xs : List T
  ts : List (List T)
def Ld.key (l : Ld) : Nat × Nat × List T × List (List T) := (l.n, l.b, l.xs, l.ts)
def lcells (st : List Ld) : List Value := st.flatMap fun l => [.pointer (some ⟨l.b, 0, none⟩), ptr l.q]
theorem lcells_app (a b : List Ld) : lcells (a ++ b) = lcells a ++ lcells b := List.flatMap_append
theorem lcells_len : ∀ l : List Ld, (lcells l).length = l.length * 2
  | [] => rfl
  | x :: l => by
    have h := lcells_len l
    show ([Value.pointer (some ⟨x.b, 0, none⟩), ptr x.q] ++ lcells l).length = (l.length + 1) * 2
    rw [List.length_append, h]
    show 2 + _ = _
    omega
def LdIs (w0 w : World) (l : Ld) : Prop := TreeIs w0 l.n l.b l.ts ∧ TrailIs w l.q l.xs
def outL (l : Ld) : List T := l.ts.map fun t => Lib.join (t ++ l.xs) [47]
def wt (st : List Ld) : Nat := (st.map fun l => l.ts.length * (l.n + 1)).sum
theorem wt_app (a b : List Ld) : wt (a ++ b) = wt a + wt b := by simp [wt]
theorem own_cut {w : World} {base e size g n c : Nat} {xs : List Value} (h : w.ownsRow base e size (.slice (some ⟨g, 0, none⟩) n c) n xs) (k : Nat) (hk : k ≤ n) : w.ownsRow base e size (.slice (some ⟨g, 0, none⟩) k c) k (xs.take (k * size)) := by
  have hm : k * size ≤ n * size := Nat.mul_le_mul_right _ hk
  rcases h.2 with ⟨h1, _⟩ | ⟨g', cap, cur, hv, hb, hg, hnc, hcm, hcs, ht⟩
  · cases h1
  · injection hv with e1 e2 e3
    have eg : g = g' := by simpa using e1
    subst eg e3
    refine ⟨by rw [List.length_take, h.1, Nat.min_eq_left hm], .inr ⟨g, c, cur, rfl, hb, hg, Nat.le_trans hk hnc, hcm, hcs, ?_⟩⟩
    rw [← ht, List.take_take, Nat.min_eq_left hm]
theorem own_some {w : World} {base e size n : Nat} {v : Value} {xs : List Value} (h : w.ownsRow base e size v n xs) (hn : 0 < n) : ∃ g c, v = .slice (some ⟨g, 0, none⟩) n c := by
  rcases h.2 with ⟨_, h1⟩ | ⟨g, cap, cur, hv, _⟩
  · omega
  · exact ⟨g, cap, hv⟩
theorem own_kind {w : World} {base e size n r : Nat} {v : Value} {xs : List Value} (h : w.ownsRow base e size v n xs) (hr : v.ownBlock = some r) : ∃ cur, w.heap[r]? = some (.cells cur e (0, 0)) := by
  rcases h.2 with ⟨h1, _⟩ | ⟨g, cap, cur, hv, _, hg, _⟩
  · rw [h1] at hr; cases hr
  · rw [hv] at hr
    cases hr
    exact ⟨cur, hg⟩
/-- a trail is not touched by what is appended to a row of another kind -/
theorem trail_grown {w W : World} {base e size n : Nat} {v : Value} {xs : List Value} (h : w.ownsRow base e size v n xs) (he : e ≠ 127) (hg : w.grownBy W v.ownBlock) {q : Option Nat} {ys : List T} (ht : TrailIs w q ys) : TrailIs W q ys :=
  ht.kept fun k c hk => hg.block k (Array.getElem?_eq_some_iff.1 hk).1 fun e1 => by
    obtain ⟨cur, hc⟩ := own_kind h e1.symm
    rw [hk] at hc
    injection hc with hc
    injection hc with _ h2 _
    exact he h2.symm
theorem trail_alloc {w : World} {q : Option Nat} {ys : List T} (ht : TrailIs w q ys) (o : Obj) : TrailIs (w.alloc o) q ys :=
  ht.kept fun k _ hk => Below.heap_alloc w o k (Array.getElem?_eq_some_iff.1 hk).1
theorem out_le {st : List Ld} (h : ∀ l ∈ st, l.ts ≠ []) : st.length ≤ (st.flatMap outL).length := by
  induction st with
  | nil => exact Nat.le_refl _
  | cons l r ih =>
    rw [List.flatMap_cons, List.length_append, List.length_cons]
    have h1 := ih fun x hx => h x (List.mem_cons_of_mem _ hx)
    have h2 : 0 < (outL l).length := by
      unfold outL
      rw [List.length_map]
      exact List.length_pos_iff.2 (h l List.mem_cons_self)
    omega
theorem infoLead : (Tryz.prog.info? 124).map (fun i => (i.zero, i.size, i.bytes)) = some (some (.agg #[.pointer none, .pointer none]), 2, 16) := by kernel_rfl

def child (l : Ld) (n' : Nat) (f : Nat → List (List T)) (q : Option Nat) (y : Way) : Ld := ⟨n', y.1, q, y.2 :: l.xs, f y.1⟩
theorem out_child (l : Ld) (n' : Nat) (f : Nat → List (List T)) (q : Option Nat) (y : Way) : outL (child l n' f q y) = ((f y.1).map (· ++ [y.2])).map fun t => Lib.join (t ++ l.xs) [47] := by
  unfold outL child
  rw [List.map_map]
  refine List.map_congr_left fun t _ => ?_
  show _ = Lib.join ((t ++ [y.2]) ++ l.xs) [47]
  rw [List.append_assoc]
  rfl
theorem out_keys {st : List Ld} {ks : List (Nat × Nat × List T × List (List T))} (h : st.map Ld.key = ks) : st.flatMap outL = ks.flatMap fun k => k.2.2.2.map fun t => Lib.join (t ++ k.2.2.1) [47] := by
  rw [← h, List.flatMap_map]
  rfl
/-- what a lead is about -/
structure About (w : World) (l : Ld) (A : Option Addr) (c : Nat) (ws : List Way) (n' : Nat) (f : Nat → List (List T)) : Prop where
  cell : w.cell? ⟨l.b, 1, none⟩ = some (.slice A ws.length c)
  ways : WaysAt w A c ws
  sub : ∀ y ∈ ws, TreeIs w n' y.1 (f y.1)
  lev : ws ≠ [] → l.n = n' + 1
  out : outL l = (if ws = [] then [Lib.join l.xs [47]] else []) ++ ws.flatMap fun y => outL (child l n' f none y)
  wt : (ws.flatMap fun y => (f y.1)).length * (n' + 1) < l.ts.length * (l.n + 1)
theorem about {w : World} {l : Ld} (h : TreeIs w l.n l.b l.ts) : ∃ A c ws n' f, About w l A c ws n' f := by
  obtain ⟨n, b, q, xs, ts⟩ := l
  cases n with
  | zero =>
    obtain ⟨_, ⟨A, c, hc⟩, hts⟩ := h
    simp only at hc hts
    refine ⟨A, c, [], 0, fun _ => [], hc, ⟨Nat.zero_le _, .inl rfl⟩, fun y hy => absurd hy List.not_mem_nil, fun h => absurd rfl h, ?_, ?_⟩
    · show ts.map _ = _
      rw [hts]; rfl
    · show 0 * 1 < ts.length * (0 + 1)
      rw [hts]; decide
  | succ n' =>
    have hne := h.ne
    obtain ⟨_, A, c, ws, f, h1, h2, h3, h4, h5⟩ := h
    simp only at h1 h5 hne
    refine ⟨A, c, ws, n', f, h1, h2, h4, fun _ => rfl, ?_, ?_⟩
    · show ts.map _ = _
      rw [if_neg h3, h5, List.nil_append, List.map_flatMap]
      refine congrArg (fun g => List.flatMap g ws) (funext fun y => ?_)
      exact (out_child ⟨n' + 1, b, q, xs, ts⟩ n' f none y).symm
    · show _ < ts.length * (n' + 1 + 1)
      have e : ts.length = (ws.flatMap fun y => f y.1).length := by
        rw [h5, List.length_flatMap, List.length_flatMap]
        congr 1
        refine List.map_congr_left fun y _ => ?_
        rw [List.length_map]
      rw [← e]
      have : 0 < ts.length := List.length_pos_iff.2 hne
      exact Nat.mul_lt_mul_of_pos_left (by omega) this

theorem ways_le {w : World} {l : Ld} {A : Option Addr} {c : Nat} {ws : List Way} {n' : Nat} {f : Nat → List (List T)} (h : About w l A c ws n' f) : ws.length ≤ (outL l).length := by
  rw [h.out, List.length_append]
  have h1 := out_le (st := ws.map (child l n' f none)) (fun x hx => by
    obtain ⟨y, hy, rfl⟩ := List.mem_map.1 hx
    exact (h.sub y hy).ne)
  rw [List.length_map, List.flatMap_map] at h1
  omega
theorem wt_keys {st : List Ld} {ws : List Way} {n' : Nat} {xs : T → List T} {f : Nat → List (List T)} (h : st.map Ld.key = ws.map fun y => (n', y.1, xs y.2, f y.1)) : wt st = (ws.flatMap fun y => f y.1).length * (n' + 1) := by
  have e : st.map (fun l => l.ts.length * (l.n + 1)) = (st.map Ld.key).map fun k => k.2.2.2.length * (k.1 + 1) := by rw [List.map_map]; rfl
  unfold wt
  rw [e, h, List.map_map, List.length_flatMap]
  clear e h
  induction ws with
  | nil => simp
  | cons y r ih =>
    rw [List.map_cons, List.sum_cons, ih, List.map_cons, List.sum_cons, Nat.add_mul]
    rfl
theorem of_key {st : List Ld} {ws : List Way} {n' : Nat} {xs : T → List T} {f : Nat → List (List T)} (h : st.map Ld.key = ws.map fun y => (n', y.1, xs y.2, f y.1)) {x : Ld} (hx : x ∈ st) : ∃ y ∈ ws, x.n = n' ∧ x.b = y.1 ∧ x.xs = xs y.2 ∧ x.ts = f y.1 := by
  have h1 : x.key ∈ st.map Ld.key := List.mem_map_of_mem hx
  rw [h] at h1
  obtain ⟨y, hy, he⟩ := List.mem_map.1 h1
  unfold Ld.key at he
  simp only [Prod.mk.injEq] at he
  exact ⟨y, hy, he.1.symm, he.2.1.symm, he.2.2.1.symm, he.2.2.2.symm⟩
theorem sum_le (st : List Ld) (l : Ld) : wt st + l.ts.length * (l.n + 1) = wt (st ++ [l]) := by rw [wt_app]; simp [wt]

set_option maxRecDepth 100000 in
set_option maxHeartbeats 16000000 in
theorem namesOf_is (n b : Nat) (ts : List (List T)) (w : World) (h : TreeIs w n b ts) (hn : n ≤ 100000) (hN : ts.length ≤ 1000000000000) (hl : ∀ t ∈ ts, (Lib.join t [47]).length ≤ 1000000000) :
    Calls Tryz.prog 46 #[.pointer (some ⟨b, 0, none⟩)] w fun e W' => ∃ A c, ∃ zs : List T, e = .returned (.slice A zs.length c) ∧ zs.Perm (ts.map fun t => Lib.join t [47]) ∧ SlIs W' A c (zs.map bs) ∧ Below w.heap.size w W' := by
  obtain ⟨i0, hi0, hz0, hz1, hz2⟩ := info_parts infoString
  obtain ⟨j0, hj0, kz0, kz1, kz2⟩ := info_parts infoLead
  obtain ⟨N, hNe⟩ : ∃ N, N = ts.length := ⟨_, rfl⟩
  have HNe := Lib.hid hNe
  rw [← hNe] at hN
  have HT := Lib.hid h
  have HLen := Lib.hid hl
  have HPs : Hid (∀ (ns : List T) (st : List Ld), (ns ++ st.flatMap outL).Perm (ts.map fun t => Lib.join t [47]) → (∀ l ∈ st, l.ts ≠ []) → ns.length ≤ N ∧ st.length ≤ N ∧ ns.length + st.length ≤ N ∧ ∀ l ∈ st, ∀ t ∈ l.ts, (Lib.join (t ++ l.xs) [47]).length ≤ 1000000000) := fun ns st hp hne => by
    have h1 := hp.length_eq
    rw [List.length_append, List.length_map, ← HNe.out] at h1
    have h2 := out_le hne
    refine ⟨by omega, by omega, by omega, fun l hl t ht => ?_⟩
    have h3 : Lib.join (t ++ l.xs) [47] ∈ ts.map fun t => Lib.join t [47] := hp.mem_iff.1 (List.mem_append_right _ (List.mem_flatMap.2 ⟨l, hl, List.mem_map.2 ⟨t, ht, rfl⟩⟩))
    obtain ⟨u, hu, he⟩ := List.mem_map.1 h3
    rw [← he]; exact HLen.out u hu
  clear hNe h hl
  go_enter Tryz.func46, Tryz.ntmps46
  go_wp2_with fail
  obtain ⟨w1, hw1⟩ : ∃ w1, w1 = w.alloc (.cells #[.pointer (some ⟨b, 0, none⟩), .pointer none] 124) := ⟨_, rfl⟩
  have hb1 : Below w.heap.size w w1 := by rw [hw1]; exact (Below.refl _ _).alloc (Nat.le_refl _) _
  have hs1 : w.heap.size < w1.heap.size := by rw [hw1, World.size_alloc]; omega
  have hown1 : w1.ownsRow w.heap.size 124 2 (.slice (some ⟨w.heap.size, 0, none⟩) 1 1) 1 (lcells [⟨n, b, none, [], ts⟩]) := by rw [hw1]; exact World.ownsRow_lit w #[.pointer (some ⟨b, 0, none⟩), .pointer none] 1 (Nat.le_refl _) (by decide) rfl
  rw [← hw1]
  have HB1 := Lib.hid hb1
  have HO1 := Lib.hid hown1
  have HS1 := Lib.hid hs1
  clear hw1 hb1 hown1 hs1
  have HW0 : Hid (wt [⟨n, b, none, [], ts⟩] = N * (n + 1)) := by show _ = _; rw [HNe.out]; simp [wt]
  go_loopg [3, 4] (N * (n + 1) + 1) (fun g s3 s4 wr => ∃ (ns : List T) (st : List Ld) (sl gl cl : Nat), s4 = .slice (some ⟨gl, 0, none⟩) sl cl ∧ Hid (st.length = sl) ∧ wr.ownsRow w.heap.size 9 1 s3 ns.length (vals ns) ∧ wr.ownsRow w.heap.size 124 2 (.slice (some ⟨gl, 0, none⟩) sl cl) sl (lcells st) ∧ Hid (s3.ownBlock ≠ some gl) ∧ Hid (∀ l ∈ st, LdIs w wr l ∧ l.n + l.xs.length ≤ n) ∧ Hid ((ns ++ st.flatMap outL).Perm (ts.map fun t => Lib.join t [47])) ∧ Hid (wt st < g) ∧ Hid (Below w.heap.size w wr))
  case atStart => exact ⟨[], [⟨n, b, none, [], ts⟩], 1, w.heap.size, 1, rfl, rfl, World.ownsRow_nil _ _ _ _, HO1.out, (show _ ≠ _ by simp [Value.ownBlock]), (by
      intro l hl
      rw [List.mem_singleton.1 hl]
      exact ⟨⟨HT.out, rfl⟩, Nat.le_refl _⟩), (by
      show List.Perm _ _
      simp [outL]), by rw [HW0.out]; exact Nat.lt_succ_self _, HB1.out⟩
  case round =>
    obtain ⟨ns, st, sl, gl, cl, rfl, HSl, hown3, hown4, HNE, HLd, HPm, HWt, HB⟩ := hrel
    obtain ⟨hNs, hSt, hNS, hJs⟩ := HPs.out ns st HPm.out (fun l hl => (HLd.out l hl).1.1.ne)
    rw [HSl.out] at hSt hNS
    have HJs := Lib.hid hJs
    clear hJs
    by_cases h0 : 0 < sl
    · obtain ⟨st', l, rfl⟩ : ∃ st' l, st = st' ++ [l] := by
        rcases List.eq_nil_or_concat st with h | ⟨st', l, h⟩
        · have := HSl.out; rw [h] at this; simp at this; omega
        · exact ⟨st', l, by rw [h]; simp⟩
      obtain ⟨⟨hTree, hTrail⟩, hlev⟩ := HLd.out l (List.mem_append_right _ List.mem_cons_self)
      obtain ⟨Aw, cw, ws, n', f, hAb⟩ := about hTree
      obtain ⟨m, hm⟩ : ∃ m, m = st'.length := ⟨_, rfl⟩
      have HM := Lib.hid hm
      have hsl : sl = m + 1 := by rw [← HSl.out, List.length_append, ← hm]; rfl
      have HMs := Lib.hid hsl
      have q1 : IntKind.i64.wrap ((sl : Int) - 1) = (m : Int) := by
        rw [show ((sl : Int) - 1) = (m : Int) by omega]; exact IntWalk.i64_in _ (by omega)
      have hml : m < sl := by omega
      have hlc : (lcells st').length = m * 2 := by rw [lcells_len, hm]
      have c0 : wr.cell? ⟨gl, m * 2, none⟩ = some (.pointer (some ⟨l.b, 0, none⟩)) := by
        rw [hown4.cellAt (m * 2) (by omega), lcells_app, List.getElem?_append_right (by omega), hlc, Nat.sub_self]; rfl
      have c1 : wr.cell? ⟨gl, m * 2 + 1, none⟩ = some (ptr l.q) := by
        rw [hown4.cellAt (m * 2 + 1) (by omega), lcells_app, List.getElem?_append_right (by omega), hlc, Nat.add_sub_cancel_left]; rfl
      have hcl : sl ≤ cl := by
        rcases hown4.2 with ⟨h1, _⟩ | ⟨g', cap, cur, hv, _, _, hnc, _⟩
        · cases h1
        · injection hv with e1 e2 e3
          rw [e3]; exact hnc
      have hmc : m ≤ cl := by omega
      have hcut := own_cut hown4 m (by omega)
      rw [lcells_app, List.take_append_of_le_length (by rw [hlc]; exact Nat.le_refl _), List.take_of_length_le (by rw [hlc]; exact Nat.le_refl _)] at hcut
      have HCut := Lib.hid hcut
      have HO3 := Lib.hid hown3
      have HAb := Lib.hid hAb
      have HTr := Lib.hid hTrail
      have hglt := hown4.lt gl rfl
      have HGl := Lib.hid hglt
      have hs3lt := hown3.lt
      have HS3 := Lib.hid hs3lt
      unfold ptr at c1
      clear hm hsl hlc hcut hown3 hown4 hAb hTrail hTree hglt hs3lt
      go_upto_region 6 with fail
      obtain ⟨w2, hw2⟩ : ∃ w2, w2 = wr.alloc (.cells #[.pointer (some ⟨l.b, 0, none⟩), ptr l.q] 124) := ⟨_, rfl⟩
      have hw2' : w2 = wr.alloc (.cells #[.pointer (some ⟨l.b, 0, none⟩), .pointer (l.q.map fun b => ⟨b, 0, none⟩)] 124) := hw2
      have hs2 : wr.heap.size < w2.heap.size := by rw [hw2, World.size_alloc]; omega
      have hk2 : ∀ k, k < wr.heap.size → w2.heap[k]? = wr.heap[k]? := fun k hk => by rw [hw2]; exact Below.heap_alloc _ _ _ hk
      have hB2 : Below w.heap.size w w2 := by rw [hw2]; exact HB.out.alloc HB.out.size _
      have g5 : w2.heap[wr.heap.size]? = some (.cells #[.pointer (some ⟨l.b, 0, none⟩), ptr l.q] 124 (0, 0)) := by rw [hw2]; exact heap_alloc_new _ _
      have e0 : w2.cell? ⟨wr.heap.size, 0, none⟩ = some (.pointer (some ⟨l.b, 0, none⟩)) := by rw [Lib.cell_of_heap g5]; rfl
      have e1 : w2.cell? ⟨wr.heap.size, 1, none⟩ = some (ptr l.q) := by rw [Lib.cell_of_heap g5]; rfl
      have hTlt : l.b < w.heap.size := by
        have := (HLd.out l (List.mem_append_right _ List.mem_cons_self)).1.1.lt
        exact this
      have e2 : w2.cell? ⟨l.b, 1, none⟩ = some (.slice Aw ws.length cw) := (hB2.cell (p := ⟨l.b, 1, none⟩) hTlt).trans HAb.out.cell
      have HG5 := Lib.hid g5
      have HTlt := Lib.hid hTlt
      have HB2 := Lib.hid hB2
      have HK2 := Lib.hid hk2
      have HS2 := Lib.hid hs2
      have HTr2 : Hid (∀ q ys, TrailIs wr q ys → TrailIs w2 q ys) := fun q ys h => by rw [hw2]; exact trail_alloc h _
      have HO32 := Lib.hid (rows_below (W := w2) HO3.out (fun g hg => hk2 g (HO3.out.lt g hg).2))
      rw [← hw2']
      have HTxt := Lib.hid (text_is l.q l.xs w2 (HTr2.out _ _ HTr.out) (by omega))
      clear hw2 hw2' hk2 hB2 g5 hTlt hs2 c0 c1
      unfold ptr at e1
      go_upto_if 31 with fail
      go_cut [3] (fun v wx => ∃ (V : Value) (W : World) (ns2 : List T), V = v ∧ W = wx ∧ Hid (ns2 = ns ++ (if ws = [] then [Lib.join l.xs [47]] else [])) ∧ Hid (W.ownsRow w.heap.size 9 1 V ns2.length (vals ns2)) ∧ Hid (V.ownBlock = u3.ownBlock ∨ ∃ k, V.ownBlock = some k ∧ w2.heap.size ≤ k) ∧ Hid (∀ k, k < w2.heap.size → some k ≠ u3.ownBlock → W.heap[k]? = w2.heap[k]?) ∧ Hid (w2.heap.size ≤ W.heap.size) ∧ Hid (Below w.heap.size w W))
      case first =>
        by_cases hws : ws = []
        · have hw0 : (ws.length : Int) = 0 := by rw [hws]; rfl
          have hw0' : ws.length = 0 := by rw [hws]; rfl
          have hj : (Lib.join l.xs [47]).length ≤ 1000000000 := by
            have h1 := HAb.out.out
            rw [if_pos hws, hws] at h1
            have h2 : Lib.join l.xs [47] ∈ outL l := by rw [h1]; exact List.mem_cons_self
            obtain ⟨t, ht, he⟩ := List.mem_map.1 h2
            rw [← he]
            exact HJs.out l (List.mem_append_right _ List.mem_cons_self) t ht
          have HTx2 := Lib.hid (HTxt.out (by omega))
          have HWs : Hid ((if ws = [] then [Lib.join l.xs [47]] else []) = [Lib.join l.xs [47]]) := if_pos hws
          have hw1 : ((ws.length : Int) == 0) = true := by rw [hw0]; rfl
          clear hw0 hw0' hws hj
          go_wp2_with fail
          refine HTx2.out.mono ?_
          rintro e w3 ⟨rfl, hb3⟩
          have HO33 := Lib.hid (rows_below (W := w3) HO32.out (fun g hg => hb3.block g (HO32.out.lt g hg).2))
          have HB3 := Lib.hid (HB2.out.trans (hb3.mono HB2.out.size))
          have HB23 := Lib.hid hb3
          have hs3 := HB3.out.size
          clear hb3 HTx2
          go_wp2_with (at_builtin; refine wpList_append_own_at _ rfl _ _ 30 rfl w.heap.size 9 i0 (.string .empty) 1 16 Tryz.underlying30 hi0 hz0 hz1 hz2 rfl (by decide) _ _ _ rfl (HO33.out.alloc _) ⟨w3.heap.size, 0, none⟩ 1 1 [.string (bs (Lib.join l.xs [47]))] rfl rfl (cell_one_new _ _ _) (by simp [Value.oneCell']) (by unfold maxLen; omega) (by omega) (by simp; omega) ?_; intro v' w4 hown' hgrow _ hloc; have HO := Lib.hid hown'; have HLc := Lib.hid hloc; have HG4 := Lib.hid (below_append HB3.out hs3 HO33.out hgrow); have HKp : Hid (∀ k, k < w2.heap.size → some k ≠ u3.ownBlock → w4.heap[k]? = w2.heap[k]?) := (fun k hk hne => (hgrow.block k (by rw [World.size_alloc]; exact Nat.lt_succ_of_lt (Nat.lt_of_lt_of_le hk HB23.out.size)) hne).trans ((Below.heap_alloc _ _ _ (Nat.lt_of_lt_of_le hk HB23.out.size)).trans (HB23.out.block k hk))); have HSz : Hid (w2.heap.size ≤ w4.heap.size) := (Nat.le_trans HB23.out.size (Nat.le_trans (by rw [World.size_alloc]; exact Nat.le_succ _) hgrow.size)); clear hown' hgrow hloc)
          go_meet
          exact ⟨_, _, ns ++ [Lib.join l.xs [47]], rfl, rfl, by rw [HWs.out]; rfl, by rw [List.length_append, vals_app]; exact HO.out, HLc.out.imp id (fun h => ⟨_, h, by rw [World.size_alloc]; exact Nat.le_succ_of_le HB23.out.size⟩), HKp.out, HSz.out, HG4.out⟩
        · have hw0 : ws.length ≠ 0 := fun e => hws (List.eq_nil_of_length_eq_zero e)
          have hw1 : ((ws.length : Int) == 0) = false := by rw [beq_eq_false_iff_ne]; omega
          have HE : Hid (ns = ns ++ (if ws = [] then [Lib.join l.xs [47]] else [])) := by show _ = _; rw [if_neg hws, List.append_nil]
          clear hws
          go_wp2_with fail
          go_meet
          exact ⟨_, _, ns, rfl, rfl, HE.out, HO32.out, .inl rfl, fun _ _ _ => rfl, Nat.le_refl _, HB2.out⟩
      case rest =>
        obtain ⟨V, w4, ns2, rfl, rfl, HN2, HO4, HLoc, HKp, HSz, HB4⟩ := hcut
        clear e0 e1 e2
        have hglw : gl < w2.heap.size := Nat.lt_of_lt_of_le HGl.out.2 (Nat.le_of_lt HS2.out)
        have HOl4 := Lib.hid (rows_below (W := w4) HCut.out (fun g hg => by
          have e : gl = g := by simpa [Value.ownBlock] using hg
          subst e
          exact (HKp.out gl hglw (fun e => HNE.out e.symm)).trans (HK2.out gl HGl.out.2)))
        have hp5 : some wr.heap.size ≠ u3.ownBlock := fun e => by have := (HO3.out.lt _ e.symm).2; omega
        have g5 : w4.heap[wr.heap.size]? = some (.cells #[.pointer (some ⟨l.b, 0, none⟩), ptr l.q] 124 (0, 0)) := (HKp.out _ HS2.out hp5).trans HG5.out
        have HG54 := Lib.hid g5
        have HTr4 : Hid (∀ q ys, TrailIs wr q ys → TrailIs w4 q ys) := fun q ys h => (HTr2.out q ys h).kept fun k c hk => HKp.out k (Array.getElem?_eq_some_iff.1 hk).1 fun e1 => by
          obtain ⟨cur, hc⟩ := own_kind HO32.out e1.symm
          rw [hk] at hc
          injection hc with hc
          injection hc with _ h2 _
          exact absurd h2 (by decide)
        have e0 : w4.cell? ⟨wr.heap.size, 0, none⟩ = some (.pointer (some ⟨l.b, 0, none⟩)) := by rw [Lib.cell_of_heap g5]; rfl
        have e2 : w4.cell? ⟨l.b, 1, none⟩ = some (.slice Aw ws.length cw) := (HB4.out.cell (p := ⟨l.b, 1, none⟩) HTlt.out).trans HAb.out.cell
        have HVgl : Hid (V.ownBlock ≠ some gl) := fun e => by
          rcases HLoc.out with h1 | ⟨k, h1, h2⟩
          · exact HNE.out (h1.symm.trans e)
          · rw [h1] at e; cases e; omega
        have HPg : Hid (wr.heap.size ≠ gl) := fun e => by have := HGl.out.2; omega
        have hwl : ws.length ≤ 1000000000000 := by
          have h1 := ways_le HAb.out
          have h2 := HPm.out.length_eq
          rw [List.length_append, List.flatMap_append, List.length_append, List.flatMap_cons, List.length_append, List.length_map, ← HNe.out] at h2
          omega
        have hml2 : m ≤ 1000000000000 := by omega
        clear g5 hp5 hglw HTxt HTr2 HO32 HKp HCut HLoc
        obtain ⟨p5, hp5e⟩ : ∃ p5, p5 = wr.heap.size := ⟨_, rfl⟩
        rw [← hp5e] at e0 HG54 HPg ⊢
        have HP5e := Lib.hid hp5e
        clear hp5e
        go_wp2_with fail
        go_loopw [4, 44] (fun s4 i wr2 => ∃ (k : Nat) (ps : List Ld) (sl2 gl2 cl2 : Nat), k ≤ ws.length ∧ i = .int .i64 k ∧ s4 = .slice (some ⟨gl2, 0, none⟩) sl2 cl2 ∧ Hid ((st' ++ ps).length = sl2) ∧ Hid (wr2.ownsRow w.heap.size 124 2 (.slice (some ⟨gl2, 0, none⟩) sl2 cl2) sl2 (lcells (st' ++ ps))) ∧ Hid (V.ownBlock ≠ some gl2 ∧ p5 ≠ gl2) ∧ Hid (ps.map Ld.key = (ws.take k).map fun y => (n', y.1, y.2 :: l.xs, f y.1)) ∧ Hid ((∀ x ∈ st' ++ ps, TrailIs wr2 x.q x.xs) ∧ TrailIs wr2 l.q l.xs) ∧ Hid (wr2.ownsRow w.heap.size 9 1 V ns2.length (vals ns2)) ∧ Hid (wr2.heap[p5]? = some (.cells #[.pointer (some ⟨l.b, 0, none⟩), ptr l.q] 124 (0, 0))) ∧ Hid (Below w.heap.size w wr2)) (fun _ i _ => ws.length - (intOf i).toNat)
        case atStart => exact ⟨0, [], m, gl, cl, Nat.zero_le _, rfl, rfl, by show _ = _; rw [List.append_nil]; exact HM.out.symm, by rw [List.append_nil]; exact HOl4.out, ⟨HVgl.out, HPg.out⟩, rfl, ⟨fun x hx => by
          rw [List.append_nil] at hx
          exact HTr4.out _ _ (HLd.out x (List.mem_append_left _ hx)).1.2, HTr4.out _ _ HTr.out⟩, HO4.out, HG54.out, HB4.out⟩
        case round =>
          obtain ⟨k, ps, sl2, gl2, cl2, hk, rfl, rfl, HSl2, HOl, HNe2, HKey, HTrs, HO3r, HG5r, HBr⟩ := hrel
          have hpl : ps.length = k := by
            have := congrArg List.length HKey.out
            rw [List.length_map, List.length_map, List.length_take, Nat.min_eq_left hk] at this
            exact this
          have hsl2 : sl2 = m + k := by rw [← HSl2.out, List.length_append, hpl, HM.out]
          by_cases hlt : k < ws.length
          · obtain ⟨y, hy⟩ : ∃ y, ws[k]? = some y := ⟨_, List.getElem?_eq_getElem hlt⟩
            obtain ⟨bw, ow, rfl, hbw, hcw⟩ := HAb.out.ways.at_ hy
            obtain ⟨d0, d1⟩ := hcw wr HBr.out
            have e1 : wr.cell? ⟨p5, 1, none⟩ = some (ptr l.q) := by rw [Lib.cell_of_heap HG5r.out]; rfl
            have hp5l : p5 < wr.heap.size := (Array.getElem?_eq_some_iff.1 HG5r.out).1
            obtain ⟨wA, hwA⟩ : ∃ wA, wA = ((wr.alloc (.cells #[.pointer (some ⟨y.1, 0, none⟩), .string (bs y.2)] 121)).alloc (.cells #[.string (bs y.2), ptr l.q] 127)).alloc (.cells #[.pointer (some ⟨y.1, 0, none⟩), Value.pointer (some ⟨wr.heap.size + 1, 0, none⟩)] 124) := ⟨_, rfl⟩
            have hsA : wA.heap.size = wr.heap.size + 3 := by rw [hwA, World.size_alloc, World.size_alloc, World.size_alloc]
            have hkA : ∀ q, q < wr.heap.size → wA.heap[q]? = wr.heap[q]? := fun q hq => by
              rw [hwA]
              exact (Below.heap_alloc _ _ _ (by rw [World.size_alloc, World.size_alloc]; omega)).trans ((Below.heap_alloc _ _ _ (by rw [World.size_alloc]; omega)).trans (Below.heap_alloc _ _ _ hq))
            have hBA : Below w.heap.size w wA := by
              have hs := HBr.out.size
              rw [hwA]
              exact ((HBr.out.alloc hs _).alloc (by rw [World.size_alloc]; omega) _).alloc (by rw [World.size_alloc, World.size_alloc]; omega) _
            have gT : wA.heap[wr.heap.size + 1]? = some (.cells #[.string (bs y.2), ptr l.q] 127 (0, 0)) := by
              have h1 := heap_alloc_new (wr.alloc (.cells #[.pointer (some ⟨y.1, 0, none⟩), .string (bs y.2)] 121)) (.cells #[.string (bs y.2), ptr l.q] 127)
              rw [World.size_alloc] at h1
              rw [hwA]
              exact (Below.heap_alloc _ _ _ (by rw [World.size_alloc, World.size_alloc]; omega)).trans h1
            have gN : ∀ (j : Nat) u, [Value.pointer (some ⟨y.1, 0, none⟩), Value.pointer (some ⟨wr.heap.size + 1, 0, none⟩)][j]? = some u → wA.cell? ((⟨wr.heap.size + 2, 0, none⟩ : Addr).add j) = some u := fun j u hu => by
              have h1 := heap_alloc_new ((wr.alloc (.cells #[.pointer (some ⟨y.1, 0, none⟩), .string (bs y.2)] 121)).alloc (.cells #[.string (bs y.2), ptr l.q] 127)) (.cells #[.pointer (some ⟨y.1, 0, none⟩), Value.pointer (some ⟨wr.heap.size + 1, 0, none⟩)] 124)
              rw [World.size_alloc, World.size_alloc, ← hwA] at h1
              rw [addr_add, Nat.zero_add, Lib.cell_of_heap h1, ← List.getElem?_toArray] at *
              exact hu
            have HOA := Lib.hid (rows_below (W := wA) HOl.out (fun g hg => hkA g (HOl.out.lt g hg).2))
            have HKA := Lib.hid hkA
            have HBA := Lib.hid hBA
            have HGT := Lib.hid gT
            have HGN := Lib.hid gN
            have HsA := Lib.hid hsA
            have HTA : Hid (∀ q ys, TrailIs wr q ys → TrailIs wA q ys) := fun q ys h => h.kept fun b _ hb => hkA b (Array.getElem?_eq_some_iff.1 hb).1
            have HP5 := Lib.hid hp5l
            unfold ptr at e1 hwA
            have hkey2 : ps.map Ld.key ++ [(n', y.1, y.2 :: l.xs, f y.1)] = (ws.take (k + 1)).map fun y => (n', y.1, y.2 :: l.xs, f y.1) := by
              obtain ⟨hl1, hl2⟩ := List.getElem?_eq_some_iff.1 hy
              rw [HKey.out, List.take_succ_eq_append_getElem hl1, List.map_append, hl2]
              rfl
            have HKey2 := Lib.hid hkey2
            have hcells : [Value.pointer (some ⟨y.1, 0, none⟩), Value.pointer (some ⟨wr.heap.size + 1, 0, none⟩)].length = 1 * 2 := rfl
            have HOneL : Hid (∀ u ∈ [Value.pointer (some ⟨y.1, 0, none⟩), Value.pointer (some ⟨wr.heap.size + 1, 0, none⟩)], u.oneCell' = true) := fun u hu => by
              simp at hu
              rcases hu with rfl | rfl <;> rfl
            have hslb : sl2 ≤ 2000000000000 := by omega
            have HPl := Lib.hid hpl
            have HSl2e := Lib.hid hsl2
            clear hkA hBA gT gN hsA hcw hkey2 hy hpl hsl2
            go_wp2_with (at_builtin; go_loud (rw [← hwA]; refine wpList_append_own_at _ rfl _ _ 125 rfl w.heap.size 124 j0 (.agg #[.pointer none, .pointer none]) 2 16 Tryz.underlying125 hj0 kz0 kz1 kz2 rfl (by decide) _ _ _ rfl HOA.out ⟨wr.heap.size + 2, 0, none⟩ 1 1 [Value.pointer (some ⟨y.1, 0, none⟩), Value.pointer (some ⟨wr.heap.size + 1, 0, none⟩)] rfl hcells HGN.out HOneL.out (by unfold maxLen; omega) (by omega) HBA.out.size ?_; intro v5 w5 hown5 hgrow5 _ hloc5))
            replace hloc5 : v5.ownBlock = some gl2 ∨ v5.ownBlock = some wA.heap.size := hloc5
            replace hgrow5 : wA.grownBy w5 (some gl2) := hgrow5
            obtain ⟨gl3, cl3, rfl⟩ := own_some hown5 (Nat.succ_pos _)
            have hglA : gl2 < wA.heap.size ∧ gl2 < wr.heap.size := ⟨(HOA.out.lt gl2 rfl).2, (HOl.out.lt gl2 rfl).2⟩
            have hlc3 : gl3 = gl2 ∨ gl3 = wA.heap.size := by
              rcases hloc5 with h1 | h1
              · left; simpa [Value.ownBlock] using h1
              · right; simpa [Value.ownBlock] using h1
            have hVl := fun q hq => (HO3r.out.lt q hq).2
            have hk5 : ∀ q, q < wr.heap.size → q ≠ gl2 → w5.heap[q]? = wr.heap[q]? := fun q hq hne => (hgrow5.block q (by rw [HsA.out]; omega) (by simpa [Value.ownBlock] using hne)).trans (HKA.out q hq)
            have HNe3 : Hid (V.ownBlock ≠ some gl3 ∧ p5 ≠ gl3) := by
              refine ⟨fun e => ?_, fun e => ?_⟩
              · rcases hlc3 with h1 | h1
                · exact HNe2.out.1 (h1 ▸ e)
                · have := hVl _ e; rw [HsA.out] at h1; omega
              · rcases hlc3 with h1 | h1
                · exact HNe2.out.2 (e.trans h1)
                · rw [HsA.out] at h1; omega
            have HT5 : Hid (∀ q ys, TrailIs wA q ys → TrailIs w5 q ys) := fun q ys h => trail_grown HOA.out (by decide) hgrow5 h
            have HO35 : Hid (w5.ownsRow w.heap.size 9 1 V ns2.length (vals ns2)) := rows_below HO3r.out (fun g hg => hk5 g (hVl g hg) (fun e => HNe2.out.1 (e ▸ hg)))
            have HG55 : Hid (w5.heap[p5]? = some (.cells #[.pointer (some ⟨l.b, 0, none⟩), ptr l.q] 124 (0, 0))) := (hk5 p5 hp5l HNe2.out.2).trans HG5r.out
            have HB5 : Hid (Below w.heap.size w w5) := HBA.out.grown hgrow5 HBA.out.size (fun q hq => (HOA.out.lt q hq).1)
            have HKe : Hid ((ps ++ [child l n' f (some (wr.heap.size + 1)) y]).map Ld.key = (ws.take (k + 1)).map fun y => (n', y.1, y.2 :: l.xs, f y.1)) := by
              show _ = _
              rw [List.map_append, ← HKey2.out]; rfl
            have HO5 : Hid (w5.ownsRow w.heap.size 124 2 (.slice (some ⟨gl3, 0, none⟩) (sl2 + 1) cl3) (sl2 + 1) (lcells (st' ++ (ps ++ [child l n' f (some (wr.heap.size + 1)) y])))) := by
              show World.ownsRow _ _ _ _ _ _ _
              rw [← List.append_assoc, lcells_app]
              exact hown5
            have HTr5 : Hid ((∀ x ∈ st' ++ (ps ++ [child l n' f (some (wr.heap.size + 1)) y]), TrailIs w5 x.q x.xs) ∧ TrailIs w5 l.q l.xs) := by
              refine ⟨fun x hx => ?_, HT5.out _ _ (HTA.out _ _ HTrs.out.2)⟩
              rw [← List.append_assoc] at hx
              rcases List.mem_append.1 hx with h1 | h1
              · exact HT5.out _ _ (HTA.out _ _ (HTrs.out.1 x h1))
              · rw [List.mem_singleton.1 h1]
                exact HT5.out _ _ ⟨_, l.q, rfl, HGT.out, HTA.out _ _ HTrs.out.2⟩
            have HS5 : Hid ((st' ++ (ps ++ [child l n' f (some (wr.heap.size + 1)) y])).length = sl2 + 1) := by
              show _ = _
              rw [← List.append_assoc, List.length_append, HSl2.out]; rfl
            clear hown5 hgrow5 hloc5 hglA hlc3 hVl hk5
            go_roundw
            case rel => exact ⟨k + 1, _, sl2 + 1, gl3, cl3, by omega, by go_num, rfl, HS5.out, HO5.out, HNe3.out, HKe.out, HTr5.out, HO35.out, HG55.out, HB5.out⟩
            case measure => simp [intOf]; omega
          · have hkw : k = ws.length := by omega
            have HKf : Hid (ps.map Ld.key = ws.map fun y => (n', y.1, y.2 :: l.xs, f y.1)) := by
              have := HKey.out
              rw [hkw, List.take_length] at this
              exact this
            have hout : ps.flatMap outL = ws.flatMap fun y => outL (child l n' f none y) := by
              rw [out_keys HKf.out, List.flatMap_map]
              rfl
            have HPm2 : Hid ((ns2 ++ (st' ++ ps).flatMap outL).Perm (ts.map fun t => Lib.join t [47])) := by
              have h1 := HPm.out
              rw [List.flatMap_append, List.flatMap_cons, List.flatMap_nil, List.append_nil, HAb.out.out] at h1
              refine List.Perm.trans ?_ h1
              rw [HN2.out, List.flatMap_append, hout, List.append_assoc]
              refine List.Perm.append_left ns ?_
              rw [← List.append_assoc, ← List.append_assoc]
              exact List.Perm.append_right _ List.perm_append_comm
            have hwt2 : wt (st' ++ ps) < wt (st' ++ [l]) := by
              rw [wt_app, wt_app, wt_keys (xs := fun x => x :: l.xs) HKf.out]
              have := HAb.out.wt
              have e : wt [l] = l.ts.length * (l.n + 1) := by simp [wt]
              omega
            have HWt2 : Hid (wt (st' ++ ps) + 1 < gk) := by
              have := HWt.out
              show _ < _
              omega
            have HLd2 : Hid (∀ x ∈ st' ++ ps, LdIs w wr x ∧ x.n + x.xs.length ≤ n) := fun x hx => by
              rcases List.mem_append.1 hx with h1 | h1
              · exact ⟨⟨(HLd.out x (List.mem_append_left _ h1)).1.1, HTrs.out.1 x hx⟩, (HLd.out x (List.mem_append_left _ h1)).2⟩
              · obtain ⟨y, hy, e1, e2, e3, e4⟩ := of_key (xs := fun x => x :: l.xs) HKf.out h1
                refine ⟨⟨by rw [e1, e2, e4]; exact HAb.out.sub y hy, HTrs.out.1 x hx⟩, ?_⟩
                have := HAb.out.lev (List.ne_nil_of_mem hy)
                rw [e1, e3, List.length_cons]
                omega
            clear hout hwt2
            go_wp2_with fail
            go_roundg (wt (st' ++ ps) + 1)
            case measure => exact HWt2.out
            case rel => exact ⟨ns2, st' ++ ps, sl2, gl2, cl2, rfl, HSl2.out, HO3r.out, HOl.out, HNe2.out.1, HLd2.out, HPm2.out, Nat.lt_succ_self _, HBr.out⟩
    · obtain rfl : sl = 0 := by omega
      have hst : st = [] := List.eq_nil_of_length_eq_zero HSl.out
      have hpm := HPm.out
      rw [hst, List.flatMap_nil, List.append_nil] at hpm
      have HPe := Lib.hid hpm
      obtain ⟨A, c, rfl, hs⟩ := slIs_of_own (xs := ns.map bs) (by rw [List.length_map]) hown3
      have HS := Lib.hid hs
      clear hpm hst hs hown3 hown4 HNE HLd HPm HWt HJs
      go_wp2
      go_ret
      exact ⟨A, c, ns, rfl, HPe.out, HS.out, HB.out⟩

end Go.Proofs.YtghfmbmdfojapaaGreatDoor.Wnn
