/- The program's kinds: kindOf. -/
import Derived.Test.YtmcdefkpkpaceaaGreatDoorKplJ
import Derived.Test.YtmcdefkpkpaceaaGreatDoorShelf
namespace Go.Proofs.YtmcdefkpkpaceaaGreatDoor.Kkn
open Go.RowKit Go.Proofs.YtmcdefkpkpaceaaGreatDoor.Spl Go.Proofs.YtmcdefkpkpaceaaGreatDoor.Nodm Go.Proofs.YtmcdefkpkpaceaaGreatDoor.Nz Go.Proofs.YtmcdefkpkpaceaaGreatDoor.Qwhole Go.Proofs.YtmcdefkpkpaceaaGreatDoor.Kpl Go.Proofs.YtmcdefkpkpaceaaGreatDoor.Kkd
open Go.Proofs.YtmcdefkpkpaceaaGreatDoor.Pure (bs)

/-- a node as one of the small types -/
def kindV (k : Int) (x : ByteArray) (A : Option Addr) (q c : Nat) : Value :=
  if k = 1 then .iface 70 (.agg #[.slice none 0 0, .string x])
  else if k = 2 then .iface 77 (.agg #[.slice A q c])
  else if k = 3 then .iface 79 (.agg #[.slice A q c])
  else if k = 4 then .iface 81 (.agg #[.slice A q c, .string x])
  else if k = 5 then .iface 82 (.agg #[.slice A q c])
  else .nilIface

set_option maxRecDepth 100000 in
set_option maxHeartbeats 1000000 in
theorem kind_1 (x : ByteArray) (A : Option Addr) (q c : Nat) (z : Bool) (hz : ((q : Int) == 0) = z) (w : World) :
    Calls Tryz.prog 25 #[.agg #[.int .i64 1, .string x, .slice A q c]] w fun e W' => e = .returned (.tuple #[.iface 70 (.agg #[.slice none 0 0, .string x]), .bool z]) ∧ Below w.heap.size w W' := by
  have HB := Lib.hid (alloc_below w (.cells #[.int .i64 1, .string x, .slice A q c] 25))
  go_enter Tryz.func25, Tryz.ntmps25
  go_wp2_with fail
  go_quiet (fail)
  go_wp2
  go_ret2
  exact ⟨rfl, below_drewN HB.out _⟩

set_option maxRecDepth 100000 in
set_option maxHeartbeats 1000000 in
theorem kind_2 (x : ByteArray) (A : Option Addr) (q c : Nat) (y z : Bool) (hy : (x.toList == []) = y) (hz : ((q : Int) == 1) = z) (w : World) :
    Calls Tryz.prog 25 #[.agg #[.int .i64 2, .string x, .slice A q c]] w fun e W' => e = .returned (.tuple #[.iface 77 (.agg #[.slice A q c]), .bool (y && z)]) ∧ Below w.heap.size w W' := by
  have HB := Lib.hid (alloc_below w (.cells #[.int .i64 2, .string x, .slice A q c] 25))
  cases y
  all_goals (
    go_enter Tryz.func25, Tryz.ntmps25
    go_wp2_with fail
    go_quiet (fail)
    go_wp2
    go_ret2
    exact ⟨rfl, below_drewN HB.out _⟩)

set_option maxRecDepth 100000 in
set_option maxHeartbeats 1000000 in
theorem kind_3 (x : ByteArray) (A : Option Addr) (q c : Nat) (y z : Bool) (hy : (x.toList == []) = y) (hz : ((q : Int) == 3) = z) (w : World) :
    Calls Tryz.prog 25 #[.agg #[.int .i64 3, .string x, .slice A q c]] w fun e W' => e = .returned (.tuple #[.iface 79 (.agg #[.slice A q c]), .bool (y && z)]) ∧ Below w.heap.size w W' := by
  have HB := Lib.hid (alloc_below w (.cells #[.int .i64 3, .string x, .slice A q c] 25))
  cases y
  all_goals (
    go_enter Tryz.func25, Tryz.ntmps25
    go_wp2_with fail
    go_quiet (fail)
    go_wp2
    go_ret2
    exact ⟨rfl, below_drewN HB.out _⟩)

set_option maxRecDepth 100000 in
set_option maxHeartbeats 1000000 in
theorem kind_4 (x : ByteArray) (A : Option Addr) (q c : Nat) (z : Bool) (hz : decide ((0 : Int) < (q : Int)) = z) (w : World) :
    Calls Tryz.prog 25 #[.agg #[.int .i64 4, .string x, .slice A q c]] w fun e W' => e = .returned (.tuple #[.iface 81 (.agg #[.slice A q c, .string x]), .bool z]) ∧ Below w.heap.size w W' := by
  have HB := Lib.hid (alloc_below w (.cells #[.int .i64 4, .string x, .slice A q c] 25))
  go_enter Tryz.func25, Tryz.ntmps25
  go_wp2_with fail
  go_quiet (fail)
  go_wp2
  go_ret2
  exact ⟨by first | rfl | simp_all, below_drewN HB.out _⟩

set_option maxRecDepth 100000 in
set_option maxHeartbeats 1000000 in
theorem kind_0 (k : Int) (x : ByteArray) (A : Option Addr) (q c : Nat) (h1 : (k == 1) = false) (h2 : (k == 2) = false) (h3 : (k == 3) = false) (h4 : (k == 4) = false) (h5 : (k == 5) = false) (w : World) :
    Calls Tryz.prog 25 #[.agg #[.int .i64 k, .string x, .slice A q c]] w fun e W' => e = .returned (.tuple #[.nilIface, .bool false]) ∧ Below w.heap.size w W' := by
  have HB := Lib.hid (alloc_below w (.cells #[.int .i64 k, .string x, .slice A q c] 25))
  go_enter Tryz.func25, Tryz.ntmps25
  go_wp2
  go_ret2
  exact ⟨rfl, HB.out⟩

set_option maxRecDepth 100000 in
set_option maxHeartbeats 1000000 in
theorem kind_5 (S : Nat → Prop) (x : ByteArray) (A : Option Addr) (c : Nat) (l : List Nz) (y z : Bool) (hy : (x.toList == []) = y) (hz : decide ((1 : Int) < (l.length : Int)) = z) (w : World) (h : NzsIn S w A c l) (hl : l.length ≤ 1099511627776) :
    Calls Tryz.prog 25 #[.agg #[.int .i64 5, .string x, .slice A l.length c]] w fun e W' => e = .returned (.tuple #[.iface 82 (.agg #[.slice A l.length c]), .bool (y && (z && !l.any lostZ))]) ∧ Below w.heap.size w W' := by
  have HB := Lib.hid (alloc_below w (.cells #[.int .i64 5, .string x, .slice A l.length c] 25))
  have HC := Lib.hid (fun W (hW : Below w.heap.size w W) => contains_is S A c l W (h.on hW) hl)
  have hx1 := heap_alloc_new w (.cells #[.int .i64 5, .string x, .slice A l.length c] 25)
  have hs1 := World.size_alloc w (.cells #[.int .i64 5, .string x, .slice A l.length c] 25)
  generalize l.any lostZ = b at *
  generalize l.length = q at *
  clear h
  cases y
  case false =>
    clear HC hx1 hs1
    go_enter Tryz.func25, Tryz.ntmps25
    go_wp2_with fail
    go_quiet (fail)
    go_wp2
    go_ret2
    exact ⟨rfl, below_drewN HB.out _⟩
  case true =>
    cases z
    case false =>
      clear HC hx1 hs1
      go_enter Tryz.func25, Tryz.ntmps25
      go_wp2_with fail
      go_quiet (fail)
      go_wp2
      go_ret2
      exact ⟨rfl, below_drewN HB.out _⟩
    case true =>
      obtain ⟨w1, hw1⟩ : ∃ w1, w1 = w.alloc (.cells #[.int .i64 5, .string x, .slice A q c] 25) := ⟨_, rfl⟩
      rw [← hw1] at HB hx1 hs1
      have HW := Lib.hid hw1
      obtain ⟨a0, a1, a2⟩ := cells_three hx1
      have HC1 := Lib.hid (fun W (hW : Below w1.heap.size w1 W) => HC.out W (HB.out.trans (hW.mono (by omega))))
      have HX := Lib.hid (fun W (hW : Below w1.heap.size w1 W) => cells_three ((hW.block w.heap.size (by omega)).trans hx1))
      have HS := Lib.hid hs1
      clear hw1 hx1 HC hs1
      go_enter Tryz.func25, Tryz.ntmps25
      go_upto_region 1 with fail
      rw [← HW.out]
      go_wp2_with fail
      go_region_held3 (fun W => Below w1.heap.size w1 W ∧ W.cell? ⟨w.heap.size, 0, none⟩ = some (.int .i64 5) ∧ W.cell? ⟨w.heap.size, 1, none⟩ = some (.string x) ∧ W.cell? ⟨w.heap.size, 2, none⟩ = some (.slice A q c)) (first | exact ⟨hb2, HX.out _ hb2⟩ | exact ⟨Below.drew (Below.refl _ _), a0, a1, a2⟩ | go_keep) (first | (go_at_call 48; refine (HC1.out _ (by first | exact hx.1 | exact Below.drew (Below.refl _ _))).mono ?_; rintro e W2 ⟨rfl, hb2'⟩; have hb2 : Below w1.heap.size w1 W2 := (Below.drew (Below.refl _ _)).trans hb2'))
      go_wp2
      go_ret2
      exact ⟨rfl, HB.out.trans (hb2.mono (by have := HS.out; omega))⟩

end Go.Proofs.YtmcdefkpkpaceaaGreatDoor.Kkn

/- The program's kinds: frame, below. -/
namespace Go.Proofs.YtmcdefkpkpaceaaGreatDoor.Kfr
open Go.RowKit Go.Proofs.YtmcdefkpkpaceaaGreatDoor.Spl Go.Proofs.YtmcdefkpkpaceaaGreatDoor.Nodm Go.Proofs.YtmcdefkpkpaceaaGreatDoor.Nz Go.Proofs.YtmcdefkpkpaceaaGreatDoor.Qwhole Go.Proofs.YtmcdefkpkpaceaaGreatDoor.Kpl Go.Proofs.YtmcdefkpkpaceaaGreatDoor.Kkd Go.Proofs.YtmcdefkpkpaceaaGreatDoor.Kkn
open Go.Proofs.YtmcdefkpkpaceaaGreatDoor.Pure (bs)

theorem count_is (s : T) (w : World) : Calls Tryz.prog 61 #[.string (bs s), .string ⟨#[36]⟩] w fun e w' => e = .returned (.int .i64 ((s.count 36 : Nat) : Int)) ∧ w' = w :=
  Tryz.strings_Count_one (bs s) 36 w

set_option maxRecDepth 100000 in
set_option maxHeartbeats 1000000 in
theorem frame_1 (s : T) (w : World) (hs : s.length ≤ 68719476736) :
    Calls Tryz.prog 114 #[.agg #[.slice none 0 0, .string (bs s)]] w fun e W' => e = .returned (.int .i64 ((s.length + s.count 36 : Nat) : Int)) ∧ Below w.heap.size w W' := by
  have HB := Lib.hid (alloc_below w (.cells #[.slice none 0 0, .string (bs s)] 70))
  have HC := Lib.hid (count_is s)
  have hc : s.count 36 ≤ s.length := List.count_le_length
  have hsz : (bs s).size = s.length := rfl
  generalize s.count 36 = n at *
  generalize s.length = m at *
  generalize bs s = x at *
  have ha : IntKind.i64.wrap ((m : Int) + (n : Int)) = ((m + n : Nat) : Int) := by rw [Int.natCast_add]; exact IntWalk.i64_in _ (by omega)
  go_enter Tryz.func114, Tryz.ntmps114
  go_wp2_with fail
  go_quiet (first | (go_at_call 61; refine Calls.quiet_of_same (HC.out _)))
  go_wp2
  go_ret
  exact ⟨by first | rfl | simp_all, below_drewN HB.out _⟩

set_option maxRecDepth 100000 in
theorem frame_2 (v : Value) (w : World) :
    Calls Tryz.prog 115 #[.agg #[v]] w fun e W' => e = .returned (.int .i64 3) ∧ Below w.heap.size w W' := by
  have HB := Lib.hid (alloc_below w (.cells #[v] 77))
  go_enter Tryz.func115, Tryz.ntmps115
  go_wp2
  go_ret
  exact ⟨rfl, HB.out⟩
set_option maxRecDepth 100000 in
theorem frame_3 (v : Value) (w : World) :
    Calls Tryz.prog 116 #[.agg #[v]] w fun e W' => e = .returned (.int .i64 5) ∧ Below w.heap.size w W' := by
  have HB := Lib.hid (alloc_below w (.cells #[v] 79))
  go_enter Tryz.func116, Tryz.ntmps116
  go_wp2
  go_ret
  exact ⟨rfl, HB.out⟩
set_option maxRecDepth 100000 in
theorem frame_5 (v : Value) (w : World) :
    Calls Tryz.prog 118 #[.agg #[v]] w fun e W' => e = .returned (.int .i64 0) ∧ Below w.heap.size w W' := by
  have HB := Lib.hid (alloc_below w (.cells #[v] 82))
  go_enter Tryz.func118, Tryz.ntmps118
  go_wp2
  go_ret
  exact ⟨rfl, HB.out⟩
set_option maxRecDepth 100000 in
set_option maxHeartbeats 1000000 in
theorem frame_4 (s : T) (A : Option Addr) (q c : Nat) (w : World) (hs : s.length ≤ 68719476736) (hq : q ≤ 1099511627776) :
    Calls Tryz.prog 117 #[.agg #[.slice A q c, .string (bs s)]] w fun e W' => e = .returned (.int .i64 ((4 + s.length + q : Nat) - 1 : Int)) ∧ Below w.heap.size w W' := by
  have HB := Lib.hid (alloc_below w (.cells #[.slice A q c, .string (bs s)] 81))
  have hsz : (bs s).size = s.length := rfl
  generalize s.length = m at *
  generalize bs s = x at *
  have h1 : IntKind.i64.wrap (4 + (m : Int)) = 4 + (m : Int) := IntWalk.i64_in _ (by omega)
  have h2 : IntKind.i64.wrap (4 + (m : Int) + (q : Int)) = 4 + (m : Int) + (q : Int) := IntWalk.i64_in _ (by omega)
  have h3 : IntKind.i64.wrap (4 + (m : Int) + (q : Int) - 1) = 4 + (m : Int) + (q : Int) - 1 := IntWalk.i64_in _ (by omega)
  go_enter Tryz.func117, Tryz.ntmps117
  go_wp2
  go_ret
  exact ⟨by first | rfl | simp_all, HB.out⟩
set_option maxRecDepth 100000 in
theorem below_is (v : Value) (w : World) :
    Calls Tryz.prog 113 #[v] w fun e W' => e = .returned v ∧ W' = w := by
  go_enter Tryz.func113, Tryz.ntmps113
  go_wp2
  go_ret
  exact ⟨rfl, rfl⟩

end Go.Proofs.YtmcdefkpkpaceaaGreatDoor.Kfr

/- The program's ruler: what is asked of its table and of the world; when there is room for an expansion (contracts' words). -/
namespace Go.Proofs.YtmcdefkpkpaceaaGreatDoor.Kru
open Go Go.RowKit Go.Proofs.YtmcdefkpkpaceaaGreatDoor.Spl Go.Proofs.YtmcdefkpkpaceaaGreatDoor.Nodm Go.Proofs.YtmcdefkpkpaceaaGreatDoor.Nz Go.Proofs.YtmcdefkpkpaceaaGreatDoor.Qwhole Go.Proofs.YtmcdefkpkpaceaaGreatDoor.Kpl Go.Proofs.YtmcdefkpkpaceaaGreatDoor.Kkd Go.Proofs.YtmcdefkpkpaceaaGreatDoor.Kkn Go.Proofs.YtmcdefkpkpaceaaGreatDoor.Kfr Go.Proofs.YtmcdefkpkpaceaaGreatDoor.Kmp
open Go.Proofs.YtmcdefkpkpaceaaGreatDoor.Pure (bs)

/-- what an entry says: of a list of w0 that has its shape all through, how long and how deep it is -/
def Ent (S : Nat → Prop) (w0 : World) (b o q : Nat) (v : Value) : Prop := b < w0.heap.size ∧ ∃ c l, NzsIn S w0 (some ⟨b, o, none⟩) c l ∧ l.length = q ∧ okZs l = true ∧ v = extV (lensZ l) (levsZ l)
/-- a world behind w0 with the table in block mb -/
structure Rs (S : Nat → Prop) (w0 : World) (mb : Nat) (W : World) : Prop where
  bel : Below w0.heap.size w0 W
  ge : w0.heap.size ≤ mb
  tab : Table (Ent S w0) mb W
theorem Rs.lt {S : Nat → Prop} {w0 : World} {mb : Nat} {W : World} (h : Rs S w0 mb W) : mb < W.heap.size := by
  obtain ⟨es, n, hm, _⟩ := h.tab
  exact (Array.getElem?_eq_some_iff.1 hm).1
theorem Rs.move {S : Nat → Prop} {w0 : World} {mb : Nat} {W W' : World} (h : Rs S w0 mb W) (ho : W'.os = W.os) (ht : W'.tape = W.tape) (hp : W'.output = W.output) (hz : W.heap.size ≤ W'.heap.size) (hk : ∀ k, k < w0.heap.size ∨ k = mb → W'.heap[k]? = W.heap[k]?) : Rs S w0 mb W' := by
  refine ⟨⟨ho.trans h.bel.os, ht.trans h.bel.tape, hp.trans h.bel.output, Nat.le_trans h.bel.size hz, fun k hl => (hk k (.inl hl)).trans (h.bel.block k hl)⟩, h.ge, ?_⟩
  obtain ⟨es, n, hm, he⟩ := h.tab
  refine ⟨es, n, (hk mb (.inr rfl)).trans hm, fun e hx => ?_⟩
  obtain ⟨b, o, q, e1, e2, e3, e4⟩ := he e hx
  exact ⟨b, o, q, e1, e2.move (hk b (.inl e4.1)), e3, e4⟩
theorem Rs.on {S : Nat → Prop} {w0 : World} {mb : Nat} {W W' : World} (h : Rs S w0 mb W) (hb : Below W.heap.size W W') : Rs S w0 mb W' :=
  h.move hb.os hb.tape hb.output hb.size fun k hk => hb.block k (by have := h.lt; have := h.bel.size; omega)
/-- a store into a block of one's own -/
theorem Rs.set {S : Nat → Prop} {w0 : World} {mb : Nat} {W : World} (h : Rs S w0 mb W) (g j : Nat) (v : Value) (h0 : w0.heap.size ≤ g) (hm : g ≠ mb) : Rs S w0 mb (W.setCell ⟨g, j, none⟩ v) :=
  h.move rfl rfl rfl (by simp) fun k hk => heap_setCell_other W ⟨g, j, none⟩ k v (by show k ≠ g; rcases hk with hk | rfl <;> omega)

def fit (x : Nz) (R L : Nat) : Bool := okZ x && (decide (levZ x ≤ L) && decide (lenZ x ≤ R))
def fits (l : List Nz) (R L : Nat) : Bool := okZs l && (decide (levsZ l ≤ L) && decide (lensZ l ≤ R))
theorem fit_mk (k : Int) (s : T) (l : List Nz) (R L : Nat) :
    fit (.mk k s l) R L = (shapeZ (.mk k s l) && (!decide (L = 0) && (decide (frameZ (.mk k s l) ≤ R) && fits l (R - frameZ (.mk k s l)) (L - 1)))) := by
  unfold fit fits
  rw [ok_mk, levZ, lenZ]
  generalize frameZ (.mk k s l) = f
  generalize shapeZ (.mk k s l) = a
  generalize okZs l = b
  generalize levsZ l = m
  generalize lensZ l = n
  rw [Bool.eq_iff_iff]
  simp only [Bool.and_eq_true, Bool.not_eq_true', decide_eq_true_eq, decide_eq_false_iff_not]
  constructor
  · rintro ⟨⟨h1, h2⟩, h3, h4⟩
    exact ⟨h1, by omega, by omega, h2, by omega, by omega⟩
  · rintro ⟨h1, h2, h3, h4, h5, h6⟩
    exact ⟨⟨h1, h4⟩, by omega, by omega⟩
/-- the ruler's contract at a list, at a node -/
def ListIs (S : Nat → Prop) (w0 : World) (mb : Nat) (l : List Nz) : Prop := ∀ (A : Option Addr) (c : Nat) (W : World) (R L : Nat), NzsIn S w0 A c l → Rs S w0 mb W → R ≤ 2147483647 → L ≤ 100 →
  Calls Tryz.prog 26 #[.agg #[.map (some mb)], .slice A l.length c, .agg #[.int .i64 (R : Int), .int .i64 (L : Int)]] W fun e W' =>
    (∃ n m : Nat, e = .returned (.tuple #[.agg #[.int .i64 (n : Int), .int .i64 (m : Int)], .bool (fits l R L)]) ∧ (fits l R L = true → n = lensZ l ∧ m = levsZ l)) ∧ Rs S w0 mb W' ∧ Far mb W W'
def NodeIs (S : Nat → Prop) (w0 : World) (mb : Nat) (x : Nz) : Prop := ∀ (v : Value) (W : World) (R L : Nat), NzIn S w0 v x → Rs S w0 mb W → R ≤ 2147483647 → L ≤ 100 →
  Calls Tryz.prog 12 #[.agg #[.map (some mb)], v, .agg #[.int .i64 (R : Int), .int .i64 (L : Int)]] W fun e W' =>
    (∃ n m : Nat, e = .returned (.tuple #[.agg #[.int .i64 (n : Int), .int .i64 (m : Int)], .bool (fit x R L)]) ∧ (fit x R L = true → n = lenZ x ∧ m = levZ x)) ∧ Rs S w0 mb W' ∧ Far mb W W'

theorem one_cell {w : World} {b : Nat} {x : Value} {t : TypeId} (h : w.heap[b]? = some (.cells #[x] t)) : w.cell? ⟨b, 0, none⟩ = some x := by rw [Lib.cell_of_heap h]; rfl
theorem two_cells {w : World} {b : Nat} {x y : Value} {t : TypeId} (h : w.heap[b]? = some (.cells #[x, y] t)) : w.cell? ⟨b, 0, none⟩ = some x ∧ w.cell? ⟨b, 1, none⟩ = some y :=
  ⟨by rw [Lib.cell_of_heap h]; rfl, by rw [Lib.cell_of_heap h]; rfl⟩
theorem kept {w : World} {k : Nat} {x : Obj} (o : Obj) (h : w.heap[k]? = some x) : (w.alloc o).heap[k]? = some x := (Lib.alloc_old w o k (Array.getElem?_eq_some_iff.1 h).1).trans h
theorem newAt {w : World} {k : Nat} (o : Obj) (h : w.heap.size = k) : (w.alloc o).heap[k]? = some o := by rw [← h]; exact heap_alloc_new w o
theorem four (W : World) (o0 o1 o2 o3 : Obj) : ∃ w, w = (((W.alloc o0).alloc o1).alloc o2).alloc o3 ∧ Below W.heap.size W w ∧ w.heap.size = W.heap.size + 4 ∧ w.heap[W.heap.size]? = some o0 ∧ w.heap[W.heap.size + 1]? = some o1 ∧ w.heap[W.heap.size + 1 + 1]? = some o2 ∧ w.heap[W.heap.size + 1 + 1 + 1]? = some o3 := by
  have z1 := World.size_alloc W o0
  have z2 := World.size_alloc (W.alloc o0) o1
  have z3 := World.size_alloc ((W.alloc o0).alloc o1) o2
  have z4 := World.size_alloc (((W.alloc o0).alloc o1).alloc o2) o3
  exact ⟨_, rfl, (((alloc_below W o0).alloc (by omega) o1).alloc (by omega) o2).alloc (by omega) o3, by omega,
    kept _ (kept _ (kept _ (newAt o0 rfl))), kept _ (kept _ (newAt o1 (by omega))), kept _ (newAt o2 (by omega)), newAt o3 (by omega)⟩

/-- two cells put into a block of one's own -/
theorem two_fin {S : Nat → Prop} {w0 W U V : World} {mb G : Nat} {x0 y0 x y : Value} {ty : TypeId} (hg : U.heap[G]? = some (.cells #[x0, y0] ty)) (hV : (U.setCell ⟨G, 0, none⟩ x).setCell ⟨G, 1, none⟩ y = V) (hR : Rs S w0 mb U) (hF : Far mb W U) (hG : W.heap.size ≤ G) (hm : mb < W.heap.size) :
    V.heap[G]? = some (.cells #[x, y] ty) ∧ Rs S w0 mb V ∧ Far mb W V ∧ ∀ b, b ≠ G → V.heap[b]? = U.heap[b]? := by
  have g1 := heap_setCell_same U G 0 _ _ x hg
  have g2 := heap_setCell_same _ G 1 _ _ y g1
  have hge := hR.ge
  have hr := (hR.set G 0 x (by omega) (by omega)).set G 1 y (by omega) (by omega)
  have hfar : ∀ b, b ≠ G → V.heap[b]? = U.heap[b]? := by
    rw [← hV]
    exact fun b hb => (heap_setCell_other _ ⟨G, 1, none⟩ b y (fun e => hb e)).trans (heap_setCell_other _ ⟨G, 0, none⟩ b x (fun e => hb e))
  rw [hV] at hr g2
  refine ⟨g2, hr, ⟨?_, ?_, ?_, ?_, fun k hk hne => (hfar k (by omega)).trans (hF.block k hk hne)⟩, hfar⟩
  · rw [← hV]; exact hF.os
  · rw [← hV]; exact hF.tape
  · rw [← hV]; exact hF.output
  · rw [← hV]; simpa using hF.size
/-- what is kept between a node's steps: the state, and its four blocks -/
structure Kp (S : Nat → Prop) (w0 W w2 : World) (mb g : Nat) (U : World) : Prop where
  rs : Rs S w0 mb U
  far : Far mb W U
  size : w2.heap.size ≤ U.heap.size
  own : ∀ k, g ≤ k → k < g + 4 → U.heap[k]? = w2.heap[k]?
theorem Kp.on {S : Nat → Prop} {w0 W w2 : World} {mb g : Nat} {U V : World} (h : Kp S w0 W w2 mb g U) (hb : Below U.heap.size U V) (hg : g + 4 ≤ w2.heap.size) : Kp S w0 W w2 mb g V :=
  ⟨h.rs.on hb, h.far.trans (Far.of hb), Nat.le_trans h.size hb.size, fun k h1 h2 => (hb.block k (by have := h.size; omega)).trans (h.own k h1 h2)⟩
theorem Kp.go {S : Nat → Prop} {w0 W w2 : World} {mb g : Nat} {U V : World} (h : Kp S w0 W w2 mb g U) (hr : Rs S w0 mb V) (hf : Far mb U V) (hg : g + 4 ≤ w2.heap.size) (hm : mb < g) : Kp S w0 W w2 mb g V :=
  ⟨hr, h.far.trans hf, Nat.le_trans h.size hf.size, fun k h1 h2 => (hf.block k (by have := h.size; omega) (by omega)).trans (h.own k h1 h2)⟩
/-- a store into a new block -/
theorem Kp.set {S : Nat → Prop} {w0 W w2 : World} {mb g G j : Nat} {U : World} (h : Kp S w0 W w2 mb g U) (v : Value) (hG : g + 4 ≤ G) (hW : W.heap.size ≤ g) (hm : mb < g) : Kp S w0 W w2 mb g (U.setCell ⟨G, j, none⟩ v) := by
  have hge := h.rs.ge
  refine ⟨h.rs.set G j v (by omega) (by omega), ⟨h.far.os, h.far.tape, h.far.output, by simpa using h.far.size, fun k hk hne => ?_⟩, by simpa using h.size, fun k h1 h2 => ?_⟩
  · exact (heap_setCell_other U ⟨G, j, none⟩ k v (by show k ≠ G; omega)).trans (h.far.block k hk hne)
  · exact (heap_setCell_other U ⟨G, j, none⟩ k v (by show k ≠ G; omega)).trans (h.own k h1 h2)

end Go.Proofs.YtmcdefkpkpaceaaGreatDoor.Kru
