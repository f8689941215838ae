/- What the program's reader of patterns answers: one byte, a set, a piece. -/
import Derived.Deep.QuietTactic
import Derived.BigQuiet
import Derived.RegionTactic
import Derived.ChangeAlike
import Derived.Deep.DeepCutAuto
import Derived.Test.YtghfmbmdfojapaaGreatDoorGsetJ
namespace Go.Proofs.YtghfmbmdfojapaaGreatDoor.Gread
open Go.RowKit Go.Proofs.YtghfmbmdfojapaaGreatDoor.Gset Go.Proofs.YtghfmbmdfojapaaGreatDoor.Gops Go.Proofs.YtghfmbmdfojapaaGreatDoor.Glb

theorem u8_eq (c d : UInt8) : (((c.toNat : Nat) : Int) == ((d.toNat : Nat) : Int)) = (c == d) := by
  rw [Bool.eq_iff_iff, beq_iff_eq, beq_iff_eq, ← UInt8.toNat_inj]; omega
theorem u8_lit {c : UInt8} {n : Nat} (hn : n < 256) : (((c.toNat : Nat) : Int) == (n : Int)) = (c == UInt8.ofNat n) := by
  rw [← u8_eq, UInt8.toNat_ofNat', Nat.mod_eq_of_lt (by omega)]

set_option maxHeartbeats 400000 in
theorem unq_quoted (u : ByteArray) (w : World) (h : 1 < u.size) (hs : u.size ≤ maxLen) (h0 : ((u[0].toNat : Nat) : Int) = 92) :
    Calls Tryz.prog 59 #[.string u] w fun e W' => e = .returned (.tuple #[.int .u8 (u[1].toNat : Nat), .string (u.extract 2 u.size)]) ∧ w.drew = W' := by
  unfold maxLen at hs
  go_enter Tryz.func59, Tryz.ntmps59
  go_wp2
  go_region
  go_wp2
  go_ret2
  exact ⟨rfl, rfl⟩
set_option maxHeartbeats 400000 in
theorem unq_bare (u : ByteArray) (w : World) (h : 0 < u.size) (hs : u.size ≤ maxLen) (h0 : ((((u[0].toNat : Nat) : Int) == 92) = false)) :
    Calls Tryz.prog 59 #[.string u] w fun e W' => e = .returned (.tuple #[.int .u8 (u[0].toNat : Nat), .string (u.extract 1 u.size)]) ∧ w.drew = W' := by
  unfold maxLen at hs
  go_enter Tryz.func59, Tryz.ntmps59
  go_wp2
  go_region
  go_wp2
  go_ret2
  exact ⟨rfl, rfl⟩
set_option maxHeartbeats 400000 in
theorem unq_last (u : ByteArray) (w : World) (h : 0 < u.size) (h1 : u.size ≤ 1) (h0 : ((u[0].toNat : Nat) : Int) = 92) :
    Calls Tryz.prog 59 #[.string u] w fun e W' => e = .returned (.tuple #[.int .u8 (u[0].toNat : Nat), .string (u.extract 1 u.size)]) ∧ w.drew = W' := by
  go_enter Tryz.func59, Tryz.ntmps59
  go_wp2
  go_region
  go_wp2
  go_ret2
  exact ⟨by rw [h0]; rfl, rfl⟩

/-! ### one byte -/
theorem get_of {u : ByteArray} {i : Nat} {c : UInt8} (h : i < u.size) (e : u.data.toList[i]? = some c) : u[i] = c := by
  have h2 : i < u.data.toList.length := by rw [← Lib.size_eq]; exact h
  rw [List.getElem?_eq_getElem h2] at e
  exact Option.some.inj e
theorem ret_unq {a b : UInt8} {s t : ByteArray} (h1 : a = b) (h2 : s = t) : Ending.returned (.tuple #[.int .u8 (a.toNat : Nat), .string s]) = .returned (.tuple #[.int .u8 (b.toNat : Nat), .string t]) := by rw [h1, h2]
theorem from_eq (u : ByteArray) (k : Nat) : u.extract k u.size = bs (u.data.toList.drop k) := ext_data (by rw [Lib.extract_to_end]; rfl)
/-- the program's unquote -/
theorem unq_is (u : ByteArray) (w : World) (h : 0 < u.size) (hs : u.size ≤ maxLen) :
    Calls Tryz.prog 59 #[.string u] w fun e W' => e = .returned (.tuple #[.int .u8 ((unqC u.data.toList).toNat : Nat), .string (bs (unqR u.data.toList))]) ∧ w.drew = W' := by
  have hsz : u.size = u.data.toList.length := Lib.size_eq u
  match e : u.data.toList with
  | [] => rw [e] at hsz; rw [hsz] at h; exact absurd h (Nat.lt_irrefl _)
  | [c] =>
    rw [e] at hsz
    have g0 : u[0] = c := get_of h (by rw [e]; rfl)
    by_cases h92 : c = 92
    · refine (unq_last u w h (by simp at hsz; omega) (by rw [g0, h92]; rfl)).mono fun e' W' ⟨he, hw⟩ => ⟨he.trans (ret_unq g0 ?_), hw⟩
      rw [from_eq, e]; rfl
    · refine (unq_bare u w h hs (by rw [g0, show (92 : Int) = (((92 : UInt8).toNat : Nat) : Int) from rfl, u8_eq]; simpa using h92)).mono fun e' W' ⟨he, hw⟩ => ⟨he.trans (ret_unq g0 ?_), hw⟩
      rw [from_eq, e]; rfl
  | c :: d :: r =>
    rw [e] at hsz
    have h1 : 1 < u.size := by rw [hsz]; simp
    have g0 : u[0] = c := get_of h (by rw [e]; rfl)
    have g1 : u[1] = d := get_of h1 (by rw [e]; rfl)
    by_cases h92 : c = 92
    · refine (unq_quoted u w h1 hs (by rw [g0, h92]; rfl)).mono fun e' W' ⟨he, hw⟩ => ⟨he.trans (ret_unq ?_ ?_), hw⟩
      · rw [g1, unqC, if_pos h92]
      · rw [from_eq, e, unqR, if_pos h92]; rfl
    · refine (unq_bare u w h hs (by rw [g0, show (92 : Int) = (((92 : UInt8).toNat : Nat) : Int) from rfl, u8_eq]; simpa using h92)).mono fun e' W' ⟨he, hw⟩ => ⟨he.trans (ret_unq ?_ ?_), hw⟩
      · rw [g0, unqC, if_neg h92]
      · rw [from_eq, e, unqR, if_neg h92]; rfl

/-! ### a set -/
/-- what readSet answers -/
def setOut : Option ((Nat → Bool) × List UInt8) → Value
  | some (p, r) => .tuple #[setV p, .string (bs r), .bool true]
  | none => .tuple #[setV none_, .string .empty, .bool false]
def butOut (but : Bool) : Option ((Nat → Bool) × List UInt8) → Value
  | some (p, r) => .tuple #[setV (if but then neg p else p), .string (bs r), .bool true]
  | none => .tuple #[setV none_, .string .empty, .bool false]
theorem setAt_new2 (w : World) : SetAt (w.heap.size + 1) none_ ((w.alloc (.cells #[.int .u64 0, .int .u64 0, .int .u64 0, .int .u64 0] 109)).alloc (.cells #[.int .u64 0, .int .u64 0, .int .u64 0, .int .u64 0] 109)) := heap_alloc2_new _ _ _
theorem setAt_old2 (w : World) : SetAt w.heap.size none_ ((w.alloc (.cells #[.int .u64 0, .int .u64 0, .int .u64 0, .int .u64 0] 109)).alloc (.cells #[.int .u64 0, .int .u64 0, .int .u64 0, .int .u64 0] 109)) := heap_alloc2_old _ _ _

theorem empty_of (u : ByteArray) (h : u.size = 0) : u.toList.isEmpty = true := by
  rw [Lib.toList_data]
  have : u.data.toList = [] := List.eq_nil_of_length_eq_zero (by rw [← Lib.size_eq]; exact h)
  rw [this]; rfl
theorem full_of (u : ByteArray) (h : 0 < u.size) : u.toList.isEmpty = false := by
  rw [Lib.toList_data]
  cases e : u.data.toList with
  | nil => rw [Lib.size_eq, e] at h; exact absurd h (Nat.lt_irrefl _)
  | cons c r => rfl
theorem head_of (u : ByteArray) (h : 0 < u.size) : u.data.toList = u[0] :: u.data.toList.drop 1 := by
  cases e : u.data.toList with
  | nil => rw [Lib.size_eq, e] at h; exact absurd h (Nat.lt_irrefl _)
  | cons c r =>
    have : u[0] = c := get_of h (by rw [e]; rfl)
    rw [this]; rfl
theorem lit33 (c : UInt8) : (((c.toNat : Nat) : Int) == 33) = (c == 33) := u8_eq c 33
theorem lit94 (c : UInt8) : (((c.toNat : Nat) : Int) == 94) = (c == 94) := u8_eq c 94
theorem lit93 (c : UInt8) : (((c.toNat : Nat) : Int) == 93) = (c == 93) := u8_eq c 93
theorem lit93n (c : UInt8) : (((c.toNat : Nat) : Int) != 93) = (c != 93) := by rw [bne, bne, lit93]
theorem lit45 (c : UInt8) : (((c.toNat : Nat) : Int) == 45) = (c == 45) := u8_eq c 45
theorem lit42 (c : UInt8) : (((c.toNat : Nat) : Int) == 42) = (c == 42) := u8_eq c 42
theorem lit63 (c : UInt8) : (((c.toNat : Nat) : Int) == 63) = (c == 63) := u8_eq c 63
theorem lit91 (c : UInt8) : (((c.toNat : Nat) : Int) == 91) = (c == 91) := u8_eq c 91
theorem but_head (u : ByteArray) (h : 0 < u.size) : isBut u.data.toList = (u[0] == 33 || u[0] == 94) := by rw [head_of u h]; rfl
theorem but_none (u : ByteArray) (h : u.size = 0) : isBut u.data.toList = false := by
  have : u.data.toList = [] := List.eq_nil_of_length_eq_zero (by rw [← Lib.size_eq]; exact h)
  rw [this]; rfl
theorem rng_short (r : ByteArray) (h : r.size ≤ 1) : rng r.data.toList = false := by
  have hsz : r.size = r.data.toList.length := Lib.size_eq r
  match e : r.data.toList with
  | [] => rfl
  | [c] => rfl
  | c :: d :: l => rw [e] at hsz; simp at hsz; omega
theorem rng_eq (r : ByteArray) (h : 1 < r.size) : rng r.data.toList = (r[0] == 45 && r[1] != 93) := by
  have hsz : r.size = r.data.toList.length := Lib.size_eq r
  match e : r.data.toList with
  | [] => rw [e] at hsz; rw [hsz] at h; exact absurd h (by decide)
  | [c] => rw [e] at hsz; rw [hsz] at h; exact absurd h (Nat.lt_irrefl _)
  | c :: d :: l =>
    have g0 : r[0] = c := get_of (by omega) (by rw [e]; rfl)
    have g1 : r[1] = d := get_of h (by rw [e]; rfl)
    rw [g0, g1]; rfl
def strLen : Value → Nat
  | .string s => s.size
  | _ => 0
theorem inset_nil (n : Nat) (f : Bool) (q : Nat → Bool) (u : ByteArray) (h : u.size = 0) : inset n f q u.data.toList = none := by
  have : u.data.toList = [] := List.eq_nil_of_length_eq_zero (by rw [← Lib.size_eq]; exact h)
  rw [this]
  cases n <;> rfl
theorem inset_close (n : Nat) (q : Nat → Bool) (u : ByteArray) (h : 0 < u.size) (hn : u.size ≤ n) (hc : u[0] = 93) : inset n false q u.data.toList = some (q, (u.extract 1 u.size).data.toList) := by
  obtain ⟨m, rfl⟩ : ∃ m, n = m + 1 := ⟨n - 1, by omega⟩
  rw [head_of u h, inset, if_pos ⟨hc, rfl⟩, Lib.extract_to_end]
theorem inset_step (n : Nat) (f : Bool) (q : Nat → Bool) (u : ByteArray) (h : 0 < u.size) (hn : u.size ≤ n) (hc : ¬ (u[0] = 93 ∧ f = false)) :
    inset n f q u.data.toList = inset (n - 1) false (plus q (unqC u.data.toList).toNat (elHi (unqC u.data.toList) (unqR u.data.toList)).toNat) (elR (unqR u.data.toList)) := by
  obtain ⟨m, rfl⟩ : ∃ m, n = m + 1 := ⟨n - 1, by omega⟩
  rw [head_of u h, inset, if_neg hc]
  rfl
def behind (but : Bool) (v : ByteArray) : ByteArray := if but then v.extract 1 v.size else v

set_option maxRecDepth 100000 in
set_option maxHeartbeats 2000000 in
/-- the program's readSet -/
theorem readSet_walk (v : ByteArray) (w : World) (hs : v.size ≤ 1000000) :
    Calls Tryz.prog 104 #[.string v] w fun e W' => e = .returned (butOut (isBut v.data.toList) (inset v.size true none_ (behind (isBut v.data.toList) v).data.toList)) ∧ Below w.heap.size w W' := by
  go_enter Tryz.func104, Tryz.ntmps104
  go_upto_region 1 with fail
  go_cut [5] (fun x wx => x = .bool (isBut v.data.toList) ∧ w.alloc (.cells #[.int .u64 0, .int .u64 0, .int .u64 0, .int .u64 0] 109) = wx)
  case first =>
    by_cases hz : v.size = 0
    · have e1 := empty_of v hz
      have e2 := but_none v hz
      go_wp2_with fail
      go_meet
      exact ⟨by rw [e2], rfl⟩
    · have hz : 0 < v.size := by omega
      have e1 := full_of v hz
      have HB := Lib.hid (but_head v hz)
      have H1 := Lib.hid (lit33 v[0])
      have H2 := Lib.hid (lit94 v[0])
      by_cases h33 : ((v[0].toNat : Nat) : Int) = 33
      · go_wp2_with fail
        go_meet
        exact ⟨by rw [HB.out, ← H1.out, h33]; rfl, rfl⟩
      · have h33' : (((v[0].toNat : Nat) : Int) == 33) = false := by simpa using h33
        clear h33
        go_wp2_with fail
        go_meet
        exact ⟨by rw [HB.out, ← H1.out, h33', ← H2.out]; rfl, rfl⟩
  case rest =>
    obtain ⟨rfl, rfl⟩ := hcut
    have hbut : isBut v.data.toList = true → 0 < v.size := by
      intro h
      rcases Nat.eq_zero_or_pos v.size with hz | hz
      · rw [but_none v hz] at h; cases h
      · exact hz
    obtain ⟨but, HE⟩ : ∃ b, Hid (isBut v.data.toList = b) := ⟨_, rfl⟩
    rw [HE.out] at hbut
    rw [HE.out]
    go_upto_if 23 with fail
    go_cut [0] (fun x wx => x = .string (behind but v) ∧ w.alloc (.cells #[.int .u64 0, .int .u64 0, .int .u64 0, .int .u64 0] 109) = wx)
    case first =>
      cases but with
      | false =>
        go_wp2_with fail
        go_meet
        exact ⟨rfl, rfl⟩
      | true =>
        have hz := hbut rfl
        go_wp2_with fail
        go_meet
        exact ⟨rfl, rfl⟩
    case rest =>
      obtain ⟨rfl, rfl⟩ := hcut
      have hu0 : (behind but v).size ≤ v.size := by
        unfold behind
        split
        · rw [ByteArray.size_extract]; omega
        · exact Nat.le_refl _
      obtain ⟨uz, HU⟩ : ∃ b, Hid (behind but v = b) := ⟨_, rfl⟩
      rw [HU.out] at hu0 ⊢
      clear hbut
      go_wp2_with fail
      go_loopw [0, 7] (fun a b wr => ∃ (u : ByteArray) (first : Bool) (q : Nat → Bool) (n : Nat), a = .string u ∧ b = .bool first ∧ u.size ≤ n ∧ u.size ≤ 1000000 ∧ Hid (SetAt (w.heap.size + 1) q wr ∧ SetAt w.heap.size none_ wr ∧ Below w.heap.size w wr ∧ inset n first q u.data.toList = inset v.size true none_ uz.data.toList)) (fun a _ _ => strLen a)
      case atStart =>
        exact ⟨uz, true, none_, v.size, rfl, rfl, hu0, by omega, ⟨setAt_new2 w, setAt_old2 w, ((Below.refl _ _).alloc (Nat.le_refl _) _).alloc (by simp) _, rfl⟩⟩
      case round =>
        obtain ⟨u, first, q, n, rfl, rfl, hn, hm, H⟩ := hrel
        by_cases hz : u.size = 0
        · have e1 := empty_of u hz
          have HN := Lib.hid (inset_nil n first q u hz)
          have d0 := SetAt.at_ H.out.2.1 0 (by decide)
          have d1 := SetAt.at_ H.out.2.1 1 (by decide)
          have d2 := SetAt.at_ H.out.2.1 2 (by decide)
          have d3 := SetAt.at_ H.out.2.1 3 (by decide)
          have f0 := SetAt.open_ H.out.2.1 0
          have f1 := SetAt.open_ H.out.2.1 1
          have f2 := SetAt.open_ H.out.2.1 2
          have f3 := SetAt.open_ H.out.2.1 3
          go_wp2_with fail
          obtain ⟨a1, a2, a3, a4⟩ := H.out
          exact bodyPost_ret (v := .tuple #[setV none_, .string .empty, .bool false]) (by simp [results, Tryz.results104, go_sem, setV, *]; exact ⟨⟨rfl, rfl, rfl, rfl⟩, rfl⟩) rfl ⟨by rw [HE.out, HU.out, ← a4, HN.out]; rfl, below_put4 a3 (Nat.le_refl _) none_⟩
        · have hz : 0 < u.size := by omega
          have e1 := full_of u hz
          go_upto_region 8 with fail
          go_cut [34] (fun b wx => b = .bool (u[0] == 93 && !first) ∧ wr = wx)
          case first =>
            have H1 := Lib.hid (lit93 u[0])
            by_cases h93 : ((u[0].toNat : Nat) : Int) = 93
            · go_wp2_with fail
              go_meet
              exact ⟨by rw [← H1.out, h93]; rfl, rfl⟩
            · have h93' : (((u[0].toNat : Nat) : Int) == 93) = false := by simpa using h93
              clear h93
              go_wp2_with fail
              go_meet
              exact ⟨by rw [← H1.out, h93']; rfl, rfl⟩
          case rest =>
            obtain ⟨rfl, rfl⟩ := hcut
            by_cases hcl : (u[0] == 93 && !first) = true
            · rw [hcl]
              have hq : u[0] = 93 ∧ first = false := by simpa using hcl
              obtain ⟨hq1, rfl⟩ := hq
              have HN := Lib.hid (inset_close n q u hz hn hq1)
              clear hq1 hcl
              have c0 := SetAt.at_ H.out.1 0 (by decide)
              have c1 := SetAt.at_ H.out.1 1 (by decide)
              have c2 := SetAt.at_ H.out.1 2 (by decide)
              have c3 := SetAt.at_ H.out.1 3 (by decide)
              have d0 := SetAt.at_ H.out.2.1 0 (by decide)
              have d1 := SetAt.at_ H.out.2.1 1 (by decide)
              have d2 := SetAt.at_ H.out.2.1 2 (by decide)
              have d3 := SetAt.at_ H.out.2.1 3 (by decide)
              have f0 := SetAt.open_ H.out.2.1 0
              have f1 := SetAt.open_ H.out.2.1 1
              have f2 := SetAt.open_ H.out.2.1 2
              have f3 := SetAt.open_ H.out.2.1 3
              cases but with
              | false =>
                go_wp2_with fail
                go_region
                go_wp2_with fail
                obtain ⟨a1, a2, a3, a4⟩ := H.out
                exact bodyPost_ret (v := .tuple #[setV q, .string (u.extract 1 u.size), .bool true]) (by simp [results, Tryz.results104, go_sem, setV, *]) rfl ⟨by rw [HE.out, HU.out, ← a4, HN.out, butOut, bs_self]; rfl, below_drewN (below_put4 a3 (Nat.le_refl _) q) 1⟩
              | true =>
                go_wp2_with fail
                refine (others_is q _).mono ?_
                rintro e w1 ⟨rfl, hb1⟩
                obtain ⟨a1, a2, a3, a4⟩ := H.out
                have b1 := SetAt.on a1 hb1
                have b2 := SetAt.on a2 hb1
                have B1 := Lib.hid (a3.trans (hb1.mono a3.size))
                clear c0 c1 c2 c3 d0 d1 d2 d3 f0 f1 f2 f3 hb1 a1 a2 a3
                have c0 := SetAt.at_ b1 0 (by decide)
                have c1 := SetAt.at_ b1 1 (by decide)
                have c2 := SetAt.at_ b1 2 (by decide)
                have c3 := SetAt.at_ b1 3 (by decide)
                have g0 := SetAt.open_ b1 0
                have g1 := SetAt.open_ b1 1
                have g2 := SetAt.open_ b1 2
                have g3 := SetAt.open_ b1 3
                have d0 := SetAt.at_ b2 0 (by decide)
                have d1 := SetAt.at_ b2 1 (by decide)
                have d2 := SetAt.at_ b2 2 (by decide)
                have d3 := SetAt.at_ b2 3 (by decide)
                have f0 := SetAt.open_ b2 0
                have f1 := SetAt.open_ b2 1
                have f2 := SetAt.open_ b2 2
                have f3 := SetAt.open_ b2 3
                clear b1 b2
                have A4 := Lib.hid a4
                clear a4
                unfold setV
                go_wp2_with fail
                go_region
                go_wp2_with fail
                exact bodyPost_ret (v := .tuple #[setV (neg q), .string (u.extract 1 u.size), .bool true]) (by simp [results, Tryz.results104, go_sem, setV, *]; exact ⟨rfl, rfl, rfl, rfl⟩) rfl ⟨by rw [HE.out, HU.out, ← A4.out, HN.out, butOut, bs_self]; rfl, below_drewN (below_put4 (below_put4 B1.out (by omega) (neg q)) (Nat.le_refl _) (neg q)) 1⟩
            · have hcl' : (u[0] == 93 && !first) = false := by simpa using hcl
              rw [hcl']
              have HN := Lib.hid (inset_step n first q u hz hn (by simpa using hcl))
              clear hcl hcl'
              go_wp2_with fail
              refine (unq_is u _ hz (by unfold maxLen; omega)).mono ?_
              rintro e w1 ⟨rfl, rfl⟩
              have hr0 : (bs (unqR u.data.toList)).size < u.size := by
                rw [size_bs, Lib.size_eq]
                exact unqR_lt (by intro e; rw [Lib.size_eq, e] at hz; exact absurd hz (Nat.lt_irrefl _))
              obtain ⟨r, HR⟩ : ∃ r, Hid (bs (unqR u.data.toList) = r) := ⟨_, rfl⟩
              rw [HR.out] at hr0 ⊢
              obtain ⟨lo, HL⟩ : ∃ l : UInt8, Hid (unqC u.data.toList = l) := ⟨_, rfl⟩
              rw [HL.out]
              have hlo : lo.toNat < 256 := lo.toNat_lt
              go_upto_region 14 with fail
              go_cut [59] (fun b wx => b = .bool (rng r.data.toList) ∧ wr.drew = wx)
              case first =>
                by_cases h1 : 1 < r.size
                · have HG := Lib.hid (rng_eq r h1)
                  have H1 := Lib.hid (lit45 r[0])
                  have H2 := Lib.hid (lit93n r[1])
                  by_cases h45 : ((r[0].toNat : Nat) : Int) = 45
                  · go_wp2_with fail
                    go_meet
                    exact ⟨by rw [H2.out, HG.out, ← H1.out, h45]; rfl, rfl⟩
                  · have h45' : (((r[0].toNat : Nat) : Int) == 45) = false := by simpa using h45
                    clear h45
                    go_wp2_with fail
                    go_meet
                    exact ⟨by rw [HG.out, ← H1.out, h45']; rfl, rfl⟩
                · have HG := Lib.hid (rng_short r (by omega))
                  go_wp2_with fail
                  go_meet
                  exact ⟨by rw [HG.out], rfl⟩
              case rest =>
                obtain ⟨rfl, rfl⟩ := hcut
                have c0 := SetAt.at_ H.out.1 0 (by decide)
                have c1 := SetAt.at_ H.out.1 1 (by decide)
                have c2 := SetAt.at_ H.out.1 2 (by decide)
                have c3 := SetAt.at_ H.out.1 3 (by decide)
                cases hg : rng r.data.toList with
                | false =>
                  have HM : Hid (inset n first q u.data.toList = inset (n - 1) false (plus q lo.toNat lo.toNat) r.data.toList) := by
                    have h := HN.out
                    have hr := congrArg (fun x => x.data.toList) HR.out
                    simp only [bs_data] at hr
                    rw [HL.out, hr] at h
                    unfold elHi elR at h
                    rw [hg] at h
                    exact h
                  clear hg
                  go_wp2_with fail
                  refine (with_is q lo.toNat lo.toNat hlo hlo _).mono ?_
                  rintro e w1 ⟨rfl, hb1⟩
                  obtain ⟨a1, a2, a3, a4⟩ := H.out
                  have b1 : SetAt (w.heap.size + 1) q w1 := SetAt.on (w := wr.drew) a1 hb1
                  have b2 : SetAt w.heap.size none_ w1 := SetAt.on (w := wr.drew) a2 hb1
                  have B1 := Lib.hid ((below_drewN a3 1).trans (hb1.mono a3.size))
                  clear c0 c1 c2 c3 hb1 a1 a2 a3
                  have c0 := SetAt.at_ b1 0 (by decide)
                  have c1 := SetAt.at_ b1 1 (by decide)
                  have c2 := SetAt.at_ b1 2 (by decide)
                  have c3 := SetAt.at_ b1 3 (by decide)
                  have g0 := SetAt.open_ b1 0
                  have g1 := SetAt.open_ b1 1
                  have g2 := SetAt.open_ b1 2
                  have g3 := SetAt.open_ b1 3
                  have K1 := Lib.hid b1
                  have K2 := Lib.hid b2
                  have A4 := Lib.hid a4
                  clear b1 b2 a4
                  unfold setV
                  go_wp2_with fail
                  go_roundw
                  case rel =>
                    exact ⟨r, false, _, n - 1, rfl, rfl, by omega, by omega, ⟨SetAt.put4 K1.out _, SetAt.put4_other K2.out _ (by omega), below_put4 B1.out (by omega) _, HM.out.symm.trans A4.out⟩⟩
                  case measure => simp [strLen]; omega
                | true =>
                  have h1 : 1 < r.size := by
                    rcases Nat.lt_or_ge 1 r.size with h | h
                    · exact h
                    · rw [rng_short r h] at hg; cases hg
                  have hx : 0 < (r.extract 1 r.size).size ∧ (r.extract 1 r.size).size < r.size := by rw [ByteArray.size_extract]; omega
                  obtain ⟨hx1, hx2⟩ := hx
                  go_wp2_with fail
                  refine (unq_is (r.extract 1 r.size) _ hx1 (by unfold maxLen; omega)).mono ?_
                  rintro e w1 ⟨rfl, rfl⟩
                  have hy : (bs (unqR (r.extract 1 r.size).data.toList)).size < r.size := by
                    rw [size_bs]
                    have := unqR_le (r.extract 1 r.size).data.toList
                    rw [← Lib.size_eq] at this
                    omega
                  have HM : Hid (inset n first q u.data.toList = inset (n - 1) false (plus q lo.toNat (unqC (r.extract 1 r.size).data.toList).toNat) (unqR (r.extract 1 r.size).data.toList)) := by
                    have h := HN.out
                    have hr := congrArg (fun x => x.data.toList) HR.out
                    simp only [bs_data] at hr
                    rw [HL.out, hr] at h
                    unfold elHi elR at h
                    rw [hg, ← Lib.extract_to_end] at h
                    exact h
                  clear hg
                  obtain ⟨r2, HR2⟩ : ∃ x, Hid (bs (unqR (r.extract 1 r.size).data.toList) = x) := ⟨_, rfl⟩
                  rw [HR2.out] at hy ⊢
                  obtain ⟨hi, HL2⟩ : ∃ l : UInt8, Hid (unqC (r.extract 1 r.size).data.toList = l) := ⟨_, rfl⟩
                  rw [HL2.out]
                  have hhi : hi.toNat < 256 := hi.toNat_lt
                  go_wp2_with fail
                  refine (with_is q lo.toNat hi.toNat hlo hhi _).mono ?_
                  rintro e w1 ⟨rfl, hb1⟩
                  obtain ⟨a1, a2, a3, a4⟩ := H.out
                  have b1 : SetAt (w.heap.size + 1) q w1 := SetAt.on (w := wr.drew.drew) a1 hb1
                  have b2 : SetAt w.heap.size none_ w1 := SetAt.on (w := wr.drew.drew) a2 hb1
                  have B1 := Lib.hid ((below_drewN a3 2).trans (hb1.mono a3.size))
                  clear c0 c1 c2 c3 hb1 a1 a2 a3
                  have c0 := SetAt.at_ b1 0 (by decide)
                  have c1 := SetAt.at_ b1 1 (by decide)
                  have c2 := SetAt.at_ b1 2 (by decide)
                  have c3 := SetAt.at_ b1 3 (by decide)
                  have g0 := SetAt.open_ b1 0
                  have g1 := SetAt.open_ b1 1
                  have g2 := SetAt.open_ b1 2
                  have g3 := SetAt.open_ b1 3
                  have K1 := Lib.hid b1
                  have K2 := Lib.hid b2
                  have A4 := Lib.hid a4
                  clear b1 b2 a4
                  unfold setV
                  go_wp2_with fail
                  go_roundw
                  case rel =>
                    refine ⟨r2, false, _, n - 1, rfl, rfl, by omega, by omega, ⟨SetAt.put4 K1.out _, SetAt.put4_other K2.out _ (by omega), below_put4 B1.out (by omega) _, ?_⟩⟩
                    have e2 := congrArg (fun x => x.data.toList) HR2.out
                    simp only [bs_data] at e2
                    rw [← e2, ← HL2.out]
                    exact HM.out.symm.trans A4.out
                  case measure => simp [strLen]; omega
end Go.Proofs.YtghfmbmdfojapaaGreatDoor.Gread
