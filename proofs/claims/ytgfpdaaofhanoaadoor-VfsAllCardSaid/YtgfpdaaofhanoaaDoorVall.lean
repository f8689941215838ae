/- The program's All. -/
import Derived.Maps.RangeWalk
import Derived.Maps.AppendAt
import Derived.Test.YtgfpdaaofhanoaaDoorVsort
import Derived.Test.YtgfpdaaofhanoaaDoorVperm
namespace Go.Proofs.YtgfpdaaofhanoaaDoor.Vall
open Go.RowKit Go.Maps Go.Proofs.YtgfpdaaofhanoaaDoor.Pth Go.Proofs.YtgfpdaaofhanoaaDoor.Strs Go.Proofs.YtgfpdaaofhanoaaDoor.Srt Go.Proofs.YtgfpdaaofhanoaaDoor.Vfs Go.Proofs.YtgfpdaaofhanoaaDoor.Vmap Go.Proofs.YtgfpdaaofhanoaaDoor.Vnames Go.Proofs.YtgfpdaaofhanoaaDoor.Vnew Go.Proofs.YtgfpdaaofhanoaaDoor.Vlook Go.Proofs.YtgfpdaaofhanoaaDoor.Vsort Go.Proofs.YtgfpdaaofhanoaaDoor.Vperm

def rawOf (e : Ent) : Raw := ⟨pathB e.pt, e.dir, e.text⟩

theorem perm_map_inv {α β : Type} (f : α → β) {m n : List β} (h : m.Perm n) : ∀ l : List α, n = l.map f → ∃ k : List α, k.Perm l ∧ m = k.map f := by
  induction h with
  | nil =>
    intro l hl
    exact ⟨l, List.Perm.refl _, hl⟩
  | cons x h ih =>
    intro l hl
    cases l with
    | nil => cases hl
    | cons a l =>
      rw [List.map_cons, List.cons.injEq] at hl
      obtain ⟨k, hk, e⟩ := ih l hl.2
      exact ⟨a :: k, hk.cons a, by rw [List.map_cons, e, hl.1]⟩
  | swap x y t =>
    intro l hl
    cases l with
    | nil => cases hl
    | cons a l =>
      cases l with
      | nil => cases hl
      | cons b l =>
        rw [List.map_cons, List.map_cons, List.cons.injEq, List.cons.injEq] at hl
        exact ⟨b :: a :: l, List.Perm.swap a b l, by rw [List.map_cons, List.map_cons, hl.1, hl.2.1, hl.2.2]⟩
  | trans h1 h2 ih1 ih2 =>
    intro l hl
    obtain ⟨k2, hk2, e2⟩ := ih2 l hl
    obtain ⟨k1, hk1, e1⟩ := ih1 k2 e2
    exact ⟨k1, hk1.trans hk2, e1⟩

theorem flat_inj {a b : Wy} (ha : ∀ p ∈ a, 47 ∉ p) (hb : ∀ p ∈ b, 47 ∉ p) (h : flatL a = flatL b) : a = b := by
  by_cases h0 : a = []
  · subst h0
    exact (flatL_nil b h.symm).symm
  · have h1 : b ≠ [] := fun e => by
      rw [e] at h
      exact h0 (flatL_nil a h)
    have := split_flat0 a ha h0
    rw [h, split_flat0 b hb h1] at this
    exact (List.cons.inj this).2.symm
/-- the paths of what is there, each once -/
theorem paths_nodup {L : List Ent} (hi : Inv L) : (L.map fun e => flatL e.pt).Nodup := by
  have h1 : (L.map fun e => flatL e.pt) = (L.map Ent.pt).map flatL := by rw [List.map_map]; rfl
  rw [h1]
  refine List.pairwise_map.2 (hi.nodup.imp_of_mem fun {a b} ha hb hne e => hne ?_)
  obtain ⟨x, hx, rfl⟩ := List.mem_map.1 ha
  obtain ⟨y, hy, rfl⟩ := List.mem_map.1 hb
  exact flat_inj (fun p hp => (hi.good x hx p hp).2.2.2) (fun p hp => (hi.good y hy p hp).2.2.2) e
theorem up_of_raws {L M : List Ent} (hi : Inv L) (hp : M.Perm L) (h : (M.map rawOf).Pairwise (fun x y => ¬ y.path.data.toList < x.path.data.toList)) : Up (M.map fun e => flatL e.pt) := by
  refine up_of_sorted ?_ (((hp.map _).nodup_iff).2 (paths_nodup hi))
  rw [List.pairwise_map] at h ⊢
  exact h.imp fun {a b} hab => List.not_lt.1 hab

theorem news3 (w : World) (x : Raw) (t : TypeId) : ∀ (j : Nat) u, (encR x)[j]? = some u → (w.alloc (.cells #[.string x.path, .bool x.dir, .string x.text] t)).cell? ((⟨w.heap.size, 0, none⟩ : Addr).add j) = some u := fun j u hu => by
  rw [addr_add, Nat.zero_add, Lib.cell_of_heap (heap_alloc_new w _)]
  rw [← List.getElem?_toArray] at hu
  exact hu

theorem invK (key : Value) (kl : Lit) (h : keyOf Tryd.prog 3 key = some kl) : ∃ x, key = Value.int .i64 x := by
  obtain ⟨x, rfl, _⟩ := Maps.keyOf_int_inv Tryd.underlying3 h
  exact ⟨x, rfl⟩
theorem invV (v : Value) (y : DataW U × List MemPlace) (h : mapElem v = some y) : ∃ c, v = Value.map c := by
  unfold mapElem at h
  split at h
  · exact ⟨_, rfl⟩
  · exact ⟨_, rfl⟩
  · cases h
theorem invKS (key : Value) (kl : Lit) (h : keyOf Tryd.prog 9 key = some kl) : ∃ x, key = Value.string x := by
  obtain ⟨x, rfl, _⟩ := Maps.keyOf_str Tryd.underlying9 h
  exact ⟨_, rfl⟩
structure N4 where
  p : ByteArray
  d : Bool
  t : ByteArray
  n : Int
def N4.v (q : N4) : Value := .agg #[.string q.p, .bool q.d, .string q.t, .int .i64 q.n]
theorem invN (v : Value) (y : DataW U × List MemPlace) (h : nodeElem v = some y) : ∃ c : N4, v = c.v := by
  obtain ⟨p, d, t, n, rfl, _⟩ := nodeElem_inv h
  exact ⟨⟨p, d, t, n⟩, rfl⟩

/-- a number that comes out of the outer map leads to a directory -/
theorem outer_entry {w : World} {fa : Addr} {B : Nat} {bl : List Nat} {L : List Ent} (h : FsIs w fa B bl (dl L) L) {D : DataW U} (hh : ∀ i : Int, Maps.has D (.int .i64 i) = decide (1 ≤ i ∧ i ≤ bl.length)) (hat0 : ∀ (j : Nat) (b : Nat), bl[j]? = some b → D.atKey (.int .i64 ((j : Int) + 1)) .nil = .lit (.int .i64 (b : Int)))
    {x : Int} {c : Option Nat} {kl : Lit} {y : DataW U × List MemPlace} (hk : keyOf Tryd.prog 3 (.int .i64 x) = some kl) (hv : mapElem (.map c) = some y) (hat : ∀ zd, D.atKey kl zd = y.1) :
    ∃ (j b : Nat) (p : Wy), kl = .int .i64 x ∧ x = (j : Int) + 1 ∧ bl[j]? = some b ∧ (dl L)[j]? = some p ∧ c = some b := by
  obtain ⟨x', ex, rfl, _⟩ := Maps.keyOf_int_inv Tryd.underlying3 hk
  cases ex
  have h1 := has_true_of_atKey hat
  rw [hh, decide_eq_true_iff] at h1
  obtain ⟨j, hj⟩ : ∃ j : Nat, x = (j : Int) + 1 := ⟨(x - 1).toNat, by omega⟩
  have hjl : j < bl.length := by omega
  have hjd : j < (dl L).length := by rw [← h.len]; exact hjl
  refine ⟨j, bl[j], (dl L)[j], rfl, hj, List.getElem?_eq_getElem hjl, List.getElem?_eq_getElem hjd, ?_⟩
  have h2 := hat0 j _ (List.getElem?_eq_getElem hjl)
  rw [← hj, hat] at h2
  have h3 : mapElem (.map c) = some (.lit (.int .i64 ((bl[j] : Nat) : Int)), y.2) := by rw [hv, ← h2]
  have := mapElem_inv h3
  cases this
  rfl
theorem inner_entry {L : List Ent} {p : Wy} {D : DataW U} (hh : ∀ x : List UInt8, Maps.has D (.string x) = (at_ L (p ++ [x])).isSome) (hat0 : ∀ x e, at_ L (p ++ [x]) = some e → D.atKey (.string x) zeroD = nodeD (dl L) e)
    {x : ByteArray} {c : N4} {kl : Lit} {y : DataW U × List MemPlace} (hk : keyOf Tryd.prog 9 (.string x) = some kl) (hv : nodeElem c.v = some y) (hat : ∀ zd, D.atKey kl zd = y.1) :
    ∃ e, kl = .string x.data.toList ∧ at_ L (p ++ [x.data.toList]) = some e ∧ c.p = pathB e.pt ∧ c.d = e.dir ∧ c.t = e.text := by
  obtain ⟨x', ex, rfl, _⟩ := Maps.keyOf_str Tryd.underlying9 hk
  have hx : x' = x.data.toList := by
    have : x = bs x' := by simpa [encStr, bs] using ex
    rw [this]; rfl
  subst hx
  have h1 := has_true_of_atKey hat
  rw [hh] at h1
  obtain ⟨e, he⟩ := Option.isSome_iff_exists.1 h1
  have h2 := hat0 _ e he
  rw [hat] at h2
  have hv2 : some (litN c.p c.d c.t c.n, ([] : List MemPlace)) = some y := hv
  have h3 : litN c.p c.d c.t c.n = nodeD (dl L) e := by rw [← h2, ← Option.some.inj hv2]
  obtain ⟨a1, a2, a3, _⟩ := litN_inj h3
  exact ⟨e, rfl, he, a1, a2, a3⟩

theorem rows_below {w W : World} {B e k : Nat} {v : Value} {n : Nat} {xs : List Value} (h : w.ownsRow B e k v n xs) (hg : ∀ g, v.ownBlock = some g → W.heap[g]? = w.heap[g]?) : W.ownsRow B e k v n xs := by
  refine ⟨h.1, ?_⟩
  rcases h.2 with h0 | ⟨g, cap, cur, hv, hB, hb, hr⟩
  · exact .inl h0
  · exact .inr ⟨g, cap, cur, hv, hB, (hg g (by rw [hv]; rfl)).trans hb, hr⟩

theorem news3' (w : World) (o : Obj) (x : Raw) (t : TypeId) : ∀ (j : Nat) u, (encR x)[j]? = some u → ((w.alloc o).alloc (.cells #[.string x.path, .bool x.dir, .string x.text] t)).cell? ((⟨w.heap.size + 1, 0, none⟩ : Addr).add j) = some u := by
  have := news3 (w.alloc o) x t
  rw [World.size_alloc] at this
  exact this
theorem encR_one (x : Raw) : ∀ u ∈ encR x, u.oneCell' = true := fun u hu => by
  simp [encR] at hu
  rcases hu with rfl | rfl | rfl <;> rfl
theorem own_ne {w : World} {B e k r : Nat} {v : Value} {n : Nat} {xs : List Value} (h : w.ownsRow B e k v n xs) (hr : w.heap.size ≤ r) : some r ≠ v.ownBlock := fun e1 => by have h5 := (h.lt r e1.symm).2; omega

set_option maxRecDepth 100000 in
set_option maxHeartbeats 8000000 in
theorem all_own (fa : Addr) (B : Nat) (bl : List Nat) (L : List Ent) (w : World) (h : FsIs w fa B bl (dl L) L) (hi : Inv L) (hL : L.length ≤ 900000000) (hnone : SortsNone) :
    Calls Tryd.prog 15 #[.pointer (some fa)] w fun e W' => ∃ (A : Option Addr) (c : Nat) (M : List Ent), e = .returned (.slice A L.length c) ∧ M.Perm L ∧ Up (M.map fun e => flatL e.pt) ∧ EnIs W' A c (M.map rawOf) ∧ Below w.heap.size w W' ∧ (A = none ∧ c = 0 ∨ ∃ g, A = some ⟨g, 0, none⟩ ∧ g < W'.heap.size) := by
  obtain ⟨i0, hi0, hz0, hz1, hz2⟩ := info_parts infoEnt
  obtain ⟨D, n, ho, hnle, hDs, hh, hat0⟩ := h.outer
  have HF := Lib.hid (fun W (hW : Below w.heap.size w W) => h.below hW)
  have HI := Lib.hid hi
  have HNone := Lib.hid hnone
  have c0 := h.cell
  have HD := Lib.hid (And.intro hh hat0)
  have hBl := h.lt_outer
  have hlen : bl.length = (dl L).length := h.len
  have HLen := Lib.hid hlen
  clear h hi hnone hnle hDs hh hat0 hlen
  go_enter Tryd.func15, Tryd.ntmps15
  go_wp2_with (first | (at_range; refine wpList_range_own _ rfl _ 45 rfl 3 44 KI Tryd.underlying45 mapElem B n D rfl ho ?_; intro w0 hrg0 hg0 hs0))
  go_frame
  go_loopw [3] (fun v wr => ∃ (left : Lit → Bool) (cnt : Nat) (xs : List Ent), wr.ranges Tryd.prog 3 mapElem B w.heap.size n D left cnt ∧ wr.ownsRow (w.heap.size + 1) 30 3 v xs.length (cells (xs.map rawOf)) ∧ w.heap.size + 1 ≤ wr.heap.size ∧ xs.length ≤ L.length ∧ Hid (Below w.heap.size w wr ∧ xs.Perm (L.filter (doneO L left)))) (fun _ wr => wr.rangeLeft B w.heap.size)
  case atStart =>
    refine ⟨_, _, [], hrg0, World.ownsRow_nil _ _ _ _, by omega, Nat.zero_le _, (Below.refl _ _).grown hg0 (Nat.le_refl _) (fun k e => by cases e), ?_⟩
    have e1 : L.filter (doneO L (Maps.has D)) = [] := start_all (fun e he => by
      rw [HD.out.1, decide_eq_true_iff]
      obtain ⟨j, hj1, hj2, _⟩ := num_at (Inv.upOf_dl HI.out he)
      rw [hj1, HLen.out]; omega)
    rw [e1]
  case round =>
    obtain ⟨left, cnt, xs, hrg, hown, hsz, hxl, H⟩ := hrel
    go_wp2_with (first | (at_next; refine wpList_next_ranges _ rfl _ rfl 3 KI mapElem (Value.int .i64) Value.map invK invV B w.heap.size n D left cnt rfl hrg ?_ ?_))
    · intro hc0 hl0
      have hxp : xs.Perm L := by
        have := H.out.2
        rwa [end_all hl0] at this
      have hxlen := hxp.length_eq
      have hown2 := hown
      have hlm : xs.length = (xs.map rawOf).length := (List.length_map _).symm
      rw [hlm] at hown2
      clear hlm
      have HS := Lib.hid (sort_is (xs.map rawOf) _ wr (w.heap.size + 1) hown2 (by rw [List.length_map]; omega) HNone.out)
      have hlt9 := fun g hg => (hown.lt g hg).1
      clear hown
      go_wp2_with fail
      refine HS.out.mono ?_
      rintro e w4 ⟨rfl, m, hmp, hms, hmo, hmg⟩
      obtain ⟨M, hM, rfl⟩ := perm_map_inv rawOf hmp xs rfl
      have hML : M.Perm L := hM.trans hxp
      have hlen : (M.map rawOf).length = L.length := by rw [List.length_map]; exact hML.length_eq
      rw [hlen] at hmo
      obtain ⟨A, c, rfl, hE, _⟩ := enIs_of_own hlen hmo
      have hform : A = none ∧ c = 0 ∨ ∃ g, A = some ⟨g, 0, none⟩ ∧ g < w4.heap.size := by
        rcases hmo.2 with ⟨h1, _⟩ | ⟨g, cap, cur, h1, _, h2, _⟩
        · injection h1 with p1 p2 p3
          exact .inl ⟨p1, p3⟩
        · injection h1 with p1 p2 p3
          exact .inr ⟨g, p1, (Array.getElem?_eq_some_iff.1 h2).1⟩
      have HForm := Lib.hid hform
      have HE := Lib.hid hE
      have HU := Lib.hid (up_of_raws HI.out hML hms)
      have HB4 : Hid (Below w.heap.size w w4) := H.out.1.grown hmg H.out.1.size (fun k e => by have := hlt9 k e; omega)
      have HM := Lib.hid hML
      clear hmp hms hmo hmg hM hML hlen hE hform HS hown2 hlt9 hxp hxlen
      go_wp2
      go_ret
      exact ⟨A, c, M, rfl, HM.out, HU.out, HE.out, HB4.out, HForm.out⟩
    · intro x c kl ya yb w1 cnt1 hkx hlx hRc hat hrg1 hlt hg1 hs1 hen
      have hB1 : Below w.heap.size w w1 := H.out.1.grown hg1 H.out.1.size (fun k e => by cases e; exact Nat.le_refl _)
      have hF1 := HF.out w1 hB1
      obtain ⟨j, bj, p, rfl, hxj, hbj, hpj, rfl⟩ := outer_entry (y := (ya, yb)) hF1 HD.out.1 HD.out.2 hkx hRc hat
      obtain ⟨D2, n2, ho2, hle2, hh2, hat2⟩ := hF1.inner j p bj hpj hbj
      have hown1 := rows_below (W := w1) hown (fun g hg => hg1.block g (hown.lt g hg).2 (fun e => by have h5 := (hown.lt g hg).1; cases e; omega))
      have HOwn1 := Lib.hid hown1
      have HB1 := Lib.hid hB1
      have HD2 := Lib.hid (And.intro hh2 hat2)
      have hbjw := (HF.out w (Below.refl _ _)).lt_inner (List.mem_of_getElem? hbj)
      clear hown hg1 hB1 hF1 hkx hRc hat hh2 hat2 hown1
      go_wp2_with (first | (at_range; refine wpList_range_own _ rfl _ 44 rfl 9 52 KS Tryd.underlying44 nodeElem bj n2 D2 rfl ho2 ?_; intro w2 hrg2 hg2 hs2))
      go_frame
      obtain ⟨r2, hr2⟩ : ∃ r2, r2 = w1.heap.size := ⟨_, rfl⟩
      rw [← hr2] at hrg2 ⊢
      have hrO := (hrg1.kept hg2 (by simp) (by simp))
      have hBr := hrg1.lt
      have hvr := own_ne HOwn1.out (Nat.le_of_eq hr2.symm)
      have hownS := rows_below (W := w2) HOwn1.out (fun g hg => hg2.block g (HOwn1.out.lt g hg).2 (by simp))
      have HB2 : Hid (Below w.heap.size w w2) := HB1.out.grown hg2 HB1.out.size (fun k e => by cases e)
      have HP0 : Hid (xs.Perm (L.filter (doneO L left) ++ L.filter (doneI p (Maps.has D2)))) := by
        have e1 : L.filter (doneI p (Maps.has D2)) = [] := begin_dir (fun e he hu => by
          rw [HD2.out.1]
          have := pt_snoc (HI.out.ne e he)
          rw [hu] at this
          rw [← this, HI.out.at_of he]; rfl)
        show List.Perm _ _
        rw [e1, List.append_nil]; exact H.out.2
      have hsz2 : r2 + 1 ≤ w2.heap.size := by omega
      have hr2a : w.heap.size + 1 ≤ r2 := by omega
      have HPd : Hid (p ∈ dl L ∧ x = (num (dl L) p : Nat) ∧ left (.int .i64 x) = true) := ⟨List.mem_of_getElem? hpj, by rw [num_of HI.out.dl_nodup hpj, hxj]; omega, hlx⟩
      have hx2 : 1 ≤ x := by omega
      clear hr2 hen hlx hrg1 hg2 hs2 hs1 H HOwn1 HB1 hbj hpj hxj
      go_loopw [3] (fun v wr2 => ∃ (left2 : Lit → Bool) (cnt2 : Nat) (ys : List Ent), wr2.ranges Tryd.prog 9 nodeElem bj r2 n2 D2 left2 cnt2 ∧ wr2.ranges Tryd.prog 3 mapElem B w.heap.size n D (fun z => left z && !z.sameKey (.int .i64 x)) cnt1 ∧ wr2.ownsRow (w.heap.size + 1) 30 3 v ys.length (cells (ys.map rawOf)) ∧ some r2 ≠ v.ownBlock ∧ r2 + 1 ≤ wr2.heap.size ∧ ys.length ≤ L.length ∧ Hid (Below w.heap.size w wr2 ∧ ys.Perm (L.filter (doneO L left) ++ L.filter (doneI p left2)))) (fun _ wr2 => wr2.rangeLeft bj r2)
      case atStart => exact ⟨_, _, xs, hrg2, hrO, hownS, hvr, hsz2, hxl, HB2.out, HP0.out⟩
      case round =>
        obtain ⟨left2, cnt2, ys, hri, hro, hownY, hvy, hsy, hyl, HY⟩ := hrel
        go_wp2_with (first | (at_next; refine wpList_next_ranges _ rfl _ rfl 9 KS nodeElem Value.string N4.v invKS invN bj r2 n2 D2 left2 cnt2 rfl hri ?_ ?_))
        · intro hc0 hl0
          have HPe : Hid (ys.Perm (L.filter (doneO L fun z => left z && !z.sameKey (.int .i64 x)))) :=
            HY.out.2.trans (end_dir HI.out HPd.out.1 HPd.out.2.1 HPd.out.2.2 hl0).symm
          go_wp2_with fail
          go_roundw
          case rel => exact ⟨_, cnt1, ys, hro, hownY, by omega, hyl, HY.out.1, HPe.out⟩
          case measure => rw [hro.left_eq, hrg.left_eq]; exact hlt
        · intro xb c kl2 ya2 yb2 w3 cnt3 hkx2 hlx2 hRc2 hat2 hrg3 hlt3 hg3 hs3 hen3
          obtain ⟨e0, rfl, he0, hp0, hd0, ht0⟩ := inner_entry (y := (ya2, yb2)) HD2.out.1 HD2.out.2 hkx2 hRc2 hat2
          have hmem := at_mem he0
          have HPn : Hid ((ys ++ [e0]).Perm (L.filter (doneO L left) ++ L.filter (doneI p fun z => left2 z && !z.sameKey (.string xb.data.toList)))) := by
            have h5 := step_name HI.out hmem.1 hmem.2 hlx2
            have h6 := (List.Perm.append_right [e0] HY.out.2)
            rw [List.append_assoc] at h6
            exact h6.trans ((h5.symm).append_left _)
          have hyl2 : ys.length + 1 ≤ L.length := by
            have h5 := HPn.out.length_eq
            have h7 : ((ys ++ [e0])).length ≤ L.length := by
              rw [h5]
              have h8 := (filter_split (fun e => doneO L left e || doneI p (fun z => left2 z && !z.sameKey (.string xb.data.toList)) e) (fun _ => true) (fun e => !(doneO L left e || doneI p (fun z => left2 z && !z.sameKey (.string xb.data.toList)) e)) L (fun e _ => by cases (doneO L left e || doneI p (fun z => left2 z && !z.sameKey (.string xb.data.toList)) e) <;> rfl) (fun e _ h9 => by rw [h9.1] at h9; cases h9.2)).length_eq
              have h10 := (filter_split (doneO L left) (fun e => doneO L left e || doneI p (fun z => left2 z && !z.sameKey (.string xb.data.toList)) e) (doneI p fun z => left2 z && !z.sameKey (.string xb.data.toList)) L (fun _ _ => rfl) (fun e he h9 => by
                have h11 := (of_decide_eq_true (Bool.and_eq_true_iff.1 h9.2).1)
                have h12 := h9.1
                unfold doneO at h12
                rw [h11, ← HPd.out.2.1, HPd.out.2.2] at h12
                cases h12)).length_eq
              rw [List.length_append] at h8
              rw [← h10]
              have h13 : (L.filter fun _ => true).length = L.length := by simp
              omega
            simpa using h7
          have HOwn3 := Lib.hid (rows_below (W := w3) hownY (fun g hg => hg3.block g (hownY.lt g hg).2 (fun e => hvy (by rw [hg]; exact e.symm))))
          have HRO3 := Lib.hid (hro.kept hg3 (fun e => by have := Option.some.inj e; omega) (fun e => by have := Option.some.inj e; omega))
          have HB3 : Hid (Below w.heap.size w w3) := HY.out.1.grown hg3 HY.out.1.size (fun k e => by have := Option.some.inj e; omega)
          have hsz3 : r2 + 1 ≤ w3.heap.size := by omega
          clear hownY hro hmem he0 HY hkx2 hRc2 hat2 hlx2 hs3
          obtain ⟨cp, cd, ct, cn⟩ := c
          simp only at hp0 hd0 ht0
          subst hp0 hd0 ht0
          unfold N4.v at hen3
          have HNS : Hid (cells (ys.map rawOf) ++ encR (rawOf e0) = cells ((ys ++ [e0]).map rawOf)) := by
            show _ = _
            rw [List.map_append, cells_app]; rfl
          have hz3 : (encR (rawOf e0)).length = 1 * 3 := rfl
          have hown3 := HOwn3.out
          have hnw := news3' w3 (.cells #[.string (pathB e0.pt), .bool e0.dir, .string e0.text, .int .i64 cn] 52) (rawOf e0) 30
          have HNW := Lib.hid hnw
          clear hnw
          go_wp2_with (at_builtin; refine wpList_append_own_at _ rfl _ _ 22 rfl (w.heap.size + 1) 30 i0 (.agg #[.string .empty, .bool false, .string .empty]) 3 40 Tryd.underlying22 hi0 hz0 hz1 hz2 rfl (by decide) _ _ _ rfl ((hown3.alloc _).alloc _) ⟨w3.heap.size + 1, 0, none⟩ 1 1 (encR (rawOf e0)) rfl hz3 HNW.out (encR_one _) (by unfold maxLen; omega) (by omega) (by simp; omega) ?_; intro v' w4 hown' hgrow _ hloc)
          have hrI := ((hrg3.alloc (.cells #[.string (pathB e0.pt), .bool e0.dir, .string e0.text, .int .i64 cn] 52)).alloc (.cells #[.string (pathB e0.pt), .bool e0.dir, .string e0.text] 30)).kept hgrow (fun e => by
            have h6 := (hown3.lt bj e.symm).1
            omega) hvy
          have hrO4 := ((HRO3.out.alloc (.cells #[.string (pathB e0.pt), .bool e0.dir, .string e0.text, .int .i64 cn] 52)).alloc (.cells #[.string (pathB e0.pt), .bool e0.dir, .string e0.text] 30)).kept hgrow (fun e => by
            have h6 := (hown3.lt B e.symm).1
            omega) (fun e => by
            have h6 := (hown3.lt w.heap.size e.symm).1
            omega)
          have hs4 := hgrow.size
          simp only [World.size_alloc] at hs4
          have hvy4 : some r2 ≠ v'.ownBlock := fun e => by
            rcases hloc with h5 | h5
            · rw [h5] at e; exact hvy e
            · rw [h5] at e
              have := Option.some.inj e
              simp only [World.size_alloc] at this
              omega
          have HB4 : Hid (Below w.heap.size w w4) := ((HB3.out.alloc HB3.out.size (.cells #[.string (pathB e0.pt), .bool e0.dir, .string e0.text, .int .i64 cn] 52)).alloc (Nat.le_trans HB3.out.size (by simp)) (.cells #[.string (pathB e0.pt), .bool e0.dir, .string e0.text] 30)).grown hgrow (Nat.le_trans HB3.out.size (by simp; omega)) (fun k e => by have := (hown3.lt k e).1; omega)
          have hll : ys.length + 1 = (ys ++ [e0]).length := by simp
          rw [HNS.out, hll] at hown'
          have HO4 := Lib.hid hown'
          have hm4 := hrI.left_eq
          have hm2 := hri.left_eq
          clear hown' hll hown3 hgrow hloc
          go_roundw
          case rel => exact ⟨_, cnt3, ys ++ [e0], hrI, hrO4, HO4.out, hvy4, by omega, by simpa using hyl2, HB4.out, HPn.out⟩
          case measure => rw [hm4, hm2]; exact hlt3

theorem all_is (fa : Addr) (B : Nat) (bl : List Nat) (L : List Ent) (w : World) (h : FsIs w fa B bl (dl L) L) (hi : Inv L) (hL : L.length ≤ 900000000) (hnone : SortsNone) :
    Calls Tryd.prog 15 #[.pointer (some fa)] w fun e W' => ∃ (A : Option Addr) (c : Nat) (M : List Ent), e = .returned (.slice A L.length c) ∧ M.Perm L ∧ Up (M.map fun e => flatL e.pt) ∧ EnIs W' A c (M.map rawOf) ∧ Below w.heap.size w W' :=
  (all_own fa B bl L w h hi hL hnone).mono fun _ _ ⟨A, c, M, h1, h2, h3, h4, h5, _⟩ => ⟨A, c, M, h1, h2, h3, h4, h5⟩

end Go.Proofs.YtgfpdaaofhanoaaDoor.Vall
