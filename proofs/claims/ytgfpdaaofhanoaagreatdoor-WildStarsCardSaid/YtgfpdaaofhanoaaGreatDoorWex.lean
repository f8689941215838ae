/- Expand: what a word finds. -/
import Derived.Test.YtgfpdaaofhanoaaGreatDoorWse
import Derived.Test.YtgfpdaaofhanoaaGreatDoorWsp
namespace Go.Proofs.YtgfpdaaofhanoaaGreatDoor.Wex
open Go.RowKit Go.Maps Go.Proofs.YtgfpdaaofhanoaaGreatDoor.Pth Go.Proofs.YtgfpdaaofhanoaaGreatDoor.Strs Go.Proofs.YtgfpdaaofhanoaaGreatDoor.StepAny Go.Proofs.YtgfpdaaofhanoaaGreatDoor.Vfs Go.Proofs.YtgfpdaaofhanoaaGreatDoor.Vmap Go.Proofs.YtgfpdaaofhanoaaGreatDoor.Vfind Go.Proofs.YtgfpdaaofhanoaaGreatDoor.Vlook Go.Proofs.YtgfpdaaofhanoaaGreatDoor.Wdp Go.Proofs.YtgfpdaaofhanoaaGreatDoor.Wst Go.Proofs.YtgfpdaaofhanoaaGreatDoor.Wsp Go.Proofs.YtgfpdaaofhanoaaGreatDoor.Wnm Go.Proofs.YtgfpdaaofhanoaaGreatDoor.Wno Go.Proofs.YtgfpdaaofhanoaaGreatDoor.Wnn Go.Proofs.YtgfpdaaofhanoaaGreatDoor.Wlv Go.Proofs.YtgfpdaaofhanoaaGreatDoor.Wrc Go.Proofs.YtgfpdaaofhanoaaGreatDoor.Wwk Go.Proofs.YtgfpdaaofhanoaaGreatDoor.Wwt Go.Proofs.YtgfpdaaofhanoaaGreatDoor.Wwa Go.Proofs.YtgfpdaaofhanoaaGreatDoor.Wlx Go.Proofs.YtgfpdaaofhanoaaGreatDoor.Wly Go.Proofs.YtgfpdaaofhanoaaGreatDoor.Wse

theorem sort_perm {a b : List T} (h : a.Perm b) : (a.mergeSort fun x y => decide (x ≤ y)) = b.mergeSort fun x y => decide (x ≤ y) :=
  List.Perm.eq_of_pairwise (le := fun x y : T => x ≤ y) (fun _ _ _ _ h1 h2 => List.le_antisymm h1 h2) (Srt.sorted_le a) (Srt.sorted_le b) ((List.mergeSort_perm a _).trans (h.trans (List.mergeSort_perm b _).symm))
/-- what a word finds, on lists -/
def expandP (L : List Ent) (s : T) : List T :=
  if partsP s = [] then oneL (Lib.hasPrefix s [47]) [47]
  else if anyM (partsP s) = true then ((walksP L (stepsP s (partsP s))).map fun y => Lib.join y.2 [47]).mergeSort fun x y => decide (x ≤ y)
  else oneL (lookN L (bs (47 :: joinT (partsP s)))).isSome s
/-- what the walk wants of a file system -/
structure FsOk (L : List Ent) : Prop where
  inv : Vfs.Inv L
  len : L.length ≤ 900000
  paths : ∀ k ∈ pathsL L, k.length ≤ 400000
  names : ∀ s, ∀ x ∈ listN L s, x.length ≤ 400000
  dirs : ∀ s nd, lookN L s = some nd → nd.d = dirP L nd.p.data.toList
  root : ∀ e ∈ L, flatL e.pt ≠ [47]
/-- and of a word -/
structure WordOk (L : List Ent) (s : T) : Prop where
  len : s.length ≤ 400000
  parts : (partsP s).length ≤ 1000001
  size : sizeP (partsP s) ≤ 140737488355328
  join : (joinT (partsP s)).length ≤ 400000
  texts : ∀ st ∈ stepsP s (partsP s), st.text.length ≤ 400000
  steps : (stepsP s (partsP s)).length ≤ 100000
  some : anyM (partsP s) = true → stepsP s (partsP s) ≠ []
  walks : anyM (partsP s) = true → (walksP L (stepsP s (partsP s))).length ≤ 1000000000000
  joins : anyM (partsP s) = true → ∀ y ∈ walksP L (stepsP s (partsP s)), (Lib.join y.2 [47]).length ≤ 1000000000

theorem own_mono {w : World} {a b e k n : Nat} {v : Value} {xs : List Value} (h : w.ownsRow a e k v n xs) (hb : b ≤ a) : w.ownsRow b e k v n xs :=
  ⟨h.1, h.2.imp id fun ⟨g, cap, cur, e1, e2, e3⟩ => ⟨g, cap, cur, e1, Nat.le_trans hb e2, e3⟩⟩

set_option maxRecDepth 100000 in
set_option maxHeartbeats 8000000 in
theorem expand_is (fa : Addr) (Bm : Nat) (bl : List Nat) (L : List Ent) (s : T) (w : World) (h : FsIs w fa Bm bl (dl L) L) (hf : FsOk L) (hs : WordOk L s) :
    Calls Tryz.prog 12 #[.pointer (some fa), .string (bs s)] w fun e W' => ∃ v, e = .returned v ∧ W'.ownsRow w.heap.size 9 1 v (expandP L s).length (vals (expandP L s)) ∧ Below w.heap.size w W' := by
  have hsz : (bs s).size ≤ 1000000 := by rw [size_bs]; have := hs.len; omega
  have HPa := Lib.hid (partsOf_is (bs s) w hsz)
  rw [data_bs] at HPa
  have HPre := Lib.hid (fun W => Tryz.strings_HasPrefix (bs s) ⟨#[47]⟩ W)
  rw [data_bs, show (⟨#[47]⟩ : ByteArray).data.toList = [47] from rfl] at HPre
  have HOne := Lib.hid (fun b W => oneIf_is b [47] W)
  have HOne2 := Lib.hid (fun b W => oneIf_is b s W)
  have HF := Lib.hid h
  have HFo := Lib.hid hf
  have HS := Lib.hid hs
  have HZ := Lib.hid hsz
  have HE : Hid (expandP L s = if partsP s = [] then oneL (Lib.hasPrefix s [47]) [47] else if anyM (partsP s) = true then ((walksP L (stepsP s (partsP s))).map fun y => Lib.join y.2 [47]).mergeSort fun x y => decide (x ≤ y) else oneL (lookN L (bs (47 :: joinT (partsP s)))).isSome s) := rfl
  clear h hf hs hsz
  obtain ⟨ps, hps⟩ : ∃ ps, ps = partsP s := ⟨_, rfl⟩
  rw [← hps] at HPa HE
  have HPs := Lib.hid hps
  obtain ⟨N, hN⟩ : ∃ N, N = ps.length := ⟨_, rfl⟩
  rw [← hN] at HPa
  have HN := Lib.hid hN
  have hNb : N ≤ 1000001 := by rw [hN, hps]; exact HS.out.parts
  clear hps hN
  go_enter Tryz.func12, Tryz.ntmps12
  go_wp2_with fail
  refine HPa.out.mono ?_
  rintro e w1 ⟨A, c, rfl, hpt, hb1⟩
  have HPt := Lib.hid hpt
  have HB1 := Lib.hid hb1
  clear hpt hb1 HPa
  by_cases h0 : N = 0
  · subst h0
    have hps : ps = [] := List.eq_nil_of_length_eq_zero HN.out.symm
    have HX : Hid (expandP L s = oneL (Lib.hasPrefix s [47]) [47]) := by
      show _ = _
      rw [HE.out, if_pos hps]
    generalize Lib.hasPrefix s [47] = q at *
    clear hps
    go_wp2_with fail
    refine (HPre.out _).mono ?_
    rintro e w2 ⟨rfl, rfl⟩
    go_wp2_with fail
    refine (HOne.out q _).mono ?_
    rintro e w3 ⟨v, rfl, ho3, hb3⟩
    have HO3 := Lib.hid ho3
    have HB3 := Lib.hid hb3
    clear ho3 hb3
    go_wp2
    go_ret
    rw [HX.out]
    exact ⟨_, rfl, own_mono HO3.out HB1.out.size, HB1.out.trans (HB3.out.mono HB1.out.size)⟩
  · have HPn : Hid (ps ≠ []) := fun e => h0 (by rw [HN.out, e]; rfl)
    have HCo := Lib.hid (contains_is A N c ps w1 HN.out.symm HPt.out hNb)
    have HAm : Hid (anyM ps = anyM (partsP s)) := by rw [HPs.out]; rfl
    obtain ⟨am, ham⟩ : ∃ am, am = anyM ps := ⟨_, rfl⟩
    rw [← ham] at HCo HE HAm
    have HAe := Lib.hid ham
    clear ham
    go_wp2_with fail
    refine HCo.out.mono ?_
    rintro e w2 ⟨rfl, hb2⟩
    have HB2 := Lib.hid (HB1.out.trans (hb2.mono HB1.out.size))
    have HPt2 := Lib.hid (HPt.out.below hb2)
    clear hb2 HCo HPt
    cases am with
    | true =>
      have HX : Hid (expandP L s = ((walksP L (stepsP s ps)).map fun y => Lib.join y.2 [47]).mergeSort fun x y => decide (x ≤ y)) := by
        show _ = _
        rw [HE.out, if_neg HPn.out, if_pos rfl]
      have HSt := Lib.hid (stepsOf_is (bs s) A N c ps w2 HZ.out HN.out.symm HPt2.out hNb (by rw [HPs.out]; exact HS.out.size))
      rw [data_bs] at HSt
      go_wp2_with fail
      refine HSt.out.mono ?_
      rintro e w3 ⟨A3, c3, rfl, hpt3, hb3⟩
      have HB3 := Lib.hid (HB2.out.trans (hb3.mono HB2.out.size))
      have hm : anyM (partsP s) = true := HAm.out.symm
      have hpe : ps = partsP s := HPs.out
      have hSe := search_is fa Bm bl L w3 A3 (stepsP s ps).length c3 (stepsP s ps) (HF.out.below HB3.out) HFo.out.inv HFo.out.len HFo.out.paths HFo.out.names HFo.out.dirs HFo.out.root (by rw [hpe]; exact HS.out.texts) hpt3 rfl (by rw [hpe]; exact HS.out.steps) (by rw [hpe]; exact HS.out.some hm) (by rw [hpe]; exact HS.out.walks hm) (by rw [hpe]; exact HS.out.joins hm)
      have HSe := Lib.hid hSe
      clear hb3 hpt3 hm hpe hSe HSt
      go_wp2_with fail
      refine HSe.out.mono ?_
      rintro e w4 ⟨v, ys, rfl, hys, ho4, hb4⟩
      have HO4 : Hid (w4.ownsRow w.heap.size 9 1 v (expandP L s).length (vals (expandP L s))) := by
        rw [sort_perm hys] at ho4
        have hl : ys.length = (expandP L s).length := by rw [HX.out, List.length_mergeSort]; exact hys.length_eq
        rw [hl, ← HX.out] at ho4
        exact own_mono ho4 HB3.out.size
      have HB4 := Lib.hid (HB3.out.trans (hb4.mono HB3.out.size))
      clear hys ho4 hb4 HSe
      go_wp2
      go_ret
      exact ⟨_, rfl, HO4.out, HB4.out⟩
    | false =>
      have HX : Hid (expandP L s = oneL (lookN L (bs (47 :: joinT ps))).isSome s) := by
        show _ = _
        rw [HE.out, if_neg HPn.out, if_neg Bool.false_ne_true]
      have hjl : (joinT ps).length ≤ 400000 := by rw [HPs.out]; exact HS.out.join
      have HJo := Lib.hid (join_is A N c ps w2 HN.out.symm HPt2.out hNb (by omega))
      have a1 : ∀ W, (Op.stringOp .add ⟨#[47]⟩ (bs (joinT ps))).run Tryz.prog W = .ok (.string (bs (47 :: joinT ps))) W := fun W => by rw [run_string_add_sum W _ _ (by rw [size_bs]; show 1 + _ ≤ _; omega)]; exact congrArg (fun z => Result.ok (Value.string z) W) (bs_app [47] (joinT ps)).symm
      have hls : (bs (47 :: joinT ps)).size ≤ 1000000 := by rw [size_bs, List.length_cons]; omega
      have HLs := Lib.hid hls
      clear hjl hls
      go_wp2_with fail
      refine HJo.out.mono ?_
      rintro e w3 ⟨rfl, hb3⟩
      have HB3 := Lib.hid (HB2.out.trans (hb3.mono HB2.out.size))
      have HLo := Lib.hid (look_is fa Bm bl L (bs (47 :: joinT ps)) w3 (HF.out.below HB3.out) HFo.out.inv HLs.out (by have := HFo.out.len; omega))
      clear hb3 HJo
      generalize lookN L (bs (47 :: joinT ps)) = lk at *
      go_wp2_with fail
      refine HLo.out.mono ?_
      rintro e w4 ⟨rfl, hb4⟩
      have HB4 := Lib.hid (HB3.out.trans (hb4.mono HB3.out.size))
      clear hb4 HLo a1
      generalize lk.isSome = q at *
      unfold Nd.e
      have hal : ∀ o, Below w.heap.size w (w4.alloc o) := fun o => HB4.out.alloc HB4.out.size _
      have HAl := Lib.hid hal
      clear hal
      go_wp2_with fail
      refine (HOne2.out q _).mono ?_
      rintro e w5 ⟨v, rfl, ho5, hb5⟩
      have HO5 := Lib.hid ho5
      have HB5 := Lib.hid hb5
      clear ho5 hb5
      go_wp2
      go_ret
      rw [HX.out]
      exact ⟨_, rfl, own_mono HO5.out (HAl.out _).size, (HAl.out _).trans (HB5.out.mono (HAl.out _).size)⟩

end Go.Proofs.YtgfpdaaofhanoaaGreatDoor.Wex
