/- The program's Look and List. -/
import Derived.StillTailTactics
import Derived.Test.YtghfmbmdfojapaaGreatDoorVfindJ
import Derived.Test.YtghfmbmdfojapaaGreatDoorVlay
import Derived.Test.YtghfmbmdfojapaaGreatDoorSrt
namespace Go.Proofs.YtghfmbmdfojapaaGreatDoor.Vlook
open Go.RowKit Go.Maps Go.Sort Go.Shelf Go.Proofs.YtghfmbmdfojapaaGreatDoor.Pth Go.Proofs.YtghfmbmdfojapaaGreatDoor.Strs Go.Proofs.YtghfmbmdfojapaaGreatDoor.Srt Go.Proofs.YtghfmbmdfojapaaGreatDoor.Vfs Go.Proofs.YtghfmbmdfojapaaGreatDoor.Vmap Go.Proofs.YtghfmbmdfojapaaGreatDoor.Vnames Go.Proofs.YtghfmbmdfojapaaGreatDoor.Vadd Go.Proofs.YtghfmbmdfojapaaGreatDoor.Vput Go.Proofs.YtghfmbmdfojapaaGreatDoor.Vnew Go.Proofs.YtghfmbmdfojapaaGreatDoor.Vfind

/-- a node's entry -/
def Nd.e (q : Nd) : Value := .agg #[.string q.p, .bool q.d, .string q.t]

set_option maxRecDepth 100000 in
set_option maxHeartbeats 4000000 in
theorem look_is (fa : Addr) (B : Nat) (bl : List Nat) (L : List Ent) (s : ByteArray) (w : World) (h : FsIs w fa B bl (dl L) L) (hi : Vfs.Inv L) (hs : s.size ≤ 1000000) (hL : L.length ≤ 900000000) :
    Calls Tryz.prog 9 #[.pointer (some fa), .string s] w fun e W' => e = .returned (.tuple #[Nd.e ((lookN L s).getD ndZero), .bool (lookN L s).isSome]) ∧ Below w.heap.size w W' := by
  have HF := Lib.hid (fun W (hW : Below w.heap.size w W) => find_is fa B bl L s W (h.below hW) hi hs hL)
  clear h hi
  unfold lookV Nd.v at HF
  unfold Nd.e
  generalize (lookN L s).getD ndZero = q at *
  generalize (lookN L s).isSome = r at *
  go_enter Tryz.func9, Tryz.ntmps9
  go_wp2_with fail
  refine (HF.out _ (alloc_below _ _)).mono ?_
  rintro e W2 ⟨rfl, hb2⟩
  have hg : W2.heap[w.heap.size]? = some (.cells #[.string ⟨#[]⟩, .bool false, .string ⟨#[]⟩] 33 (0, 0)) := (hb2.block _ (by simp)).trans (heap_alloc_new w _)
  have hs2 := hb2.size
  rw [World.size_alloc] at hs2
  have hgo := (Lib.alloc_old W2 (.cells #[.string q.p, .bool q.d, .string q.t, .int .i64 q.n] 65) w.heap.size (by omega)).trans hg
  have k0 : (W2.alloc (.cells #[.string q.p, .bool q.d, .string q.t, .int .i64 q.n] 65)).cell? ⟨w.heap.size, 0, none⟩ = some (.string ⟨#[]⟩) := by rw [Lib.cell_of_heap hgo]; rfl
  have k1 : (W2.alloc (.cells #[.string q.p, .bool q.d, .string q.t, .int .i64 q.n] 65)).cell? ⟨w.heap.size, 1, none⟩ = some (.bool false) := by rw [Lib.cell_of_heap hgo]; rfl
  have k2 : (W2.alloc (.cells #[.string q.p, .bool q.d, .string q.t, .int .i64 q.n] 65)).cell? ⟨w.heap.size, 2, none⟩ = some (.string ⟨#[]⟩) := by rw [Lib.cell_of_heap hgo]; rfl
  have f0 : (W2.alloc (.cells #[.string q.p, .bool q.d, .string q.t, .int .i64 q.n] 65)).frozen? ⟨w.heap.size, 0, none⟩ = false := Lib.frozen_of_heap hgo 0
  have f1 : (W2.alloc (.cells #[.string q.p, .bool q.d, .string q.t, .int .i64 q.n] 65)).frozen? ⟨w.heap.size, 1, none⟩ = false := Lib.frozen_of_heap hgo 1
  have f2 : (W2.alloc (.cells #[.string q.p, .bool q.d, .string q.t, .int .i64 q.n] 65)).frozen? ⟨w.heap.size, 2, none⟩ = false := Lib.frozen_of_heap hgo 2
  have HB := Lib.hid ((alloc_below w (.cells #[.string ⟨#[]⟩, .bool false, .string ⟨#[]⟩] 33)).trans (hb2.mono (by simp)))
  clear hb2 HF hg hgo
  go_wp2
  exact bodyPost_ret (v := .tuple #[.agg #[.string q.p, .bool q.d, .string q.t], .bool r]) (by simp [results, Tryz.results9, go_sem, k0, k1, k2]) rfl
    ⟨rfl, (((HB.out.alloc (by omega) _).setCell (p := ⟨_, _, none⟩) (Nat.le_refl _) _).setCell (p := ⟨_, _, none⟩) (Nat.le_refl _) _).setCell (p := ⟨_, _, none⟩) (Nat.le_refl _) _⟩

/-! ### the names in a directory -/
def kids (L : List Ent) (q : Wy) : List (List UInt8) := L.filterMap fun e => if e.pt ≠ [] ∧ e.pt.dropLast = q then e.pt.getLast? else none
theorem kids_mem (L : List Ent) (q : Wy) (x : List UInt8) : x ∈ kids L q ↔ ∃ e ∈ L, e.pt = q ++ [x] := by
  unfold kids
  rw [List.mem_filterMap]
  constructor
  · rintro ⟨e, he, h⟩
    split at h
    · rename_i h1
      refine ⟨e, he, ?_⟩
      have h2 := List.getLast?_eq_some_iff.1 h
      obtain ⟨ys, hy⟩ := h2
      rw [← h1.2, hy, List.dropLast_concat]
    · cases h
  · rintro ⟨e, he, h⟩
    refine ⟨e, he, ?_⟩
    rw [h, if_pos ⟨by simp, List.dropLast_concat⟩, List.getLast?_concat]
theorem kids_has (L : List Ent) (q : Wy) (x : List UInt8) : x ∈ kids L q ↔ (at_ L (q ++ [x])).isSome = true := by
  rw [kids_mem]
  constructor
  · rintro ⟨e, he, h⟩
    cases hc : at_ L (q ++ [x]) with
    | none => exact absurd h (at_none.1 hc e he)
    | some a => rfl
  · intro h
    obtain ⟨a, ha⟩ := Option.isSome_iff_exists.1 h
    exact ⟨a, at_mem ha⟩
theorem kids_nodup (q : Wy) : ∀ (L : List Ent), (L.map Ent.pt).Nodup → (kids L q).Nodup
  | [], _ => List.nodup_nil
  | e :: L, h => by
    rw [List.map_cons, List.nodup_cons] at h
    have ih := kids_nodup q L h.2
    unfold kids at ih ⊢
    rw [List.filterMap_cons]
    split
    · exact ih
    · rename_i b hb
      rw [List.nodup_cons]
      refine ⟨fun hm => ?_, ih⟩
      split at hb
      · rename_i h1
        obtain ⟨ys, hy⟩ := List.getLast?_eq_some_iff.1 hb
        obtain ⟨a, ha, hap⟩ := (kids_mem L q b).1 hm
        refine h.1 (List.mem_map.2 ⟨a, ha, ?_⟩)
        rw [hap, ← h1.2, hy, List.dropLast_concat]
      · cases hb
theorem up_of_sorted {l : List T} (h : l.Pairwise (· ≤ ·)) (hn : l.Nodup) : Up l := by
  unfold Up
  exact (List.pairwise_and_iff.2 ⟨h, hn⟩).imp fun {a b} hab => lt_of_le_ne hab.1 hab.2
theorem sorted_eq {ss l : List T} (hp : ss.Perm l) (hn : l.Nodup) : ss.mergeSort (fun x y => decide (x ≤ y)) = sortT l := by
  symm
  refine sortT_eq (up_of_sorted (sorted_le ss) ?_) (fun x => ?_)
  · exact (List.mergeSort_perm _ _).nodup_iff.2 (hp.nodup_iff.2 hn)
  · exact ((List.mergeSort_perm _ _).mem_iff).trans hp.mem_iff

/-- what List answers -/
def listN (L : List Ent) (s : ByteArray) : List (List UInt8) := match lookN L s with
  | some q => if q.d then sortT (kids L (partsOf s)) else []
  | none => []

/-! ### the library's -/
theorem sorts (m : Nat) : AnyZ.SortsIn Tryz.prog Tryz.sortedS_ren Fence.wide m :=
  ⟨fun blk off cap ss W hH hblk hsz => callsIn_wide.2 (Tryz.slices_Sort_string blk off cap ss W hH hblk hsz),
   fun p cap W => callsIn_wide.2 (Tryz.slices_Sort_string_none p cap W)⟩
theorem keys_call (mb : Option Nat) (W : World) : Calls Tryz.prog 107 #[.map mb] W fun e w' => e = .returned (.func (.func 121) #[] #[.pointer (some ⟨W.heap.size, 0, none⟩)]) ∧ w' = W.alloc (.cells #[.map mb] 43) :=
  (callsIn_wide (n := 5)).1 (AnyZ.keys_in Tryz.mapKeys Fence.wide 5 trivial rfl mb W)
set_option maxHeartbeats 1000000 in
theorem sorted_call {H : Type} (b nn : Nat) (D0 : DataW H) (R : Value → Option (DataW H × List MemPlace)) (w : World) (hown : w.ownsMap Tryz.prog 9 R b nn D0) (hmax : Maps.size D0 ≤ maxLen) (hbytes : Maps.size D0 * 16 ≤ 140737488355328) :
    Calls Tryz.prog 106 #[.func (.func 121) #[] #[.pointer (some ⟨w.heap.size, 0, none⟩)]] (w.alloc (.cells #[.map (some b)] 43)) fun e w' => ∃ (v : Value) (ss : List (List UInt8)), e = .returned v ∧ ss.Perm (strKeys D0) ∧
      w'.ownsRow (w.alloc (.cells #[.map (some b)] 43)).heap.size 9 1 v ss.length ((ss.mergeSort (fun x y => decide (x ≤ y))).map encStr) ∧ (v = .slice none 0 0 ↔ ss = []) ∧ Below (w.alloc (.cells #[.map (some b)] 43)).heap.size (w.alloc (.cells #[.map (some b)] 43)) w' := by
  have hbl := hown.lt
  have hseq : SeqGives Fence.wide 2 Tryz.prog 121 #[.pointer (some ⟨w.heap.size, 0, none⟩)] encStr (fun ss => ss.Perm (strKeys D0)) (Maps.size D0) (w.alloc (.cells #[.map (some b)] 43)) :=
    AnyZ.keys_gives (ρ := Tryz.mapKeys_ren) { Tryz.mapKeys with } Fence.wide _ trivial rfl (by omega) w.heap.size b nn D0 _ (by simp) (by simp) (by
      obtain ⟨es, clock, hb, Ft, hs, hD⟩ := hown
      exact ⟨es, clock, (Below.heap_alloc _ _ b hbl).trans hb, Ft, hs, hD⟩)
  exact (callsIn_wide (n := 5)).1 (AnyZ.sorted_in Tryz.sortedS Fence.wide 5 trivial trivial trivial trivial rfl (by omega) (sorts _) (enters_of Tryz.func47 (by kernel_rfl) rfl) 121 #[.pointer (some ⟨w.heap.size, 0, none⟩)] trivial (enters_of Tryz.func121 (by kernel_rfl) rfl) _ _ hmax hbytes _ hseq)
set_option maxHeartbeats 1000000 in
theorem sorted_nil (w : World) :
    Calls Tryz.prog 106 #[.func (.func 121) #[] #[.pointer (some ⟨w.heap.size, 0, none⟩)]] (w.alloc (.cells #[.map none] 43)) fun e w' => e = .returned (.slice none 0 0) ∧ Below (w.alloc (.cells #[.map none] 43)).heap.size (w.alloc (.cells #[.map none] 43)) w' := by
  have hseq : SeqGives Fence.wide 2 Tryz.prog 121 #[.pointer (some ⟨w.heap.size, 0, none⟩)] encStr (fun ss : List (List UInt8) => ss = []) 0 (w.alloc (.cells #[.map none] 43)) :=
    AnyZ.keys_gives_nil (ρ := Tryz.mapKeys_ren) { Tryz.mapKeys with } Fence.wide _ trivial rfl w.heap.size _ (by simp) (by simp)
  refine ((callsIn_wide (n := 5)).1 (AnyZ.sorted_in Tryz.sortedS Fence.wide 5 trivial trivial trivial trivial rfl (by omega) (sorts _) (enters_of Tryz.func47 (by kernel_rfl) rfl) 121 #[.pointer (some ⟨w.heap.size, 0, none⟩)] trivial (enters_of Tryz.func121 (by kernel_rfl) rfl) _ 0 (Nat.zero_le _) (by omega) _ hseq)).mono ?_
  rintro e w' ⟨v, ss, rfl, hss, _, hnil, hb⟩
  rw [hnil.2 hss]
  exact ⟨rfl, hb⟩

theorem DirMap.kids_perm {w : World} {b : Nat} {ds : List Wy} {p : Wy} {L : List Ent} (h : DirMap w b ds p L) (hi : Vfs.Inv L) :
    ∃ D n, w.ownsMap Tryz.prog 9 nodeElem b n D ∧ n ≤ L.length ∧ (kids L p).Perm (strKeys D) := by
  obtain ⟨D, n, ho, hle, hh, _⟩ := h
  refine ⟨D, n, ho, hle, Collected.perm (left := fun _ => false) ⟨kids_nodup p L hi.nodup, fun x => ?_⟩ ho KS Tryz.underlying9 (fun _ => rfl)⟩
  rw [kids_has, hh]; simp

/-- what stands in a directory by its number -/
def dirK (L : List Ent) (p : Wy) (q : Nd) : List (List UInt8) := if q.d then sortT (kids L p) else []
theorem listN_eq (L : List Ent) (s : ByteArray) : listN L s = match lookN L s with | some q => dirK L (partsOf s) q | none => [] := rfl

theorem encs (l : List (List UInt8)) : l.map encStr = (l.map bs).map Value.string := by rw [List.map_map]; rfl

theorem own_base {w : World} {b b' e k : Nat} {v : Value} {n : Nat} {xs : List Value} (hb : b ≤ b') (h : w.ownsRow b' e k v n xs) : w.ownsRow b e k v n xs :=
  ⟨h.1, h.2.imp id fun ⟨g, cap, cur, h1, h2, h3⟩ => ⟨g, cap, cur, h1, Nat.le_trans hb h2, h3⟩⟩

set_option maxRecDepth 100000 in
set_option maxHeartbeats 4000000 in
theorem list_own (fa : Addr) (B : Nat) (bl : List Nat) (L : List Ent) (s : ByteArray) (w : World) (h : FsIs w fa B bl (dl L) L) (hi : Vfs.Inv L) (hs : s.size ≤ 1000000) (hL : L.length ≤ 900000000) :
    Calls Tryz.prog 81 #[.pointer (some fa), .string s] w fun e W' => ∃ A c, e = .returned (.slice A (listN L s).length c) ∧ W'.ownsRow w.heap.size 9 1 (.slice A (listN L s).length c) (listN L s).length (((listN L s).map bs).map Value.string) ∧ Below w.heap.size w W' := by
  have HF := Lib.hid (find_is fa B bl L s w h hi hs hL)
  have HH := Lib.hid h
  have HI := Lib.hid hi
  have hml : (maxLen : Nat) = 9223372036854775807 := by unfold maxLen; rfl
  clear h hi
  have hcase : (∃ j bj p, bl[j]? = some bj ∧ (dl L)[j]? = some p ∧ ((lookN L s).getD ndZero).n = j + 1 ∧ listN L s = sortT (kids L p)) ∨ (((lookN L s).getD ndZero).n = 0 ∧ listN L s = []) := by
    rw [listN_eq]
    cases hk : lookN L s with
    | none => exact .inr ⟨rfl, rfl⟩
    | some q =>
      have hq : nodeAt L (partsOf s) = some q := by
        unfold lookN at hk
        split at hk
        · cases hk
        · exact hk
      rcases nodeAt_num HI.out hq with ⟨hD, hn⟩ | ⟨hn, hno⟩
      · left
        obtain ⟨j, hj1, hj2, hj3⟩ := num_at (HI.out.isDir.2 hD)
        have hjb : j < bl.length := by rw [HH.out.len]; exact hj2
        refine ⟨j, bl[j], partsOf s, List.getElem?_eq_getElem hjb, hj3, by show q.n = _; rw [hn, hj1], ?_⟩
        have hqd : q.d = true := by
          unfold nodeAt at hq
          split at hq
          · cases hq; rfl
          · obtain ⟨e, he, rfl⟩ := Option.map_eq_some_iff.1 hq
            rcases hD with h0 | ⟨d, hd1, hd2⟩
            · exact absurd h0 (by assumption)
            · rw [he] at hd1
              cases hd1; exact hd2
        show dirK L (partsOf s) q = _
        rw [dirK, hqd, if_pos rfl]
      · right
        refine ⟨hn, ?_⟩
        show dirK L (partsOf s) q = _
        unfold dirK
        split
        · have h0 : kids L (partsOf s) = [] := by
            rw [List.eq_nil_iff_forall_not_mem]
            intro x hx
            have := (kids_has L _ x).1 hx
            rw [hno] at this; cases this
          rw [h0]; exact (sortT_nil []).2 rfl
        · rfl
  unfold lookV Nd.v at HF
  have hcase := Lib.hid hcase
  generalize (lookN L s).getD ndZero = q at *
  generalize (lookN L s).isSome = r at *
  go_enter Tryz.func81, Tryz.ntmps81
  go_wp2_with fail
  refine HF.out.mono ?_
  rintro e W2 ⟨rfl, hb2⟩
  obtain ⟨WA, hWA⟩ : ∃ WA, WA = W2.alloc (.cells #[.string q.p, .bool q.d, .string q.t, .int .i64 q.n] 65) := ⟨_, rfl⟩
  obtain ⟨W3, hW3⟩ : ∃ W3, W3 = WA.drew := ⟨_, rfl⟩
  have hb3 : Below w.heap.size w W3 := by rw [hW3, hWA]; exact (hb2.alloc hb2.size _).drew
  have hF3 : FsIs W3 fa B bl (dl L) L := HH.out.below hb3
  have c0 := hF3.cell
  have d3 : W3.cell? ⟨W2.heap.size, 3, none⟩ = some (.int .i64 q.n) := by
    rw [hW3, hWA]
    have := heap_alloc_new W2 (.cells #[.string q.p, .bool q.d, .string q.t, .int .i64 q.n] 65)
    show (W2.alloc _).cell? _ = _
    rw [Lib.cell_of_heap this]; rfl
  rcases hcase.out with ⟨j, bj, p, hbj, hpj, hn, hl⟩ | ⟨hn, hl⟩
  · have hblen : bl.length ≤ 1099511627776 := by rw [HH.out.len]; have := dl_len L; omega
    have l1 := hF3.look_dir hbj hblen
    have hqn : ((q.n : Nat) : Int) = (j : Int) + 1 := by omega
    rw [← hqn] at l1
    obtain ⟨D, m, ho, hle, hperm⟩ := DirMap.kids_perm (hF3.inner j _ _ hpj hbj) HI.out
    have hsz := ho.size_le
    have hS := sorted_call bj m D nodeElem W3 ho (by omega) (by omega)
    have HS := Lib.hid hS
    have HR : Hid (∀ (v : Value) (ss : List (List UInt8)) (W4 : World), ss.Perm (strKeys D) → W4.ownsRow (W3.alloc (.cells #[.map (some bj)] 43)).heap.size 9 1 v ss.length ((ss.mergeSort (fun x y => decide (x ≤ y))).map encStr) → ∃ A c, v = .slice A (listN L s).length c ∧ W4.ownsRow w.heap.size 9 1 (.slice A (listN L s).length c) (listN L s).length (((listN L s).map bs).map Value.string)) := fun v ss W4 hp hr => by
      have hk := sorted_eq (hp.trans hperm.symm) (kids_nodup p L HI.out.nodup)
      rw [hk, ← hl, encs] at hr
      have hlen : ss.length = ((listN L s).map bs).length := by
        rw [List.length_map, hl, ← hk, List.length_mergeSort]
      rw [hlen] at hr
      obtain ⟨A, c, hv, hsl⟩ := slIs_of_own rfl hr
      rw [List.length_map] at hv hr
      rw [hv] at hr
      exact ⟨A, c, hv, own_base (Nat.le_trans hb3.size (by rw [World.size_alloc]; exact Nat.le_succ _)) hr⟩
    have HB3 := Lib.hid hb3
    clear hbj hpj hn hl hF3 hblen ho hle hperm hsz hS hcase hb3 hb2 hqn
    rw [hW3] at c0 l1 d3
    have c0' : ({ heap := WA.heap, tape := WA.tape, drawn := WA.drawn + 1, os := WA.os, output := WA.output } : World).cell? fa = some (.map (some B)) := c0
    have d3' : ({ heap := WA.heap, tape := WA.tape, drawn := WA.drawn + 1, os := WA.os, output := WA.output } : World).cell? ⟨W2.heap.size, 3, none⟩ = some (.int .i64 q.n) := d3
    have l1' : (Instr.lookup 44 (.map (some B)) (.int .i64 (q.n : Int)) false).run Tryz.prog ({ heap := WA.heap, tape := WA.tape, drawn := WA.drawn + 1, os := WA.os, output := WA.output } : World) = .ok (.map (some bj)) ({ heap := WA.heap, tape := WA.tape, drawn := WA.drawn + 1, os := WA.os, output := WA.output } : World) := l1
    go_wp2_with fail
    rw [← hWA]
    have HW3 := Lib.hid hW3
    clear hWA hW3
    go_still_tail 7, (by kernel_rfl)
    change wpList _ _ _ _ _ WA.drew
    rw [← HW3.out]
    clear HW3 c0 l1 d3 c0' d3' l1'
    go_wp2_with fail
    refine (keys_call _ _).mono ?_
    rintro e w' ⟨rfl, rfl⟩
    go_wp2_with fail
    refine HS.out.mono ?_
    rintro e W4 ⟨v, ss, rfl, hp4, hr4, _, hb4⟩
    obtain ⟨A, c, rfl, hsl⟩ := HR.out v ss W4 hp4 hr4
    have HSl := Lib.hid hsl
    have HB4 := Lib.hid (HB3.out.trans (((alloc_below W3 (.cells #[.map (some bj)] 43)).trans (hb4.mono (by simp))).mono HB3.out.size))
    clear hp4 hr4 hb4 hsl HS HR HB3 HF HH HI
    go_wp2
    go_ret
    exact ⟨A, c, rfl, HSl.out, HB4.out⟩
  · have l1 := hF3.look_zero
    have hqn : ((q.n : Nat) : Int) = 0 := by omega
    rw [← hqn] at l1
    have HS := Lib.hid (sorted_nil W3)
    have HB3 := Lib.hid hb3
    have HL := Lib.hid hl
    clear hn hl hF3 hcase hb3 hb2 hqn
    rw [hW3] at c0 l1 d3
    have c0' : ({ heap := WA.heap, tape := WA.tape, drawn := WA.drawn + 1, os := WA.os, output := WA.output } : World).cell? fa = some (.map (some B)) := c0
    have d3' : ({ heap := WA.heap, tape := WA.tape, drawn := WA.drawn + 1, os := WA.os, output := WA.output } : World).cell? ⟨W2.heap.size, 3, none⟩ = some (.int .i64 q.n) := d3
    have l1' : (Instr.lookup 44 (.map (some B)) (.int .i64 (q.n : Int)) false).run Tryz.prog ({ heap := WA.heap, tape := WA.tape, drawn := WA.drawn + 1, os := WA.os, output := WA.output } : World) = .ok (.map none) ({ heap := WA.heap, tape := WA.tape, drawn := WA.drawn + 1, os := WA.os, output := WA.output } : World) := l1
    go_wp2_with fail
    rw [← hWA]
    have HW3 := Lib.hid hW3
    clear hWA hW3
    go_still_tail 7, (by kernel_rfl)
    change wpList _ _ _ _ _ WA.drew
    rw [← HW3.out]
    clear HW3 c0 l1 d3 c0' d3' l1'
    go_wp2_with fail
    refine (keys_call _ _).mono ?_
    rintro e w' ⟨rfl, rfl⟩
    go_wp2_with fail
    refine HS.out.mono ?_
    rintro e W4 ⟨rfl, hb4⟩
    have HB4 := Lib.hid (HB3.out.trans (((alloc_below W3 (.cells #[.map none] 43)).trans (hb4.mono (by simp))).mono HB3.out.size))
    clear hb4 HS HB3 HF HH HI
    go_wp2
    go_ret
    rw [HL.out]
    exact ⟨none, 0, rfl, World.ownsRow_nil _ _ _ _, HB4.out⟩

theorem list_is (fa : Addr) (B : Nat) (bl : List Nat) (L : List Ent) (s : ByteArray) (w : World) (h : FsIs w fa B bl (dl L) L) (hi : Vfs.Inv L) (hs : s.size ≤ 1000000) (hL : L.length ≤ 900000000) :
    Calls Tryz.prog 81 #[.pointer (some fa), .string s] w fun e W' => ∃ A c, e = .returned (.slice A (listN L s).length c) ∧ SlIs W' A c ((listN L s).map bs) ∧ Below w.heap.size w W' :=
  (list_own fa B bl L s w h hi hs hL).mono fun _ _ ⟨A, c, h1, h2, h3⟩ => by
    obtain ⟨A', c', hv, hsl⟩ := slIs_of_own (by rw [List.length_map]) h2
    injection hv with e1 e2 e3
    subst e1 e3
    exact ⟨_, _, h1, hsl, h3⟩

end Go.Proofs.YtghfmbmdfojapaaGreatDoor.Vlook

/- What has been collected, whichever order it came in (no program). -/
namespace Go.Proofs.YtghfmbmdfojapaaGreatDoor.Vperm
open Go.Proofs.YtghfmbmdfojapaaGreatDoor.Pth Go.Proofs.YtghfmbmdfojapaaGreatDoor.Srt Go.Proofs.YtghfmbmdfojapaaGreatDoor.Vfs Go.Proofs.YtghfmbmdfojapaaGreatDoor.Vnew

theorem filter_split {α : Type} (f g h : α → Bool) : ∀ (L : List α), (∀ e ∈ L, g e = (f e || h e)) → (∀ e ∈ L, ¬ (f e = true ∧ h e = true)) → (L.filter g).Perm (L.filter f ++ L.filter h)
  | [], _, _ => List.Perm.refl _
  | e :: L, h1, h2 => by
    have ih := filter_split f g h L (fun a ha => h1 a (List.mem_cons_of_mem _ ha)) (fun a ha => h2 a (List.mem_cons_of_mem _ ha))
    have e1 := h1 e List.mem_cons_self
    have e2 := h2 e List.mem_cons_self
    rw [List.filter_cons, List.filter_cons, List.filter_cons, e1]
    cases hf : f e <;> cases hh : h e
    · simpa using ih
    · simp only [Bool.false_or, if_true]
      exact (ih.cons e).trans (List.perm_middle.symm)
    · simp only [Bool.or_false, if_true]
      exact ih.cons e
    · exact absurd ⟨hf, hh⟩ e2
theorem filter_one : ∀ {L : List Ent}, (L.map Ent.pt).Nodup → ∀ {e0 : Ent}, e0 ∈ L → L.filter (fun e => decide (e.pt = e0.pt)) = [e0]
  | [], _, _, h => absurd h List.not_mem_nil
  | a :: L, hn, e0, h => by
    rw [List.map_cons, List.nodup_cons] at hn
    rw [List.filter_cons]
    rcases List.mem_cons.1 h with rfl | h'
    · have h0 : L.filter (fun e => decide (e.pt = e0.pt)) = [] := by
        rw [List.filter_eq_nil_iff]
        intro b hb
        simp only [decide_eq_true_eq]
        exact fun e => hn.1 (by rw [← e]; exact List.mem_map_of_mem hb)
      simp [h0]
    · have hne : ¬ a.pt = e0.pt := fun e => hn.1 (by rw [e]; exact List.mem_map_of_mem h')
      simp only [hne, decide_false]
      exact filter_one hn.2 h'

/-- the directory a thing is in -/
def upOf (e : Ent) : Wy := e.pt.dropLast
def nameOf (e : Ent) : List UInt8 := e.pt.getLastD []
theorem pt_snoc {e : Ent} (h : e.pt ≠ []) : e.pt = upOf e ++ [nameOf e] := by
  unfold upOf nameOf
  rw [List.getLastD_eq_getLast?, List.getLast?_eq_some_getLast h]
  exact (List.dropLast_concat_getLast h).symm
theorem upOf_snoc {e : Ent} {p : Wy} {x : List UInt8} (h : e.pt = p ++ [x]) : upOf e = p ∧ nameOf e = x := by
  unfold upOf nameOf
  rw [h]
  exact ⟨List.dropLast_concat, by simp⟩
theorem Inv.upOf_dl {L : List Ent} (hi : Inv L) {e : Ent} (he : e ∈ L) : upOf e ∈ dl L := by
  rw [mem_dl]
  exact (hi.up e he _ _ (pt_snoc (hi.ne e he))).imp id fun ⟨d, h1, h2, h3⟩ => ⟨d, h1, h3, h2⟩

/-- of the directories by their numbers those are done that are no longer to come -/
def doneO (L : List Ent) (left : Lit → Bool) (e : Ent) : Bool := !left (.int .i64 (num (dl L) (upOf e) : Nat))
def doneI (p : Wy) (left : Lit → Bool) (e : Ent) : Bool := decide (upOf e = p) && !left (.string (nameOf e))

theorem sameKey_int (i j : Int) : (Lit.int .i64 i).sameKey (.int .i64 j) = decide (i = j) := by
  simp [Lit.sameKey]
theorem sameKey_str (x y : List UInt8) : (Lit.string x).sameKey (.string y) = decide (x = y) := by
  rw [Bool.eq_iff_iff]
  simp [Lit.sameKey]

/-- a directory is begun -/
theorem begin_dir {L : List Ent} {p : Wy} {left : Lit → Bool} (h : ∀ e ∈ L, upOf e = p → left (.string (nameOf e)) = true) : L.filter (doneI p left) = [] := by
  rw [List.filter_eq_nil_iff]
  intro e he hd
  unfold doneI at hd
  rw [Bool.and_eq_true, decide_eq_true_eq] at hd
  rw [h e he hd.1] at hd
  cases hd.2
/-- one more name of it -/
theorem step_name {L : List Ent} (hi : Inv L) {p : Wy} {left : Lit → Bool} {e0 : Ent} {x : List UInt8} (he : e0 ∈ L) (hp : e0.pt = p ++ [x]) (hl : left (.string x) = true) :
    (L.filter (doneI p fun z => left z && !z.sameKey (.string x))).Perm (L.filter (doneI p left) ++ [e0]) := by
  rw [← filter_one hi.nodup he]
  refine filter_split _ _ _ L (fun e hm => ?_) (fun e hm => ?_)
  · unfold doneI
    show (decide (upOf e = p) && !(left (.string (nameOf e)) && !(Lit.string (nameOf e)).sameKey (.string x))) = _
    rw [sameKey_str]
    by_cases h1 : e.pt = e0.pt
    · obtain ⟨h2, h3⟩ := upOf_snoc (h1.trans hp)
      simp [h1, h2, h3]
    · have h4 : ¬ (upOf e = p ∧ nameOf e = x) := fun h5 => h1 (by rw [pt_snoc (hi.ne e hm), hp, h5.1, h5.2])
      by_cases h2 : upOf e = p
      · have h3 : nameOf e ≠ x := fun h5 => h4 ⟨h2, h5⟩
        simp [h1, h2, h3]
      · simp [h1, h2]
  · rintro ⟨h1, h2⟩
    obtain ⟨h3, h4⟩ := upOf_snoc ((of_decide_eq_true h2).trans hp)
    unfold doneI at h1
    rw [h4, hl] at h1
    simp at h1
/-- a directory is done -/
theorem end_dir {L : List Ent} (hi : Inv L) {p : Wy} {i : Int} {leftO leftI : Lit → Bool} (hp : p ∈ dl L) (hn : i = (num (dl L) p : Nat)) (hl : leftO (.int .i64 i) = true) (h0 : ∀ kl, leftI kl = false) :
    (L.filter (doneO L fun z => leftO z && !z.sameKey (.int .i64 i))).Perm (L.filter (doneO L leftO) ++ L.filter (doneI p leftI)) := by
  refine filter_split _ _ _ L (fun e hm => ?_) (fun e hm => ?_)
  · unfold doneO doneI
    show (!(leftO (.int .i64 (num (dl L) (upOf e) : Nat)) && !(Lit.int .i64 (num (dl L) (upOf e) : Nat)).sameKey (.int .i64 i))) = _
    rw [sameKey_int, h0]
    by_cases h1 : upOf e = p
    · rw [h1, ← hn]; simp
    · have h2 : ¬ (((num (dl L) (upOf e) : Nat) : Int) = i) := fun h3 => h1 (by
        obtain ⟨a, ha1, _, ha3⟩ := num_at (Inv.upOf_dl hi hm)
        obtain ⟨b, hb1, _, hb3⟩ := num_at hp
        have : a = b := by omega
        subst this
        rw [ha3] at hb3
        exact Option.some.inj hb3)
      simp [h1, h2]
  · rintro ⟨h1, h2⟩
    unfold doneO at h1
    unfold doneI at h2
    rw [Bool.and_eq_true, decide_eq_true_eq] at h2
    rw [h2.1, ← hn, hl] at h1
    cases h1
theorem end_all {L : List Ent} {left : Lit → Bool} (h0 : ∀ kl, left kl = false) : L.filter (doneO L left) = L := by
  rw [List.filter_eq_self]
  intro e _
  unfold doneO
  rw [h0]; rfl
theorem start_all {L : List Ent} {left : Lit → Bool} (h0 : ∀ e ∈ L, left (.int .i64 (num (dl L) (upOf e) : Nat)) = true) : L.filter (doneO L left) = [] := by
  rw [List.filter_eq_nil_iff]
  intro e he hd
  unfold doneO at hd
  rw [h0 e he] at hd
  cases hd

end Go.Proofs.YtghfmbmdfojapaaGreatDoor.Vperm

/- The parts of a path are its names (no program). -/
namespace Go.Proofs.YtghfmbmdfojapaaGreatDoor.Vflat
open Go.Proofs.YtghfmbmdfojapaaGreatDoor.Pth Go.Proofs.YtghfmbmdfojapaaGreatDoor.Srt Go.Proofs.YtghfmbmdfojapaaGreatDoor.Vfs Go.Proofs.YtghfmbmdfojapaaGreatDoor.Vmap Go.Proofs.YtghfmbmdfojapaaGreatDoor.Vfind Go.Proofs.YtghfmbmdfojapaaGreatDoor.Vlook

theorem split_end : ∀ (r : Wy) (x t : List UInt8), 47 ∉ x → (∀ p ∈ r, 47 ∉ p) → splitL (x ++ (flatL r ++ 47 :: t)) = (x :: r) ++ splitL t
  | [], x, t, hx, _ => splitL_app x t hx
  | y :: r, x, t, hx, h => by
    rw [flatL_cons]
    show splitL (x ++ 47 :: (y ++ flatL r ++ 47 :: t)) = _
    rw [splitL_app _ _ hx, List.append_assoc, split_end r y t (h y List.mem_cons_self) (fun p hp => h p (List.mem_cons_of_mem _ hp))]
    rfl
theorem parts_flat (p : Wy) (h : ∀ x ∈ p, Pth.Good x) (h0 : p ≠ []) : partsOf (bs (flatL p)) = p := by
  unfold partsOf
  rw [data_bs, split_flat0 p (fun x hx => (h x hx).2.2.2) h0, pile_nil, pileL_stays _ _ h, List.nil_append]
theorem parts_slash (p : Wy) (h : ∀ x ∈ p, Pth.Good x) : partsOf (bs (flatL p ++ [47])) = p := by
  unfold partsOf
  rw [data_bs]
  have e : splitL (flatL p ++ [47]) = [] :: (p ++ [[]]) := by
    cases p with
    | nil => rfl
    | cons x r =>
      rw [flatL_cons]
      show splitL (47 :: (x ++ flatL r ++ [47])) = _
      rw [splitL_slash, List.append_assoc, split_end r x [] (h x List.mem_cons_self).2.2.2 (fun q hq => (h q (List.mem_cons_of_mem _ hq)).2.2.2)]
      rfl
  rw [e, pile_nil, pileL_snoc, pileL_stays _ _ h, List.nil_append, stepL_none _ _ (.inl rfl)]

end Go.Proofs.YtghfmbmdfojapaaGreatDoor.Vflat
