/- The program's Find and Names, and the law's awake. -/
import Derived.Lib.Builder
import Derived.Test.YtlnpahajkhdpjaaFmp
import Derived.Test.YtlnpahajkhdpjaaShelf
namespace Go.Proofs.Ytlnpahajkhdpjaa.Fnm
open Go Go.RowKit Go.Maps Go.Sort Go.Shelf Go.Proofs.Ytlnpahajkhdpjaa.Strs Go.Proofs.Ytlnpahajkhdpjaa.Srt Go.Proofs.Ytlnpahajkhdpjaa.Fpl Go.Proofs.Ytlnpahajkhdpjaa.Fmp
open Go.Proofs.Ytlnpahajkhdpjaa.Pure (bs)

/-- what Find answers -/
def findV (x : ByteArray) : Value := .tuple #[infV ((lookI tab x.data.toList).getD zero), .bool (lookI tab x.data.toList).isSome]

set_option maxRecDepth 100000 in
set_option maxHeartbeats 4000000 in
theorem find_is (s : ByteArray) (w : World) (hs : s.size ≤ maxLen) :
    Calls Try.prog 10 #[.string s] w fun e W' => e = .returned (findV s) ∧ Below w.heap.size w W' := by
  have HF := functions_is (w.alloc (.cells #[.int .i64 0, .int .i64 0, .bool false, .bool false] 28))
  have HL := Lib.hid (fun W (h : Made (w.alloc (.cells #[.int .i64 0, .int .i64 0, .bool false, .bool false] 28)) W tab) => h.lookup s hs)
  unfold findV
  unfold infV at HL ⊢
  generalize (lookI tab s.data.toList).getD zero = q at *
  generalize (lookI tab s.data.toList).isSome = r at *
  have HF := Lib.hid HF
  go_enter Try.func10, Try.ntmps10
  go_wp2_with fail
  refine HF.out.mono ?_
  rintro e W2 ⟨rfl, hm2⟩
  have hl := HL.out W2 hm2
  have hb2 := hm2.1
  have hg : W2.heap[w.heap.size]? = some (.cells #[.int .i64 0, .int .i64 0, .bool false, .bool false] 28 (0, 0)) := (hb2.block _ (by simp)).trans (heap_alloc_new w _)
  have hs2 := hb2.size
  rw [World.size_alloc] at hs2
  have hgo := (Lib.alloc_old W2 (.cells #[.int .i64 q.mn, .int .i64 q.mx, .bool q.lz, .bool q.pu] 28) w.heap.size (by omega)).trans hg
  have k0 : (W2.alloc (.cells #[.int .i64 q.mn, .int .i64 q.mx, .bool q.lz, .bool q.pu] 28)).cell? ⟨w.heap.size, 0, none⟩ = some (.int .i64 0) := by rw [Lib.cell_of_heap hgo]; rfl
  have k1 : (W2.alloc (.cells #[.int .i64 q.mn, .int .i64 q.mx, .bool q.lz, .bool q.pu] 28)).cell? ⟨w.heap.size, 1, none⟩ = some (.int .i64 0) := by rw [Lib.cell_of_heap hgo]; rfl
  have k2 : (W2.alloc (.cells #[.int .i64 q.mn, .int .i64 q.mx, .bool q.lz, .bool q.pu] 28)).cell? ⟨w.heap.size, 2, none⟩ = some (.bool false) := by rw [Lib.cell_of_heap hgo]; rfl
  have k3 : (W2.alloc (.cells #[.int .i64 q.mn, .int .i64 q.mx, .bool q.lz, .bool q.pu] 28)).cell? ⟨w.heap.size, 3, none⟩ = some (.bool false) := by rw [Lib.cell_of_heap hgo]; rfl
  have f0 : (W2.alloc (.cells #[.int .i64 q.mn, .int .i64 q.mx, .bool q.lz, .bool q.pu] 28)).frozen? ⟨w.heap.size, 0, none⟩ = false := Lib.frozen_of_heap hgo 0
  have f1 : (W2.alloc (.cells #[.int .i64 q.mn, .int .i64 q.mx, .bool q.lz, .bool q.pu] 28)).frozen? ⟨w.heap.size, 1, none⟩ = false := Lib.frozen_of_heap hgo 1
  have f2 : (W2.alloc (.cells #[.int .i64 q.mn, .int .i64 q.mx, .bool q.lz, .bool q.pu] 28)).frozen? ⟨w.heap.size, 2, none⟩ = false := Lib.frozen_of_heap hgo 2
  have f3 : (W2.alloc (.cells #[.int .i64 q.mn, .int .i64 q.mx, .bool q.lz, .bool q.pu] 28)).frozen? ⟨w.heap.size, 3, none⟩ = false := Lib.frozen_of_heap hgo 3
  have HB := Lib.hid ((alloc_below w (.cells #[.int .i64 0, .int .i64 0, .bool false, .bool false] 28)).trans (hb2.mono (by simp)))
  clear hb2 HF hg hgo HL hm2 hs
  rw [World.size_alloc] at hl
  go_wp2
  exact bodyPost_ret (v := .tuple #[.agg #[.int .i64 q.mn, .int .i64 q.mx, .bool q.lz, .bool q.pu], .bool r]) (by simp [results, Try.results10, go_sem, k0, k1, k2, k3]) rfl
    ⟨rfl, ((((HB.out.alloc (by omega) _).setCell (p := ⟨_, _, none⟩) (Nat.le_refl _) _).setCell (p := ⟨_, _, none⟩) (Nat.le_refl _) _).setCell (p := ⟨_, _, none⟩) (Nat.le_refl _) _).setCell (p := ⟨_, _, none⟩) (Nat.le_refl _) _⟩

/-! ### the library's -/
theorem sorts (m : Nat) : AnyZ.SortsIn Try.prog Try.sortedS_ren Fence.wide m :=
  ⟨fun blk off cap ss W hH hblk hsz => callsIn_wide.2 (Try.slices_Sort_string blk off cap ss W hH hblk hsz),
   fun p cap W => callsIn_wide.2 (Try.slices_Sort_string_none p cap W)⟩
theorem keys_call (mb : Option Nat) (W : World) : Calls Try.prog 14 #[.map mb] W fun e w' => e = .returned (.func (.func 21) #[] #[.pointer (some ⟨W.heap.size, 0, none⟩)]) ∧ w' = W.alloc (.cells #[.map mb] 43) :=
  (callsIn_wide (n := 5)).1 (AnyZ.keys_in Try.mapKeys Fence.wide 5 trivial rfl mb W)
set_option maxHeartbeats 1000000 in
theorem sorted_call {H : Type} (b nn : Nat) (D0 : DataW H) (R : Value → Option (DataW H × List MemPlace)) (w : World) (hown : w.ownsMap Try.prog 9 R b nn D0) (hmax : Maps.size D0 ≤ maxLen) (hbytes : Maps.size D0 * 16 ≤ 140737488355328) :
    Calls Try.prog 13 #[.func (.func 21) #[] #[.pointer (some ⟨w.heap.size, 0, none⟩)]] (w.alloc (.cells #[.map (some b)] 43)) fun e w' => ∃ (v : Value) (ss : List (List UInt8)), e = .returned v ∧ ss.Perm (strKeys D0) ∧
      w'.ownsRow (w.alloc (.cells #[.map (some b)] 43)).heap.size 9 1 v ss.length ((ss.mergeSort (fun x y => decide (x ≤ y))).map encStr) ∧ (v = .slice none 0 0 ↔ ss = []) ∧ Below (w.alloc (.cells #[.map (some b)] 43)).heap.size (w.alloc (.cells #[.map (some b)] 43)) w' := by
  have hbl := hown.lt
  have hseq : SeqGives Fence.wide 2 Try.prog 21 #[.pointer (some ⟨w.heap.size, 0, none⟩)] encStr (fun ss => ss.Perm (strKeys D0)) (Maps.size D0) (w.alloc (.cells #[.map (some b)] 43)) :=
    AnyZ.keys_gives (ρ := Try.mapKeys_ren) { Try.mapKeys with } Fence.wide _ trivial rfl (by omega) w.heap.size b nn D0 _ (by simp) (by simp) (by
      obtain ⟨es, clock, hb, Ft, hs, hD⟩ := hown
      exact ⟨es, clock, (Below.heap_alloc _ _ b hbl).trans hb, Ft, hs, hD⟩)
  exact (callsIn_wide (n := 5)).1 (AnyZ.sorted_in Try.sortedS Fence.wide 5 trivial trivial trivial trivial rfl (by omega) (sorts _) (enters_of Try.func20 (by kernel_rfl) rfl) 21 #[.pointer (some ⟨w.heap.size, 0, none⟩)] trivial (enters_of Try.func21 (by kernel_rfl) rfl) _ _ hmax hbytes _ hseq)

theorem sorted_eq {ss l : List T} (hp : ss.Perm l) (hn : l.Nodup) : ss.mergeSort (fun x y => decide (x ≤ y)) = sortT l := by
  symm
  refine sortT_eq (up_of_sorted (sorted_le ss) ?_) (fun x => ?_)
  · exact (List.mergeSort_perm _ _).nodup_iff.2 (hp.nodup_iff.2 hn)
  · exact ((List.mergeSort_perm _ _).mem_iff).trans hp.mem_iff
where
  up_of_sorted {l : List T} (h : l.Pairwise (· ≤ ·)) (hn : l.Nodup) : Up l := by
    unfold Up
    exact (List.pairwise_and_iff.2 ⟨h, hn⟩).imp fun {a b} hab => lt_of_le_ne hab.1 hab.2
theorem encs (l : List (List UInt8)) : l.map encStr = (l.map bs).map Value.string := by rw [List.map_map]; rfl

theorem Made.keys {w W : World} {l : List (T × Inf)} (h : Made w W l) (hn : (l.map Prod.fst).Nodup) :
    ∃ D n, W.ownsMap Try.prog 9 infElem w.heap.size n D ∧ n ≤ l.length ∧ (l.map Prod.fst).Perm (strKeys D) := by
  obtain ⟨_, D, n, ho, hle, hh, _⟩ := h
  refine ⟨D, n, ho, hle, Collected.perm (left := fun _ => false) ⟨hn, fun x => ?_⟩ ho KS Try.underlying9 (fun _ => rfl)⟩
  rw [← look_some, hh]; simp

/-- all names as texts -/
def namesB : List ByteArray := names.map bs

set_option maxRecDepth 100000 in
set_option maxHeartbeats 4000000 in
theorem names_is (w : World) :
    Calls Try.prog 6 #[] w fun e W' => ∃ A c, e = .returned (.slice A 35 c) ∧ SlIs W' A c namesB ∧ Below w.heap.size w W' := by
  have HF := Lib.hid (functions_is w)
  have hml : (maxLen : Nat) = 9223372036854775807 := by unfold maxLen; rfl
  go_enter Try.func6, Try.ntmps6
  go_wp2_with fail
  refine HF.out.mono ?_
  rintro e W2 ⟨rfl, hm2⟩
  obtain ⟨D, m, ho, hle, hperm⟩ := Made.keys hm2 tab_nodup
  have hsz := ho.size_le
  rw [tab_len] at hle
  have HS := Lib.hid (sorted_call w.heap.size m D infElem W2 ho (by omega) (by omega))
  have HR : Hid (∀ (v : Value) (ss : List (List UInt8)) (W4 : World), ss.Perm (strKeys D) → W4.ownsRow (W2.alloc (.cells #[.map (some w.heap.size)] 43)).heap.size 9 1 v ss.length ((ss.mergeSort (fun x y => decide (x ≤ y))).map encStr) → ∃ A c, v = .slice A 35 c ∧ SlIs W4 A c namesB) := fun v ss W4 hp hr => by
    have hk := sorted_eq (hp.trans hperm.symm) tab_nodup
    have hlen : ss.length = 35 := by
      rw [hp.length_eq, ← hperm.length_eq, List.length_map, tab_len]
    rw [hk, sort_tab, encs, hlen] at hr
    exact slIs_of_own (by rfl) hr
  have HB := Lib.hid hm2.1
  clear ho hle hperm hsz hm2 HF hml
  go_wp2_with fail
  refine (keys_call _ _).mono ?_
  rintro e w' ⟨rfl, rfl⟩
  go_wp2_with fail
  refine HS.out.mono ?_
  rintro e W4 ⟨v, ss, rfl, hp4, hr4, _, hb4⟩
  obtain ⟨A, c, rfl, hsl⟩ := HR.out v ss W4 hp4 hr4
  have HSl := Lib.hid hsl
  have HB4 := Lib.hid (HB.out.trans (((alloc_below W2 (.cells #[.map (some w.heap.size)] 43)).trans (hb4.mono (by simp))).mono HB.out.size))
  clear hp4 hr4 hb4 hsl HS HR HB
  go_wp2
  go_ret
  exact ⟨A, c, rfl, HSl.out, HB4.out⟩

end Go.Proofs.Ytlnpahajkhdpjaa.Fnm
