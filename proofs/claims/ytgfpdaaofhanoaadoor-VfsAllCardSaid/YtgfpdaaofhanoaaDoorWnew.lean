/- The document's New. -/
import Derived.Deep.DeepCutAuto
import Derived.Test.YtgfpdaaofhanoaaDoorWput
namespace Go.Proofs.YtgfpdaaofhanoaaDoor.Wnew
open Go.RowKit Go.Proofs.YtgfpdaaofhanoaaDoor.Pth Go.Proofs.YtgfpdaaofhanoaaDoor.Strs Go.Proofs.YtgfpdaaofhanoaaDoor.Vfs Go.Proofs.YtgfpdaaofhanoaaDoor.Vmap Go.Proofs.YtgfpdaaofhanoaaDoor.Vnames Go.Proofs.YtgfpdaaofhanoaaDoor.Vnew Go.Proofs.YtgfpdaaofhanoaaDoor.Vsort Go.Proofs.YtgfpdaaofhanoaaDoor.Vall Go.Proofs.YtgfpdaaofhanoaaDoor.Wfind Go.Proofs.YtgfpdaaofhanoaaDoor.Wfs Go.Proofs.YtgfpdaaofhanoaaDoor.Wown

/-- what the first k entries make -/
def upL (l : List Raw) (k : Nat) : List Ent := (l.take k).foldl putE []
theorem upL_succ {l : List Raw} {k : Nat} {x : Raw} (h : l[k]? = some x) : upL l (k + 1) = putE (upL l k) x := by
  obtain ⟨hk, rfl⟩ := List.getElem?_eq_some_iff.1 h
  unfold upL
  rw [List.take_succ_eq_append_getElem hk, List.foldl_append]; rfl
theorem upL_inv (l : List Raw) (k : Nat) : Vfs.Inv (upL l k) := foldl_inv _ inv_nil
theorem upL_small (l : List Raw) (k : Nat) (h : ∀ x ∈ l, RawSmall x) (hk : k ≤ 200) : Small 400000400 (upL l k) :=
  (foldl_small (l.take k) small_nil (fun x hx => h x (List.mem_of_mem_take hx))).mono (by rw [List.length_take]; have : min k l.length ≤ k := Nat.min_le_left _ _; omega)
theorem upL_all (l : List Raw) (k : Nat) (h : k = l.length ∨ k = 200) (hk : k ≤ 200) : upL l k = newL l := by
  unfold upL newL
  rcases h with h | h
  · rw [List.take_of_length_le (by omega), List.take_of_length_le (by omega)]
  · rw [h]

theorem f_start (w : World) : FOwn ((w.alloc (.cells #[.string ⟨#[47]⟩, .bool true, .string ⟨#[]⟩] 30)).alloc (.cells #[.slice (some ⟨w.heap.size, 0, none⟩) 1 1] 50)) w.heap.size (w.heap.size + 1) (rows []) := by
  refine ⟨by omega, .slice (some ⟨w.heap.size, 0, none⟩) 1 1, ?_, ?_, ?_⟩
  · have := heap_alloc_new (w.alloc (.cells #[.string ⟨#[47]⟩, .bool true, .string ⟨#[]⟩] 30)) (.cells #[.slice (some ⟨w.heap.size, 0, none⟩) 1 1] 50)
    rwa [World.size_alloc] at this
  · intro e
    have : w.heap.size + 1 = w.heap.size := Option.some.inj e
    omega
  · exact (World.ownsRow_lit (base := w.heap.size) (e := 30) (size := 3) w #[.string ⟨#[47]⟩, .bool true, .string ⟨#[]⟩] 1 (Nat.le_refl _) (by decide) rfl).alloc _

set_option maxRecDepth 100000 in
set_option maxHeartbeats 4000000 in
theorem new_is (A : Option Addr) (n c : Nat) (l : List Raw) (w : World) (hn : l.length = n) (h : EnIs w A c l) (hsm : ∀ x ∈ l, RawSmall x) :
    Calls Tryd.prog 8 #[.slice A n c] w fun e W' => ∃ f, e = .returned (.pointer (some ⟨f, 0, none⟩)) ∧ FOwn W' w.heap.size f (rows (newL l)) ∧ Below w.heap.size w W' := by
  have HN := Lib.hid hn
  have HL := Lib.hid h
  have HSM := Lib.hid hsm
  have HS := Lib.hid (f_start w)
  have hb0 : Below w.heap.size w ((w.alloc (.cells #[.string ⟨#[47]⟩, .bool true, .string ⟨#[]⟩] 30)).alloc (.cells #[.slice (some ⟨w.heap.size, 0, none⟩) 1 1] 50)) := (alloc_below w _).alloc (by simp) _
  have HB := Lib.hid hb0
  clear hn h hsm hb0
  go_enter Tryd.func8, Tryd.ntmps8
  go_wp2
  obtain ⟨f, hf⟩ : ∃ f, f = w.heap.size + 1 := ⟨_, rfl⟩
  rw [← hf] at HS ⊢
  clear hf
  generalize (w.alloc (.cells #[.string ⟨#[47]⟩, .bool true, .string ⟨#[]⟩] 30)).alloc (.cells #[.slice (some ⟨w.heap.size, 0, none⟩) 1 1] 50) = w0 at *
  go_loopw [4] (fun i wr => ∃ k : Nat, k ≤ n ∧ k ≤ 200 ∧ i = .int .i64 k ∧ Hid (FOwn wr w.heap.size f (rows (upL l k))) ∧ Hid (Below w.heap.size w wr)) (fun i _ => n - (intOf i).toNat)
  case atStart => exact ⟨0, Nat.zero_le _, Nat.zero_le _, rfl, HS, HB⟩
  case round =>
    obtain ⟨k, hk, hk2, rfl, HF, HBr⟩ := hrel
    by_cases hlt : k < n
    · by_cases hlt2 : k < 200
      · have hl : k < l.length := by have := HN.out; omega
        have hx : l[k]? = some l[k] := List.getElem?_eq_getElem hl
        obtain ⟨b, o, rfl, hb, hcc⟩ := HL.out.at_ hx
        obtain ⟨c1, c2, c3⟩ := hcc wr HBr.out
        have hxs := HSM.out _ (List.mem_of_getElem? hx)
        have hpz := parts_small l[k].path hxs.path
        have hput := Wput.put_is wr f w.heap.size (upL l k) l[k] 400000400 HF.out (upL_inv l k) hxs (upL_small l k HSM.out (by omega)) (by omega) HBr.out.size
        rw [← upL_succ hx] at hput
        have HPut := Lib.hid hput
        clear hput hx hcc hxs hpz hb
        generalize l[k].path = p at *
        generalize l[k].dir = d at *
        generalize l[k].text = t at *
        go_wp2_with fail
        refine HPut.out.mono ?_
        rintro e w3 ⟨rfl, hF3, hb3⟩
        have HF3 := Lib.hid hF3
        have HB3 := Lib.hid (HBr.out.trans hb3)
        clear hF3 hb3 HPut c1 c2 c3
        go_wp2_with fail
        go_roundw
        case rel => exact ⟨k + 1, by omega, by omega, by go_num, HF3, HB3⟩
        case measure => simp [intOf]; omega
      · have HE := Lib.hid (upL_all l k (.inr (by omega)) hk2)
        have hlt3 : ¬ ((k : Int) < 200) := by omega
        go_wp2
        go_ret
        exact ⟨f, rfl, by rw [← HE.out]; exact HF.out, HBr.out⟩
    · have HE := Lib.hid (upL_all l k (.inl (by have := HN.out; omega)) hk2)
      go_wp2
      go_ret
      exact ⟨f, rfl, by rw [← HE.out]; exact HF.out, HBr.out⟩

end Go.Proofs.YtgfpdaaofhanoaaDoor.Wnew
