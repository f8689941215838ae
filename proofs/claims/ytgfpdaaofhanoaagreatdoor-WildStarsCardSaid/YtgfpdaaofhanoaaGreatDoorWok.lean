/- What a walk wants of a file system and of a word (no program). -/
import Derived.Test.YtgfpdaaofhanoaaGreatDoorWal
namespace Go.Proofs.YtgfpdaaofhanoaaGreatDoor.Wok
open Go.RowKit Go.Proofs.YtgfpdaaofhanoaaGreatDoor.Pth Go.Proofs.YtgfpdaaofhanoaaGreatDoor.Strs Go.Proofs.YtgfpdaaofhanoaaGreatDoor.Vfs Go.Proofs.YtgfpdaaofhanoaaGreatDoor.Vmap Go.Proofs.YtgfpdaaofhanoaaGreatDoor.Vnames Go.Proofs.YtgfpdaaofhanoaaGreatDoor.Vnew Go.Proofs.YtgfpdaaofhanoaaGreatDoor.Vfind Go.Proofs.YtgfpdaaofhanoaaGreatDoor.Vlook Go.Proofs.YtgfpdaaofhanoaaGreatDoor.Wdp Go.Proofs.YtgfpdaaofhanoaaGreatDoor.Wst Go.Proofs.YtgfpdaaofhanoaaGreatDoor.Wsp Go.Proofs.YtgfpdaaofhanoaaGreatDoor.Wnm Go.Proofs.YtgfpdaaofhanoaaGreatDoor.Wwk Go.Proofs.YtgfpdaaofhanoaaGreatDoor.Wwt Go.Proofs.YtgfpdaaofhanoaaGreatDoor.Wlx Go.Proofs.YtgfpdaaofhanoaaGreatDoor.Wly Go.Proofs.YtgfpdaaofhanoaaGreatDoor.Wex

theorem flat_inj {a b : Wy} (ha : ∀ p ∈ a, 47 ∉ p) (hb : ∀ p ∈ b, 47 ∉ p) (h : flatL a = flatL b) : a = b := by
  by_cases h0 : a = []
  · subst h0
    exact (flatL_nil b h.symm).symm
  · have h1 : b ≠ [] := fun e => by
      rw [e] at h
      exact h0 (flatL_nil a h)
    have := split_flat0 a ha h0
    rw [h, split_flat0 b hb h1] at this
    exact (List.cons.inj this).2.symm
theorem FsOk.of {L : List Ent} (hi : Vfs.Inv L) (hL : L.length ≤ 900000) (hsz : ∀ e ∈ L, (flatL e.pt).length ≤ 400000) : FsOk L := by
  have hroot : ∀ e ∈ L, flatL e.pt ≠ [47] := fun e he h => by
    cases hp : e.pt with
    | nil => exact hi.ne e he hp
    | cons x r =>
      have hx := (hi.good e he x (by rw [hp]; exact List.mem_cons_self)).1
      rw [hp, flatL_cons] at h
      have h1 := (List.cons.inj h).2
      exact hx (List.append_eq_nil_iff.1 h1).1
  refine ⟨hi, hL, fun k hk => ?_, fun s x hx => ?_, fun s nd h => ?_, hroot⟩
  · unfold pathsL at hk
    rcases List.mem_cons.1 hk with rfl | h1
    · decide
    · obtain ⟨e, he, rfl⟩ := List.mem_map.1 h1
      exact hsz e he
  · unfold listN at hx
    split at hx
    · split at hx
      · rw [Srt.sortT_mem, kids_mem] at hx
        obtain ⟨e, he, hp⟩ := hx
        have := hsz e he
        rw [hp, flatL_app, List.length_append, flatL_cons, List.length_cons, List.length_append] at this
        omega
      · exact absurd hx List.not_mem_nil
    · exact absurd hx List.not_mem_nil
  · exact look_dir hroot (fun a ha b hb e => eq_of_pt hi.nodup ha hb (flat_inj (fun p hp => (hi.good a ha p hp).2.2.2) (fun p hp => (hi.good b hb p hp).2.2.2) e)) h

end Go.Proofs.YtgfpdaaofhanoaaGreatDoor.Wok
