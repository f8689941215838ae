/- The document's Look and the program's (no program). -/
import Derived.Test.YtgfpdaaofhanoaaDoorWlook
namespace Go.Proofs.YtgfpdaaofhanoaaDoor.Wlink
open Go.Proofs.YtgfpdaaofhanoaaDoor.Pth Go.Proofs.YtgfpdaaofhanoaaDoor.Vfs Go.Proofs.YtgfpdaaofhanoaaDoor.Vmap Go.Proofs.YtgfpdaaofhanoaaDoor.Vnames Go.Proofs.YtgfpdaaofhanoaaDoor.Vnew Go.Proofs.YtgfpdaaofhanoaaDoor.Vfind Go.Proofs.YtgfpdaaofhanoaaDoor.Vall Go.Proofs.YtgfpdaaofhanoaaDoor.Wfind Go.Proofs.YtgfpdaaofhanoaaDoor.Wfs Go.Proofs.YtgfpdaaofhanoaaDoor.Wlook

def rawN (q : Nd) : Raw := ⟨q.p, q.d, q.t⟩
/-- both look alike -/
theorem look_both {L : List Ent} (hi : Vfs.Inv L) (s : ByteArray) : lk (rows L) s = (lookN L s).map rawN := by
  unfold lk lookN
  by_cases h0 : s.size = 0
  · rw [if_pos h0, if_pos h0]; rfl
  · rw [if_neg h0, if_neg h0]
    have hT : bs (absL s.data.toList) = absT (partsOf s) := by
      rcases abs_text s with h1 | ⟨h1, _⟩
      · exact h1
      · exfalso
        have hd : s.data.toList ≠ [] := fun e => h0 (by rw [← len_data, e]; rfl)
        rw [absL_some _ hd] at h1
        have := congrArg ByteArray.size h1
        rw [size_bs, show (⟨#[]⟩ : ByteArray).size = 0 from rfl] at this
        unfold orSlash at this
        split at this <;> simp at this
    rw [hT]
    have hg := partsOf_good s
    generalize partsOf s = p at *
    unfold nodeAt
    by_cases hp : p = []
    · subst hp
      rw [if_pos rfl]
      rfl
    · rw [if_neg hp, absT_ne hp]
      cases ha : at_ L p with
      | none =>
        have := ix_no hi hg ha
        rcases ix_find (rows L) (pathB p) with ⟨h1, _⟩ | ⟨k, x, _, _, h3⟩
        · rw [h1]; rfl
        · rw [this] at h3; omega
      | some e =>
        obtain ⟨k, hk, hx, hix⟩ := ix_yes hi hg ha
        rcases ix_find (rows L) (pathB p) with ⟨_, h2⟩ | ⟨k', x, h1, h2, h3⟩
        · rw [hix] at h2; omega
        · rw [hix] at h3
          have hkk : k' = k + 1 := by omega
          subst hkk
          rw [h2]
          have hxe : x = rawOf e := Option.some.inj (h1.symm.trans hx)
          rw [hxe]; rfl

end Go.Proofs.YtgfpdaaofhanoaaDoor.Wlink
