/- The parts of a path are its names (no program). -/
import Derived.Test.YtgfpdaaofhanoaaDoorVlook
namespace Go.Proofs.YtgfpdaaofhanoaaDoor.Vflat
open Go.Proofs.YtgfpdaaofhanoaaDoor.Pth Go.Proofs.YtgfpdaaofhanoaaDoor.Srt Go.Proofs.YtgfpdaaofhanoaaDoor.Vfs Go.Proofs.YtgfpdaaofhanoaaDoor.Vmap Go.Proofs.YtgfpdaaofhanoaaDoor.Vfind Go.Proofs.YtgfpdaaofhanoaaDoor.Vlook

theorem split_end : ∀ (r : Wy) (x t : List UInt8), 47 ∉ x → (∀ p ∈ r, 47 ∉ p) → splitL (x ++ (flatL r ++ 47 :: t)) = (x :: r) ++ splitL t
  | [], x, t, hx, _ => splitL_app x t hx
  | y :: r, x, t, hx, h => by
    rw [flatL_cons]
    show splitL (x ++ 47 :: (y ++ flatL r ++ 47 :: t)) = _
    rw [splitL_app _ _ hx, List.append_assoc, split_end r y t (h y List.mem_cons_self) (fun p hp => h p (List.mem_cons_of_mem _ hp))]
    rfl
theorem parts_flat (p : Wy) (h : ∀ x ∈ p, Pth.Good x) (h0 : p ≠ []) : partsOf (bs (flatL p)) = p := by
  unfold partsOf
  rw [data_bs, split_flat0 p (fun x hx => (h x hx).2.2.2) h0, pile_nil, pileL_stays _ _ h, List.nil_append]
theorem parts_slash (p : Wy) (h : ∀ x ∈ p, Pth.Good x) : partsOf (bs (flatL p ++ [47])) = p := by
  unfold partsOf
  rw [data_bs]
  have e : splitL (flatL p ++ [47]) = [] :: (p ++ [[]]) := by
    cases p with
    | nil => rfl
    | cons x r =>
      rw [flatL_cons]
      show splitL (47 :: (x ++ flatL r ++ [47])) = _
      rw [splitL_slash, List.append_assoc, split_end r x [] (h x List.mem_cons_self).2.2.2 (fun q hq => (h q (List.mem_cons_of_mem _ hq)).2.2.2)]
      rfl
  rw [e, pile_nil, pileL_snoc, pileL_stays _ _ h, List.nil_append, stepL_none _ _ (.inl rfl)]

end Go.Proofs.YtgfpdaaofhanoaaDoor.Vflat
