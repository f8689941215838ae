/- What the program's reader of patterns answers: the next piece, whatever it is. -/
import Derived.Test.YtgfpdaaofhanoaaGreatDoorGpiece
namespace Go.Proofs.YtgfpdaaofhanoaaGreatDoor.Gnextis
open Go.RowKit Go.Proofs.YtgfpdaaofhanoaaGreatDoor.Gset Go.Proofs.YtgfpdaaofhanoaaGreatDoor.Gops Go.Proofs.YtgfpdaaofhanoaaGreatDoor.Glb Go.Proofs.YtgfpdaaofhanoaaGreatDoor.Gread Go.Proofs.YtgfpdaaofhanoaaGreatDoor.Gnext Go.Proofs.YtgfpdaaofhanoaaGreatDoor.Gpiece

theorem neq_lit {c : UInt8} {n : UInt8} (h : ¬ c = n) : (((c.toNat : Nat) : Int) == ((n.toNat : Nat) : Int)) = false := by rw [u8_eq]; simpa using h
theorem eq_lit {c : UInt8} {n : UInt8} (h : c = n) : ((c.toNat : Nat) : Int) = ((n.toNat : Nat) : Int) := by rw [h]
theorem fix {a a' : Pc} {r r' : ByteArray} {o o' : Bool} {g : Nat} {w : World} {f : FuncId} {args : Array Value} (h : Calls Tryz.prog f args w fun e W' => e = .returned (pcV a) ∧ RdAt g r o W' ∧ Only g w W') (h1 : a = a') (h2 : r = r') (h3 : o = o') :
    Calls Tryz.prog f args w fun e W' => e = .returned (pcV a') ∧ RdAt g r' o' W' ∧ Only g w W' := by
  subst h1 h2 h3; exact h
/-- the next piece -/
theorem next_is (g : Nat) (u : ByteArray) (o : Bool) (w : World) (h : RdAt g u o w) (hz : 0 < u.size) (hs : u.size ≤ 1000000) :
    Calls Tryz.prog 64 #[.pointer (some ⟨g, 0, none⟩)] w fun e W' => e = .returned (pcV (nextP u.data.toList o)) ∧ RdAt g (bs (nextR u.data.toList o)) (nextO u.data.toList o) W' ∧ Only g w W' := by
  have hh := head_of u hz
  have hx : u.extract 1 u.size = bs (u.data.toList.drop 1) := from_eq u 1
  have hd : (u.extract 1 u.size).data.toList = u.data.toList.drop 1 := Lib.extract_to_end u 1
  by_cases c1 : u[0] = 42
  · refine fix (next_star g u o w h hz hs (eq_lit c1)) ?_ ?_ ?_
    · rw [hh]; simp only [nextP, if_pos c1]
    · rw [hx]; conv => rhs; rw [hh]
      simp only [nextR, if_pos c1]
    · rw [hh]; simp only [nextO, c1]; rfl
  · by_cases c2 : u[0] = 63
    · refine fix (next_any g u o w h hz hs (eq_lit c2)) ?_ ?_ ?_
      · rw [hh]; simp only [nextP, if_neg c1, if_pos c2]
      · rw [hx]; conv => rhs; rw [hh]
        simp only [nextR, if_neg c1, if_pos c2]
      · rw [hh]; simp only [nextO, c2]; rfl
    · by_cases c3 : u[0] = 91
      · cases o with
        | true =>
          refine fix (next_shut g u w h hz hs (eq_lit c3)) ?_ ?_ ?_
          · rw [hh]; simp only [nextP, if_neg c1, if_neg c2, if_pos c3, if_true]
          · conv => rhs; rw [hh]
            simp only [nextR, if_neg c1, if_neg c2, if_pos c3, if_true]; rw [← hh]
          · rw [hh]; simp only [nextO, if_pos c3, if_true]
        | false =>
          cases hr : readSet (u.data.toList.drop 1) with
          | none =>
            refine fix (next_open g u w h hz hs (eq_lit c3) (by rw [hd]; exact hr)) ?_ ?_ ?_
            · rw [hh]; simp only [nextP, if_neg c1, if_neg c2, if_pos c3, hr]; rfl
            · conv => rhs; rw [hh]
              simp only [nextR, if_neg c1, if_neg c2, if_pos c3, hr]; rw [← hh]; rfl
            · rw [hh]; simp only [nextO, if_pos c3, hr]; rfl
          | some x =>
            obtain ⟨p, t⟩ := x
            refine fix (next_set g u (bs t) p w h hz hs (eq_lit c3) (by rw [hd, bs_data]; exact hr)) ?_ ?_ ?_
            · rw [hh]; simp only [nextP, if_neg c1, if_neg c2, if_pos c3, hr]; rfl
            · conv => rhs; rw [hh]
              simp only [nextR, if_neg c1, if_neg c2, if_pos c3, hr]; rfl
            · rw [hh]; simp only [nextO, if_pos c3, hr]; rfl
      · refine fix (next_byte g u o w h hz hs (neq_lit c1) (neq_lit c2) (neq_lit c3)) ?_ ?_ ?_
        · rw [hh]; simp only [nextP, if_neg c1, if_neg c2, if_neg c3]
        · conv => rhs; rw [hh]
          simp only [nextR, if_neg c1, if_neg c2, if_neg c3]; rw [← hh]
        · rw [hh]; simp only [nextO, if_neg c3]
end Go.Proofs.YtgfpdaaofhanoaaGreatDoor.Gnextis
