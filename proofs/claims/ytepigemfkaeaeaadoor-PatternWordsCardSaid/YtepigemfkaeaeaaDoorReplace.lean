/- What the program's Replace answers. -/
import Derived.Test.YtepigemfkaeaeaaDoorMatch
namespace Go.Proofs.YtepigemfkaeaeaaDoor.Replace
open Go.RowKit Go.Proofs.YtepigemfkaeaeaaDoor.Pat Go.Proofs.YtepigemfkaeaeaaDoor.Build Go.Proofs.YtepigemfkaeaeaaDoor.Of Go.Proofs.YtepigemfkaeaeaaDoor.Match

/-- a method value -/
def metV (f : Nat) (v : Value) : Value := .func (.func f) #[v] #[]

theorem stem_le (h : Bool) (a b x : ByteArray) : (stemB h a b x).size ≤ x.size := by
  unfold stemB
  split
  · rw [ByteArray.size_extract]; omega
  · exact Nat.zero_le _

set_option maxHeartbeats 1000000 in
/-- a word that does not match stays -/
theorem rewrite_no (h h' : Bool) (a b a' b' x : ByteArray) (w : World) (ha : a.size ≤ 1099511627776) (hb : b.size ≤ 1099511627776) (hx : x.size ≤ maxLen) (hok : okB h a b x = false) :
    Calls Tryd.prog 28 #[.func (.func 11) #[.agg #[.bool h, .string a, .string b]] #[], .func (.func 15) #[.agg #[.bool h', .string a', .string b']] #[], .string x] w fun e W' => e = .returned (.tuple #[.string x, .bool false]) ∧ Below w.heap.size w W' := by
  have HM := Lib.hid (fun W => match_is h a b x W ha hb hx)
  rw [hok] at HM
  clear hok
  generalize stemB h a b x = y at HM
  go_enter Tryd.func28, Tryd.ntmps28
  go_wp2_with fail
  refine (HM.out _).mono ?_
  rintro e w1 ⟨rfl, hb1⟩
  have B1 := Lib.hid hb1
  clear hb1
  go_wp2
  go_ret2
  exact ⟨rfl, B1.out⟩

set_option maxHeartbeats 1000000 in
/-- a word that matches is put -/
theorem rewrite_yes (h h' : Bool) (a b a' b' x : ByteArray) (w : World) (ha : a.size ≤ 1099511627776) (hb : b.size ≤ 1099511627776) (hx : x.size ≤ 1099511627776) (ha' : a'.size ≤ 1099511627776) (hb' : b'.size ≤ 1099511627776) (hok : okB h a b x = true) :
    Calls Tryd.prog 28 #[.func (.func 11) #[.agg #[.bool h, .string a, .string b]] #[], .func (.func 15) #[.agg #[.bool h', .string a', .string b']] #[], .string x] w fun e W' => e = .returned (.tuple #[.string (putB h' a' b' (stemB h a b x)), .bool true]) ∧ Below w.heap.size w W' := by
  have HM := Lib.hid (fun W => match_is h a b x W ha hb (Nat.le_trans hx (by unfold maxLen; omega)))
  have hy := stem_le h a b x
  rw [hok] at HM
  clear hok
  generalize stemB h a b x = y at HM hy
  have HP := Lib.hid (fun W => put_is h' a' b' y W ha' hb' (by omega))
  generalize putB h' a' b' y = z at HP
  go_enter Tryd.func28, Tryd.ntmps28
  go_wp2_with fail
  refine (HM.out _).mono ?_
  rintro e w1 ⟨rfl, hb1⟩
  have B1 := Lib.hid hb1
  clear hb1
  go_wp2_with fail
  refine (HP.out _).mono ?_
  rintro e w2 ⟨rfl, hb2⟩
  have B2 := Lib.hid (B1.out.trans (hb2.mono B1.out.size))
  clear hb2
  go_wp2
  go_ret2
  exact ⟨rfl, B2.out⟩

/-- a word by another pattern -/
def okR (f x : ByteArray) : Bool := okB (hasB f) (preB f) (postB f) x
def outR (f t x : ByteArray) : ByteArray := if okR f x then (if hasB f then putB (hasB t) (preB t) (postB t) (stemB (hasB f) (preB f) (postB f) x) else t) else x

theorem rewrite_is (h h' : Bool) (a b a' b' x : ByteArray) (w : World) (ha : a.size ≤ 1099511627776) (hb : b.size ≤ 1099511627776) (hx : x.size ≤ 1099511627776) (ha' : a'.size ≤ 1099511627776) (hb' : b'.size ≤ 1099511627776) :
    Calls Tryd.prog 28 #[.func (.func 11) #[.agg #[.bool h, .string a, .string b]] #[], .func (.func 15) #[.agg #[.bool h', .string a', .string b']] #[], .string x] w fun e W' => e = .returned (.tuple #[.string (if okB h a b x then putB h' a' b' (stemB h a b x) else x), .bool (okB h a b x)]) ∧ Below w.heap.size w W' := by
  cases hok : okB h a b x
  · exact rewrite_no h h' a b a' b' x w ha hb (Nat.le_trans hx (by unfold maxLen; omega)) hok
  · exact rewrite_yes h h' a b a' b' x w ha hb hx ha' hb' hok

set_option maxHeartbeats 2000000 in
/-- the program's Replace -/
theorem replace_is (f t x : ByteArray) (w : World) (hf : f.size ≤ 1099511627776) (ht : t.size ≤ 1099511627776) (hx : x.size ≤ 1099511627776) :
    Calls Tryd.prog 13 #[.string f, .string t, .string x] w fun e W' => e = .returned (.tuple #[.string (outR f t x), .bool (okR f x)]) ∧ Below w.heap.size w W' := by
  have HO := Lib.hid (fun W => of_is f W hf)
  have HT := Lib.hid (fun W => of_is t W ht)
  have f1 := Nat.le_trans (preB_le f) hf
  have f2 := Nat.le_trans (postB_le f) hf
  have t1 := Nat.le_trans (preB_le t) ht
  have t2 := Nat.le_trans (postB_le t) ht
  unfold outR okR
  generalize hh : hasB f = h at HO
  generalize preB f = a at HO f1
  generalize postB f = b at HO f2
  generalize hasB t = h' at HT
  generalize preB t = a' at HT t1
  generalize postB t = b' at HT t2
  clear hh
  have e0 : (⟨#[]⟩ : ByteArray).size ≤ 1099511627776 := by decide
  cases h with
  | false =>
    have HR := Lib.hid (fun W => rewrite_is false false a b t ⟨#[]⟩ x W f1 f2 hx ht e0)
    have HY : Hid ((if okB false a b x = true then putB false t ⟨#[]⟩ (stemB false a b x) else x) = (if okB false a b x = true then if false = true then putB h' a' b' (stemB false a b x) else t else x)) := rfl
    rw [HY.out] at HR
    clear HY HT
    generalize (if okB false a b x = true then if false = true then putB h' a' b' (stemB false a b x) else t else x) = y at HR
    generalize okB false a b x = o at HR
    go_enter Tryd.func13, Tryd.ntmps13
    go_wp2_with fail
    refine (HO.out _).mono ?_
    rintro e w1 ⟨rfl, hb1⟩
    have B1 := Lib.hid hb1
    have hs1 := hb1.size
    clear hb1
    unfold patV
    go_wp2_with fail
    refine (HR.out _).mono ?_
    rintro e w2 ⟨rfl, hb2⟩
    have B2 := Lib.hid ((B1.out.alloc hs1 _).trans (hb2.mono (by simp; omega)))
    clear hb2
    go_wp2
    go_ret2
    exact ⟨rfl, B2.out⟩
  | true =>
    have HR := Lib.hid (fun W => rewrite_is true h' a b a' b' x W f1 f2 hx t1 t2)
    have HY : Hid ((if okB true a b x = true then putB h' a' b' (stemB true a b x) else x) = (if okB true a b x = true then if true = true then putB h' a' b' (stemB true a b x) else t else x)) := rfl
    rw [HY.out] at HR
    clear HY
    generalize (if okB true a b x = true then if true = true then putB h' a' b' (stemB true a b x) else t else x) = y at HR
    generalize okB true a b x = o at HR
    go_enter Tryd.func13, Tryd.ntmps13
    go_wp2_with fail
    refine (HO.out _).mono ?_
    rintro e w1 ⟨rfl, hb1⟩
    have B1 := Lib.hid hb1
    have hs1 := hb1.size
    clear hb1
    unfold patV at HT ⊢
    go_wp2_with fail
    refine (HT.out _).mono ?_
    rintro e w2 ⟨rfl, hb2⟩
    have B2 := Lib.hid ((B1.out.alloc hs1 _).trans (hb2.mono (by simp; omega)))
    have c0 : w2.cell? ⟨w1.heap.size, 0, none⟩ = some (.bool true) := (hb2.cell (p := ⟨w1.heap.size, 0, none⟩) (by simp)).trans (cell_of_row _ _ 0 _ _ _ (heap_alloc_new w1 _))
    have c1 : w2.cell? ⟨w1.heap.size, 1, none⟩ = some (.string a) := (hb2.cell (p := ⟨w1.heap.size, 1, none⟩) (by simp)).trans (cell_of_row _ _ 1 _ _ _ (heap_alloc_new w1 _))
    have c2 : w2.cell? ⟨w1.heap.size, 2, none⟩ = some (.string b) := (hb2.cell (p := ⟨w1.heap.size, 2, none⟩) (by simp)).trans (cell_of_row _ _ 2 _ _ _ (heap_alloc_new w1 _))
    clear hb2 hs1
    have hs2 := B2.out.size
    go_wp2_with fail
    refine (HR.out _).mono ?_
    rintro e w3 ⟨rfl, hb3⟩
    have B3 := Lib.hid (B2.out.trans (hb3.mono hs2))
    clear hb3
    go_wp2
    go_ret2
    exact ⟨rfl, B3.out⟩

end Go.Proofs.YtepigemfkaeaeaaDoor.Replace
