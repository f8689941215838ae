/- Plain facts: a text with one percent in its midst, read as a pattern; what it matches. -/
import Derived.Test.YtepigemfkaeaeaaDoorReplace
namespace Go.Proofs.YtepigemfkaeaeaaDoor.Mid
open Go.RowKit Go.Proofs.YtepigemfkaeaeaaDoor.Pat Go.Proofs.YtepigemfkaeaeaaDoor.Of Go.Proofs.YtepigemfkaeaeaaDoor.Match Go.Proofs.YtepigemfkaeaeaaDoor.Replace

theorem trail_zero (p : List UInt8) (h : 92 ∉ p) : trail p = 0 := by
  rcases List.eq_nil_or_concat p with rfl | ⟨q, c, rfl⟩
  · rfl
  · rw [List.concat_eq_append] at h ⊢
    rw [trail_snoc, if_neg (fun e => h (by simp [e]))]
theorem ofL_mid (a b : List UInt8) (h1 : 37 ∉ a) (h2 : 92 ∉ a) : ofL (a ++ 37 :: b) = ⟨true, a, b⟩ := by
  rw [ofL, go_some a b [] h1, trail_zero a h2, if_pos rfl]
  simp
theorem mid_data (a b : ByteArray) : (a ++ (⟨#[37]⟩ : ByteArray) ++ b).data.toList = a.data.toList ++ 37 :: b.data.toList := by
  rw [app_data, app_data]; simp
theorem has_mid (a b : ByteArray) (h1 : 37 ∉ a.data.toList) (h2 : 92 ∉ a.data.toList) : hasB (a ++ (⟨#[37]⟩ : ByteArray) ++ b) = true := by
  rw [hasB, mid_data, ofL_mid _ _ h1 h2]
theorem pre_mid (a b : ByteArray) (h1 : 37 ∉ a.data.toList) (h2 : 92 ∉ a.data.toList) : preB (a ++ (⟨#[37]⟩ : ByteArray) ++ b) = a := by
  rw [preB, mid_data, ofL_mid _ _ h1 h2, bs_self]
theorem post_mid (a b : ByteArray) (h1 : 37 ∉ a.data.toList) (h2 : 92 ∉ a.data.toList) : postB (a ++ (⟨#[37]⟩ : ByteArray) ++ b) = b := by
  rw [postB, mid_data, ofL_mid _ _ h1 h2, bs_self]
theorem size_app (a b : ByteArray) : (a ++ b).size = a.size + b.size := ByteArray.size_append
theorem mid_size (a b : ByteArray) : (a ++ (⟨#[37]⟩ : ByteArray) ++ b).size = a.size + b.size + 1 := by
  rw [size_app, size_app]
  have : (⟨#[37]⟩ : ByteArray).size = 1 := rfl
  omega

/-- Of, of a text with one percent in its midst -/
theorem of_mid (a b : ByteArray) (w : World) (h1 : 37 ∉ a.data.toList) (h2 : 92 ∉ a.data.toList) (hs : a.size + b.size ≤ 1000000) :
    Calls Tryd.prog 9 #[.string (a ++ (⟨#[37]⟩ : ByteArray) ++ b)] w fun e W' => e = .returned (.agg #[.bool true, .string a, .string b]) ∧ Below w.heap.size w W' :=
  (of_is _ w (by rw [mid_size]; omega)).mono fun e W' ⟨he, hb⟩ => ⟨he.trans (patV_eq (has_mid a b h1 h2).symm (pre_mid a b h1 h2).symm (post_mid a b h1 h2).symm).symm, hb⟩

/-- what is put together fits -/
theorem fits_mid (a m b : ByteArray) : fits a b (a ++ m ++ b) = true := by
  unfold fits
  rw [size_app, size_app, decide_eq_true (by omega), app_data, app_data, Lib.hasPrefix, Lib.hasSuffix, Bool.true_and, Bool.and_eq_true, List.isPrefixOf_iff_prefix, List.isSuffixOf_iff_suffix]
  exact ⟨⟨m.data.toList ++ b.data.toList, by simp⟩, ⟨a.data.toList ++ m.data.toList, by simp⟩⟩
theorem stem_mid (a m b : ByteArray) : stemB true a b (a ++ m ++ b) = m := by
  unfold stemB
  rw [fits_mid, Bool.and_true, if_pos rfl]
  apply ext_data
  rw [size_app, size_app, Nat.add_sub_cancel, ← Lib.mk_data (a ++ m ++ b), Lib.extract_mk, app_data, app_data, Lib.size_eq, Lib.size_eq]
  simp
/-- what fits is put together of its stem -/
theorem put_stem (a b x : ByteArray) (h : fits a b x = true) : a ++ stemB true a b x ++ b = x := by
  have e : stemB true a b x = x.extract a.size (x.size - b.size) := by unfold stemB; rw [h, Bool.and_true, if_pos rfl]
  unfold fits at h
  rw [Bool.and_eq_true, Bool.and_eq_true, decide_eq_true_eq, Lib.hasPrefix, Lib.hasSuffix, List.isPrefixOf_iff_prefix, List.isSuffixOf_iff_suffix] at h
  obtain ⟨h1, ⟨p, h2⟩, ⟨q, h3⟩⟩ := h
  rw [e]
  apply ext_data
  rw [app_data, app_data, ← Lib.mk_data x, Lib.extract_mk]
  rw [Lib.size_eq, Lib.size_eq, Lib.size_eq] at *
  rw [Lib.mk_data]
  show a.data.toList ++ ((x.data.toList.drop a.data.toList.length).take (x.data.toList.length - b.data.toList.length - a.data.toList.length)) ++ b.data.toList = x.data.toList
  generalize a.data.toList = la at *
  generalize b.data.toList = lb at *
  generalize x.data.toList = lx at *
  have hp : lx.drop la.length = p := by rw [← h2]; simp
  have hlp : lx.length = la.length + p.length := by rw [← h2]; simp
  have hlq : lx.length = q.length + lb.length := by rw [← h3]; simp
  have hp2 : p = p.take (p.length - lb.length) ++ lb := by
    have e1 : p.drop (p.length - lb.length) = lb := by
      rw [← hp, List.drop_drop, ← h3]
      have : la.length + ((List.drop la.length (q ++ lb)).length - lb.length) = q.length := by simp at *; omega
      rw [this]; simp
    have := List.take_append_drop (p.length - lb.length) p
    rw [e1] at this
    exact this.symm
  rw [hp]
  have e3 : lx.length - lb.length - la.length = p.length - lb.length := by omega
  rw [e3, List.append_assoc, ← hp2, h2]

end Go.Proofs.YtepigemfkaeaeaaDoor.Mid
