/- The laws' words, as lines want them. -/
import Derived.Test.YtcopddepnphfmaaDoorWord
import Derived.Test.YtcopddepnphfmaaDoorLrows
import Derived.Test.YtcopddepnphfmaaDoorLrefb
namespace Go.Proofs.YtcopddepnphfmaaDoor.Lwords
open Go.RowKit Go.Proofs.YtcopddepnphfmaaDoor.Pure Go.Proofs.YtcopddepnphfmaaDoor.Ln Go.Proofs.YtcopddepnphfmaaDoor.Lrows Go.Proofs.YtcopddepnphfmaaDoor.Place Go.Proofs.YtcopddepnphfmaaDoor.Word

/-- the p-th word -/
def wl (p : Nat) : List UInt8 := wordList.getD p []
theorem wordAt_bs (p : Nat) : wordAt p = bs (wl p) := rfl
def goodW (l : List UInt8) : Bool := (l.all fun c => c != 10 && c != 35 && c != 92 && c != 9 && c != 32) && !l.isEmpty && decide (l.length ≤ 20)
theorem good_all : ((List.range 16).all fun p => goodW (wl p)) = true := by kernel_rfl
theorem good_is (p : Nat) (hp : p < 16) : goodW (wl p) = true := List.all_eq_true.1 good_all p (List.mem_range.2 hp)
structure Gw (l : List UInt8) : Prop where
  no : ∀ c ∈ l, c ≠ 10 ∧ c ≠ 35 ∧ c ≠ 92 ∧ c ≠ 9 ∧ c ≠ 32
  ne : l ≠ []
  len : l.length ≤ 20
theorem gw_of {l : List UInt8} (h : goodW l = true) : Gw l := by
  unfold goodW at h
  rw [Bool.and_eq_true, Bool.and_eq_true] at h
  obtain ⟨⟨h1, h2⟩, h3⟩ := h
  refine ⟨fun c hc => ?_, by simpa using h2, by simpa using h3⟩
  have := List.all_eq_true.1 h1 c hc
  simp at this
  exact ⟨this.1.1.1.1, this.1.1.1.2, this.1.1.2, this.1.2, this.2⟩
theorem gw_word (p : Nat) (hp : p < 16) : Gw (wl p) := gw_of (good_is p hp)
theorem tb_none {l : List UInt8} (h : ∀ c ∈ l, c ≠ 92) : tb l = 0 := by
  rcases Nat.eq_zero_or_pos (tb l) with h0 | h0
  · exact h0
  · obtain ⟨u, rfl⟩ := tb_pos h0
    exact absurd rfl (h 92 (by simp))
theorem Gw.ok {l : List UInt8} (h : Gw l) : OkW l := ⟨fun c hc => (h.no c hc).1, tb_none (fun c hc => (h.no c hc).2.2.1)⟩
/-- a number's word -/
theorem word_gw (v : Int) (hv : (Lit.int .i64 v).wf = true) :
    ∃ l, Gw l ∧ ∀ W, Calls Tryd.prog 20 #[.int .i64 v] W fun e w' => e = .returned (.string (bs l)) ∧ W = w' :=
  ⟨wl (place v 16), gw_word _ (place_lt v 16 (by omega)), fun W => word_is v W hv⟩
theorem add_l (a b : List UInt8) (W : World) (h : a.length + b.length ≤ 1000000) : (Op.stringOp .add (bs a) (bs b)).run Tryd.prog W = .ok (.string (bs (a ++ b))) W :=
  Lrefb.add_is _ _ _ W (Lrefb.bs_app a b) (by rw [size_bs, size_bs]; omega)

end Go.Proofs.YtcopddepnphfmaaDoor.Lwords
