/- Texts by numbers: what a makefile's line is made of. -/
import Derived.Test.YtcopddepnphfmaaDoorTbig
namespace Go.Proofs.YtcopddepnphfmaaDoor.Tlh
open Go.RowKit Go.Proofs.YtcopddepnphfmaaDoor.Pure Go.Proofs.YtcopddepnphfmaaDoor.Place Go.Proofs.YtcopddepnphfmaaDoor.Nums Go.Proofs.YtcopddepnphfmaaDoor.Range Go.Proofs.YtcopddepnphfmaaDoor.Tnum Go.Proofs.YtcopddepnphfmaaDoor.Tidx Go.Proofs.YtcopddepnphfmaaDoor.Tone Go.Proofs.YtcopddepnphfmaaDoor.Ttext Go.Proofs.YtcopddepnphfmaaDoor.Tctl Go.Proofs.YtcopddepnphfmaaDoor.Tbig

/-- the answer of a line: its size goes with the numbers that it took -/
def SaidL (tp : Nat) (A : Option Addr) (n c : Nat) (zs : List Int) (a : Nat) (w : World) (e : Ending) (W : World) : Prop := ∃ s b, s.size ≤ 8200 * (b - a) + 4100 ∧ e = .returned (.string s) ∧ a ≤ b ∧ TS tp A n c zs b W ∧ Out [tp] w W
theorem said_line {tp : Nat} {A : Option Addr} {n c : Nat} {zs : List Int} {a : Nat} {w : World} {e : Ending} {W : World} (h : Said 4100 tp A n c zs a w e W) : SaidL tp A n c zs a w e W := by
  obtain ⟨s, hs, he, b, l, _, t, o⟩ := h
  exact ⟨s, b, by omega, he, l, t, o⟩
theorem recipe_aft {tp : Nat} {A : Option Addr} {n c : Nat} {zs : List Int} {a : Nat} {w W : World} (h : After tp A n c zs a w W) :
    Calls Tryd.prog 56 #[.pointer (some ⟨tp, 0, none⟩)] W fun e V => ∃ x, x ∈ recipeL ∧ e = .returned (.string (bs x)) ∧ After tp A n c zs a w V := by
  obtain ⟨a1, l1, p1, t1, o1⟩ := h
  refine (recipe_is tp A n c zs a1 W t1).mono ?_
  rintro e V ⟨x, hx, he, haf⟩
  exact ⟨x, hx, he, aft_comp l1 p1 o1 haf⟩
theorem recipe_len {x : List UInt8} (h : x ∈ recipeL) : Hid ((bs x).size ≤ 20) := hid_len x (by
  have : (recipeL.all fun x => decide (x.length ≤ 20)) = true := by decide
  simpa using List.all_eq_true.1 this _ h)
theorem word_num (q : Nat) (hq : q < 1000) : ∃ l : List UInt8, Hid ((bs l).size ≤ 20) ∧ ∀ W, Calls Tryd.prog 20 #[.int .i64 (q : Int)] W fun e w' => e = .returned (.string (bs l)) ∧ W = w' := by
  obtain ⟨l, g, h⟩ := Lwords.word_gw (q : Int) (by simp [Lit.wf, IntKind.min, IntKind.max, IntKind.signed, IntKind.bits]; omega)
  exact ⟨l, hid_len l g.len, h⟩
/-- two texts, however long -/
theorem glue2 (x y : ByteArray) {m k : Nat} (hx : Hid (x.size ≤ m)) (hy : Hid (y.size ≤ k)) (h : m + k ≤ 9000000000000000000) : ∃ z : ByteArray, Hid (z.size ≤ m + k) ∧ ∀ W, (Op.stringOp .add x y).run Tryd.prog W = .ok (.string z) W := by
  have hx := hx.out
  have hy := hy.out
  exact ⟨x ++ y, by show _ ≤ _; rw [ByteArray.size_append]; omega, fun W => run_string_add_sum W _ _ (by omega)⟩
theorem quo3 (q : Nat) : ∃ r : Nat, r = q / 3 ∧ ((q : Int)).tdiv 3 = (r : Int) := ⟨q / 3, rfl, by rw [Int.tdiv_eq_ediv_of_nonneg (by omega)]; simp⟩
theorem idl1 (p : Nat) (hp : p < 5) : ∃ x : List UInt8, x.length ≤ 4 ∧ ∀ W, (Instr.index 77 (.agg #[.string ⟨#[32, 61, 32]⟩, .string ⟨#[32, 58, 61, 32]⟩, .string ⟨#[32, 43, 61, 32]⟩, .string ⟨#[32, 63, 61, 32]⟩, .string ⟨#[61]⟩]) (.int .i64 (p : Int))).run Tryd.prog W = .ok (.string (bs x)) W := by
  obtain ⟨x, _, hx, h⟩ := index_lit 77 5 Tryd.underlying77 [[32, 61, 32], [32, 58, 61, 32], [32, 43, 61, 32], [32, 63, 61, 32], [61]] rfl 4 (by decide) p hp
  exact ⟨x, hx, h⟩
theorem idl2 (p : Nat) (hp : p < 2) : ∃ x : List UInt8, x.length ≤ 4 ∧ ∀ W, (Instr.index 78 (.agg #[.string ⟨#[]⟩, .string ⟨#[32, 37, 46, 113]⟩]) (.int .i64 (p : Int))).run Tryd.prog W = .ok (.string (bs x)) W := by
  obtain ⟨x, _, hx, h⟩ := index_lit 78 2 Tryd.underlying78 [[], [32, 37, 46, 113]] rfl 4 (by decide) p hp
  exact ⟨x, hx, h⟩
theorem idl3 (p : Nat) (hp : p < 3) : ∃ x : List UInt8, x.length ≤ 4 ∧ ∀ W, (Instr.index 79 (.agg #[.string ⟨#[32, 61, 32]⟩, .string ⟨#[32, 58, 61, 32]⟩, .string ⟨#[32, 43, 61, 32]⟩]) (.int .i64 (p : Int))).run Tryd.prog W = .ok (.string (bs x)) W := by
  obtain ⟨x, _, hx, h⟩ := index_lit 79 3 Tryd.underlying79 [[32, 61, 32], [32, 58, 61, 32], [32, 43, 61, 32]] rfl 4 (by decide) p hp
  exact ⟨x, hx, h⟩
theorem idl4 (p : Nat) (hp : p < 3) : ∃ x : List UInt8, x.length ≤ 3 ∧ ∀ W, (Instr.index 79 (.agg #[.string ⟨#[]⟩, .string ⟨#[32, 58, 61]⟩, .string ⟨#[32, 43, 61]⟩]) (.int .i64 (p : Int))).run Tryd.prog W = .ok (.string (bs x)) W := by
  obtain ⟨x, _, hx, h⟩ := index_lit 79 3 Tryd.underlying79 [[], [32, 58, 61], [32, 43, 61]] rfl 3 (by decide) p hp
  exact ⟨x, hx, h⟩
theorem idl5 (p : Nat) (hp : p < 3) : ∃ x : List UInt8, x.length ≤ 21 ∧ ∀ W, (Instr.index 79 (.agg #[.string ⟨#[105, 110, 99, 108, 117, 100, 101, 32, 105, 110, 99, 46, 109, 107, 10]⟩, .string ⟨#[45, 105, 110, 99, 108, 117, 100, 101, 32, 110, 111, 110, 101, 32, 105, 110, 99, 46, 109, 107, 10]⟩, .string ⟨#[45, 105, 110, 99, 108, 117, 100, 101, 32, 42, 46, 109, 107, 10]⟩]) (.int .i64 (p : Int))).run Tryd.prog W = .ok (.string (bs x)) W := by
  obtain ⟨x, _, hx, h⟩ := index_lit 79 3 Tryd.underlying79 [[105, 110, 99, 108, 117, 100, 101, 32, 105, 110, 99, 46, 109, 107, 10], [45, 105, 110, 99, 108, 117, 100, 101, 32, 110, 111, 110, 101, 32, 105, 110, 99, 46, 109, 107, 10], [45, 105, 110, 99, 108, 117, 100, 101, 32, 42, 46, 109, 107, 10]] rfl 21 (by decide) p hp
  exact ⟨x, hx, h⟩
theorem idl6 (p : Nat) (hp : p < 2) : ∃ x : List UInt8, x.length ≤ 33 ∧ ∀ W, (Instr.index 78 (.agg #[.string ⟨#[101, 110, 100, 105, 102, 10]⟩, .string ⟨#[101, 108, 115, 101, 32, 105, 102, 110, 100, 101, 102, 32, 97, 10, 98, 61, 52, 10, 101, 108, 115, 101, 10, 99, 61, 53, 10, 101, 110, 100, 105, 102, 10]⟩]) (.int .i64 (p : Int))).run Tryd.prog W = .ok (.string (bs x)) W := by
  obtain ⟨x, _, hx, h⟩ := index_lit 78 2 Tryd.underlying78 [[101, 110, 100, 105, 102, 10], [101, 108, 115, 101, 32, 105, 102, 110, 100, 101, 102, 32, 97, 10, 98, 61, 52, 10, 101, 108, 115, 101, 10, 99, 61, 53, 10, 101, 110, 100, 105, 102, 10]] rfl 33 (by decide) p hp
  exact ⟨x, hx, h⟩

end Go.Proofs.YtcopddepnphfmaaDoor.Tlh
