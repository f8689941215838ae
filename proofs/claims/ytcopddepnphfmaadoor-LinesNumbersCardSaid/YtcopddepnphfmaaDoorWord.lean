/- What the laws' own helper answers: a number's word. -/
import Derived.Test.YtcopddepnphfmaaDoorPat
import Derived.Test.YtcopddepnphfmaaDoorPlace
namespace Go.Proofs.YtcopddepnphfmaaDoor.Word
open Go.RowKit Go.Proofs.YtcopddepnphfmaaDoor.Pat Go.Proofs.YtcopddepnphfmaaDoor.Place

def wordList : List (List UInt8) := [[97], [98], [99], [97, 46, 99], [98, 46, 99], [120, 46, 111], [100, 105, 114, 47, 97, 46, 99], [46, 46, 47, 117, 112], [50], [45, 49], [102, 111, 111], [102, 111, 111, 46, 98, 97, 114, 46, 99], [108, 105, 98, 37], [97, 37, 98], [49, 48], [122]]
def wordAt (p : Nat) : ByteArray := bs (wordList.getD p [])

set_option maxHeartbeats 400000 in
theorem index_word (p : Nat) (hp : p < 16) (W : World) : (Instr.index 69 (.agg #[.string ⟨#[97]⟩, .string ⟨#[98]⟩, .string ⟨#[99]⟩, .string ⟨#[97, 46, 99]⟩, .string ⟨#[98, 46, 99]⟩, .string ⟨#[120, 46, 111]⟩, .string ⟨#[100, 105, 114, 47, 97, 46, 99]⟩, .string ⟨#[46, 46, 47, 117, 112]⟩, .string ⟨#[50]⟩, .string ⟨#[45, 49]⟩, .string ⟨#[102, 111, 111]⟩, .string ⟨#[102, 111, 111, 46, 98, 97, 114, 46, 99]⟩, .string ⟨#[108, 105, 98, 37]⟩, .string ⟨#[97, 37, 98]⟩, .string ⟨#[49, 48]⟩, .string ⟨#[122]⟩]) (.int .i64 (p : Int))).run Tryd.prog W = .ok (.string (wordAt p)) W := by
  have h : p = 0 ∨ p = 1 ∨ p = 2 ∨ p = 3 ∨ p = 4 ∨ p = 5 ∨ p = 6 ∨ p = 7 ∨ p = 8 ∨ p = 9 ∨ p = 10 ∨ p = 11 ∨ p = 12 ∨ p = 13 ∨ p = 14 ∨ p = 15 := by omega
  rcases h with rfl | rfl | rfl | rfl | rfl | rfl | rfl | rfl | rfl | rfl | rfl | rfl | rfl | rfl | rfl | rfl <;> (show _ = _; kernel_rfl)

set_option maxHeartbeats 400000 in
theorem word_core (v : Int) (p : Nat) (w : World) (hp : p < 16) (hP : ∀ W : World, Calls Tryd.prog 22 #[.int .i64 v, .int .i64 16] W fun e w' => e = .returned (.int .i64 (p : Int)) ∧ W = w') :
    Calls Tryd.prog 20 #[.int .i64 v] w fun e w' => e = .returned (.string (wordAt p)) ∧ w = w' := by
  have hix := index_word p hp
  go_enter Tryd.func20, Tryd.ntmps20
  go_wp2_with fail
  refine (hP _).mono ?_
  rintro e w' ⟨rfl, rfl⟩
  go_wp2
  go_ret
  exact ⟨rfl, rfl⟩
theorem word_is (v : Int) (w : World) (hv : (Lit.int .i64 v).wf = true) :
    Calls Tryd.prog 20 #[.int .i64 v] w fun e w' => e = .returned (.string (wordAt (place v 16))) ∧ w = w' :=
  word_core v (place v 16) w (place_lt v 16 (by omega)) (fun W => place_is v 16 W (by omega) (by omega) hv)

end Go.Proofs.YtcopddepnphfmaaDoor.Word
