/- The table of functions as plain lists; no program. -/
import Derived.KernelRfl
import Derived.Test.YtpphkaolonjjdaaDoorSrt
namespace Go.Proofs.YtpphkaolonjjdaaDoor.Fpl
open Go.Proofs.YtpphkaolonjjdaaDoor.Srt

/-- what a function is: so many at least, so many at most, lazy, pure -/
structure Inf where
  mn : Int
  mx : Int
  lz : Bool
  pu : Bool
deriving DecidableEq
def zero : Inf := ⟨0, 0, false, false⟩

/-- a name's, the first that there is -/
def lookI : List (T × Inf) → T → Option Inf
  | [], _ => none
  | (y, i) :: l, x => if y = x then some i else lookI l x
theorem look_none {l : List (T × Inf)} {x : T} : lookI l x = none ↔ x ∉ l.map Prod.fst := by
  induction l with
  | nil => simp [lookI]
  | cons r l ih =>
    obtain ⟨y, i⟩ := r
    rw [lookI]
    by_cases h : y = x
    · simp [h]
    · rw [if_neg h, ih]; simp [Ne.symm h]
theorem look_some {l : List (T × Inf)} {x : T} : (lookI l x).isSome = true ↔ x ∈ l.map Prod.fst := by
  rw [Option.isSome_iff_ne_none, ne_eq, look_none, Decidable.not_not]

/-- the program's, the last one ahead -/
def tab : List (T × Inf) := [
  ([105, 110, 102, 111], ⟨1, 1, false, false⟩),
  ([119, 97, 114, 110, 105, 110, 103], ⟨1, 1, false, false⟩),
  ([101, 114, 114, 111, 114], ⟨1, 1, false, false⟩),
  ([102, 108, 97, 118, 111, 114], ⟨1, 1, false, false⟩),
  ([111, 114, 105, 103, 105, 110], ⟨1, 1, false, false⟩),
  ([118, 97, 108, 117, 101], ⟨1, 1, false, false⟩),
  ([101, 118, 97, 108], ⟨1, 1, false, false⟩),
  ([99, 97, 108, 108], ⟨1, 0, false, false⟩),
  ([108, 101, 116], ⟨3, 3, true, false⟩),
  ([102, 111, 114, 101, 97, 99, 104], ⟨3, 3, true, false⟩),
  ([105, 110, 116, 99, 109, 112], ⟨2, 5, true, false⟩),
  ([97, 110, 100], ⟨1, 0, true, false⟩),
  ([111, 114], ⟨1, 0, true, false⟩),
  ([105, 102], ⟨2, 3, true, false⟩),
  ([119, 111, 114, 100, 108, 105, 115, 116], ⟨3, 3, false, true⟩),
  ([112, 97, 116, 115, 117, 98, 115, 116], ⟨3, 3, false, true⟩),
  ([115, 117, 98, 115, 116], ⟨3, 3, false, true⟩),
  ([106, 111, 105, 110], ⟨2, 2, false, true⟩),
  ([97, 100, 100, 112, 114, 101, 102, 105, 120], ⟨2, 2, false, true⟩),
  ([97, 100, 100, 115, 117, 102, 102, 105, 120], ⟨2, 2, false, true⟩),
  ([119, 111, 114, 100], ⟨2, 2, false, true⟩),
  ([102, 105, 108, 116, 101, 114, 45, 111, 117, 116], ⟨2, 2, false, true⟩),
  ([102, 105, 108, 116, 101, 114], ⟨2, 2, false, true⟩),
  ([102, 105, 110, 100, 115, 116, 114, 105, 110, 103], ⟨2, 2, false, true⟩),
  ([119, 105, 108, 100, 99, 97, 114, 100], ⟨1, 1, false, true⟩),
  ([97, 98, 115, 112, 97, 116, 104], ⟨1, 1, false, true⟩),
  ([98, 97, 115, 101, 110, 97, 109, 101], ⟨1, 1, false, true⟩),
  ([115, 117, 102, 102, 105, 120], ⟨1, 1, false, true⟩),
  ([110, 111, 116, 100, 105, 114], ⟨1, 1, false, true⟩),
  ([100, 105, 114], ⟨1, 1, false, true⟩),
  ([108, 97, 115, 116, 119, 111, 114, 100], ⟨1, 1, false, true⟩),
  ([102, 105, 114, 115, 116, 119, 111, 114, 100], ⟨1, 1, false, true⟩),
  ([119, 111, 114, 100, 115], ⟨1, 1, false, true⟩),
  ([115, 111, 114, 116], ⟨1, 1, false, true⟩),
  ([115, 116, 114, 105, 112], ⟨1, 1, false, true⟩)]
/-- all names, rising -/
def names : List T := [
  [97, 98, 115, 112, 97, 116, 104],
  [97, 100, 100, 112, 114, 101, 102, 105, 120],
  [97, 100, 100, 115, 117, 102, 102, 105, 120],
  [97, 110, 100],
  [98, 97, 115, 101, 110, 97, 109, 101],
  [99, 97, 108, 108],
  [100, 105, 114],
  [101, 114, 114, 111, 114],
  [101, 118, 97, 108],
  [102, 105, 108, 116, 101, 114],
  [102, 105, 108, 116, 101, 114, 45, 111, 117, 116],
  [102, 105, 110, 100, 115, 116, 114, 105, 110, 103],
  [102, 105, 114, 115, 116, 119, 111, 114, 100],
  [102, 108, 97, 118, 111, 114],
  [102, 111, 114, 101, 97, 99, 104],
  [105, 102],
  [105, 110, 102, 111],
  [105, 110, 116, 99, 109, 112],
  [106, 111, 105, 110],
  [108, 97, 115, 116, 119, 111, 114, 100],
  [108, 101, 116],
  [110, 111, 116, 100, 105, 114],
  [111, 114],
  [111, 114, 105, 103, 105, 110],
  [112, 97, 116, 115, 117, 98, 115, 116],
  [115, 111, 114, 116],
  [115, 116, 114, 105, 112],
  [115, 117, 98, 115, 116],
  [115, 117, 102, 102, 105, 120],
  [118, 97, 108, 117, 101],
  [119, 97, 114, 110, 105, 110, 103],
  [119, 105, 108, 100, 99, 97, 114, 100],
  [119, 111, 114, 100],
  [119, 111, 114, 100, 108, 105, 115, 116],
  [119, 111, 114, 100, 115]]
theorem names_len : names.length = 35 := rfl
theorem tab_len : tab.length = 35 := rfl
instance : DecidableRel (fun a b : T => a < b) := fun a b => inferInstanceAs (Decidable (a < b))
def upB : List T → Bool
  | a :: b :: l => decide (a < b) && upB (b :: l)
  | _ => true
theorem up_of : ∀ (l : List T), upB l = true → Up l
  | [], _ => List.Pairwise.nil
  | [a], _ => List.pairwise_singleton _ _
  | a :: b :: l, h => by
    rw [upB, Bool.and_eq_true, decide_eq_true_iff] at h
    have ih := up_of (b :: l) h.2
    refine List.pairwise_cons.2 ⟨fun c hc => ?_, ih⟩
    rcases List.mem_cons.1 hc with rfl | hc
    · exact h.1
    · exact lt_trans' h.1 ((List.pairwise_cons.1 ih).1 c hc)
theorem names_up : Up names := up_of names (by kernel_rfl)
def sub (a b : List T) : Bool := a.all fun x => decide (x ∈ b)
theorem sub_mem {a b : List T} (h : sub a b = true) {x : T} (hx : x ∈ a) : x ∈ b := of_decide_eq_true (List.all_eq_true.1 h x hx)
theorem names_tab (x : T) : x ∈ names ↔ x ∈ tab.map Prod.fst :=
  ⟨fun h => sub_mem (a := names) (b := tab.map Prod.fst) (by kernel_rfl) h, fun h => sub_mem (a := tab.map Prod.fst) (b := names) (by kernel_rfl) h⟩
theorem look_tab (x : T) : (lookI tab x).isSome = decide (x ∈ names) := by
  rw [Bool.eq_iff_iff, look_some, decide_eq_true_iff, names_tab]
def nodupB : List T → Bool
  | [] => true
  | a :: l => !decide (a ∈ l) && nodupB l
theorem nodup_of : ∀ (l : List T), nodupB l = true → l.Nodup
  | [], _ => List.nodup_nil
  | a :: l, h => by
    rw [nodupB, Bool.and_eq_true, Bool.not_eq_true', decide_eq_false_iff_not] at h
    exact List.nodup_cons.2 ⟨h.1, nodup_of l h.2⟩
theorem tab_nodup : (tab.map Prod.fst).Nodup := nodup_of _ (by kernel_rfl)
theorem sort_tab : sortT (tab.map Prod.fst) = names := sortT_eq names_up names_tab

end Go.Proofs.YtpphkaolonjjdaaDoor.Fpl
