/- What the program's Dir, Notdir, Suffix and Base answer. -/
import Derived.WalkKit
import Derived.WalkSpells
import Derived.IntWalk
import Derived.Below
import Derived.Lib.Hide
import Derived.Test.YtgfpdaaofhanoaaGreatDoorShelf
import Derived.Test.YtgfpdaaofhanoaaGreatDoorPth
namespace Go.Proofs.YtgfpdaaofhanoaaGreatDoor.Pfn
open Go.RowKit Go.Proofs.YtgfpdaaofhanoaaGreatDoor.Pth

theorem ret_int {k : IntKind} {a b : Int} (h : a = b) : Ending.returned (.int k a) = .returned (.int k b) := by rw [h]
theorem ret_str {a b : ByteArray} (h : a = b) : Ending.returned (.string a) = .returned (.string b) := by rw [h]







end Go.Proofs.YtgfpdaaofhanoaaGreatDoor.Pfn
