/- Lazy calls within one another, and plain calls: their texts, their instructions (no program). -/
import Derived.Test.YtfenlhbkdfmneaaCpl
namespace Go.Proofs.Ytfenlhbkdfmneaa.Cfm
open Go.Proofs.Ytfenlhbkdfmneaa.Spl Go.Proofs.Ytfenlhbkdfmneaa.Nz Go.Proofs.Ytfenlhbkdfmneaa.Cpl

/-- k calls of or within one another, w arguments each -/
def deepT (w : Nat) : Nat → T
  | 0 => [120]
  | k + 1 => [36, 40, 111, 114, 32] ++ deepT w k ++ (List.replicate (w - 1) [44, 121]).flatten ++ [41]
/-- the first block of level i (of k) -/
def headB (w k i : Nat) : List Opp := if i < k then [⟨6, 0, [111, 114], (List.range' (1 + i * w) w).map Int.ofNat⟩] else [⟨1, 0, [120], []⟩]
def deepB (w k : Nat) : List (List Opp) := headB w k 0 :: ((List.range k).map fun i => headB w k (i + 1) :: List.replicate (w - 1) [⟨1, 0, [121], []⟩]).flatten
/-- call with k arguments (f and variables), within d calls of strip -/
def callT (k : Nat) : T := [36, 40, 99, 97, 108, 108, 32, 102] ++ ((List.range' 1 (k - 1)).map fun i => [44, 36, 40, 97] ++ [UInt8.ofNat (48 + i)] ++ [41]).flatten ++ [41]
def plainT (k : Nat) : Nat → T
  | 0 => callT k
  | d + 1 => [36, 40, 115, 116, 114, 105, 112, 32] ++ plainT k d ++ [41]
def plainB (k d : Nat) : List Opp := [⟨1, 0, [102], []⟩] ++ ((List.range' 1 (k - 1)).map fun i => [⟨1, 0, [97, UInt8.ofNat (48 + i)], []⟩, ⟨2, 0, [], []⟩]).flatten ++ [⟨5, (k : Int), [99, 97, 108, 108], []⟩] ++ List.replicate d ⟨5, 1, [115, 116, 114, 105, 112], []⟩

end Go.Proofs.Ytfenlhbkdfmneaa.Cfm
