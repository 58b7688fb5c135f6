/-
  What impl.Deep returns where impl.finite hands its value back: the greatest level that the walk meets.
-/
import Derived.Test.YthjholhjkahdkaaNodesWalk
namespace Go.Proofs.Ythjholhjkahdkaa.val
open Go.ChangeShapes Go.WideShapes Go.ChangeAt Go.RowKit
set_option maxRecDepth 100000
attribute [local go_sem] Oper.semAt_some

/-- The greatest level of what was met. -/
def topOf (pre : List (Nat × LT)) : Nat := pre.foldl (fun m x => max m x.1) 0
theorem topOf_snoc (pre : List (Nat × LT)) (x : Nat × LT) : topOf (pre ++ [x]) = max (topOf pre) x.1 := by simp [topOf]

end Go.Proofs.Ythjholhjkahdkaa.val
