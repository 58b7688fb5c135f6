/-
  What laws.szValue returns: what is left behind a value's letters and elements, or -1.
-/
import Derived.Test.YthjholhjkahdkaaValT
namespace Go.Proofs.Ythjholhjkahdkaa.val
open Go.ChangeShapes Go.WideShapes Go.ChangeAt Go.RowKit
set_option maxRecDepth 100000

def left (L z : Nat) : Int := if z ≤ L then (L : Int) - z else -1
end Go.Proofs.Ythjholhjkahdkaa.val
