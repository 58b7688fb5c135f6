/-
  For the laws on values: how many nodes a value of bounded size has; what stays behind draws.
-/
import Derived.Test.YtghcgkpeimpghaaDoorWalkIter
namespace Go.Proofs.YtghcgkpeimpghaaDoor.val
open Go.ChangeShapes Go.WideShapes Go.ChangeAt Go.RowKit
set_option maxRecDepth 100000
theorem nodes_small (t : LT) (hz : t.sz ≤ 1048576) : t.nodes ≤ 2000000 := by
  have h1 := nodesL_sz t.kids
  have h2 := sz_mk t
  rw [nodes_mk]
  omega
theorem In.drewBehind {w w' : World} {t : LT} (h : In w w.heap.size t) (n : Nat) (hb : Below (w.drewN n).heap.size (w.drewN n) w') : In w' w'.heap.size t :=
  ((h.behind (belowN (Below.refl _ _) n)).behind (hb.mono (Nat.le_refl _))).mono hb.size
end Go.Proofs.YtghcgkpeimpghaaDoor.val
