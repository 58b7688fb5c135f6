/-
  laws.eqValue of two values that tell the same: true.
-/
import Derived.Test.YthjholhjkahdkaaValOwn
namespace Go.Proofs.Ythjholhjkahdkaa.val
open Go.ChangeShapes Go.WideShapes Go.ChangeAt Go.RowKit
set_option maxRecDepth 100000

theorem belowN' {B : Nat} {a w : World} (h : Below B a w) : Below B a w.drew := h.drew

theorem two_allocs {B : Nat} {w w' : World} (hb : Below B w w') (hB : B ≤ w'.heap.size) (o1 o2 : Obj) : Below B w ((w'.alloc o1).alloc o2) ∧ B ≤ ((w'.alloc o1).alloc o2).heap.size ∧ Below w'.heap.size w' ((w'.alloc o1).alloc o2) :=
  ⟨(hb.alloc hB _).alloc (by simp; omega) _, by simp; omega, ((Below.refl _ _).alloc (Nat.le_refl _) _).alloc (by simp) _⟩

end Go.Proofs.Ythjholhjkahdkaa.val
