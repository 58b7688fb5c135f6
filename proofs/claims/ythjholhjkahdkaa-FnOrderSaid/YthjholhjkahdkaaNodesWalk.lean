/-
  What impl.Nodes returns where impl.finite hands its value back: how many nodes the value has.
-/
import Derived.Test.YthjholhjkahdkaaSizeOk
namespace Go.Proofs.Ythjholhjkahdkaa.val
open Go.ChangeShapes Go.WideShapes Go.ChangeAt Go.RowKit
set_option maxRecDepth 100000
attribute [local go_sem] Oper.semAt_some

/-- The value's lists lie in whole blocks that the call has made. -/
def Mine (w : World) (t : LT) : Prop := ∃ lo, Own w lo w.heap.size t
theorem Mine.isIn {w : World} {t : LT} (h : Mine w t) : In w w.heap.size t := by obtain ⟨lo, h⟩ := h; exact h.isIn
theorem Mine.behind {w w' : World} {t : LT} (h : Mine w t) (hb : Below w.heap.size w w') : Mine w' t := by obtain ⟨lo, h⟩ := h; exact ⟨lo, h.kept (Nat.le_refl _) hb.size fun b _ h => hb.block b h⟩
theorem Own.mine {w : World} {lo hi : Nat} {t : LT} (h : Own w lo hi t) (hh : hi ≤ w.heap.size) : Mine w t := ⟨lo, h.kept (Nat.le_refl _) hh fun _ _ _ => rfl⟩
structure CountInv (w W : World) (B : Nat) (m : Nat) : Prop where
  many : One W (w.heap.size + 1) 3 (.int .i64 (m : Int))
  below : Below w.heap.size w W
  size : B ≤ W.heap.size
theorem CountInv.kept {w W W' : World} {B B' m : Nat} (h : CountInv w W B m) (hb : Below B' W W') (hB : w.heap.size + 2 ≤ B') : CountInv w W' B m := ⟨h.many.below hb (by omega), h.below.trans (hb.mono (by omega)), Nat.le_trans h.size hb.size⟩
theorem CountInv.more {w W : World} {B m : Nat} (h : CountInv w W B m) (k : Nat) : CountInv w (W.setCell ⟨w.heap.size + 1, 0, none⟩ (.int .i64 (k : Int))) B k :=
  ⟨h.many.set _, h.below.setCell (p := ⟨w.heap.size + 1, 0, none⟩) (by show w.heap.size ≤ w.heap.size + 1; omega) _, by rw [set_size]; exact h.size⟩

end Go.Proofs.Ythjholhjkahdkaa.val
