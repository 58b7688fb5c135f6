/-
  What impl.Count returns where impl.finite hands its value back: how many nodes of the kind the value has.
-/
import Derived.Test.YtghcgkpeimpghaaDoorRangeBox
namespace Go.Proofs.YtghcgkpeimpghaaDoor.val
open Go.ChangeShapes Go.WideShapes Go.ChangeAt Go.RowKit
set_option maxRecDepth 100000
attribute [local go_sem] Oper.semAt_some

/-- How many of those met are of the kind. -/
def kindOf (kd : Int) (pre : List (Nat × LT)) : Nat := (pre.filter (fun x => x.2.k == kd)).length
theorem kindOf_yes (kd : Int) (pre : List (Nat × LT)) (x : Nat × LT) (h : x.2.k = kd) : kindOf kd (pre ++ [x]) = kindOf kd pre + 1 := by simp [kindOf, h]
theorem kindOf_no (kd : Int) (pre : List (Nat × LT)) (x : Nat × LT) (h : ¬ x.2.k = kd) : kindOf kd (pre ++ [x]) = kindOf kd pre := by simp [kindOf, h]
theorem kindOf_le (kd : Int) (pre : List (Nat × LT)) : kindOf kd pre ≤ pre.length := List.length_filter_le _ _

structure KindInv (w W : World) (kd : Int) (B : Nat) (m : Nat) : Prop where
  kind : One W (w.heap.size + 1) 3 (.int .i64 kd)
  many : One W (w.heap.size + 1 + 1) 3 (.int .i64 (m : Int))
  below : Below w.heap.size w W
  size : B ≤ W.heap.size
theorem KindInv.kept {w W W' : World} {kd : Int} {B B' m : Nat} (h : KindInv w W kd B m) (hb : Below B' W W') (hB : w.heap.size + 3 ≤ B') : KindInv w W' kd B m := ⟨h.kind.below hb (by omega), h.many.below hb (by omega), h.below.trans (hb.mono (by omega)), Nat.le_trans h.size hb.size⟩
theorem KindInv.more {w W : World} {kd : Int} {B m : Nat} (h : KindInv w W kd B m) (k : Nat) : KindInv w (W.setCell ⟨w.heap.size + 1 + 1, 0, none⟩ (.int .i64 (k : Int))) kd B k :=
  ⟨h.kind.other _ (by omega), h.many.set _, h.below.setCell (p := ⟨w.heap.size + 1 + 1, 0, none⟩) (by show w.heap.size ≤ w.heap.size + 1 + 1; omega) _, by rw [set_size]; exact h.size⟩

end Go.Proofs.YtghcgkpeimpghaaDoor.val
