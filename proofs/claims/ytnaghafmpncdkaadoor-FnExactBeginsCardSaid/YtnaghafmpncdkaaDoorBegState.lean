/-
  The counter of values that may still begin; what spec's walk over heads tells.
-/
import Derived.Test.YtnaghafmpncdkaaDoorBegPlain
import Derived.Test.YtnaghafmpncdkaaDoorReaderWalk
namespace Go.Proofs.YtnaghafmpncdkaaDoor.beg
open Go.ChangeShapes Go.WideShapes Go.ChangeAt Go.RowKit
open Go.Proofs.YtnaghafmpncdkaaDoor.head
set_option maxRecDepth 100000

structure LC (W : World) (b : Nat) (left : Int) : Prop where
  row : W.heap[b]? = some (.cells #[.int .i64 left] 3 (0, 0))
theorem LC.c0 {W : World} {b : Nat} {left : Int} (h : LC W b left) : W.cell? ⟨b, 0, none⟩ = some (.int .i64 left) := cell_of_row W b 0 _ _ (0, 0) h.row
theorem LC.fr {W : World} {b : Nat} {left : Int} (h : LC W b left) (o : Nat) : W.frozen? ⟨b, o, none⟩ = false := frozen_of_row W b o _ _ h.row
theorem LC.lt {W : World} {b : Nat} {left : Int} (h : LC W b left) : b < W.heap.size := (Array.getElem?_eq_some_iff.1 h.row).1
theorem LC.set {W : World} {b : Nat} {left : Int} (h : LC W b left) (l : Int) : LC (W.setCell ⟨b, 0, none⟩ (.int .i64 l)) b l := ⟨by have := val.blk_set (o := 0) h.row (.int .i64 l); simpa using this⟩
theorem LC.behind {W W' : World} {b : Nat} {left : Int} (h : LC W b left) (hb : Below W.heap.size W W') : LC W' b left := ⟨(hb.block b h.lt).trans h.row⟩
theorem LC.drew {W : World} {b : Nat} {left : Int} (h : LC W b left) : LC W.drew b left := ⟨h.row⟩
theorem only_below {W w1 w2 : World} {b : Nat} (h : W.grownBy w1 (some b)) (k : Below w1.heap.size w1 w2) : W.grownBy w2 (some b) :=
  ⟨k.os.trans h.os, k.tape.trans h.tape, k.output.trans h.output, Nat.le_trans h.size k.size, fun x hx hn => (k.block x (Nat.lt_of_lt_of_le hx h.size)).trans (h.block x hx hn)⟩
theorem only_trans {W w1 w2 : World} {b : Nat} (h : W.grownBy w1 (some b)) (k : w1.grownBy w2 (some b)) : W.grownBy w2 (some b) :=
  ⟨k.os.trans h.os, k.tape.trans h.tape, k.output.trans h.output, Nat.le_trans h.size k.size, fun x hx hn => (k.block x (Nat.lt_of_lt_of_le hx h.size) hn).trans (h.block x hx hn)⟩
theorem only_refl (W : World) (b : Nat) : W.grownBy W (some b) := ⟨rfl, rfl, rfl, Nat.le_refl _, fun _ _ _ => rfl⟩
theorem only_drew {W w : World} {b : Nat} (h : W.grownBy w (some b)) : W.grownBy w.drew (some b) := ⟨h.os, h.tape, h.output, h.size, h.block⟩
/-- What a walk over heads returns. -/
structure WRet (W w' : World) (b : Nat) (r : Int × Int) (e : Ending) : Prop where
  ret : e = .returned (.int .i64 r.1)
  lc : LC w' b r.2
  only : W.grownBy w' (some b)
/-- spec's walk at a depth. -/
def SW (d : Nat) : Prop := ∀ (W : World) (b : Nat) (s : ByteArray) (i left : Nat), s.size ≤ 1048576 → i ≤ s.size → left ≤ 2000 → LC W b left →
  Calls Tryd.prog 33 #[.string s, .int .i64 i, .int .i64 d, .pointer (some ⟨b, 0, none⟩)] W fun e w' => WRet W w' b (wk s (15 - d) i left) e
end Go.Proofs.YtnaghafmpncdkaaDoor.beg
