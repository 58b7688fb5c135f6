/-
  impl.nodeOf at every kind.
-/
import Derived.Test.YtkjffifdlckljaaDoorPathsJ0
import Derived.Test.YtkjffifdlckljaaDoorPathsJ1
import Derived.Test.YtkjffifdlckljaaDoorPathsJ20
namespace Go.Proofs.YtkjffifdlckljaaDoor.node
open Go.ChangeShapes Go.WideShapes Go.ChangeAt Go.RowKit
open Go.Proofs.YtkjffifdlckljaaDoor.val
set_option maxRecDepth 100000

/-- The node of a value, as an interface. -/
def nodeV (k n e : Int) (s : ByteArray) (row : Value) : Option Value :=
  if k = 0 then some (.iface 188 (.agg #[])) else
  if k = 1 then some (.iface 189 (.agg #[])) else
  if k = 2 then some (.iface 190 (.agg #[])) else
  if k = 3 then some (.iface 192 (.agg #[.int .i64 n])) else
  if k = 4 then some (.iface 194 (.agg #[.int .i64 n, .int .i64 e])) else
  if k = 5 then some (.iface 71 (.agg #[.string s])) else
  if k = 6 then some (.iface 195 (.agg #[.string s])) else
  if k = 7 then some (.iface 197 (.agg #[row])) else
  if k = 8 then some (.iface 198 (.agg #[row])) else
  if k = 9 then some (.iface 200 (.agg #[.int .i64 n, row])) else none
set_option maxHeartbeats 2000000 in
theorem nodeOf_any (k n e : Int) (s : ByteArray) (a : Option Addr) (m cap : Nat) (v : Value) (hv : nodeV k n e s (.slice a m cap) = some v) (w : World) : Calls Tryd.prog 117 #[.agg #[.int .i64 k, .int .i64 n, .int .i64 e, .string s, .slice a m cap]] w fun r w' => r = .returned v ∧ Below w.heap.size w w' := by
  have HB := Lib.hid ((Below.refl w.heap.size w).alloc (Nat.le_refl _) (.cells #[.int .i64 k, .int .i64 n, .int .i64 e, .string s, .slice a m cap] 24))
  unfold nodeV at hv
  repeat' split at hv
  all_goals cases hv
  all_goals
    subst_vars
    go_enter Tryd.func117, Tryd.ntmps117
    go_wp2
    go_ret
    exact ⟨rfl, HB.out⟩
set_option maxHeartbeats 2000000 in
theorem nodeOf_none (k n e : Int) (s : ByteArray) (a : Option Addr) (m cap : Nat) (hv : nodeV k n e s (.slice a m cap) = none) (w : World) : Calls Tryd.prog 117 #[.agg #[.int .i64 k, .int .i64 n, .int .i64 e, .string s, .slice a m cap]] w fun r w' => r = .returned .nilIface ∧ Below w.heap.size w w' := by
  have HB := Lib.hid ((Below.refl w.heap.size w).alloc (Nat.le_refl _) (.cells #[.int .i64 k, .int .i64 n, .int .i64 e, .string s, .slice a m cap] 24))
  unfold nodeV at hv
  repeat' split at hv
  all_goals try cases hv
  all_goals
    rename_i h0 h1 h2 h3 h4 h5 h6 h7 h8 h9
    have k0 : (k == 0) = false := by simp [h0]
    have k1 : (k == 1) = false := by simp [h1]
    have k2 : (k == 2) = false := by simp [h2]
    have k3 : (k == 3) = false := by simp [h3]
    have k4 : (k == 4) = false := by simp [h4]
    have k5 : (k == 5) = false := by simp [h5]
    have k6 : (k == 6) = false := by simp [h6]
    have k7 : (k == 7) = false := by simp [h7]
    have k8 : (k == 8) = false := by simp [h8]
    have k9 : (k == 9) = false := by simp [h9]
    clear h0 h1 h2 h3 h4 h5 h6 h7 h8 h9
    go_enter Tryd.func117, Tryd.ntmps117
    go_wp2
    go_ret
    exact ⟨rfl, HB.out⟩
end Go.Proofs.YtkjffifdlckljaaDoor.node
/-
  impl.finite hands its value back where impl.endless answers false.
-/
namespace Go.Proofs.YtkjffifdlckljaaDoor.val
open Go.ChangeShapes Go.WideShapes Go.ChangeAt Go.RowKit
set_option maxRecDepth 100000
attribute [local go_sem] Oper.semAt_some

theorem size_run {w w' : World} {t : LT} (hI : In w w.heap.size t) (hz : t.nodes ≤ 2000000) (hb : Below w.heap.size w w') : Calls Tryd.prog 86 #[.agg #[.int .i64 t.k, .int .i64 t.n, .int .i64 t.e, .string t.s, t.row]] w' fun e w'' => ∃ b : Bool, e = .returned (.bool b) ∧ Below w'.heap.size w' w'' :=
  size_any w' t ((hI.behind hb).mono hb.size) hz

/-- Five cells that may be written. -/
structure Res5 (W : World) (N : Nat) : Prop where
  f0 : W.frozen? ⟨N, 0, none⟩ = false
  f1 : W.frozen? ⟨N, 1, none⟩ = false
  f2 : W.frozen? ⟨N, 2, none⟩ = false
  f3 : W.frozen? ⟨N, 3, none⟩ = false
  f4 : W.frozen? ⟨N, 4, none⟩ = false
  c0 : W.cell? ⟨N, 0, none⟩ = some (.int .i64 0)
  c1 : W.cell? ⟨N, 1, none⟩ = some (.int .i64 0)
  c2 : W.cell? ⟨N, 2, none⟩ = some (.int .i64 0)
  c3 : W.cell? ⟨N, 3, none⟩ = some (.string { data := #[] })
  c4 : W.cell? ⟨N, 4, none⟩ = some (.slice none 0 0)
  row : Hid (W.heap[N]? = some (.cells #[.int .i64 0, .int .i64 0, .int .i64 0, .string { data := #[] }, .slice none 0 0] 24 (0, 0)))
theorem Res5.of {W : World} {N : Nat} (h : W.heap[N]? = some (.cells #[.int .i64 0, .int .i64 0, .int .i64 0, .string { data := #[] }, .slice none 0 0] 24 (0, 0))) : Res5 W N :=
  ⟨frozen_of_row W N 0 _ _ h, frozen_of_row W N 1 _ _ h, frozen_of_row W N 2 _ _ h, frozen_of_row W N 3 _ _ h, frozen_of_row W N 4 _ _ h, cell_of_row W N 0 _ _ (0, 0) h, cell_of_row W N 1 _ _ (0, 0) h, cell_of_row W N 2 _ _ (0, 0) h, cell_of_row W N 3 _ _ (0, 0) h, cell_of_row W N 4 _ _ (0, 0) h, h⟩

theorem put_box {W : World} {N : Nat} {t : LT} (h : W.heap[N]? = some (.cells #[.int .i64 0, .int .i64 0, .int .i64 0, .string { data := #[] }, .slice none 0 0] 24 (0, 0))) : Box (put5 W N 0 t) N t := by
  have h1 := blk_set (o := 4) (blk_set (o := 3) (blk_set (o := 2) (blk_set (o := 1) (blk_set (o := 0) h (.int .i64 t.k)) (.int .i64 t.n)) (.int .i64 t.e)) (.string t.s)) t.row
  have h2 : (put5 W N 0 t).heap[N]? = some (.cells #[.int .i64 t.k, .int .i64 t.n, .int .i64 t.e, .string t.s, t.row] 24 (0, 0)) := by simpa [put5] using h1
  exact ⟨cell_of_row _ N 0 _ _ (0, 0) h2, cell_of_row _ N 1 _ _ (0, 0) h2, cell_of_row _ N 2 _ _ (0, 0) h2, cell_of_row _ N 3 _ _ (0, 0) h2, cell_of_row _ N 4 _ _ (0, 0) h2⟩
theorem put_below {w W : World} {B N : Nat} {t : LT} (h : Below B w W) (hN : B ≤ N) : Below B w (put5 W N 0 t) :=
  ((((h.setCell (p := ⟨N, 0, none⟩) hN _).setCell (p := ⟨N, 1, none⟩) hN _).setCell (p := ⟨N, 2, none⟩) hN _).setCell (p := ⟨N, 3, none⟩) hN _).setCell (p := ⟨N, 4, none⟩) hN _

end Go.Proofs.YtkjffifdlckljaaDoor.val
