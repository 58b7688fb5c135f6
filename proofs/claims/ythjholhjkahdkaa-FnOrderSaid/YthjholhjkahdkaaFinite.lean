/-
  impl.finite hands its value back where impl.endless answers false.
-/
import Derived.Test.YthjholhjkahdkaaNodesWalk
namespace Go.Proofs.Ythjholhjkahdkaa.val
open Go.ChangeShapes Go.WideShapes Go.ChangeAt Go.RowKit
set_option maxRecDepth 100000
attribute [local go_sem] Oper.semAt_some

theorem size_run {w w' : World} {t : LT} (hI : In w w.heap.size t) (hz : t.nodes ≤ 2000000) (hb : Below w.heap.size w w') : Calls Try.prog 44 #[.agg #[.int .i64 t.k, .int .i64 t.n, .int .i64 t.e, .string t.s, t.row]] w' fun e w'' => ∃ b : Bool, e = .returned (.bool b) ∧ Below w'.heap.size w' w'' :=
  size_any w' t ((hI.behind hb).mono hb.size) hz

/-- Five cells that may be written. -/
structure Res5 (W : World) (N : Nat) : Prop where
  f0 : W.frozen? ⟨N, 0, none⟩ = false
  f1 : W.frozen? ⟨N, 1, none⟩ = false
  f2 : W.frozen? ⟨N, 2, none⟩ = false
  f3 : W.frozen? ⟨N, 3, none⟩ = false
  f4 : W.frozen? ⟨N, 4, none⟩ = false
  c0 : W.cell? ⟨N, 0, none⟩ = some (.int .i64 0)
  c1 : W.cell? ⟨N, 1, none⟩ = some (.int .i64 0)
  c2 : W.cell? ⟨N, 2, none⟩ = some (.int .i64 0)
  c3 : W.cell? ⟨N, 3, none⟩ = some (.string { data := #[] })
  c4 : W.cell? ⟨N, 4, none⟩ = some (.slice none 0 0)
  row : Hid (W.heap[N]? = some (.cells #[.int .i64 0, .int .i64 0, .int .i64 0, .string { data := #[] }, .slice none 0 0] 26 (0, 0)))
theorem Res5.of {W : World} {N : Nat} (h : W.heap[N]? = some (.cells #[.int .i64 0, .int .i64 0, .int .i64 0, .string { data := #[] }, .slice none 0 0] 26 (0, 0))) : Res5 W N :=
  ⟨frozen_of_row W N 0 _ _ h, frozen_of_row W N 1 _ _ h, frozen_of_row W N 2 _ _ h, frozen_of_row W N 3 _ _ h, frozen_of_row W N 4 _ _ h, cell_of_row W N 0 _ _ (0, 0) h, cell_of_row W N 1 _ _ (0, 0) h, cell_of_row W N 2 _ _ (0, 0) h, cell_of_row W N 3 _ _ (0, 0) h, cell_of_row W N 4 _ _ (0, 0) h, h⟩

theorem put_box {W : World} {N : Nat} {t : LT} (h : W.heap[N]? = some (.cells #[.int .i64 0, .int .i64 0, .int .i64 0, .string { data := #[] }, .slice none 0 0] 26 (0, 0))) : Box (put5 W N 0 t) N t := by
  have h1 := blk_set (o := 4) (blk_set (o := 3) (blk_set (o := 2) (blk_set (o := 1) (blk_set (o := 0) h (.int .i64 t.k)) (.int .i64 t.n)) (.int .i64 t.e)) (.string t.s)) t.row
  have h2 : (put5 W N 0 t).heap[N]? = some (.cells #[.int .i64 t.k, .int .i64 t.n, .int .i64 t.e, .string t.s, t.row] 26 (0, 0)) := by simpa [put5] using h1
  exact ⟨cell_of_row _ N 0 _ _ (0, 0) h2, cell_of_row _ N 1 _ _ (0, 0) h2, cell_of_row _ N 2 _ _ (0, 0) h2, cell_of_row _ N 3 _ _ (0, 0) h2, cell_of_row _ N 4 _ _ (0, 0) h2⟩
theorem put_below {w W : World} {B N : Nat} {t : LT} (h : Below B w W) (hN : B ≤ N) : Below B w (put5 W N 0 t) :=
  ((((h.setCell (p := ⟨N, 0, none⟩) hN _).setCell (p := ⟨N, 1, none⟩) hN _).setCell (p := ⟨N, 2, none⟩) hN _).setCell (p := ⟨N, 3, none⟩) hN _).setCell (p := ⟨N, 4, none⟩) hN _

end Go.Proofs.Ythjholhjkahdkaa.val
