/-
  impl.finite hands its value back where impl.endless answers false.
-/
import Derived.Test.YtdbkifndhkmfgaaNodesWalk
namespace Go.Proofs.Ytdbkifndhkmfgaa.val
open Go.ChangeShapes Go.WideShapes Go.ChangeAt Go.RowKit
set_option maxRecDepth 100000
attribute [local go_sem] Oper.semAt_some

/-- impl.endless answers false. -/
def EndC : Prop := ∀ (w : World) (t : LT), Mine w t → t.nodes ≤ 2000000 → Calls Try.prog 50 #[.agg #[.int .i64 t.k, .int .i64 t.n, .int .i64 t.e, .string t.s, t.row]] w fun e w' => e = .returned (.bool false) ∧ Below w.heap.size w w'
theorem EndC.run (h : EndC) {w w' : World} {t : LT} (hI : Mine w t) (hz : t.nodes ≤ 2000000) (hb : Below w.heap.size w w') : Calls Try.prog 50 #[.agg #[.int .i64 t.k, .int .i64 t.n, .int .i64 t.e, .string t.s, t.row]] w' fun e w'' => e = .returned (.bool false) ∧ Below w'.heap.size w' w'' :=
  h w' t (hI.behind hb) hz
theorem size_run {w w' : World} {t : LT} (hI : In w w.heap.size t) (hz : t.nodes ≤ 2000000) (hb : Below w.heap.size w w') : Calls Try.prog 49 #[.agg #[.int .i64 t.k, .int .i64 t.n, .int .i64 t.e, .string t.s, t.row]] w' fun e w'' => ∃ b : Bool, e = .returned (.bool b) ∧ Below w'.heap.size w' w'' :=
  size_any w' t ((hI.behind hb).mono hb.size) hz

/-- Five cells that may be written. -/
structure Res5 (W : World) (N : Nat) : Prop where
  f0 : W.frozen? ⟨N, 0, none⟩ = false
  f1 : W.frozen? ⟨N, 1, none⟩ = false
  f2 : W.frozen? ⟨N, 2, none⟩ = false
  f3 : W.frozen? ⟨N, 3, none⟩ = false
  f4 : W.frozen? ⟨N, 4, none⟩ = false
  c0 : W.cell? ⟨N, 0, none⟩ = some (.int .i64 0)
  c1 : W.cell? ⟨N, 1, none⟩ = some (.int .i64 0)
  c2 : W.cell? ⟨N, 2, none⟩ = some (.int .i64 0)
  c3 : W.cell? ⟨N, 3, none⟩ = some (.string { data := #[] })
  c4 : W.cell? ⟨N, 4, none⟩ = some (.slice none 0 0)
  row : Hid (W.heap[N]? = some (.cells #[.int .i64 0, .int .i64 0, .int .i64 0, .string { data := #[] }, .slice none 0 0] 36 (0, 0)))
theorem Res5.of {W : World} {N : Nat} (h : W.heap[N]? = some (.cells #[.int .i64 0, .int .i64 0, .int .i64 0, .string { data := #[] }, .slice none 0 0] 36 (0, 0))) : Res5 W N :=
  ⟨frozen_of_row W N 0 _ _ h, frozen_of_row W N 1 _ _ h, frozen_of_row W N 2 _ _ h, frozen_of_row W N 3 _ _ h, frozen_of_row W N 4 _ _ h, cell_of_row W N 0 _ _ (0, 0) h, cell_of_row W N 1 _ _ (0, 0) h, cell_of_row W N 2 _ _ (0, 0) h, cell_of_row W N 3 _ _ (0, 0) h, cell_of_row W N 4 _ _ (0, 0) h, h⟩

theorem put_box {W : World} {N : Nat} {t : LT} (h : W.heap[N]? = some (.cells #[.int .i64 0, .int .i64 0, .int .i64 0, .string { data := #[] }, .slice none 0 0] 36 (0, 0))) : Box (put5 W N 0 t) N t := by
  have h1 := blk_set (o := 4) (blk_set (o := 3) (blk_set (o := 2) (blk_set (o := 1) (blk_set (o := 0) h (.int .i64 t.k)) (.int .i64 t.n)) (.int .i64 t.e)) (.string t.s)) t.row
  have h2 : (put5 W N 0 t).heap[N]? = some (.cells #[.int .i64 t.k, .int .i64 t.n, .int .i64 t.e, .string t.s, t.row] 36 (0, 0)) := by simpa [put5] using h1
  exact ⟨cell_of_row _ N 0 _ _ (0, 0) h2, cell_of_row _ N 1 _ _ (0, 0) h2, cell_of_row _ N 2 _ _ (0, 0) h2, cell_of_row _ N 3 _ _ (0, 0) h2, cell_of_row _ N 4 _ _ (0, 0) h2⟩
theorem put_below {w W : World} {B N : Nat} {t : LT} (h : Below B w W) (hN : B ≤ N) : Below B w (put5 W N 0 t) :=
  ((((h.setCell (p := ⟨N, 0, none⟩) hN _).setCell (p := ⟨N, 1, none⟩) hN _).setCell (p := ⟨N, 2, none⟩) hN _).setCell (p := ⟨N, 3, none⟩) hN _).setCell (p := ⟨N, 4, none⟩) hN _

set_option maxHeartbeats 2000000 in
theorem finite_any (HE : EndC) : FinC := by
  intro w t h hz
  have HIn := Lib.hid h.isIn
  have HMI := Lib.hid h
  have HEE := Lib.hid HE
  have HZ := Lib.hid hz
  have hb0 : Below w.heap.size w ((w.alloc (.cells #[.int .i64 t.k, .int .i64 t.n, .int .i64 t.e, .string t.s, t.row] 36)).alloc (.cells #[.int .i64 0, .int .i64 0, .int .i64 0, .string { data := #[] }, .slice none 0 0] 36)) := ((Below.refl _ _).alloc (Nat.le_refl _) _).alloc (by simp) _
  have HB0 := Lib.hid hb0
  have HX : Hid (∀ w1, Below ((w.alloc (.cells #[.int .i64 t.k, .int .i64 t.n, .int .i64 t.e, .string t.s, t.row] 36)).alloc (.cells #[.int .i64 0, .int .i64 0, .int .i64 0, .string { data := #[] }, .slice none 0 0] 36)).heap.size ((w.alloc (.cells #[.int .i64 t.k, .int .i64 t.n, .int .i64 t.e, .string t.s, t.row] 36)).alloc (.cells #[.int .i64 0, .int .i64 0, .int .i64 0, .string { data := #[] }, .slice none 0 0] 36)) w1 → Box w1 w.heap.size t) := fun w1 hb =>
    (Box.new w t 36).of_block ((hb.block _ (by simp; omega)).trans (Below.heap_alloc _ _ _ (by simp)))
  have HR : Hid (∀ w1, Below ((w.alloc (.cells #[.int .i64 t.k, .int .i64 t.n, .int .i64 t.e, .string t.s, t.row] 36)).alloc (.cells #[.int .i64 0, .int .i64 0, .int .i64 0, .string { data := #[] }, .slice none 0 0] 36)).heap.size ((w.alloc (.cells #[.int .i64 t.k, .int .i64 t.n, .int .i64 t.e, .string t.s, t.row] 36)).alloc (.cells #[.int .i64 0, .int .i64 0, .int .i64 0, .string { data := #[] }, .slice none 0 0] 36)) w1 → Res5 w1 (w.heap.size + 1)) := fun w1 hb => by
    have h1 := heap_alloc_new (w.alloc (.cells #[.int .i64 t.k, .int .i64 t.n, .int .i64 t.e, .string t.s, t.row] 36)) (.cells #[.int .i64 0, .int .i64 0, .int .i64 0, .string { data := #[] }, .slice none 0 0] 36)
    have h2 : w1.heap[w.heap.size + 1]? = some (.cells #[.int .i64 0, .int .i64 0, .int .i64 0, .string { data := #[] }, .slice none 0 0] 36 (0, 0)) := by
      rw [hb.block _ (by simp)]
      simpa using h1
    exact Res5.of h2
  clear h HE hz hb0
  refine (callsIn_wide (n := 4)).1 ?_
  refine callsIn_of_wp_marks Try.func35 rfl trivial ?_ rfl
  simp only [Try.ntmps35, List.size_toArray, List.length_cons, List.length_nil, Nat.reduceAdd, Nat.reduceSub, Array.replicate_succ, Array.replicate_zero, List.push_toArray, List.append_toArray, List.nil_append, List.cons_append]
  have hrow : t.row = .slice t.a t.kids.length t.cap := rfl
  simp only [hrow]
  clear hrow
  gi_wp2_with (refine ⟨trivial, ?_⟩; gi_at_call 49; refine (callsIn_wide.2 (size_run HIn.out HZ.out HB0.out)).mono ?_; rintro e w1 ⟨b, rfl, hb1⟩; cases b; all_goals (have HBB := Lib.hid hb1; obtain ⟨g0, g1, g2, g3, g4⟩ := HX.out _ hb1; replace g4 : _ = some (Value.slice t.a t.kids.length t.cap) := g4; obtain ⟨z0, z1, z2, z3, z4, y0, y1, y2, y3, y4, z5⟩ := HR.out _ hb1; clear hb1))
  · gi_wp2_with (refine ⟨trivial, ?_⟩; gi_at_call 50; refine (callsIn_wide.2 (HEE.out.run HMI.out HZ.out (HB0.out.trans (HBB.out.mono (by simp; omega))))).mono ?_; rintro e w2 ⟨rfl, hb2⟩; clear g0 g1 g2 g3 g4 z0 z1 z2 z3 z4 y0 y1 y2 y3 y4 z5; have HBC := Lib.hid (HBB.out.trans (hb2.mono HBB.out.size)); obtain ⟨g0, g1, g2, g3, g4⟩ := HX.out _ HBC.out; replace g4 : _ = some (Value.slice t.a t.kids.length t.cap) := g4; obtain ⟨z0, z1, z2, z3, z4, y0, y1, y2, y3, y4, z5⟩ := HR.out _ HBC.out; clear hb2 HBB)
    obtain ⟨k0, k1, k2, k3, k4⟩ := z5.out |> put_box (t := t)
    have hrow : t.row = .slice t.a t.kids.length t.cap := rfl
    have HBL : Hid (Below w.heap.size w w2) := HB0.out.trans (HBC.out.mono (by simp; omega))
    have HPB := Lib.hid (put_below (t := t) HBL.out (N := w.heap.size + 1) (by omega))
    simp only [put5, Nat.zero_add, hrow] at k0 k1 k2 k3 k4
    exact ⟨.agg #[.int .i64 t.k, .int .i64 t.n, .int .i64 t.e, .string t.s, .slice t.a t.kids.length t.cap], by simp [results, Try.results35, go_sem, k0, k1, k2, k3, k4], rfl, HPB.out⟩
  · refine ⟨trivial, ?_⟩
    gi_wp2
    obtain ⟨k0, k1, k2, k3, k4⟩ := z5.out |> put_box (t := t)
    have hrow : t.row = .slice t.a t.kids.length t.cap := rfl
    have HBL : Hid (Below w.heap.size w w1) := HB0.out.trans (HBB.out.mono (by simp; omega))
    have HPB := Lib.hid (put_below (t := t) HBL.out (N := w.heap.size + 1) (by omega))
    simp only [put5, Nat.zero_add, hrow] at k0 k1 k2 k3 k4
    exact ⟨.agg #[.int .i64 t.k, .int .i64 t.n, .int .i64 t.e, .string t.s, .slice t.a t.kids.length t.cap], by simp [results, Try.results35, go_sem, k0, k1, k2, k3, k4], rfl, HPB.out⟩

end Go.Proofs.Ytdbkifndhkmfgaa.val
