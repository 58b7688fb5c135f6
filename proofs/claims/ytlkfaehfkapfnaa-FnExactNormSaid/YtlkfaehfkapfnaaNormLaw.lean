/-
  The law FnExactNorm at any two numbers: true, old memory kept.
-/
import Derived.Test.YtlkfaehfkapfnaaNormSpec
namespace Go.Proofs.Ytlkfaehfkapfnaa.num
open Go.ChangeShapes Go.WideShapes Go.ChangeAt Go.RowKit
open Go.Proofs.Ytlkfaehfkapfnaa.val
set_option maxRecDepth 100000

theorem eq_nil (w : World) : Calls Try.prog 44 #[.slice none 0 0, .slice none 0 0] w fun r w' => r = .returned (.bool true) ∧ w = w' := by
  go_enter Try.func44, Try.ntmps44
  go_wp2
  go_loop [5] (fun i => i = .int .i64 0) (fun _ => 0)
  case atStart => rfl
  case round =>
    obtain rfl := hrel
    go_wp2
    go_ret
    exact ⟨rfl, rfl⟩
theorem mark_nil (q : Int) (w : World) : Calls Try.prog 53 #[.slice none 0 0, .int .i64 q] w fun r w' => r = .returned (.int .i64 q) ∧ w = w' := by
  go_enter Try.func53, Try.ntmps53
  go_wp2
  go_loop [1, 5] (fun v i => v = .int .i64 q ∧ i = .int .i64 0) (fun _ _ => 0)
  case atStart => exact ⟨rfl, rfl⟩
  case round =>
    obtain ⟨rfl, rfl⟩ := hrel
    go_wp2
    go_ret
    exact ⟨rfl, rfl⟩
theorem held_nil (q : Int) (w : World) : Calls Try.prog 54 #[.slice none 0 0, .int .i64 q] w fun r w' => r = .returned (.int .i64 q) ∧ w = w' := by
  go_enter Try.func54, Try.ntmps54
  go_wp2
  go_loop [1, 5] (fun v i => v = .int .i64 q ∧ i = .int .i64 0) (fun _ _ => 0)
  case atStart => exact ⟨rfl, rfl⟩
  case round =>
    obtain ⟨rfl, rfl⟩ := hrel
    go_wp2
    go_ret
    exact ⟨rfl, rfl⟩
section
variable (k n e : Int) (w : World)
theorem eq_leaf : Calls Try.prog 16 #[.agg #[.int .i64 k, .int .i64 n, .int .i64 e, .string ⟨#[]⟩, .slice none 0 0], .agg #[.int .i64 k, .int .i64 n, .int .i64 e, .string ⟨#[]⟩, .slice none 0 0]] w fun r w' => r = .returned (.bool true) ∧ Below w.heap.size w w' := by
  have C := Lib.hid eq_nil
  go_enter Try.func16, Try.ntmps16
  go_wp2_with (go_at_call 44; with_reducible refine (C.out _).mono ?_; rintro r w2 ⟨rfl, rfl⟩)
  go_ret
  exact ⟨rfl, ((Below.refl _ _).alloc (Nat.le_refl _) _).alloc (by simp) _⟩
theorem mark_leaf : Calls Try.prog 23 #[.agg #[.int .i64 k, .int .i64 n, .int .i64 e, .string ⟨#[]⟩, .slice none 0 0], .int .i64 1] w fun r w' => r = .returned (.int .i64 1) ∧ Below w.heap.size w w' := by
  have C := Lib.hid (mark_nil 1)
  go_enter Try.func23, Try.ntmps23
  go_wp2_with (go_at_call 53; with_reducible refine (C.out _).mono ?_; rintro r w2 ⟨rfl, rfl⟩)
  go_ret
  exact ⟨rfl, (Below.refl _ _).alloc (Nat.le_refl _) _⟩
theorem held_leaf : Calls Try.prog 24 #[.agg #[.int .i64 k, .int .i64 n, .int .i64 e, .string ⟨#[]⟩, .slice none 0 0], .int .i64 1] w fun r w' => r = .returned (.int .i64 1) ∧ Below w.heap.size w w' := by
  have C := Lib.hid (held_nil 1)
  go_enter Try.func24, Try.ntmps24
  go_wp2_with (go_at_call 54; with_reducible refine (C.out _).mono ?_; rintro r w2 ⟨rfl, rfl⟩)
  go_ret
  exact ⟨rfl, (Below.refl _ _).alloc (Nat.le_refl _) _⟩
end
end Go.Proofs.Ytlkfaehfkapfnaa.num
namespace Go.Proofs.Ytlkfaehfkapfnaa.fnExactNorm
open Go.ChangeShapes Go.WideShapes Go.ChangeAt Go.RowKit
open Go.Proofs.Ytlkfaehfkapfnaa.val Go.Proofs.Ytlkfaehfkapfnaa.num
set_option maxRecDepth 100000
/-- A value without kids in a block of its own. -/
structure Leaf (W : World) (N : Nat) (k n e : Int) : Prop where
  row : W.heap[N]? = some (.cells #[.int .i64 k, .int .i64 n, .int .i64 e, .string ⟨#[]⟩, .slice none 0 0] 29 (0, 0))
structure Leaf5 (W : World) (N : Nat) (k n e : Int) : Prop where
  c0 : W.cell? ⟨N, 0, none⟩ = some (.int .i64 k)
  c1 : W.cell? ⟨N, 1, none⟩ = some (.int .i64 n)
  c2 : W.cell? ⟨N, 2, none⟩ = some (.int .i64 e)
  c3 : W.cell? ⟨N, 3, none⟩ = some (.string ⟨#[]⟩)
  c4 : W.cell? ⟨N, 4, none⟩ = some (.slice none 0 0)
theorem Leaf.cells {W : World} {N : Nat} {k n e : Int} (h : Leaf W N k n e) : Leaf5 W N k n e := ⟨cell_of_row W _ 0 _ _ (0, 0) h.row, cell_of_row W _ 1 _ _ (0, 0) h.row, cell_of_row W _ 2 _ _ (0, 0) h.row, cell_of_row W _ 3 _ _ (0, 0) h.row, cell_of_row W _ 4 _ _ (0, 0) h.row⟩
theorem Leaf.behind {W W' : World} {N : Nat} {k n e : Int} (h : Leaf W N k n e) (hb : Below W.heap.size W W') : Leaf W' N k n e := ⟨(hb.block _ (lt_heap h.row)).trans h.row⟩
theorem Leaf.drew {W : World} {N : Nat} {k n e : Int} (h : Leaf W N k n e) : Leaf W.drew N k n e := ⟨h.row⟩
theorem Leaf.new (W : World) (k n e : Int) : Leaf (W.alloc (.cells #[.int .i64 k, .int .i64 n, .int .i64 e, .string ⟨#[]⟩, .slice none 0 0] 29)) W.heap.size k n e := ⟨heap_alloc_new W _⟩

set_option maxHeartbeats 4000000 in
theorem core (n e : Int) (hn : InI n) (w : World) : Calls Try.prog 6 #[.int .i64 n, .int .i64 e] w fun r w' => r = .returned (.bool true) ∧ Below w.heap.size w w' := by
  have CS := fun W => spec_norm n e hn W
  have CI := fun W => impl_norm n e hn W
  unfold normV at CS CI
  generalize norm n e = P at *
  obtain ⟨k, a, b, ok⟩ := P
  simp only at CS CI
  replace CS := Lib.hid CS
  replace CI := Lib.hid CI
  have CE := Lib.hid (eq_leaf k a b)
  have CM := Lib.hid (mark_leaf k a b)
  have CH := Lib.hid (held_leaf k a b)
  clear hn
  go_enter Try.func6, Try.ntmps6
  go_wp2_with fail
  with_reducible refine (CS.out _).mono ?_
  rintro r w1 ⟨rfl, hb1⟩
  -- g0, g1 := impl.Norm(aN, aE)
  have hba : Below w1.heap.size w1 (w1.alloc (.cells #[.int .i64 k, .int .i64 a, .int .i64 b, .string ⟨#[]⟩, .slice none 0 0] 29)) := (Below.refl _ _).alloc (Nat.le_refl _) _
  have HB := Lib.hid (below_of2 hb1 hba)
  have LW := Lib.hid (Leaf.new w1 k a b)
  clear hb1 hba
  go_wp2_with fail
  with_reducible refine (CI.out _).mono ?_
  rintro r w2 ⟨rfl, hb2⟩
  have hba : Below w2.heap.size w2 (w2.alloc (.cells #[.int .i64 k, .int .i64 a, .int .i64 b, .string ⟨#[]⟩, .slice none 0 0] 29)) := (Below.refl _ _).alloc (Nat.le_refl _) _
  replace HB := Lib.hid (below_of2 (below_of2 HB.out hb2) hba)
  replace LW := Lib.hid ((LW.out.behind hb2).behind hba)
  have LG := Lib.hid (Leaf.new w2 k a b)
  clear hb2 hba
  obtain ⟨c0, c1, c2, c3, c4⟩ := LW.out.cells
  -- eqValue(g0, w0)
  go_wp2_with fail
  with_reducible refine (CE.out _).mono ?_
  rintro r w3 ⟨rfl, hb⟩
  replace HB := Lib.hid (below_of2 HB.out hb)
  replace LW := Lib.hid (LW.out.behind hb)
  replace LG := Lib.hid (LG.out.behind hb)
  clear hb c0 c1 c2 c3 c4
  obtain ⟨d0, d1, d2, d3, d4⟩ := LG.out.cells
  -- markValue(g0, m)
  go_wp2_with fail
  with_reducible refine (CM.out _).mono ?_
  rintro r w4 ⟨rfl, hb⟩
  replace HB := Lib.hid (below_of2 HB.out hb)
  replace LW := Lib.hid (LW.out.behind hb)
  replace LG := Lib.hid (LG.out.behind hb)
  clear hb d0 d1 d2 d3 d4
  obtain ⟨d0, d1, d2, d3, d4⟩ := LG.out.cells
  -- heldValue(g0, q)
  go_wp2_with fail
  with_reducible refine (CH.out _).mono ?_
  rintro r w5 ⟨rfl, hb⟩
  replace HB := Lib.hid (below_of2 HB.out hb)
  replace LW := Lib.hid (LW.out.behind hb)
  replace LG := Lib.hid (LG.out.behind hb)
  clear hb d0 d1 d2 d3 d4
  -- h0, h1 := impl.Norm(aN, aE)
  go_wp2_with fail
  with_reducible refine (CI.out _).mono ?_
  rintro r w6 ⟨rfl, hb⟩
  have hba : Below w6.heap.size w6 (w6.alloc (.cells #[.int .i64 k, .int .i64 a, .int .i64 b, .string ⟨#[]⟩, .slice none 0 0] 29)) := (Below.refl _ _).alloc (Nat.le_refl _) _
  replace HB := Lib.hid (below_of2 (below_of2 HB.out hb) hba)
  replace LW := Lib.hid ((LW.out.behind hb).behind hba)
  replace LG := Lib.hid ((LG.out.behind hb).behind hba)
  clear hb hba
  obtain ⟨c0, c1, c2, c3, c4⟩ := LW.out.cells
  go_wp2_with fail
  with_reducible refine (CE.out _).mono ?_
  rintro r w7 ⟨rfl, hb⟩
  replace HB := Lib.hid (below_of2 HB.out hb)
  replace LG := Lib.hid (LG.out.behind hb)
  clear hb c0 c1 c2 c3 c4 LW
  obtain ⟨d0, d1, d2, d3, d4⟩ := LG.out.cells
  go_wp2_with fail
  with_reducible refine (CH.out _).mono ?_
  rintro r w8 ⟨rfl, hb⟩
  replace HB := Lib.hid (below_of2 HB.out hb)
  clear hb d0 d1 d2 d3 d4 LG
  go_wp2
  go_ret
  exact ⟨rfl, HB.out⟩
end Go.Proofs.Ytlkfaehfkapfnaa.fnExactNorm
