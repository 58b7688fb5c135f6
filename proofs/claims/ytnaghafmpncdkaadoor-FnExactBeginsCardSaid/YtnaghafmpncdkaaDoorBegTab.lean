/-
  The table of the greatest numbers of heads lies as its text lays it.
-/
import Derived.Test.YtnaghafmpncdkaaDoorReaderWalk
import Derived.Lib.LaidU8
namespace Go.Proofs.YtnaghafmpncdkaaDoor.begTab
open Go.Lib Go.RowKit
set_option maxRecDepth 100000

def cells : Array Value := #[.int .u64 9223372036854775807, .int .u64 9223372036854775807, .int .u64 2000, .int .u64 2000, .int .u64 300, .int .u64 300, .int .u64 1000000, .int .u64 22]
/-- The table lies where the program's text lays it. -/
structure Tab (w : World) : Prop where
  block : ∃ t fr, w.heap[3]? = some (.cells cells t fr)
theorem Tab.lt {w : World} (h : Tab w) : 3 < w.heap.size := by
  obtain ⟨t, fr, h⟩ := h
  exact (Array.getElem?_eq_some_iff.1 h).1
theorem Tab.below {w w' : World} {B : Nat} (h : Tab w) (hB : 3 < B) (hb : Below B w w') : Tab w' := by
  obtain ⟨t, fr, h⟩ := h
  exact ⟨t, fr, by rw [hb.block _ hB]; exact h⟩
theorem Tab.only {w w' : World} {b : Nat} (h : Tab w) (hg : w.grownBy w' (some b)) (hb : 3 ≠ b) : Tab w' := by
  have hl := h.lt
  obtain ⟨t, fr, h⟩ := h
  exact ⟨t, fr, (hg.block _ hl (fun e => hb (by injection e))).trans h⟩
theorem Tab.alloc {w : World} (h : Tab w) (o : Obj) : Tab (w.alloc o) := by
  have hl := h.lt
  obtain ⟨t, fr, h⟩ := h
  exact ⟨t, fr, (Below.heap_alloc _ _ _ hl).trans h⟩
theorem Tab.drew {w : World} (h : Tab w) : Tab w.drew := ⟨h.block⟩
theorem of_laid {l : List (String × DataW Unit)} {w : World} (hL : laidMet Tryd.prog l w) (h1 : ("loop.example/g00421/impl.greatestNumbers", Rows.laid_loop_example_g00421_impl_greatestNumbers) ∈ l) : Tab w := by
  obtain ⟨g, t, cs, fuel, p, hg, hty, hvar, hd⟩ := laidMet.reads hL h1
  obtain rfl := Option.some.inj ((show Tryd.prog.globalNamed "loop.example/g00421/impl.greatestNumbers" = some 3 by kernel_rfl).symm.trans hg)
  obtain rfl := Option.some.inj ((show (Tryd.prog.globals[3]?).map (·.type) = some 146 by kernel_rfl).symm.trans hty)
  have hc : Tryd.prog.cellsOf 76 = 1 := by kernel_rfl
  have hct : Tryd.prog.cellsOf 146 = 8 := by kernel_rfl
  have hlen : cs.toList.length = 8 := by
    obtain ⟨xs, m, _, _, hlen, _⟩ := DataW.trod_array Tryd.underlying146 hd
    rw [hlen, hct]
  have el : ∀ (i : Nat) (hi : i < 8) (z : Int), ([DataW.lit (.int .u64 9223372036854775807), .lit (.int .u64 9223372036854775807), .lit (.int .u64 2000), .lit (.int .u64 2000), .lit (.int .u64 300), .lit (.int .u64 300), .lit (.int .u64 1000000), .lit (.int .u64 22)] : List (DataW Unit))[i]? = some (.lit (.int .u64 z)) → (cs.toList.drop (i * 1)).take 1 = [.int .u64 z] := by
    intro i hi z hab
    obtain ⟨fuel', d, q, hdi, he⟩ := array_elem Tryd.underlying146 hd i hi
    rw [hab] at hdi
    obtain rfl := Option.some.inj hdi
    rw [hc] at he
    obtain ⟨n, e1, e2, _⟩ := DataW.trod_int Tryd.underlying76 he
    rw [e1]
    injection e2 with e2 _
    injection e2 with e2
    injection e2 with _ e2
    rw [e2]
  have hcs : cs.toList = cells.toList := by
    have a0 := el 0 (by omega) _ rfl
    have a1 := el 1 (by omega) _ rfl
    have a2 := el 2 (by omega) _ rfl
    have a3 := el 3 (by omega) _ rfl
    have a4 := el 4 (by omega) _ rfl
    have a5 := el 5 (by omega) _ rfl
    have a6 := el 6 (by omega) _ rfl
    have a7 := el 7 (by omega) _ rfl
    generalize cs.toList = L at *
    match L, hlen with
    | [x0, x1, x2, x3, x4, x5, x6, x7], _ =>
      simp at a0 a1 a2 a3 a4 a5 a6 a7
      simp [a0, a1, a2, a3, a4, a5, a6, a7, cells]
  have hcs' : cs = cells := Array.toList_inj.1 hcs
  subst hcs'
  unfold World.var? at hvar
  rw [show Tryd.prog.globalNamed "loop.example/g00421/impl.greatestNumbers" = some 3 by kernel_rfl, Option.bind_some] at hvar
  split at hvar
  · next cs' t fr hh =>
    obtain rfl := Option.some.inj hvar
    exact ⟨t, fr, hh⟩
  · cases hvar

theorem gidx (w : World) (i : Nat) (hi : i < 8) : (Instr.index 146 (.agg cells) (.int .i64 (i : Int))).run Tryd.prog w = .ok (.int .u64 (if i ≤ 1 then 9223372036854775807 else if i ≤ 3 then 2000 else if i ≤ 5 then 300 else if i = 6 then 1000000 else 22)) w := by
  have hs : Tryd.prog.cellsOf 76 = 1 := by kernel_rfl
  rcases (show i = 0 ∨ i = 1 ∨ i = 2 ∨ i = 3 ∨ i = 4 ∨ i = 5 ∨ i = 6 ∨ i = 7 by omega) with rfl | rfl | rfl | rfl | rfl | rfl | rfl | rfl <;>
  simp [Instr.index, run_underlying Tryd.underlying146, asIntOf, go_sem, cells]
theorem Tab.at {w : World} (h : Tab w) (i : Nat) (hi : i < 8) : w.cell? ⟨3, i, none⟩ = some (.int .u64 (if i ≤ 1 then 9223372036854775807 else if i ≤ 3 then 2000 else if i ≤ 5 then 300 else if i = 6 then 1000000 else 22)) := by
  obtain ⟨t, fr, h⟩ := h
  refine (cell_of_row w 3 i _ _ fr h).trans ?_
  rcases (show i = 0 ∨ i = 1 ∨ i = 2 ∨ i = 3 ∨ i = 4 ∨ i = 5 ∨ i = 6 ∨ i = 7 by omega) with rfl | rfl | rfl | rfl | rfl | rfl | rfl | rfl <;> simp [cells]
end Go.Proofs.YtnaghafmpncdkaaDoor.begTab
