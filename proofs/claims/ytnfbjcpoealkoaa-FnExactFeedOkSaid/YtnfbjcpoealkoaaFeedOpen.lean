/-
  An argument of the law's type Feed, read as data: a text, a number, whether it is bad.
-/
import Derived.Test.YtnfbjcpoealkoaaRows
import Derived.WalkKit
import Derived.ProofKit
import Derived.OpenShut
import Derived.ChangeArms
import Derived.DataReads
namespace Go.Proofs.Ytnfbjcpoealkoaa.feed
open Go.ChangeShapes Go.WideShapes Go.ChangeAt Go.RowKit
set_option maxRecDepth 100000

theorem three {l : List Value} (h : l.length = 3) : ∃ c0 c1 c2, l = [c0, c1, c2] := by
  match l, h with
  | [c0, c1, c2], _ => exact ⟨c0, c1, c2, rfl⟩
theorem sized3 : Try.prog.cellsOf 23 = 3 := by kernel_rfl
theorem cells1s : Try.prog.cellsOf 9 = 1 := by kernel_rfl
theorem cells1i : Try.prog.cellsOf 3 = 1 := by kernel_rfl
theorem cells1b : Try.prog.cellsOf 4 = 1 := by kernel_rfl
theorem open_feed {H : Type} {enc : TypeId × Value → H} {W : World} (fuel : Nat) (cs : List Value) (x : DataW H × List MemPlace) (h : DataW.trod enc Try.prog W 0 (fun _ => true) true fuel 23 cs = some x) :
    ∃ (s : ByteArray) (n : Int) (b : Bool), cs = [.string s, .int .i64 n, .bool b] ∧ s.size ≤ maxLen ∧ (Lit.int .i64 n).wf = true := by
  obtain ⟨xs, m, rfl, hx, hlen, hxl, hf⟩ := DataW.trod_struct Try.underlying23 h
  rw [sized3] at hlen
  obtain ⟨c0, c1, c2, rfl⟩ := three hlen
  have hxl3 : xs.length = 3 := hxl
  have g : ∀ i (hi : i < 3), xs[i]? = some (xs[i]'(by omega)) := fun i hi => List.getElem?_eq_getElem (by omega)
  have h0 := (hf 0 _ rfl).trans (g 0 (by omega))
  have h1 := (hf 1 _ rfl).trans (g 1 (by omega))
  have h2 := (hf 2 _ rfl).trans (g 2 (by omega))
  have q0 : DataW.trod enc Try.prog W 0 (fun _ => true) true m 9 ([c0, c1, c2].take (Try.prog.cellsOf 9)) = _ := h0
  have q1 : DataW.trod enc Try.prog W 0 (fun _ => true) true m 3 ([c1, c2].take (Try.prog.cellsOf 3)) = _ := h1
  have q2 : DataW.trod enc Try.prog W 0 (fun _ => true) true m 4 ([c2].take (Try.prog.cellsOf 4)) = _ := h2
  rw [cells1s] at q0
  rw [cells1i] at q1
  rw [cells1b] at q2
  simp only [List.take_succ_cons, List.take_zero] at q0 q1 q2
  obtain ⟨s, e0, _, w0⟩ := DataW.trod_string Try.underlying9 q0
  obtain ⟨n, e1, _, w1⟩ := DataW.trod_int Try.underlying3 q1
  obtain ⟨b, e2, _⟩ := DataW.trod_bool Try.underlying4 q2
  injection e0 with e0
  injection e1 with e1
  injection e2 with e2
  subst e0; subst e1; subst e2
  exact ⟨s, n, b, rfl, w0, w1⟩
end Go.Proofs.Ytnfbjcpoealkoaa.feed
