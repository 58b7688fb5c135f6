/-
  impl's table of short escapes as a row of this seat lists it: what its block holds.
-/
import Derived.Test.YtnfbjcpoealkoaaGreatDoorRows
import Derived.Lib.LaidU8
import Derived.Below
import Derived.WalkKit
import Derived.OpenShut
namespace Go.Proofs.YtnfbjcpoealkoaaGreatDoor.shortTab
open Go.Lib Go.RowKit
set_option maxRecDepth 100000

def cells : Array Value := #[.int .u8 34, .int .u8 34, .int .u8 92, .int .u8 92, .int .u8 8, .int .u8 98, .int .u8 12, .int .u8 102, .int .u8 10, .int .u8 110, .int .u8 13, .int .u8 114, .int .u8 9, .int .u8 116]
/-- The table lies where the program's text lays it. -/
structure Tab (w : World) : Prop where
  block : ∃ t fr, w.heap[4]? = some (.cells cells t fr)
theorem Tab.lt {w : World} (h : Tab w) : 4 < w.heap.size := by
  obtain ⟨t, fr, h⟩ := h
  exact (Array.getElem?_eq_some_iff.1 h).1
theorem Tab.below {w w' : World} (h : Tab w) (hb : Below w.heap.size w w') : Tab w' := by
  have hl := h.lt
  obtain ⟨t, fr, h⟩ := h
  exact ⟨t, fr, by rw [hb.block _ hl]; exact h⟩

theorem pair_of {fuel : Nat} {w : World} {base : Nat} {sp : Nat → Bool} {held : Bool} {enc : TypeId × Value → Unit} {cs : List Value} {p : List MemPlace} {a b : Int}
    (h : DataW.trod enc Tryz.prog w base sp held fuel 254 cs = some (.agg [.lit (.int .u8 a), .lit (.int .u8 b)], p)) : cs = [.int .u8 a, .int .u8 b] :=
  ints_of_struct (zs := [a, b]) Tryz.underlying254 (fun j f hj => by
      match j, hj with
      | 0, hj => simp at hj; subst hj; exact ⟨Tryz.underlying5, rfl, by kernel_rfl⟩
      | 1, hj => simp at hj; subst hj; exact ⟨Tryz.underlying5, rfl, by kernel_rfl⟩
      | j + 2, hj => simp at hj) (by kernel_rfl) h

theorem seven {l : List Value} (h : l.length = 14) (h0 : (l.drop 0).take 2 = [.int .u8 34, .int .u8 34]) (h1 : (l.drop 2).take 2 = [.int .u8 92, .int .u8 92]) (h2 : (l.drop 4).take 2 = [.int .u8 8, .int .u8 98]) (h3 : (l.drop 6).take 2 = [.int .u8 12, .int .u8 102])
    (h4 : (l.drop 8).take 2 = [.int .u8 10, .int .u8 110]) (h5 : (l.drop 10).take 2 = [.int .u8 13, .int .u8 114]) (h6 : (l.drop 12).take 2 = [.int .u8 9, .int .u8 116]) : l = cells.toList := by
  match l, h with
  | [x0, x1, x2, x3, x4, x5, x6, x7, x8, x9, x10, x11, x12, x13], _ =>
    simp at h0 h1 h2 h3 h4 h5 h6
    simp [cells, h0, h1, h2, h3, h4, h5, h6]

theorem of_laid {l : List (String × DataW Unit)} {w : World} (hL : laidMet Tryz.prog l w) (h1 : ("loop.example/g00421/impl.shortEscapes", Rows.laid_loop_example_g00421_impl_shortEscapes) ∈ l) : Tab w := by
  obtain ⟨g, t, cs, fuel, p, hg, hty, hvar, hd⟩ := laidMet.reads hL h1
  obtain rfl := Option.some.inj ((show Tryz.prog.globalNamed "loop.example/g00421/impl.shortEscapes" = some 4 by kernel_rfl).symm.trans hg)
  obtain rfl := Option.some.inj ((show (Tryz.prog.globals[4]?).map (·.type) = some 255 by kernel_rfl).symm.trans hty)
  have hc : Tryz.prog.cellsOf 254 = 2 := by kernel_rfl
  have hct : Tryz.prog.cellsOf 255 = 14 := by kernel_rfl
  have hlen : cs.toList.length = 14 := by
    obtain ⟨xs, m, _, _, hlen, _⟩ := DataW.trod_array Tryz.underlying255 hd
    rw [hlen, hct]
  have el : ∀ (i : Nat) (hi : i < 7) (a b : Int), ([DataW.agg [.lit (.int .u8 34), .lit (.int .u8 34)], .agg [.lit (.int .u8 92), .lit (.int .u8 92)], .agg [.lit (.int .u8 8), .lit (.int .u8 98)], .agg [.lit (.int .u8 12), .lit (.int .u8 102)], .agg [.lit (.int .u8 10), .lit (.int .u8 110)], .agg [.lit (.int .u8 13), .lit (.int .u8 114)], .agg [.lit (.int .u8 9), .lit (.int .u8 116)]] : List (DataW Unit))[i]? = some (.agg [.lit (.int .u8 a), .lit (.int .u8 b)]) →
      (cs.toList.drop (i * 2)).take 2 = [.int .u8 a, .int .u8 b] := by
    intro i hi a b hab
    obtain ⟨fuel', d, q, hdi, he⟩ := array_elem Tryz.underlying255 hd i hi
    rw [hab] at hdi
    obtain rfl := Option.some.inj hdi
    rw [hc] at he
    exact pair_of he
  have hcs : cs.toList = cells.toList := seven hlen (el 0 (by omega) _ _ rfl) (el 1 (by omega) _ _ rfl) (el 2 (by omega) _ _ rfl) (el 3 (by omega) _ _ rfl) (el 4 (by omega) _ _ rfl) (el 5 (by omega) _ _ rfl) (el 6 (by omega) _ _ rfl)
  have hcs' : cs = cells := Array.toList_inj.1 hcs
  subst hcs'
  unfold World.var? at hvar
  rw [show Tryz.prog.globalNamed "loop.example/g00421/impl.shortEscapes" = some 4 by kernel_rfl, Option.bind_some] at hvar
  split at hvar
  · next cs' t fr hh =>
    obtain rfl := Option.some.inj hvar
    exact ⟨t, fr, hh⟩
  · cases hvar
end Go.Proofs.YtnfbjcpoealkoaaGreatDoor.shortTab
