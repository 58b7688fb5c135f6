/-
  A value in a box of five cells; what stays where only blocks in between are written. For the laws on values.
-/
import Derived.Test.YthjholhjkahdkaaValMark
import Derived.Test.YthjholhjkahdkaaValTo
import Derived.Test.YthjholhjkahdkaaValEq
import Derived.Test.YthjholhjkahdkaaValSz
namespace Go.Proofs.Ythjholhjkahdkaa.val
open Go.ChangeShapes Go.WideShapes Go.ChangeAt Go.RowKit
set_option maxRecDepth 100000

structure Box (w : World) (N : Nat) (t : LT) : Prop where
  b0 : w.cell? ⟨N, 0, none⟩ = some (.int .i64 t.k)
  b1 : w.cell? ⟨N, 1, none⟩ = some (.int .i64 t.n)
  b2 : w.cell? ⟨N, 2, none⟩ = some (.int .i64 t.e)
  b3 : w.cell? ⟨N, 3, none⟩ = some (.string t.s)
  b4 : w.cell? ⟨N, 4, none⟩ = some t.row
theorem Box.lt {w : World} {N : Nat} {t : LT} (h : Box w N t) : N < w.heap.size := World.block_lt_of_cell? w _ h.b0
theorem Box.of_block {w w' : World} {N : Nat} {t : LT} (h : Box w N t) (hb : w'.heap[N]? = w.heap[N]?) : Box w' N t := by
  have c : ∀ j, w'.cell? ⟨N, j, none⟩ = w.cell? ⟨N, j, none⟩ := fun j => World.cell?_of_block hb
  exact ⟨(c _).trans h.b0, (c _).trans h.b1, (c _).trans h.b2, (c _).trans h.b3, (c _).trans h.b4⟩
theorem Box.behind {w w' : World} {N : Nat} {t : LT} (h : Box w N t) (hb : Below w.heap.size w w') : Box w' N t := h.of_block (hb.block N h.lt)
theorem Box.drewN {w : World} {N : Nat} {t : LT} (h : Box w N t) (n : Nat) : Box (w.drewN n) N t := h.of_block rfl
theorem Box.new (w : World) (t : LT) (T : TypeId) : Box (w.alloc (.cells #[.int .i64 t.k, .int .i64 t.n, .int .i64 t.e, .string t.s, t.row] T)) w.heap.size t := by
  have hb := heap_alloc_new w (.cells #[.int .i64 t.k, .int .i64 t.n, .int .i64 t.e, .string t.s, t.row] T)
  exact ⟨cell_of_row _ _ 0 _ _ (0, 0) hb, cell_of_row _ _ 1 _ _ (0, 0) hb, cell_of_row _ _ 2 _ _ (0, 0) hb, cell_of_row _ _ 3 _ _ (0, 0) hb, cell_of_row _ _ 4 _ _ (0, 0) hb⟩
theorem Box.touched {w w' : World} {lo hi N : Nat} {t : LT} (h : Box w N t) (ht : Touched lo hi w w') (hn : N < lo ∨ hi ≤ N) : Box w' N t := h.of_block (ht.out N h.lt hn)
theorem Box.grown {w w' : World} {N : Nat} {t : LT} {row : Option Nat} (h : Box w N t) (hg : w.grownBy w' row) (hn : some N ≠ row) : Box w' N t := h.of_block (hg.block N h.lt hn)
theorem own_touched {α : Type} {w w' : World} {lo hi base : Nat} {e : TypeId} {enc : α → Value} {v : Value} {l : List α} (h : OwnL w base e enc v l) (ht : Touched lo hi w w') (hn : ∀ k, v.ownBlock = some k → k < lo ∨ hi ≤ k) : OwnL w' base e enc v l := by
  obtain ⟨h1, h2⟩ := h
  refine ⟨h1, ?_⟩
  rcases h2 with h2 | ⟨g, cap, cur, rfl, hb, hg, rest⟩
  · exact .inl h2
  · refine .inr ⟨g, cap, cur, rfl, hb, ?_, rest⟩
    rw [ht.out g (Array.getElem?_eq_some_iff.1 hg).1 (hn g rfl)]
    exact hg
theorem Own.drewN {w : World} {lo hi : Nat} {t : LT} (h : Own w lo hi t) (n : Nat) : Own (w.drewN n) lo hi t := h.kept (Nat.le_refl _) (Nat.le_refl _) fun _ _ _ => rfl
theorem In.mono {w : World} {B B' : Nat} {t : LT} (h : In w B t) (hB : B ≤ B') : In w B' t := by
  induction h with
  | mk k1 k2 k3 k4 k5 hc _ ih => exact .mk k1 k2 k3 k4 k5 (fun i hi => by obtain ⟨x, h1, h2, h3⟩ := hc i hi; exact ⟨x, h1, by omega, h3⟩) ih

/-! The three beginnings of a law, for all worlds behind the first. -/
theorem below_of2 {w w1 w2 : World} (hb : Below w.heap.size w w1) (hg : Below w1.heap.size w1 w2) : Below w.heap.size w w2 := hb.trans (hg.mono hb.size)

end Go.Proofs.Ythjholhjkahdkaa.val
