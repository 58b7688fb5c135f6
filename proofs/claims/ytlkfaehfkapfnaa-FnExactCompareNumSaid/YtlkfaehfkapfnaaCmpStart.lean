/-
  What impl.Compare begins with: the three shapes of the heap behind its first statement; its stack, two cells a pair of lists; what is left to compare.
-/
import Derived.Test.YtlkfaehfkapfnaaSpecCmp
import Derived.Test.YtlkfaehfkapfnaaEndless
namespace Go.Proofs.Ytlkfaehfkapfnaa.val
open Go.ChangeShapes Go.WideShapes Go.ChangeAt Go.RowKit
set_option maxRecDepth 100000

theorem fin_run {w W : World} {t : LT} (h : Mine w t) (hz : t.nodes ≤ 2000000) (hb : Below w.heap.size w W) : Calls Try.prog 42 #[.agg #[.int .i64 t.k, .int .i64 t.n, .int .i64 t.e, .string t.s, .slice t.a t.kids.length t.cap]] W fun e w' => e = .returned (.agg #[.int .i64 t.k, .int .i64 t.n, .int .i64 t.e, .string t.s, .slice t.a t.kids.length t.cap]) ∧ Below W.heap.size W w' :=
  finite_any endless_any W t (h.behind hb) hz
/-- The two lists that the comparison begins with, each with one value in a block of its own. -/
structure CmpAt (w wx : World) (x u : LT) (v : Value) : Prop where
  ex : ∃ na nb g, v = .slice (some ⟨g, 0, none⟩) 1 1 ∧ Box wx na x ∧ Box wx nb u ∧ wx.heap[g]? = some (.cells #[.slice (some ⟨na, 0, none⟩) 1 1, .slice (some ⟨nb, 0, none⟩) 1 1] 56 (0, 0)) ∧ w.heap.size ≤ na ∧ w.heap.size ≤ nb ∧ na < g ∧ nb < g
  low : Below w.heap.size w wx

theorem pair_at (w2 : World) (o : Obj) : (w2.alloc o).heap[w2.heap.size]? = some o := heap_alloc_new w2 o
theorem cmpA {w w1 w2 : World} {x u : LT} (hl : Below w.heap.size w w1) (hz : w.heap.size + 2 ≤ w1.heap.size) (hb : Below (w1.alloc (.cells #[.int .i64 x.k, .int .i64 x.n, .int .i64 x.e, .string x.s, .slice x.a x.kids.length x.cap] 29)).heap.size (w1.alloc (.cells #[.int .i64 x.k, .int .i64 x.n, .int .i64 x.e, .string x.s, .slice x.a x.kids.length x.cap] 29)) w2) :
    CmpAt w ((w2.alloc (.cells #[.int .i64 u.k, .int .i64 u.n, .int .i64 u.e, .string u.s, .slice u.a u.kids.length u.cap] 29)).alloc (.cells #[.slice (some ⟨w1.heap.size, 0, none⟩) 1 1, .slice (some ⟨w2.heap.size, 0, none⟩) 1 1] 56)) x u (.slice (some ⟨w2.heap.size + 1, 0, none⟩) 1 1) := by
  have hs := hb.size
  simp only [World.size_alloc] at hs
  refine ⟨⟨w1.heap.size, w2.heap.size, w2.heap.size + 1, rfl, ?_, ?_, ?_, by omega, by omega, by omega, by omega⟩, ?_⟩
  · refine (Box.new w1 x 29).of_block ?_
    rw [Below.heap_alloc _ _ _ (by simp; omega), Below.heap_alloc _ _ _ (by omega)]
    exact hb.block _ (by simp)
  · exact (Box.new w2 u 29).of_block (Below.heap_alloc _ _ _ (by simp))
  · have := pair_at (w2.alloc (.cells #[.int .i64 u.k, .int .i64 u.n, .int .i64 u.e, .string u.s, .slice u.a u.kids.length u.cap] 29)) (.cells #[.slice (some ⟨w1.heap.size, 0, none⟩) 1 1, .slice (some ⟨w2.heap.size, 0, none⟩) 1 1] 56)
    simpa using this
  · exact (((hl.alloc (by omega) _).trans (hb.mono (by simp; omega))).alloc (by omega) _).alloc (by simp; omega) _
theorem cmpB {w w1 w2 : World} {x u : LT} (hl : Below w.heap.size w w1) (hz : w.heap.size + 2 ≤ w1.heap.size) (hb : Below w1.heap.size w1 w2) :
    CmpAt w (((w2.alloc (.cells #[.int .i64 x.k, .int .i64 x.n, .int .i64 x.e, .string x.s, .slice x.a x.kids.length x.cap] 29)).alloc (.cells #[.int .i64 u.k, .int .i64 u.n, .int .i64 u.e, .string u.s, .slice u.a u.kids.length u.cap] 29)).alloc (.cells #[.slice (some ⟨w2.heap.size, 0, none⟩) 1 1, .slice (some ⟨w2.heap.size + 1, 0, none⟩) 1 1] 56)) x u (.slice (some ⟨w2.heap.size + 1 + 1, 0, none⟩) 1 1) := by
  have hs := hb.size
  refine ⟨⟨w2.heap.size, w2.heap.size + 1, w2.heap.size + 1 + 1, rfl, ?_, ?_, ?_, by omega, by omega, by omega, by omega⟩, ?_⟩
  · exact ((Box.new w2 x 29).of_block (Below.heap_alloc _ _ _ (by simp))).of_block (Below.heap_alloc _ _ _ (by simp; omega))
  · have := Box.new (w2.alloc (.cells #[.int .i64 x.k, .int .i64 x.n, .int .i64 x.e, .string x.s, .slice x.a x.kids.length x.cap] 29)) u 29
    simp only [World.size_alloc] at this
    exact this.of_block (Below.heap_alloc _ _ _ (by simp))
  · have := pair_at ((w2.alloc (.cells #[.int .i64 x.k, .int .i64 x.n, .int .i64 x.e, .string x.s, .slice x.a x.kids.length x.cap] 29)).alloc (.cells #[.int .i64 u.k, .int .i64 u.n, .int .i64 u.e, .string u.s, .slice u.a u.kids.length u.cap] 29)) (.cells #[.slice (some ⟨w2.heap.size, 0, none⟩) 1 1, .slice (some ⟨w2.heap.size + 1, 0, none⟩) 1 1] 56)
    simpa using this
  · exact (((hl.trans (hb.mono (by omega))).alloc (by omega) _).alloc (by simp; omega) _).alloc (by simp; omega) _
theorem cmpC {w w1 w2 : World} {x u : LT} (hl : Below w.heap.size w w1) (hz : w.heap.size + 2 ≤ w1.heap.size) (hb : Below w1.heap.size w1 w2) :
    CmpAt w (((w2.alloc (.cells #[.int .i64 u.k, .int .i64 u.n, .int .i64 u.e, .string u.s, .slice u.a u.kids.length u.cap] 29)).alloc (.cells #[.int .i64 x.k, .int .i64 x.n, .int .i64 x.e, .string x.s, .slice x.a x.kids.length x.cap] 29)).alloc (.cells #[.slice (some ⟨w2.heap.size + 1, 0, none⟩) 1 1, .slice (some ⟨w2.heap.size, 0, none⟩) 1 1] 56)) x u (.slice (some ⟨w2.heap.size + 1 + 1, 0, none⟩) 1 1) := by
  have hs := hb.size
  refine ⟨⟨w2.heap.size + 1, w2.heap.size, w2.heap.size + 1 + 1, rfl, ?_, ?_, ?_, by omega, by omega, by omega, by omega⟩, ?_⟩
  · have := Box.new (w2.alloc (.cells #[.int .i64 u.k, .int .i64 u.n, .int .i64 u.e, .string u.s, .slice u.a u.kids.length u.cap] 29)) x 29
    simp only [World.size_alloc] at this
    exact this.of_block (Below.heap_alloc _ _ _ (by simp))
  · exact ((Box.new w2 u 29).of_block (Below.heap_alloc _ _ _ (by simp))).of_block (Below.heap_alloc _ _ _ (by simp; omega))
  · have := pair_at ((w2.alloc (.cells #[.int .i64 u.k, .int .i64 u.n, .int .i64 u.e, .string u.s, .slice u.a u.kids.length u.cap] 29)).alloc (.cells #[.int .i64 x.k, .int .i64 x.n, .int .i64 x.e, .string x.s, .slice x.a x.kids.length x.cap] 29)) (.cells #[.slice (some ⟨w2.heap.size + 1, 0, none⟩) 1 1, .slice (some ⟨w2.heap.size, 0, none⟩) 1 1] 56)
    simpa using this
  · exact (((hl.trans (hb.mono (by omega))).alloc (by omega) _).alloc (by simp; omega) _).alloc (by simp; omega) _

/-! Rows of two cells an element. -/
section
variable {w : World} {base g n cap : Nat} {e : TypeId} {xs : List Value}
theorem row_cell {v : Value} (h : w.ownsRow base e 2 (.slice (some ⟨g, 0, none⟩) n cap) n xs) (j : Nat) (hj : xs[j]? = some v) : w.cell? ⟨g, j, none⟩ = some v := by
  obtain ⟨h1, h2⟩ := h
  rcases h2 with ⟨h0, _⟩ | ⟨g', cap', cur, h0, hb, hg, hc, hm, hs, ht⟩
  · cases h0
  · injection h0 with h1' h2' h3'
    injection h1' with h1'
    injection h1' with h1'
    subst h1'
    rw [cell_of_row w g j _ _ (0, 0) hg, ← hj, ← ht]
    have hjl : j < xs.length := (List.getElem?_eq_some_iff.1 hj).1
    rw [List.getElem?_take_of_lt (by omega)]
    simp
theorem row_take (h : w.ownsRow base e 2 (.slice (some ⟨g, 0, none⟩) n cap) n xs) (m : Nat) (hm : m ≤ n) : w.ownsRow base e 2 (.slice (some ⟨g, 0, none⟩) m cap) m (xs.take (m * 2)) := by
  obtain ⟨h1, h2⟩ := h
  refine ⟨by rw [List.length_take]; omega, ?_⟩
  rcases h2 with ⟨h0, _⟩ | ⟨g', cap', cur, h0, hb, hg, hc, hm', hs, ht⟩
  · cases h0
  · injection h0 with h1' h2' h3'
    subst h3'
    rw [h1']
    refine .inr ⟨g', _, cur, rfl, hb, hg, by omega, hm', hs, ?_⟩
    rw [← ht, List.take_take]
    congr 1
    omega
theorem row_set (h : w.ownsRow base e 2 (.slice (some ⟨g, 0, none⟩) n cap) n xs) (j : Nat) (v : Value) : (w.setCell ⟨g, j, none⟩ v).ownsRow base e 2 (.slice (some ⟨g, 0, none⟩) n cap) n (xs.set j v) := by
  obtain ⟨h1, h2⟩ := h
  refine ⟨by rw [List.length_set]; exact h1, ?_⟩
  rcases h2 with ⟨h0, _⟩ | ⟨g', cap', cur, h0, hb, hg, hc, hm, hs, ht⟩
  · cases h0
  · injection h0 with h1' h2' h3'
    injection h1' with h1'
    injection h1' with h1'
    subst h1' h3'
    refine .inr ⟨g, _, cur.setIfInBounds j v, rfl, hb, blk_set hg v, hc, hm, by simpa using hs, ?_⟩
    rw [Array.toList_setIfInBounds, List.take_set, ht]
end

/-! The stack of pairs, the innermost first. -/
structure PSeg where
  a : Seg
  b : Seg
def encP (s : PSeg) : List Value := [s.a.enc, s.b.enc]
def encs2 (st : List PSeg) : List Value := st.reverse.flatMap encP
theorem encs2_cons (s : PSeg) (st : List PSeg) : encs2 (s :: st) = encs2 st ++ encP s := by unfold encs2; simp
theorem encs2_len (st : List PSeg) : (encs2 st).length = st.length * 2 := by
  induction st with
  | nil => rfl
  | cons s st ih => rw [encs2_cons, List.length_append, ih, List.length_cons]; simp [encP]; omega
/-- What is left to compare. -/
def remC : List PSeg → Int
  | [] => 0
  | s :: rest => firstOf [cmpVL (s.a.ts.map er) (s.b.ts.map er), remC rest]
def remN : List PSeg → Nat
  | [] => 0
  | s :: rest => LT.nodesL s.a.ts + remN rest
theorem firstOf_two (a b : Int) : firstOf [a, b] = if a = 0 then b else a := by
  simp only [firstOf]
  split
  · split
    · rename_i h; exact h.symm
    · rfl
  · rfl
theorem remC_pop {a b : Seg} (ha : a.ts = []) (rest : List PSeg) : remC (⟨a, b⟩ :: rest) = remC rest := by
  rw [remC, firstOf_two, ha, List.map_nil, cmpVL, if_pos rfl]
theorem remC_stop {a b : Seg} {x u : LT} {xs us : List LT} (ha : a.ts = x :: xs) (hb : b.ts = u :: us) (h : cmpF x u ≠ 0) (rest : List PSeg) : remC (⟨a, b⟩ :: rest) = cmpF x u := by
  have h1 : cmpV (er x) (er u) = cmpF x u := by rw [cmpV_er, if_neg h]
  rw [remC, firstOf_two, ha, hb, List.map_cons, List.map_cons, cmpVL]
  simp only [firstOf_two, h1, if_neg h]
theorem remC_push {a b a' b' : Seg} {x u : LT} {xs us : List LT} (ha : a.ts = x :: xs) (hb : b.ts = u :: us) (ha' : a'.ts = xs) (hb' : b'.ts = us) (h : cmpF x u = 0) (rest : List PSeg) : remC (⟨a, b⟩ :: rest) = remC (⟨⟨x.a, x.cap, x.kids⟩, ⟨u.a, u.cap, u.kids⟩⟩ :: ⟨a', b'⟩ :: rest) := by
  have h1 : cmpV (er x) (er u) = cmpVL (x.kids.map er) (u.kids.map er) := by rw [cmpV_er, if_pos h]
  rw [remC, remC, remC, ha, hb, ha', hb', List.map_cons, List.map_cons, cmpVL]
  simp only [firstOf_two, h1]
  generalize cmpVL (x.kids.map er) (u.kids.map er) = A
  generalize cmpVL (xs.map er) (us.map er) = B
  generalize remC rest = C
  by_cases hA : A = 0
  · simp [hA]
  · simp [hA]

end Go.Proofs.Ytlkfaehfkapfnaa.val
