/-
  What laws.markValue does to a value in memory of a call's own: it ends, and writes into the value's own blocks alone. (That its marks are held is told elsewhere.)
-/
import Derived.Test.YthjholhjkahdkaaValOwn
import Derived.Test.YthjholhjkahdkaaStrS
namespace Go.Proofs.Ythjholhjkahdkaa.val
open Go.ChangeShapes Go.WideShapes Go.ChangeAt Go.RowKit
set_option maxRecDepth 100000

/-- The lists of a value, their places alone: whole blocks from lo on, below hi, that may be written. -/
inductive Shp (w : World) (lo hi : Nat) : LT → Prop
  | mk {k n e : Int} {s : ByteArray} {g cap : Nat} {kids : List LT} (cs : Array Value) (hl : kids.length ≤ 1048576) (hlo : lo ≤ g) (hhi : g < hi) (hb : w.heap[g]? = some (.cells cs 26 (0, 0))) (hz : kids.length * 5 ≤ cs.size)
      (hc : ∀ i (h : i < kids.length), cs[i * 5 + 4]? = some kids[i].row) (hkids : ∀ i (h : i < kids.length), Shp w lo hi kids[i]) : Shp w lo hi (.mk k n e s (some ⟨g, 0, none⟩) cap kids)
/-- From w to w' only cells of blocks in between are written, and no cell that holds a list. -/
structure Touched (lo hi : Nat) (w w' : World) : Prop where
  os : w'.os = w.os
  tape : w'.tape = w.tape
  output : w'.output = w.output
  size : w.heap.size ≤ w'.heap.size
  out : ∀ b, b < w.heap.size → (b < lo ∨ hi ≤ b) → w'.heap[b]? = w.heap[b]?
  mid : ∀ b cs, lo ≤ b → b < hi → w.heap[b]? = some (.cells cs 26 (0, 0)) → ∃ cs', w'.heap[b]? = some (.cells cs' 26 (0, 0)) ∧ cs'.size = cs.size ∧ ∀ i, cs'[i * 5 + 4]? = cs[i * 5 + 4]?
theorem Touched.refl (lo hi : Nat) (w : World) : Touched lo hi w w := ⟨rfl, rfl, rfl, Nat.le_refl _, fun _ _ _ => rfl, fun b cs _ _ h => ⟨cs, h, rfl, fun _ => rfl⟩⟩
theorem Touched.trans {lo hi : Nat} {a b c : World} (h : Touched lo hi a b) (k : Touched lo hi b c) : Touched lo hi a c :=
  ⟨k.os.trans h.os, k.tape.trans h.tape, k.output.trans h.output, Nat.le_trans h.size k.size, fun i h1 h2 => (k.out i (Nat.lt_of_lt_of_le h1 h.size) h2).trans (h.out i h1 h2), fun i cs h1 h2 h3 => by
    obtain ⟨cs1, e1, z1, f1⟩ := h.mid i cs h1 h2 h3
    obtain ⟨cs2, e2, z2, f2⟩ := k.mid i cs1 h1 h2 e1
    exact ⟨cs2, e2, z2.trans z1, fun i => (f2 i).trans (f1 i)⟩⟩
theorem Touched.of_below {lo hi : Nat} {a b : World} (h : Below a.heap.size a b) (hh : hi ≤ a.heap.size) : Touched lo hi a b :=
  ⟨h.os, h.tape, h.output, h.size, fun i h1 _ => h.block i h1, fun i cs _ h2 h3 => ⟨cs, (h.block i (by omega)).trans h3, rfl, fun _ => rfl⟩⟩
theorem Touched.below {lo hi : Nat} {a b : World} (h : Touched lo hi a b) (hl : lo ≤ a.heap.size) : Below lo a b := ⟨h.os, h.tape, h.output, h.size, fun k hk => h.out k (by omega) (.inl hk)⟩
theorem Touched.set {lo hi : Nat} {a w : World} {g o : Nat} (h : Touched lo hi a w) (hl : lo ≤ g) (hh : g < hi) (ho : ∀ i, o ≠ i * 5 + 4) (v : Value) : Touched lo hi a (w.setCell ⟨g, o, none⟩ v) :=
  h.trans ⟨rfl, rfl, rfl, by rw [set_size]; exact Nat.le_refl _, fun b _ hb => blk_other v (by omega), fun b cs _ _ hb => by
    by_cases e : b = g
    · subst e
      exact ⟨_, blk_set hb v, by simp, fun i => Array.getElem?_setIfInBounds_ne (ho i)⟩
    · exact ⟨cs, (blk_other v e).trans hb, rfl, fun _ => rfl⟩⟩
theorem Shp.touched {w w' : World} {lo hi : Nat} {t : LT} (h : Shp w lo hi t) (ht : Touched lo hi w w') : Shp w' lo hi t := by
  induction h with
  | mk cs hl hlo hhi hb hz hc _ ih =>
    obtain ⟨cs', e1, z1, f1⟩ := ht.mid _ cs hlo hhi hb
    exact .mk cs' hl hlo hhi e1 (by omega) (fun i hi => (f1 i).trans (hc i hi)) ih
theorem Own.shp {w : World} {lo hi : Nat} {t : LT} (h : Own w lo hi t) (hz : t.sz ≤ 1048576) : Shp w lo hi t := by
  induction h with
  | mk cs k1 k2 k3 k4 k5 hlo hhi hb hz' hc hkk ih =>
    rename_i k n e s g cap kids
    rw [sz_mk] at hz
    simp only [LT.s, LT.kids] at hz
    have hlen := szL_len kids
    refine .mk cs (by omega) hlo hhi hb hz' (fun i hi => ?_) (fun i hi => ih i hi ?_)
    · have := (hc i hi).c4
      rw [cell_of_row w g (i * 5 + 4) cs _ (0, 0) hb] at this
      exact this
    · have h1 := szL_take kids i hi
      have h2 := szL_le kids (i + 1)
      omega
theorem nodes_take (l : List LT) : ∀ j (h : j < l.length), LT.nodesL (l.take (j + 1)) = LT.nodesL (l.take j) + l[j].nodes := by
  induction l with
  | nil => intro j h; simp at h
  | cons t ts ih =>
    intro j h
    cases j with
    | zero => simp [LT.nodesL]
    | succ j =>
      have := ih j (by simpa using h)
      simp only [List.take_succ_cons, LT.nodesL, List.getElem_cons_succ]
      omega
theorem nodes_le (l : List LT) (j : Nat) : LT.nodesL (l.take j) ≤ LT.nodesL l := by
  induction l generalizing j with
  | nil => simp
  | cons t ts ih =>
    cases j with
    | zero => simp [LT.nodesL]
    | succ j => have := ih j; simp only [List.take_succ_cons, LT.nodesL]; omega
theorem nodes_mk (t : LT) : t.nodes = 1 + LT.nodesL t.kids := by cases t; simp [LT.nodes, LT.kids]
mutual
theorem nodes_sz : ∀ t : LT, t.nodes ≤ 1 + t.sz
  | .mk k n e s a cap kids => by have := nodesL_sz kids; rw [LT.nodes, LT.sz]; omega
theorem nodesL_sz : ∀ l : List LT, LT.nodesL l ≤ LT.szL l
  | [] => by rw [LT.nodesL, LT.szL]; omega
  | t :: ts => by have := nodes_sz t; have := nodesL_sz ts; rw [LT.nodesL, LT.szL]; omega
end

end Go.Proofs.Ythjholhjkahdkaa.val
