/-
  The drawing functions of the laws on values: a value without others in it.
-/
import Derived.Test.YthjholhjkahdkaaKidsMade
import Derived.Test.YthjholhjkahdkaaDrawText
namespace Go.Proofs.Ythjholhjkahdkaa.made
open Go.ChangeShapes Go.WideShapes Go.ChangeAt Go.RowKit
open Go.Proofs.Ythjholhjkahdkaa.val Go.Proofs.Ythjholhjkahdkaa.draw
set_option maxRecDepth 100000

/-- What a drawing function of values returns: a value in new memory, of bounded size. -/
structure VRet (W w' : World) (g : Nat) (a : Option Addr) (len cap Z : Nat) (e : Ending) : Prop where
  ex : ∃ t : LT, e = .returned (.agg #[.int .i64 t.k, .int .i64 t.n, .int .i64 t.e, .string t.s, t.row]) ∧ FreshO W w' g t ∧ Draw w' g a len cap ∧ t.sz ≤ Z ∧ OwnR w' W.heap.size t.row t.kids
structure Five (W : World) (N : Nat) (k n e : Int) (s : ByteArray) (v : Value) : Prop where
  row : W.heap[N]? = some (.cells #[.int .i64 k, .int .i64 n, .int .i64 e, .string s, v] 26 (0, 0))
structure FiveC (W : World) (N : Nat) (k n e : Int) (s : ByteArray) (v : Value) : Prop where
  c0 : W.cell? ⟨N, 0, none⟩ = some (.int .i64 k)
  c1 : W.cell? ⟨N, 1, none⟩ = some (.int .i64 n)
  c2 : W.cell? ⟨N, 2, none⟩ = some (.int .i64 e)
  c3 : W.cell? ⟨N, 3, none⟩ = some (.string s)
  c4 : W.cell? ⟨N, 4, none⟩ = some v
  fr : ∀ o, W.frozen? ⟨N, o, none⟩ = false
theorem Five.c {W : World} {N : Nat} {k n e : Int} {s : ByteArray} {v : Value} (h : Five W N k n e s v) : FiveC W N k n e s v :=
  ⟨cell_of_row W N 0 _ _ (0, 0) h.row, cell_of_row W N 1 _ _ (0, 0) h.row, cell_of_row W N 2 _ _ (0, 0) h.row, cell_of_row W N 3 _ _ (0, 0) h.row, cell_of_row W N 4 _ _ (0, 0) h.row, fun o => frozen_of_row W N o _ _ h.row⟩
theorem Five.new (W : World) (k n e : Int) (s : ByteArray) (v : Value) : Five (W.alloc (.cells #[.int .i64 k, .int .i64 n, .int .i64 e, .string s, v] 26)) W.heap.size k n e s v := ⟨heap_alloc_new W _⟩
theorem Five.lt {W : World} {N : Nat} {k n e : Int} {s : ByteArray} {v : Value} (h : Five W N k n e s v) : N < W.heap.size := (Array.getElem?_eq_some_iff.1 h.row).1
theorem Five.only {W w' : World} {N b : Nat} {k n e : Int} {s : ByteArray} {v : Value} (h : Five W N k n e s v) (hg : W.grownBy w' (some b)) (hb : N ≠ b) : Five w' N k n e s v :=
  ⟨(hg.block N h.lt (fun e => hb (by injection e))).trans h.row⟩
theorem Five.below {W w' : World} {N : Nat} {k n e : Int} {s : ByteArray} {v : Value} (h : Five W N k n e s v) (hb : Below W.heap.size W w') : Five w' N k n e s v := ⟨(hb.block N h.lt).trans h.row⟩
theorem Five.drewN {W : World} {N : Nat} {k n e : Int} {s : ByteArray} {v : Value} (h : Five W N k n e s v) (m : Nat) : Five (W.drewN m) N k n e s v := ⟨h.row⟩
def five (w : World) (N : Nat) (k n e : Int) (s : ByteArray) (v : Value) : World := ((((w.setCell ⟨N, 0, none⟩ (.int .i64 k)).setCell ⟨N, 1, none⟩ (.int .i64 n)).setCell ⟨N, 2, none⟩ (.int .i64 e)).setCell ⟨N, 3, none⟩ (.string s)).setCell ⟨N, 4, none⟩ v
theorem Five.put {W : World} {N : Nat} {k n e : Int} {s : ByteArray} {v : Value} (h : Five W N k n e s v) (k' n' e' : Int) (s' : ByteArray) (v' : Value) : Five (five W N k' n' e' s' v') N k' n' e' s' v' := by
  have h0 := val.blk_set (o := 0) h.row (.int .i64 k')
  have h1 := val.blk_set (o := 1) h0 (.int .i64 n')
  have h2 := val.blk_set (o := 2) h1 (.int .i64 e')
  have h3 := val.blk_set (o := 3) h2 (.string s')
  have h4 := val.blk_set (o := 4) h3 v'
  exact ⟨by simpa [five] using h4⟩
theorem five_other (w : World) (N x : Nat) (k n e : Int) (s : ByteArray) (v : Value) (h : x ≠ N) : (five w N k n e s v).heap[x]? = w.heap[x]? := by
  unfold five
  rw [Go.Deep.blk_setCell_other _ _ _ _ h, Go.Deep.blk_setCell_other _ _ _ _ h, Go.Deep.blk_setCell_other _ _ _ _ h, Go.Deep.blk_setCell_other _ _ _ _ h, Go.Deep.blk_setCell_other _ _ _ _ h]
theorem five_size (w : World) (N : Nat) (k n e : Int) (s : ByteArray) (v : Value) : (five w N k n e s v).heap.size = w.heap.size := by
  unfold five; simp only [Go.Deep.nblk_setCell]
theorem five_only {W w1 : World} {b N : Nat} (h : W.grownBy w1 (some b)) (hN : W.heap.size ≤ N) (k n e : Int) (s : ByteArray) (v : Value) : W.grownBy (five w1 N k n e s v) (some b) := by
  unfold five
  exact only_set (only_set (only_set (only_set (only_set h hN _ _) hN _ _) hN _ _) hN _ _) hN _ _
/-- The value returned off a young block. -/
theorem FreshO.five {W w1 : World} {b N : Nat} {t : LT} (h : FreshO W w1 b t) (hN : W.heap.size ≤ N) (hn : N ∉ t.blks) (k n e : Int) (s : ByteArray) (v : Value) : FreshO W (five w1 N k n e s v) b t :=
  ⟨h.tr.kept fun x hx => five_other _ _ _ _ _ _ _ _ (fun e => hn (e ▸ hx)), h.new, h.nodup, five_only h.only hN _ _ _ _ _⟩
theorem draw_five {w : World} {g N : Nat} {a : Option Addr} {len cap : Nat} (h : Draw w g a len cap) (hN : g < N) (k n e : Int) (s : ByteArray) (v : Value) : Draw (five w N k n e s v) g a len cap :=
  Draw.kept (w' := five w N k n e s v) h (fun x hx => five_other w N x k n e s v (by omega))

theorem below_set {w w1 : World} {N : Nat} (h : Below w.heap.size w w1) (hN : w.heap.size ≤ N) (o : Nat) (v : Value) : Below w.heap.size w (w1.setCell ⟨N, o, none⟩ v) :=
  ⟨h.os, h.tape, h.output, by rw [Go.Deep.nblk_setCell]; exact h.size, fun k hk => by rw [Go.Deep.blk_setCell_other _ _ _ _ (by show k ≠ N; omega)]; exact h.block k hk⟩
theorem below_five {w w1 : World} {N : Nat} (h : Below w.heap.size w w1) (hN : w.heap.size ≤ N) (k n e : Int) (s : ByteArray) (v : Value) : Below w.heap.size w (five w1 N k n e s v) := by
  unfold five
  exact below_set (below_set (below_set (below_set (below_set h hN _ _) hN _ _) hN _ _) hN _ _) hN _ _
theorem own_nil (w : World) (B : Nat) (k n e : Int) (s : ByteArray) : OwnR w B (val.LT.mk k n e s none 0 []).row (val.LT.mk k n e s none 0 []).kids := ⟨rfl, .inl ⟨rfl, rfl⟩⟩
theorem own_five {w : World} {B N : Nat} {v : Value} {l : List LT} (h : OwnR w B v l) (hN : ∀ k, v.ownBlock = some k → k ≠ N) (k n e : Int) (s : ByteArray) (x : Value) : OwnR (five w N k n e s x) B v l :=
  h.same fun y hy => five_other w N y k n e s x (hN y hy)
theorem own_mono {w : World} {B B' : Nat} {v : Value} {l : List LT} (h : OwnR w B v l) (hb : B' ≤ B) : OwnR w B' v l := by
  obtain ⟨h1, h2⟩ := h
  refine ⟨h1, ?_⟩
  rcases h2 with h2 | ⟨g, cap, cur, h2, h3, h4⟩
  · exact .inl h2
  · exact .inr ⟨g, cap, cur, h2, Nat.le_trans hb h3, h4⟩
set_option maxHeartbeats 1000000 in
theorem str_any (s : ByteArray) (w : World) : Calls Try.prog 42 #[.string s] w fun e w' => e = .returned (.agg #[.int .i64 5, .int .i64 0, .int .i64 0, .string s, .slice none 0 0]) ∧ Below w.heap.size w w' := by
  go_enter Try.func42, Try.ntmps42
  go_wp2
  obtain ⟨k0, k1, k2, k3, k4, _⟩ := (Five.new w 5 0 0 s (.slice none 0 0)).c
  refine bodyPost_ret (v := .agg #[.int .i64 5, .int .i64 0, .int .i64 0, .string s, .slice none 0 0]) (by simp [results, Try.results42, go_sem, k0, k1, k2, k3, k4]) rfl ?_
  exact ⟨rfl, (Below.refl _ w).alloc (Nat.le_refl _) _⟩
end Go.Proofs.Ythjholhjkahdkaa.made
