/-
  What laws.toValue returns: a value that tells the same, in memory of its own.
-/
import Derived.Test.YthjholhjkahdkaaValOwn
namespace Go.Proofs.Ythjholhjkahdkaa.val
open Go.ChangeShapes Go.WideShapes Go.ChangeAt Go.RowKit
set_option maxRecDepth 100000

theorem infoV : (Try.prog.info? 26).map (fun i => (i.zero, i.size, i.bytes)) = some (some (.agg #[.int .i64 0, .int .i64 0, .int .i64 0, .string ⟨#[]⟩, .slice none 0 0]), 5, 64) := by kernel_rfl
def zeros (n : Nat) : Array Value := madeCells #[.int .i64 0, .int .i64 0, .int .i64 0, .string ⟨#[]⟩, .slice none 0 0] (n * 5)
theorem zeros_size (n : Nat) : (zeros n).size = n * 5 := size_madeCells _ _
theorem make_any (n : Nat) (hn : n ≤ 1048576) (w : World) : (Instr.makeSlice 24 (.int .i64 (n : Int)) (.int .i64 (n : Int))).run Try.prog w = .ok (.slice (some ⟨w.heap.size, 0, none⟩) n n) (w.alloc (.cells (zeros n) 26)) := by
  obtain ⟨i0, hi0, hz0, hz1, hz2⟩ := info_parts infoV
  have h := run_make (P := Try.prog) w 24 26 i0 _ Try.underlying24 hi0 hz0 .i64 .i64 (n : Int) (n : Int) (by omega) (by omega) (by rw [hz2]; omega) (by omega)
  rw [hz1] at h
  simpa [zeros, Value.cells] using h


/-- What the loop of toValueS has made. -/
structure Made (w' wr : World) (g : Nat) (kids done : List LT) : Prop where
  below : Below w'.heap.size w' wr
  size : g < wr.heap.size
  block : ∃ cs, wr.heap[g]? = some (.cells cs 26 (0, 0)) ∧ cs.size = kids.length * 5
  len : done.length ≤ kids.length
  same : ∀ i (h : i < done.length) (h' : i < kids.length), er done[i] = er kids[i]
  at5 : ∀ i (h : i < done.length), At5 wr ⟨g, i * 5, none⟩ done[i]
  own : ∀ i (h : i < done.length), Own wr (g + 1) wr.heap.size done[i]
theorem Made.start (w' : World) (kids : List LT) : Made w' (w'.alloc (.cells (zeros kids.length) 26)) w'.heap.size kids [] :=
  ⟨(Below.refl _ _).alloc (Nat.le_refl _) _, by simp, ⟨_, heap_alloc_new w' _, zeros_size _⟩, by simp, fun i h => by simp at h, fun i h => by simp at h, fun i h => by simp at h⟩
theorem Made.step {w' wr w1 : World} {g : Nat} {kids done : List LT} {t' : LT} (h : Made w' wr g kids done) (hlt : done.length < kids.length) (hg : w'.heap.size ≤ g) (he : er t' = er kids[done.length]) (ho : Own w1 wr.heap.size w1.heap.size t') (hb : Below wr.heap.size wr w1) :
    Made w' (put5 w1 g (done.length * 5) t') g kids (done ++ [t']) := by
  obtain ⟨cs, hcs, hsz⟩ := h.block
  have hgz := h.size
  have hz := hb.size
  have hcs1 : w1.heap[g]? = some (.cells cs 26 (0, 0)) := by rw [hb.block g hgz]; exact hcs
  have hsz' := put5_size (w := w1) (g := g) (o := done.length * 5) t'
  refine ⟨(h.below.trans (hb.mono h.below.size)).trans (put5_below t' hg), by omega, ⟨_, put5_block t' hcs1, by rw [set5_size]; exact hsz⟩, by simp; omega, ?_, ?_, ?_⟩
  · intro i hi hi'
    by_cases e : i < done.length
    · rw [List.getElem_append_left e]; exact h.same i e hi'
    · have : i = done.length := by simp at hi; omega
      subst this
      simpa using he
  · intro i hi
    by_cases e : i < done.length
    · rw [List.getElem_append_left e]
      exact put5_apart hcs1 (by omega) ((h.at5 i e).of_block (hb.block g hgz))
    · have : i = done.length := by simp at hi; omega
      subst this
      simpa using put5_at t' hcs1 (by omega)
  · intro i hi
    by_cases e : i < done.length
    · rw [List.getElem_append_left e]
      exact (h.own i e).kept (Nat.le_refl _) (by omega) fun b h1 h2 => by rw [put5_other t' (by omega), hb.block b h2]
    · have : i = done.length := by simp at hi; omega
      subst this
      simpa using ho.kept (lo' := g + 1) (by omega) (Nat.le_of_eq hsz'.symm) fun b h1 h2 => put5_other t' (by omega)

theorem sz_kid {kids : List LT} (i : Nat) (h : i < kids.length) : kids[i].sz ≤ LT.szL kids := by
  have h1 := szL_take kids i h
  have h2 := szL_le kids (i + 1)
  omega

theorem three (w : World) (o1 o2 o3 : Obj) : (((w.alloc o1).alloc o2).alloc o3).heap.size = w.heap.size + 3 ∧ (((w.alloc o1).alloc o2).alloc o3).heap[w.heap.size + 1]? = some o2 ∧ (((w.alloc o1).alloc o2).alloc o3).heap[w.heap.size + 1 + 1]? = some o3 := by
  refine ⟨by simp, ?_, ?_⟩
  · rw [Below.heap_alloc _ _ _ (by simp)]
    have := heap_alloc_new (w.alloc o1) o2
    simpa using this
  · have := heap_alloc_new ((w.alloc o1).alloc o2) o3
    simpa using this
def six (w : World) (N : Nat) (v a0 a1 a2 a3 a4 : Value) : World :=
  (((((w.setCell { block := N + 1 + 1, off := 4 } v).setCell { block := N + 1, off := 0 } a0).setCell { block := N + 1, off := 1 } a1).setCell { block := N + 1, off := 2 } a2).setCell { block := N + 1, off := 3 } a3).setCell { block := N + 1, off := 4 } a4
theorem six_below (w : World) (N : Nat) (v a0 a1 a2 a3 a4 : Value) : Below N w (six w N v a0 a1 a2 a3 a4) := by
  have h1 : N ≤ N + 1 := by omega
  have h2 : N ≤ N + 1 + 1 := by omega
  unfold six
  exact (((((((Below.refl N w).setCell (p := { block := N + 1 + 1, off := 4 }) h2 _).setCell (p := { block := N + 1, off := 0 }) h1 _).setCell (p := { block := N + 1, off := 1 }) h1 _).setCell (p := { block := N + 1, off := 2 }) h1 _).setCell (p := { block := N + 1, off := 3 }) h1 _).setCell (p := { block := N + 1, off := 4 }) h1 _)
theorem six_size (w : World) (N : Nat) (v a0 a1 a2 a3 a4 : Value) : (six w N v a0 a1 a2 a3 a4).heap.size = w.heap.size := by
  unfold six
  rw [set_size, set_size, set_size, set_size, set_size, set_size]
theorem six_other (w : World) (N : Nat) (v a0 a1 a2 a3 a4 : Value) (b : Nat) (e1 : b ≠ N + 1) (e2 : b ≠ N + 1 + 1) : (six w N v a0 a1 a2 a3 a4).heap[b]? = w.heap[b]? := by
  unfold six
  rw [blk_other _ e1, blk_other _ e1, blk_other _ e1, blk_other _ e1, blk_other _ e1, blk_other _ e2]
/-- What toValue has made, behind its own stores. -/
theorem made_own {w' wc w1 wf : World} {k n e : Int} {s : ByteArray} {a : Option Addr} {cap : Nat} {kids done : List LT} (hk : InI k) (hn : InI n) (he : InI e) (hs : s.size ≤ 9223372036854775807) (hl : kids.length ≤ 9223372036854775807)
    (hwc : Below w'.heap.size w' wc) (hc3 : wc.heap.size = w'.heap.size + 3) (hm : Made wc w1 wc.heap.size kids done) (hd : done.length = kids.length)
    (hb : Below w'.heap.size w1 wf) (hz : wf.heap.size = w1.heap.size) (hk2 : ∀ b, b ≠ w'.heap.size + 1 → b ≠ w'.heap.size + 1 + 1 → wf.heap[b]? = w1.heap[b]?) :
    er (.mk k n e s (some ⟨wc.heap.size, 0, none⟩) done.length done) = er (.mk k n e s a cap kids) ∧ Own wf w'.heap.size wf.heap.size (.mk k n e s (some ⟨wc.heap.size, 0, none⟩) done.length done) ∧ Below w'.heap.size w' wf := by
  refine ⟨?_, ?_, (hwc.trans (hm.below.mono (by omega))).trans hb⟩
  · simp only [er, erL_map]
    congr 1
    apply List.ext_getElem
    · simp [hd]
    · intro i h1 h2
      simp only [List.getElem_map]
      simp only [List.length_map] at h1 h2
      exact hm.same i h1 h2
  · obtain ⟨cs, hcs, hsz⟩ := hm.block
    have hg := hm.size
    exact .mk cs hk hn he hs (by omega) (by omega) (by omega) (by rw [hk2 _ (by omega) (by omega)]; exact hcs) (by omega)
      (fun i hi => (hm.at5 i hi).of_block (hk2 _ (by omega) (by omega)))
      (fun i hi => (hm.own i hi).kept (by omega) (by omega) fun b h1 _ => hk2 b (by omega) (by omega))

end Go.Proofs.Ythjholhjkahdkaa.val
