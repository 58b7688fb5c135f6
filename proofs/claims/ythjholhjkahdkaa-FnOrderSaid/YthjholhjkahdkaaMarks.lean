/-
  laws.markValue at a value whose lists are nil or whole blocks, all of them apart: the marks stand in those blocks, and no other old block is changed.
-/
import Derived.Test.YthjholhjkahdkaaValBox
namespace Go.Proofs.Ythjholhjkahdkaa.val
open Go.ChangeShapes Go.WideShapes Go.ChangeAt Go.RowKit
set_option maxRecDepth 100000

mutual
/-- The blocks of a value's lists. -/
def LT.blks : LT → List Nat
  | .mk _ _ _ _ a _ kids => (match a with | some x => [x.block] | none => []) ++ LT.blksL kids
def LT.blksL : List LT → List Nat
  | [] => []
  | t :: ts => LT.blks t ++ LT.blksL ts
end
theorem blks_some (k n e : Int) (s : ByteArray) (x : Addr) (cap : Nat) (kids : List LT) : (LT.mk k n e s (some x) cap kids).blks = x.block :: LT.blksL kids := by rw [LT.blks]; rfl
theorem mem_blksL : ∀ {l : List LT} {i : Nat} (h : i < l.length) {b : Nat}, b ∈ l[i].blks → b ∈ LT.blksL l
  | t :: ts, 0, _, b, hb => by rw [LT.blksL]; exact List.mem_append_left _ hb
  | t :: ts, i + 1, h, b, hb => by rw [LT.blksL]; exact List.mem_append_right _ (mem_blksL (l := ts) (by simpa using h) hb)
theorem nodup_at : ∀ {l : List LT}, (LT.blksL l).Nodup → ∀ (i : Nat) (h : i < l.length), (l[i].blks).Nodup
  | t :: ts, hn, 0, _ => by rw [LT.blksL] at hn; exact (List.nodup_append.1 hn).1
  | t :: ts, hn, i + 1, h => by rw [LT.blksL] at hn; exact nodup_at (l := ts) (List.nodup_append.1 hn).2.1 i (by simpa using h)
theorem apart : ∀ {l : List LT}, (LT.blksL l).Nodup → ∀ (i j : Nat) (hi : i < l.length) (hj : j < l.length), i ≠ j → ∀ b, b ∈ l[i].blks → b ∈ l[j].blks → False
  | t :: ts, hn, 0, 0, _, _, hne, _, _, _ => hne rfl
  | t :: ts, hn, 0, j + 1, _, hj, _, b, h1, h2 => by
    rw [LT.blksL] at hn
    exact (List.nodup_append.1 hn).2.2 b h1 b (mem_blksL (l := ts) (by simpa using hj) h2) rfl
  | t :: ts, hn, i + 1, 0, hi, _, _, b, h1, h2 => by
    rw [LT.blksL] at hn
    exact (List.nodup_append.1 hn).2.2 b h2 b (mem_blksL (l := ts) (by simpa using hi) h1) rfl
  | t :: ts, hn, i + 1, j + 1, hi, hj, hne, b, h1, h2 => by
    rw [LT.blksL] at hn
    exact apart (l := ts) (List.nodup_append.1 hn).2.1 i j (by simpa using hi) (by simpa using hj) (by omega) b h1 h2

/-- The lists' places alone. -/
inductive Sh (w : World) : LT → Prop
  | nil {k n e : Int} {s : ByteArray} {cap : Nat} : Sh w (.mk k n e s none cap [])
  | mk {k n e : Int} {s : ByteArray} {g cap : Nat} {kids : List LT} (cs : Array Value) (hl : kids.length ≤ 1048576) (hb : w.heap[g]? = some (.cells cs 26 (0, 0))) (hz : kids.length * 5 ≤ cs.size)
      (hc : ∀ i (h : i < kids.length), cs[i * 5 + 4]? = some kids[i].row) (hkids : ∀ i (h : i < kids.length), Sh w kids[i]) : Sh w (.mk k n e s (some ⟨g, 0, none⟩) cap kids)
/-- From w to w' of the old blocks only those of bs are written, and no cell that holds a list. -/
structure Wrt (bs : List Nat) (w w' : World) : Prop where
  os : w'.os = w.os
  tape : w'.tape = w.tape
  output : w'.output = w.output
  size : w.heap.size ≤ w'.heap.size
  out : ∀ b, b < w.heap.size → b ∉ bs → w'.heap[b]? = w.heap[b]?
  mid : ∀ b cs, b ∈ bs → w.heap[b]? = some (.cells cs 26 (0, 0)) → ∃ cs', w'.heap[b]? = some (.cells cs' 26 (0, 0)) ∧ cs'.size = cs.size ∧ ∀ i, cs'[i * 5 + 4]? = cs[i * 5 + 4]?
theorem Wrt.refl (bs : List Nat) (w : World) : Wrt bs w w := ⟨rfl, rfl, rfl, Nat.le_refl _, fun _ _ _ => rfl, fun _b cs _ h => ⟨cs, h, rfl, fun _ => rfl⟩⟩
theorem Wrt.trans {bs : List Nat} {a b c : World} (h : Wrt bs a b) (k : Wrt bs b c) : Wrt bs a c :=
  ⟨k.os.trans h.os, k.tape.trans h.tape, k.output.trans h.output, Nat.le_trans h.size k.size, fun i h1 h2 => (k.out i (Nat.lt_of_lt_of_le h1 h.size) h2).trans (h.out i h1 h2), fun i cs h1 h3 => by
    obtain ⟨cs1, e1, z1, f1⟩ := h.mid i cs h1 h3
    obtain ⟨cs2, e2, z2, f2⟩ := k.mid i cs1 h1 e1
    exact ⟨cs2, e2, z2.trans z1, fun i => (f2 i).trans (f1 i)⟩⟩
theorem Wrt.mono {bs bs' : List Nat} {a b : World} (h : Wrt bs a b) (hs : ∀ x, x ∈ bs → x ∈ bs') : Wrt bs' a b :=
  ⟨h.os, h.tape, h.output, h.size, fun i h1 h2 => h.out i h1 (fun hx => h2 (hs i hx)), fun i cs _ h3 => by
    by_cases hi : i ∈ bs
    · exact h.mid i cs hi h3
    · exact ⟨cs, (h.out i (Array.getElem?_eq_some_iff.1 h3).1 hi).trans h3, rfl, fun _ => rfl⟩⟩
theorem Wrt.of_below {bs : List Nat} {a b : World} (h : Below a.heap.size a b) : Wrt bs a b :=
  ⟨h.os, h.tape, h.output, h.size, fun i h1 _ => h.block i h1, fun i cs _ h3 => ⟨cs, (h.block i (Array.getElem?_eq_some_iff.1 h3).1).trans h3, rfl, fun _ => rfl⟩⟩
theorem Wrt.set {bs : List Nat} {a w : World} {g o : Nat} (h : Wrt bs a w) (hg : g ∈ bs) (ho : ∀ i, o ≠ i * 5 + 4) (v : Value) : Wrt bs a (w.setCell ⟨g, o, none⟩ v) :=
  h.trans ⟨rfl, rfl, rfl, by rw [set_size]; exact Nat.le_refl _, fun b _ hb => blk_other v (fun e => hb (e ▸ hg)), fun b cs _ hb => by
    by_cases e : b = g
    · subst e
      exact ⟨_, blk_set hb v, by simp, fun i => Array.getElem?_setIfInBounds_ne (ho i)⟩
    · exact ⟨cs, (blk_other v e).trans hb, rfl, fun _ => rfl⟩⟩
theorem Sh.kept {bs : List Nat} {w w' : World} {t : LT} (h : Sh w t) (ht : Wrt bs w w') : Sh w' t := by
  induction h with
  | nil => exact .nil
  | @mk k n e s g cap kids cs hl hb hz hc _ ih =>
    by_cases hg : g ∈ bs
    · obtain ⟨cs', e1, z1, f1⟩ := ht.mid _ cs hg hb
      exact .mk cs' hl e1 (by omega) (fun i hi => (f1 i).trans (hc i hi)) ih
    · exact .mk cs hl ((ht.out g (Array.getElem?_eq_some_iff.1 hb).1 hg).trans hb) hz hc ih
/-- The marks of one element. -/
structure MarkAt (cs : Array Value) (i K : Nat) : Prop where
  m0 : cs[i * 5]? = some (.int .i64 (K : Int))
  m1 : cs[i * 5 + 1]? = some (.int .i64 ((K : Int) + 1))
  m2 : cs[i * 5 + 2]? = some (.int .i64 ((K : Int) + 1 + 1))
  m3 : cs[i * 5 + 3]? = some (.string (strs.markB (K + 3)))
/-- The value's lists bear the marks from K on. -/
inductive Marked (w : World) : Nat → LT → Prop
  | nil {K : Nat} {k n e : Int} {s : ByteArray} {cap : Nat} : Marked w K (.mk k n e s none cap [])
  | mk {K : Nat} {k n e : Int} {s : ByteArray} {g cap : Nat} {kids : List LT} (cs : Array Value) (hl : kids.length ≤ 1048576) (hb : w.heap[g]? = some (.cells cs 26 (0, 0))) (hz : kids.length * 5 ≤ cs.size)
      (hm : ∀ i (h : i < kids.length), MarkAt cs i (K + 4 * LT.nodesL (kids.take i))) (hc : ∀ i (h : i < kids.length), cs[i * 5 + 4]? = some kids[i].row)
      (hkids : ∀ i (h : i < kids.length), Marked w (K + 4 * LT.nodesL (kids.take i) + 4) kids[i]) : Marked w K (.mk k n e s (some ⟨g, 0, none⟩) cap kids)
theorem Marked.kept {w w' : World} {K : Nat} {t : LT} (h : Marked w K t) (hk : ∀ b, b ∈ t.blks → w'.heap[b]? = w.heap[b]?) : Marked w' K t := by
  induction h with
  | nil => exact .nil
  | mk cs hl hb hz hm hc _ ih =>
    refine .mk cs hl ((hk _ (by rw [blks_some]; exact List.mem_cons_self ..)).trans hb) hz hm hc (fun i hi => ih i hi (fun b hbb => hk b ?_))
    rw [blks_some]
    exact List.mem_cons_of_mem _ (mem_blksL hi hbb)
theorem Marked.lt {w : World} {K : Nat} {t : LT} (h : Marked w K t) : ∀ b, b ∈ t.blks → b < w.heap.size := by
  induction h with
  | nil => intro b hb; simp [LT.blks, LT.blksL] at hb
  | @mk K k n e s g cap kids cs hl hb hz hm hc _ ih =>
    intro b hbb
    rw [blks_some] at hbb
    rcases List.mem_cons.1 hbb with rfl | hbb
    · exact (Array.getElem?_eq_some_iff.1 hb).1
    · have : ∀ (l : List LT), (∀ i (h : i < l.length), ∀ b, b ∈ l[i].blks → b < w.heap.size) → ∀ b, b ∈ LT.blksL l → b < w.heap.size := by
        intro l
        induction l with
        | nil => intro _ b hb; simp [LT.blksL] at hb
        | cons t ts iht =>
          intro hall b hb
          rw [LT.blksL] at hb
          rcases List.mem_append.1 hb with hb | hb
          · exact hall 0 (by simp) b hb
          · exact iht (fun i h b hb => hall (i + 1) (by simpa using h) b hb) b hb
      exact this kids ih b hbb
/-- What holds when the first j elements are marked. -/
structure MTo (w wr : World) (g : Nat) (kids : List LT) (K j : Nat) : Prop where
  touch : Wrt (g :: LT.blksL kids) w wr
  blk : ∃ cs, wr.heap[g]? = some (.cells cs 26 (0, 0)) ∧ kids.length * 5 ≤ cs.size ∧ (∀ i (_ : i < kids.length), i < j → MarkAt cs i (K + 4 * LT.nodesL (kids.take i))) ∧ (∀ i (h : i < kids.length), cs[i * 5 + 4]? = some kids[i].row)
  done : ∀ i (h : i < kids.length), i < j → Marked wr (K + 4 * LT.nodesL (kids.take i) + 4) kids[i]
theorem MTo.step {w wr w3 w4 w5 : World} {g K j Kj : Nat} {kids : List LT} (h : MTo w wr g kids K j) (hj : j < kids.length) (hnd : (g :: LT.blksL kids).Nodup) (hK : Kj = K + 4 * LT.nodesL (kids.take j))
    (e3 : w3 = ((wr.setCell ⟨g, j * 5, none⟩ (.int .i64 (Kj : Int))).setCell ⟨g, j * 5 + 1, none⟩ (.int .i64 ((Kj : Int) + 1))).setCell ⟨g, j * 5 + 2, none⟩ (.int .i64 ((Kj : Int) + 1 + 1)))
    (hb4 : Below w3.heap.size w3 w4) (t5 : Wrt kids[j].blks (w4.setCell ⟨g, j * 5 + 3, none⟩ (.string (strs.markB (Kj + 3)))) w5) (m5 : Marked w5 (Kj + 4) kids[j]) : MTo w w5 g kids K (j + 1) := by
  obtain ⟨cs, hb, hz, hm, hc⟩ := h.blk
  have hgl := (Array.getElem?_eq_some_iff.1 hb).1
  have hz3 : w3.heap.size = wr.heap.size := by rw [e3, set_size, set_size, set_size]
  have b3 : w3.heap[g]? = some (.cells (((cs.setIfInBounds (j * 5) (.int .i64 (Kj : Int))).setIfInBounds (j * 5 + 1) (.int .i64 ((Kj : Int) + 1))).setIfInBounds (j * 5 + 2) (.int .i64 ((Kj : Int) + 1 + 1))) 26 (0, 0)) := by
    rw [e3]; exact blk_set (blk_set (blk_set hb _) _) _
  have b4 := (hb4.block g (by omega)).trans b3
  have b4' := blk_set (o := j * 5 + 3) b4 (.string (strs.markB (Kj + 3)))
  have hgj : g ∉ kids[j].blks := fun hx => (List.nodup_cons.1 hnd).1 (mem_blksL hj hx)
  have hz4 := hb4.size
  have b5 := (t5.out g (by rw [set_size]; omega) hgj).trans b4'
  have hw3 : ∀ b, b ≠ g → w3.heap[b]? = wr.heap[b]? := fun b hbg => by rw [e3, blk_other _ hbg, blk_other _ hbg, blk_other _ hbg]
  have hw5 : ∀ b, b < wr.heap.size → b ≠ g → b ∉ kids[j].blks → w5.heap[b]? = wr.heap[b]? := fun b hbl hbg hbj => by
    rw [t5.out b (by rw [set_size]; omega) hbj, blk_other _ hbg, hb4.block b (by omega), hw3 b hbg]
  refine ⟨?_, ⟨_, b5, by simp; omega, ?_, ?_⟩, ?_⟩
  · have hg : g ∈ g :: LT.blksL kids := List.mem_cons_self ..
    have t3 : Wrt (g :: LT.blksL kids) w w3 := by
      rw [e3]
      exact ((h.touch.set hg (by omega) _).set hg (by omega) _).set hg (by omega) _
    exact ((t3.trans (Wrt.of_below hb4)).set hg (by omega) _).trans (t5.mono fun x hx => List.mem_cons_of_mem _ (mem_blksL hj hx))
  · intro i hi hij
    by_cases e : i = j
    · subst e
      rw [← hK]
      refine ⟨?_, ?_, ?_, ?_⟩
      · rw [Array.getElem?_setIfInBounds_ne (by omega), Array.getElem?_setIfInBounds_ne (by omega), Array.getElem?_setIfInBounds_ne (by omega), Array.getElem?_setIfInBounds_self_of_lt (by omega)]
      · rw [Array.getElem?_setIfInBounds_ne (by omega), Array.getElem?_setIfInBounds_ne (by omega), Array.getElem?_setIfInBounds_self_of_lt (by simp; omega)]
      · rw [Array.getElem?_setIfInBounds_ne (by omega), Array.getElem?_setIfInBounds_self_of_lt (by simp; omega)]
      · rw [Array.getElem?_setIfInBounds_self_of_lt (by simp; omega)]
    · obtain ⟨x0, x1, x2, x3⟩ := hm i hi (by omega)
      refine ⟨?_, ?_, ?_, ?_⟩
      · rw [Array.getElem?_setIfInBounds_ne (by omega), Array.getElem?_setIfInBounds_ne (by omega), Array.getElem?_setIfInBounds_ne (by omega), Array.getElem?_setIfInBounds_ne (by omega)]; exact x0
      · rw [Array.getElem?_setIfInBounds_ne (by omega), Array.getElem?_setIfInBounds_ne (by omega), Array.getElem?_setIfInBounds_ne (by omega), Array.getElem?_setIfInBounds_ne (by omega)]; exact x1
      · rw [Array.getElem?_setIfInBounds_ne (by omega), Array.getElem?_setIfInBounds_ne (by omega), Array.getElem?_setIfInBounds_ne (by omega), Array.getElem?_setIfInBounds_ne (by omega)]; exact x2
      · rw [Array.getElem?_setIfInBounds_ne (by omega), Array.getElem?_setIfInBounds_ne (by omega), Array.getElem?_setIfInBounds_ne (by omega), Array.getElem?_setIfInBounds_ne (by omega)]; exact x3
  · intro i hi
    rw [Array.getElem?_setIfInBounds_ne (by omega), Array.getElem?_setIfInBounds_ne (by omega), Array.getElem?_setIfInBounds_ne (by omega), Array.getElem?_setIfInBounds_ne (by omega)]
    exact hc i hi
  · intro i hi hij
    by_cases e : i = j
    · subst e
      rw [← hK]
      exact m5
    · have hd := h.done i hi (by omega)
      refine hd.kept fun b hbb => hw5 b (hd.lt b hbb) (fun e' => (List.nodup_cons.1 hnd).1 (mem_blksL hi (e' ▸ hbb))) (fun hbj => apart (List.nodup_cons.1 hnd).2 i j hi hj e b hbb hbj)

end Go.Proofs.Ythjholhjkahdkaa.val
