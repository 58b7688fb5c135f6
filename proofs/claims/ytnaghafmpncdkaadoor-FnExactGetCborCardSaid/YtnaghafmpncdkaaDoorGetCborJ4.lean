/-
  laws.markValue at a value whose lists are nil or whole blocks, all of them apart: the marks stand in those blocks, and no other old block is changed.
-/
import Derived.Test.YtnaghafmpncdkaaDoorGetCborJ3
import Derived.Deep.RegionHeld3
namespace Go.Proofs.YtnaghafmpncdkaaDoor.val
open Go.ChangeShapes Go.WideShapes Go.ChangeAt Go.RowKit
set_option maxRecDepth 100000

mutual
/-- The blocks of a value's lists. -/
def LT.blks : LT → List Nat
  | .mk _ _ _ _ a _ kids => (match a with | some x => [x.block] | none => []) ++ LT.blksL kids
def LT.blksL : List LT → List Nat
  | [] => []
  | t :: ts => LT.blks t ++ LT.blksL ts
end
theorem blks_some (k n e : Int) (s : ByteArray) (x : Addr) (cap : Nat) (kids : List LT) : (LT.mk k n e s (some x) cap kids).blks = x.block :: LT.blksL kids := by rw [LT.blks]; rfl
theorem mem_blksL : ∀ {l : List LT} {i : Nat} (h : i < l.length) {b : Nat}, b ∈ l[i].blks → b ∈ LT.blksL l
  | t :: ts, 0, _, b, hb => by rw [LT.blksL]; exact List.mem_append_left _ hb
  | t :: ts, i + 1, h, b, hb => by rw [LT.blksL]; exact List.mem_append_right _ (mem_blksL (l := ts) (by simpa using h) hb)
theorem nodup_at : ∀ {l : List LT}, (LT.blksL l).Nodup → ∀ (i : Nat) (h : i < l.length), (l[i].blks).Nodup
  | t :: ts, hn, 0, _ => by rw [LT.blksL] at hn; exact (List.nodup_append.1 hn).1
  | t :: ts, hn, i + 1, h => by rw [LT.blksL] at hn; exact nodup_at (l := ts) (List.nodup_append.1 hn).2.1 i (by simpa using h)
theorem apart : ∀ {l : List LT}, (LT.blksL l).Nodup → ∀ (i j : Nat) (hi : i < l.length) (hj : j < l.length), i ≠ j → ∀ b, b ∈ l[i].blks → b ∈ l[j].blks → False
  | t :: ts, hn, 0, 0, _, _, hne, _, _, _ => hne rfl
  | t :: ts, hn, 0, j + 1, _, hj, _, b, h1, h2 => by
    rw [LT.blksL] at hn
    exact (List.nodup_append.1 hn).2.2 b h1 b (mem_blksL (l := ts) (by simpa using hj) h2) rfl
  | t :: ts, hn, i + 1, 0, hi, _, _, b, h1, h2 => by
    rw [LT.blksL] at hn
    exact (List.nodup_append.1 hn).2.2 b h2 b (mem_blksL (l := ts) (by simpa using hi) h1) rfl
  | t :: ts, hn, i + 1, j + 1, hi, hj, hne, b, h1, h2 => by
    rw [LT.blksL] at hn
    exact apart (l := ts) (List.nodup_append.1 hn).2.1 i j (by simpa using hi) (by simpa using hj) (by omega) b h1 h2

/-- The lists' places alone. -/
inductive Sh (w : World) : LT → Prop
  | nil {k n e : Int} {s : ByteArray} {cap : Nat} : Sh w (.mk k n e s none cap [])
  | mk {k n e : Int} {s : ByteArray} {g cap : Nat} {kids : List LT} (cs : Array Value) (hl : kids.length ≤ 1048576) (hb : w.heap[g]? = some (.cells cs 24 (0, 0))) (hz : kids.length * 5 ≤ cs.size)
      (hc : ∀ i (h : i < kids.length), cs[i * 5 + 4]? = some kids[i].row) (hkids : ∀ i (h : i < kids.length), Sh w kids[i]) : Sh w (.mk k n e s (some ⟨g, 0, none⟩) cap kids)
/-- From w to w' of the old blocks only those of bs are written, and no cell that holds a list. -/
structure Wrt (bs : List Nat) (w w' : World) : Prop where
  os : w'.os = w.os
  tape : w'.tape = w.tape
  output : w'.output = w.output
  size : w.heap.size ≤ w'.heap.size
  out : ∀ b, b < w.heap.size → b ∉ bs → w'.heap[b]? = w.heap[b]?
  mid : ∀ b cs, b ∈ bs → w.heap[b]? = some (.cells cs 24 (0, 0)) → ∃ cs', w'.heap[b]? = some (.cells cs' 24 (0, 0)) ∧ cs'.size = cs.size ∧ ∀ i, cs'[i * 5 + 4]? = cs[i * 5 + 4]?
theorem Wrt.refl (bs : List Nat) (w : World) : Wrt bs w w := ⟨rfl, rfl, rfl, Nat.le_refl _, fun _ _ _ => rfl, fun _b cs _ h => ⟨cs, h, rfl, fun _ => rfl⟩⟩
theorem Wrt.trans {bs : List Nat} {a b c : World} (h : Wrt bs a b) (k : Wrt bs b c) : Wrt bs a c :=
  ⟨k.os.trans h.os, k.tape.trans h.tape, k.output.trans h.output, Nat.le_trans h.size k.size, fun i h1 h2 => (k.out i (Nat.lt_of_lt_of_le h1 h.size) h2).trans (h.out i h1 h2), fun i cs h1 h3 => by
    obtain ⟨cs1, e1, z1, f1⟩ := h.mid i cs h1 h3
    obtain ⟨cs2, e2, z2, f2⟩ := k.mid i cs1 h1 e1
    exact ⟨cs2, e2, z2.trans z1, fun i => (f2 i).trans (f1 i)⟩⟩
theorem Wrt.mono {bs bs' : List Nat} {a b : World} (h : Wrt bs a b) (hs : ∀ x, x ∈ bs → x ∈ bs') : Wrt bs' a b :=
  ⟨h.os, h.tape, h.output, h.size, fun i h1 h2 => h.out i h1 (fun hx => h2 (hs i hx)), fun i cs _ h3 => by
    by_cases hi : i ∈ bs
    · exact h.mid i cs hi h3
    · exact ⟨cs, (h.out i (Array.getElem?_eq_some_iff.1 h3).1 hi).trans h3, rfl, fun _ => rfl⟩⟩
theorem Wrt.of_below {bs : List Nat} {a b : World} (h : Below a.heap.size a b) : Wrt bs a b :=
  ⟨h.os, h.tape, h.output, h.size, fun i h1 _ => h.block i h1, fun i cs _ h3 => ⟨cs, (h.block i (Array.getElem?_eq_some_iff.1 h3).1).trans h3, rfl, fun _ => rfl⟩⟩
theorem Wrt.set {bs : List Nat} {a w : World} {g o : Nat} (h : Wrt bs a w) (hg : g ∈ bs) (ho : ∀ i, o ≠ i * 5 + 4) (v : Value) : Wrt bs a (w.setCell ⟨g, o, none⟩ v) :=
  h.trans ⟨rfl, rfl, rfl, by rw [set_size]; exact Nat.le_refl _, fun b _ hb => blk_other v (fun e => hb (e ▸ hg)), fun b cs _ hb => by
    by_cases e : b = g
    · subst e
      exact ⟨_, blk_set hb v, by simp, fun i => Array.getElem?_setIfInBounds_ne (ho i)⟩
    · exact ⟨cs, (blk_other v e).trans hb, rfl, fun _ => rfl⟩⟩
theorem Sh.kept {bs : List Nat} {w w' : World} {t : LT} (h : Sh w t) (ht : Wrt bs w w') : Sh w' t := by
  induction h with
  | nil => exact .nil
  | @mk k n e s g cap kids cs hl hb hz hc _ ih =>
    by_cases hg : g ∈ bs
    · obtain ⟨cs', e1, z1, f1⟩ := ht.mid _ cs hg hb
      exact .mk cs' hl e1 (by omega) (fun i hi => (f1 i).trans (hc i hi)) ih
    · exact .mk cs hl ((ht.out g (Array.getElem?_eq_some_iff.1 hb).1 hg).trans hb) hz hc ih
/-- The marks of one element. -/
structure MarkAt (cs : Array Value) (i K : Nat) : Prop where
  m0 : cs[i * 5]? = some (.int .i64 (K : Int))
  m1 : cs[i * 5 + 1]? = some (.int .i64 ((K : Int) + 1))
  m2 : cs[i * 5 + 2]? = some (.int .i64 ((K : Int) + 1 + 1))
  m3 : cs[i * 5 + 3]? = some (.string (strs.markB (K + 3)))
/-- The value's lists bear the marks from K on. -/
inductive Marked (w : World) : Nat → LT → Prop
  | nil {K : Nat} {k n e : Int} {s : ByteArray} {cap : Nat} : Marked w K (.mk k n e s none cap [])
  | mk {K : Nat} {k n e : Int} {s : ByteArray} {g cap : Nat} {kids : List LT} (cs : Array Value) (hl : kids.length ≤ 1048576) (hb : w.heap[g]? = some (.cells cs 24 (0, 0))) (hz : kids.length * 5 ≤ cs.size)
      (hm : ∀ i (h : i < kids.length), MarkAt cs i (K + 4 * LT.nodesL (kids.take i))) (hc : ∀ i (h : i < kids.length), cs[i * 5 + 4]? = some kids[i].row)
      (hkids : ∀ i (h : i < kids.length), Marked w (K + 4 * LT.nodesL (kids.take i) + 4) kids[i]) : Marked w K (.mk k n e s (some ⟨g, 0, none⟩) cap kids)
theorem Marked.kept {w w' : World} {K : Nat} {t : LT} (h : Marked w K t) (hk : ∀ b, b ∈ t.blks → w'.heap[b]? = w.heap[b]?) : Marked w' K t := by
  induction h with
  | nil => exact .nil
  | mk cs hl hb hz hm hc _ ih =>
    refine .mk cs hl ((hk _ (by rw [blks_some]; exact List.mem_cons_self ..)).trans hb) hz hm hc (fun i hi => ih i hi (fun b hbb => hk b ?_))
    rw [blks_some]
    exact List.mem_cons_of_mem _ (mem_blksL hi hbb)
theorem Marked.lt {w : World} {K : Nat} {t : LT} (h : Marked w K t) : ∀ b, b ∈ t.blks → b < w.heap.size := by
  induction h with
  | nil => intro b hb; simp [LT.blks, LT.blksL] at hb
  | @mk K k n e s g cap kids cs hl hb hz hm hc _ ih =>
    intro b hbb
    rw [blks_some] at hbb
    rcases List.mem_cons.1 hbb with rfl | hbb
    · exact (Array.getElem?_eq_some_iff.1 hb).1
    · have : ∀ (l : List LT), (∀ i (h : i < l.length), ∀ b, b ∈ l[i].blks → b < w.heap.size) → ∀ b, b ∈ LT.blksL l → b < w.heap.size := by
        intro l
        induction l with
        | nil => intro _ b hb; simp [LT.blksL] at hb
        | cons t ts iht =>
          intro hall b hb
          rw [LT.blksL] at hb
          rcases List.mem_append.1 hb with hb | hb
          · exact hall 0 (by simp) b hb
          · exact iht (fun i h b hb => hall (i + 1) (by simpa using h) b hb) b hb
      exact this kids ih b hbb
/-- What holds when the first j elements are marked. -/
structure MTo (w wr : World) (g : Nat) (kids : List LT) (K j : Nat) : Prop where
  touch : Wrt (g :: LT.blksL kids) w wr
  blk : ∃ cs, wr.heap[g]? = some (.cells cs 24 (0, 0)) ∧ kids.length * 5 ≤ cs.size ∧ (∀ i (_ : i < kids.length), i < j → MarkAt cs i (K + 4 * LT.nodesL (kids.take i))) ∧ (∀ i (h : i < kids.length), cs[i * 5 + 4]? = some kids[i].row)
  done : ∀ i (h : i < kids.length), i < j → Marked wr (K + 4 * LT.nodesL (kids.take i) + 4) kids[i]
theorem MTo.step {w wr w3 w4 w5 : World} {g K j Kj : Nat} {kids : List LT} (h : MTo w wr g kids K j) (hj : j < kids.length) (hnd : (g :: LT.blksL kids).Nodup) (hK : Kj = K + 4 * LT.nodesL (kids.take j))
    (e3 : w3 = ((wr.setCell ⟨g, j * 5, none⟩ (.int .i64 (Kj : Int))).setCell ⟨g, j * 5 + 1, none⟩ (.int .i64 ((Kj : Int) + 1))).setCell ⟨g, j * 5 + 2, none⟩ (.int .i64 ((Kj : Int) + 1 + 1)))
    (hb4 : Below w3.heap.size w3 w4) (t5 : Wrt kids[j].blks (w4.setCell ⟨g, j * 5 + 3, none⟩ (.string (strs.markB (Kj + 3)))) w5) (m5 : Marked w5 (Kj + 4) kids[j]) : MTo w w5 g kids K (j + 1) := by
  obtain ⟨cs, hb, hz, hm, hc⟩ := h.blk
  have hgl := (Array.getElem?_eq_some_iff.1 hb).1
  have hz3 : w3.heap.size = wr.heap.size := by rw [e3, set_size, set_size, set_size]
  have b3 : w3.heap[g]? = some (.cells (((cs.setIfInBounds (j * 5) (.int .i64 (Kj : Int))).setIfInBounds (j * 5 + 1) (.int .i64 ((Kj : Int) + 1))).setIfInBounds (j * 5 + 2) (.int .i64 ((Kj : Int) + 1 + 1))) 24 (0, 0)) := by
    rw [e3]; exact blk_set (blk_set (blk_set hb _) _) _
  have b4 := (hb4.block g (by omega)).trans b3
  have b4' := blk_set (o := j * 5 + 3) b4 (.string (strs.markB (Kj + 3)))
  have hgj : g ∉ kids[j].blks := fun hx => (List.nodup_cons.1 hnd).1 (mem_blksL hj hx)
  have hz4 := hb4.size
  have b5 := (t5.out g (by rw [set_size]; omega) hgj).trans b4'
  have hw3 : ∀ b, b ≠ g → w3.heap[b]? = wr.heap[b]? := fun b hbg => by rw [e3, blk_other _ hbg, blk_other _ hbg, blk_other _ hbg]
  have hw5 : ∀ b, b < wr.heap.size → b ≠ g → b ∉ kids[j].blks → w5.heap[b]? = wr.heap[b]? := fun b hbl hbg hbj => by
    rw [t5.out b (by rw [set_size]; omega) hbj, blk_other _ hbg, hb4.block b (by omega), hw3 b hbg]
  refine ⟨?_, ⟨_, b5, by simp; omega, ?_, ?_⟩, ?_⟩
  · have hg : g ∈ g :: LT.blksL kids := List.mem_cons_self ..
    have t3 : Wrt (g :: LT.blksL kids) w w3 := by
      rw [e3]
      exact ((h.touch.set hg (by omega) _).set hg (by omega) _).set hg (by omega) _
    exact ((t3.trans (Wrt.of_below hb4)).set hg (by omega) _).trans (t5.mono fun x hx => List.mem_cons_of_mem _ (mem_blksL hj hx))
  · intro i hi hij
    by_cases e : i = j
    · subst e
      rw [← hK]
      refine ⟨?_, ?_, ?_, ?_⟩
      · rw [Array.getElem?_setIfInBounds_ne (by omega), Array.getElem?_setIfInBounds_ne (by omega), Array.getElem?_setIfInBounds_ne (by omega), Array.getElem?_setIfInBounds_self_of_lt (by omega)]
      · rw [Array.getElem?_setIfInBounds_ne (by omega), Array.getElem?_setIfInBounds_ne (by omega), Array.getElem?_setIfInBounds_self_of_lt (by simp; omega)]
      · rw [Array.getElem?_setIfInBounds_ne (by omega), Array.getElem?_setIfInBounds_self_of_lt (by simp; omega)]
      · rw [Array.getElem?_setIfInBounds_self_of_lt (by simp; omega)]
    · obtain ⟨x0, x1, x2, x3⟩ := hm i hi (by omega)
      refine ⟨?_, ?_, ?_, ?_⟩
      · rw [Array.getElem?_setIfInBounds_ne (by omega), Array.getElem?_setIfInBounds_ne (by omega), Array.getElem?_setIfInBounds_ne (by omega), Array.getElem?_setIfInBounds_ne (by omega)]; exact x0
      · rw [Array.getElem?_setIfInBounds_ne (by omega), Array.getElem?_setIfInBounds_ne (by omega), Array.getElem?_setIfInBounds_ne (by omega), Array.getElem?_setIfInBounds_ne (by omega)]; exact x1
      · rw [Array.getElem?_setIfInBounds_ne (by omega), Array.getElem?_setIfInBounds_ne (by omega), Array.getElem?_setIfInBounds_ne (by omega), Array.getElem?_setIfInBounds_ne (by omega)]; exact x2
      · rw [Array.getElem?_setIfInBounds_ne (by omega), Array.getElem?_setIfInBounds_ne (by omega), Array.getElem?_setIfInBounds_ne (by omega), Array.getElem?_setIfInBounds_ne (by omega)]; exact x3
  · intro i hi
    rw [Array.getElem?_setIfInBounds_ne (by omega), Array.getElem?_setIfInBounds_ne (by omega), Array.getElem?_setIfInBounds_ne (by omega), Array.getElem?_setIfInBounds_ne (by omega)]
    exact hc i hi
  · intro i hi hij
    by_cases e : i = j
    · subst e
      rw [← hK]
      exact m5
    · have hd := h.done i hi (by omega)
      refine hd.kept fun b hbb => hw5 b (hd.lt b hbb) (fun e' => (List.nodup_cons.1 hnd).1 (mem_blksL hi (e' ▸ hbb))) (fun hbj => apart (List.nodup_cons.1 hnd).2 i j hi hj e b hbb hbj)

def MkX (t : LT) : Prop := ∀ (K : Nat) (w : World), Sh w t → t.blks.Nodup → 0 < K → K + 4 * LT.nodesL t.kids ≤ 100000000 →
  Calls Tryd.prog 30 #[t.row, .int .i64 K] w fun e w' => e = .returned (.int .i64 ((K + 4 * LT.nodesL t.kids : Nat) : Int)) ∧ Marked w' K t ∧ Wrt t.blks w w'

set_option maxHeartbeats 4000000 in
theorem markX {g cap : Nat} {kk n e : Int} {s : ByteArray} {kids : List LT} (ih : ∀ i (h : i < kids.length), MkX kids[i]) : MkX (.mk kk n e s (some ⟨g, 0, none⟩) cap kids) := by
  intro k w hS hnd h0 hk
  rw [blks_some] at hnd ⊢
  have IH := Lib.hid ih
  have HS := Lib.hid hS
  have HND := Lib.hid hnd
  have HM0 : Hid (MTo w w g kids k 0) := by
    cases hS with
    | mk cs hl hb hz hc hkids => exact ⟨Wrt.refl _ _, ⟨cs, hb, hz, fun i _ h => by omega, hc⟩, fun i _ h => by omega⟩
  have HL : Hid (kids.length ≤ 1048576) := by
    cases hS with
    | mk cs hl hb hz hc hkids => exact hl
  clear ih hS hnd
  unfold LT.row
  simp only [LT.a, LT.cap, LT.kids] at *
  go_enter Tryd.func30, Tryd.ntmps30
  go_wp2_with fail
  go_loopw [1, 5] (fun q i wr => ∃ (j : Nat), i = .int .i64 j ∧ j ≤ kids.length ∧ q = .int .i64 ((k + 4 * LT.nodesL (kids.take j) : Nat) : Int) ∧ Hid (MTo w wr g kids k j)) (fun _ i _ => kids.length - (intOf i).toNat)
  case atStart => exact ⟨0, rfl, by omega, by simp [LT.nodesL], HM0⟩
  case round =>
    clear HM0
    obtain ⟨j, rfl, hj, rfl, HT⟩ := hrel
    have hlen := HL.out
    by_cases hlt : j < kids.length
    · have hj0 : (0 : Int) ≤ (j : Int) := by omega
      have hj1 : (j : Int) < (kids.length : Int) := by omega
      have n1 := nodes_take kids j hlt
      have n2 := nodes_le kids (j + 1)
      have n3 := nodes_mk kids[j]
      have C5 := Lib.hid (IH.out j hlt)
      have hSj : Sh w kids[j] := by
        cases HS.out with
        | mk cs hl hb hz hc hkids => exact hkids j hlt
      have HSJ := Lib.hid (hSj.kept HT.out.touch)
      have HNJ := Lib.hid (nodup_at (List.nodup_cons.1 HND.out).2 j hlt)
      obtain ⟨cs, hb, hz, hmk, hc⟩ := HT.out.blk
      have hcj := hc j hlt
      have hgz : g < wr.heap.size := (Array.getElem?_eq_some_iff.1 hb).1
      obtain ⟨K, hK⟩ : ∃ K, Hid (k + 4 * LT.nodesL (kids.take j) = K) := ⟨_, rfl⟩
      rw [hK.out]
      have hKb : K + 4 + 4 * LT.nodesL kids[j].kids ≤ 100000000 := by have := hK.out; omega
      have HK2 : Hid (k + 4 * LT.nodesL (kids.take (j + 1)) = K + 4 + 4 * LT.nodesL kids[j].kids) := by have := hK.out; unfold Hid; omega
      have hK0 : 0 < K := by have := hK.out; omega
      have HST : Hid (∀ w3 w4 w5, w3 = ((wr.setCell ⟨g, j * 5, none⟩ (.int .i64 (K : Int))).setCell ⟨g, j * 5 + 1, none⟩ (.int .i64 ((K : Int) + 1))).setCell ⟨g, j * 5 + 2, none⟩ (.int .i64 ((K : Int) + 1 + 1)) → Below w3.heap.size w3 w4 →
          Wrt kids[j].blks (w4.setCell ⟨g, j * 5 + 3, none⟩ (.string (strs.markB (K + 3)))) w5 → Marked w5 (K + 4) kids[j] → MTo w w5 g kids k (j + 1)) := fun w3 w4 w5 a1 a2 a3 a4 => HT.out.step hlt HND.out hK.out.symm a1 a2 a3 a4
      clear n1 n2 n3 hc IH hmk hSj
      generalize kids[j] = t at *
      have f : ∀ o, wr.frozen? ⟨g, o, none⟩ = false := fun o => frozen_of_row wr g o _ _ hb
      obtain ⟨v0, d0⟩ : ∃ v, wr.cell? ⟨g, j * 5, none⟩ = some v := ⟨_, (cell_of_row wr _ _ _ _ (0, 0) hb).trans (Array.getElem?_eq_getElem (by omega))⟩
      obtain ⟨v1, d1⟩ : ∃ v, wr.cell? ⟨g, j * 5 + 1, none⟩ = some v := ⟨_, (cell_of_row wr _ _ _ _ (0, 0) hb).trans (Array.getElem?_eq_getElem (by omega))⟩
      obtain ⟨v2, d2⟩ : ∃ v, wr.cell? ⟨g, j * 5 + 2, none⟩ = some v := ⟨_, (cell_of_row wr _ _ _ _ (0, 0) hb).trans (Array.getElem?_eq_getElem (by omega))⟩
      have HB := Lib.hid hb
      clear hb
      have CT : Hid (∀ w, Calls Tryd.prog 43 #[.int .i64 ((K : Int) + 1 + 1 + 1)] w fun e w' => e = .returned (.string (strs.markB (K + 3))) ∧ Below w.heap.size w w') := fun w => by
        have := strs.text_any (K + 3) (by omega) (by omega) w
        rwa [show ((K + 3 : Nat) : Int) = (K : Int) + 1 + 1 + 1 by omega] at this
      generalize strs.markB (K + 3) = M at *
      go_wp2_with fail
      with_reducible refine (CT.out _).mono ?_
      rintro e4 w4 ⟨rfl, hb4⟩
      have b3 := blk_set (o := j * 5 + 2) (blk_set (o := j * 5 + 1) (blk_set (o := j * 5) HB.out (.int .i64 (K : Int))) (.int .i64 ((K : Int) + 1))) (.int .i64 ((K : Int) + 1 + 1))
      have T3 : Wrt (g :: t.blks) wr (((wr.setCell ⟨g, j * 5, none⟩ (.int .i64 (K : Int))).setCell ⟨g, j * 5 + 1, none⟩ (.int .i64 ((K : Int) + 1))).setCell ⟨g, j * 5 + 2, none⟩ (.int .i64 ((K : Int) + 1 + 1))) :=
        (((Wrt.refl _ wr).set (List.mem_cons_self ..) (by omega) _).set (List.mem_cons_self ..) (by omega) _).set (List.mem_cons_self ..) (by omega) _
      have hz3 : (((wr.setCell ⟨g, j * 5, none⟩ (.int .i64 (K : Int))).setCell ⟨g, j * 5 + 1, none⟩ (.int .i64 ((K : Int) + 1))).setCell ⟨g, j * 5 + 2, none⟩ (.int .i64 ((K : Int) + 1 + 1))).heap.size = wr.heap.size := by
        rw [set_size, set_size, set_size]
      replace HST := Lib.hid (fun w5 => HST.out _ w4 w5 rfl hb4)
      generalize hW3 : ((wr.setCell ⟨g, j * 5, none⟩ (.int .i64 (K : Int))).setCell ⟨g, j * 5 + 1, none⟩ (.int .i64 ((K : Int) + 1))).setCell ⟨g, j * 5 + 2, none⟩ (.int .i64 ((K : Int) + 1 + 1)) = W3 at *
      have b4 := (hb4.block g (by omega)).trans b3
      have f4 : ∀ o, w4.frozen? ⟨g, o, none⟩ = false := fun o => frozen_of_row w4 g o _ _ b4
      obtain ⟨v3, d3⟩ : ∃ v, w4.cell? ⟨g, j * 5 + 3, none⟩ = some v := ⟨_, (cell_of_row w4 _ _ _ _ (0, 0) b4).trans (Array.getElem?_eq_getElem (by simp; omega))⟩
      have d4 : w4.cell? ⟨g, j * 5 + 4, none⟩ = some t.row := by
        rw [cell_of_row w4 _ _ _ _ (0, 0) b4, Array.getElem?_setIfInBounds_ne (by omega), Array.getElem?_setIfInBounds_ne (by omega), Array.getElem?_setIfInBounds_ne (by omega)]
        exact hcj
      have T5 : Wrt (g :: t.blks) wr (w4.setCell ⟨g, j * 5 + 3, none⟩ (.string M)) := (T3.trans (Wrt.of_below hb4)).set (List.mem_cons_self ..) (by omega) _
      have CM := C5.out (K + 4) _ (HSJ.out.kept T5) HNJ.out (by omega) (by omega)
      rw [show ((K + 4 : Nat) : Int) = (K : Int) + 1 + 1 + 1 + 1 by omega] at CM
      replace CM := Lib.hid CM
      clear CT hb4 T3 b3 T5 b4 d0 d1 d2 f HB C5 hcj HSJ HNJ hW3 hz3
      go_wp2_with fail
      with_reducible refine CM.out.mono ?_
      rintro e5 w5 ⟨rfl, m5, t5⟩
      have HT5 := Lib.hid (HST.out w5 t5 m5)
      clear CM t5 m5 d3 d4 f4 HT HST
      go_wp2
      go_roundw
      case rel => exact ⟨j + 1, by go_num, by omega, by rw [HK2.out]; congr 1, HT5⟩
      case measure => simp [intOf]; omega
    · have hj1 : ¬ (j : Int) < (kids.length : Int) := by omega
      have he : kids.take j = kids := List.take_of_length_le (by omega)
      rw [he]
      have HF : Hid (Marked wr k (.mk kk n e s (some ⟨g, 0, none⟩) cap kids)) := by
        obtain ⟨cs, hb, hz, hmk, hc⟩ := HT.out.blk
        exact .mk cs HL.out hb hz (fun i hi => hmk i hi (by omega)) hc (fun i hi => HT.out.done i hi (by omega))
      have HW := Lib.hid HT.out.touch
      clear HT HS IH HND
      go_wp2
      go_ret
      exact ⟨rfl, HF.out, HW.out⟩

theorem markX_nil (k n e : Int) (s : ByteArray) (cap : Nat) : MkX (.mk k n e s none cap []) := by
  intro K w _ _ h0 hk
  have HB : Hid (Wrt (LT.mk k n e s none cap []).blks w w) := Wrt.refl _ _
  have HM : Hid (Marked w K (.mk k n e s none cap [])) := .nil
  unfold LT.row
  simp only [LT.a, LT.cap, LT.kids, List.length_nil, LT.nodesL, Nat.mul_zero, Nat.add_zero] at *
  go_enter Tryd.func30, Tryd.ntmps30
  go_wp2_with fail
  go_loop [1, 5] (fun q i => q = .int .i64 (K : Int) ∧ i = .int .i64 0) (fun _ _ => 0)
  case atStart => exact ⟨rfl, rfl⟩
  case round =>
    obtain ⟨rfl, rfl⟩ := hrel
    go_wp2
    go_ret
    exact ⟨rfl, HM.out, HB.out⟩
theorem mark_rowX {w : World} {t : LT} (h : Sh w t) : MkX t := by
  induction h with
  | nil => exact markX_nil _ _ _ _ _
  | mk cs hl hb hz hc hkids ih => exact markX ih
set_option maxHeartbeats 1000000 in
/-- laws.markValue: the marks stand. -/
theorem mark_full {w : World} {t : LT} (h : Sh w t) (hnd : t.blks.Nodup) (hz : t.sz ≤ 1048576) :
    Calls Tryd.prog 10 #[.agg #[.int .i64 t.k, .int .i64 t.n, .int .i64 t.e, .string t.s, t.row], .int .i64 1] w fun e w' => e = .returned (.int .i64 ((1 + 4 * LT.nodesL t.kids : Nat) : Int)) ∧ Marked w' 1 t ∧ Wrt t.blks w w' := by
  have h1 := nodesL_sz t.kids
  have h2 := sz_mk t
  have hb1 : Below w.heap.size w (w.alloc (.cells #[.int .i64 t.k, .int .i64 t.n, .int .i64 t.e, .string t.s, t.row] 24)) := (Below.refl _ _).alloc (Nat.le_refl _) _
  have T1 : Hid (Wrt t.blks w (w.alloc (.cells #[.int .i64 t.k, .int .i64 t.n, .int .i64 t.e, .string t.s, t.row] 24))) := Wrt.of_below hb1
  have C0 := mark_rowX h 1 _ (h.kept T1.out) hnd (by omega) (by omega)
  rw [show ((1 : Nat) : Int) = 1 from rfl] at C0
  have C := Lib.hid C0
  clear C0
  clear h hb1 h1 h2 hz hnd
  generalize 1 + 4 * LT.nodesL t.kids = K at *
  unfold LT.row at *
  go_enter Tryd.func10, Tryd.ntmps10
  go_wp2_with fail
  with_reducible refine C.out.mono ?_
  rintro e w1 ⟨rfl, m1, t1⟩
  have T2 := Lib.hid (T1.out.trans t1)
  have M2 := Lib.hid m1
  clear C t1 m1
  go_wp2
  go_ret
  exact ⟨rfl, M2.out, T2.out⟩

end Go.Proofs.YtnaghafmpncdkaaDoor.val
/-
  laws.heldValue at a value whose lists bear the marks: it finds them all.
-/
namespace Go.Proofs.YtnaghafmpncdkaaDoor.val
open Go.ChangeShapes Go.WideShapes Go.ChangeAt Go.RowKit
set_option maxRecDepth 100000

def HdX (t : LT) : Prop := ∀ (K : Nat) (w : World), Marked w K t → 0 < K → K + 4 * LT.nodesL t.kids ≤ 100000000 →
  Calls Tryd.prog 31 #[t.row, .int .i64 K] w fun e w' => e = .returned (.int .i64 ((K + 4 * LT.nodesL t.kids : Nat) : Int)) ∧ Below w.heap.size w w'

set_option maxHeartbeats 4000000 in
theorem heldX {g cap : Nat} {kk n e : Int} {s : ByteArray} {kids : List LT} (ih : ∀ i (h : i < kids.length), HdX kids[i]) : HdX (.mk kk n e s (some ⟨g, 0, none⟩) cap kids) := by
  intro k w hM h0 hk
  have IH := Lib.hid ih
  have HM := Lib.hid hM
  have HL : Hid (kids.length ≤ 1048576) := by
    cases hM with
    | mk cs hl hb hz hm hc hkids => exact hl
  clear ih hM
  unfold LT.row
  simp only [LT.a, LT.cap, LT.kids] at *
  go_enter Tryd.func31, Tryd.ntmps31
  go_wp2_with fail
  go_loopw [1, 5] (fun q i wr => ∃ (j : Nat), i = .int .i64 j ∧ j ≤ kids.length ∧ q = .int .i64 ((k + 4 * LT.nodesL (kids.take j) : Nat) : Int) ∧ Hid (Below w.heap.size w wr)) (fun _ i _ => kids.length - (intOf i).toNat)
  case atStart => exact ⟨0, rfl, by omega, by simp [LT.nodesL], Below.refl _ _⟩
  case round =>
    obtain ⟨j, rfl, hj, rfl, HB⟩ := hrel
    have hlen := HL.out
    by_cases hlt : j < kids.length
    · have hj0 : (0 : Int) ≤ (j : Int) := by omega
      have hj1 : (j : Int) < (kids.length : Int) := by omega
      have n1 := nodes_take kids j hlt
      have n2 := nodes_le kids (j + 1)
      have n3 := nodes_mk kids[j]
      have C5 := Lib.hid (IH.out j hlt)
      have hMr : Marked wr k (.mk kk n e s (some ⟨g, 0, none⟩) cap kids) := HM.out.kept fun b hb => HB.out.block b (HM.out.lt b hb)
      obtain ⟨K, hK⟩ : ∃ K, Hid (k + 4 * LT.nodesL (kids.take j) = K) := ⟨_, rfl⟩
      have hKb : K + 4 + 4 * LT.nodesL kids[j].kids ≤ 100000000 := by have := hK.out; omega
      have HK2 : Hid (k + 4 * LT.nodesL (kids.take (j + 1)) = K + 4 + 4 * LT.nodesL kids[j].kids) := by have := hK.out; unfold Hid; omega
      have hK0 : 0 < K := by have := hK.out; omega
      cases hMr with
      | mk cs hl hb hz hm hc hkids =>
        have hmj := hm j hlt
        have hcj := hc j hlt
        have HKJ := Lib.hid (hkids j hlt)
        rw [hK.out] at hmj HKJ ⊢
        clear n1 n2 n3 hc hm hkids IH
        generalize kids[j] = t at *
        have HBK := Lib.hid hb
        have d0 : wr.cell? ⟨g, j * 5, none⟩ = some (.int .i64 (K : Int)) := (cell_of_row wr _ _ _ _ (0, 0) hb).trans hmj.m0
        have d1 : wr.cell? ⟨g, j * 5 + 1, none⟩ = some (.int .i64 ((K : Int) + 1)) := (cell_of_row wr _ _ _ _ (0, 0) hb).trans hmj.m1
        have d2 : wr.cell? ⟨g, j * 5 + 2, none⟩ = some (.int .i64 ((K : Int) + 1 + 1)) := (cell_of_row wr _ _ _ _ (0, 0) hb).trans hmj.m2
        have d3 : wr.cell? ⟨g, j * 5 + 3, none⟩ = some (.string (strs.markB (K + 3))) := (cell_of_row wr _ _ _ _ (0, 0) hb).trans hmj.m3
        have d4 : wr.cell? ⟨g, j * 5 + 4, none⟩ = some t.row := (cell_of_row wr _ _ _ _ (0, 0) hb).trans hcj
        have hgl : g < wr.heap.size := (Array.getElem?_eq_some_iff.1 hb).1
        have CT : Hid (∀ w, Calls Tryd.prog 43 #[.int .i64 ((K : Int) + 1 + 1 + 1)] w fun e w' => e = .returned (.string (strs.markB (K + 3))) ∧ Below w.heap.size w w') := fun w => by
          have := strs.text_any (K + 3) (by omega) (by omega) w
          rwa [show ((K + 3 : Nat) : Int) = (K : Int) + 1 + 1 + 1 by omega] at this
        clear hb hmj hcj
        generalize strs.markB (K + 3) = M at *
        go_wp2_with fail
        go_region_held3 (fun w' => w'.cell? ⟨g, j * 5 + 3, none⟩ = some (.string M)) (go_keep)
          (first | (go_at_call 43; with_reducible refine (CT.out _).mono ?_; rintro r w1 ⟨rfl, hb1⟩
                    have g1 : w1.cell? ⟨g, j * 5 + 3, none⟩ = some (.string M) := (hb1.cell (p := ⟨g, j * 5 + 3, none⟩) (by simpa using hgl)).trans (by simpa using d3)))
        all_goals
          have HB1 : Hid (Below wr.heap.size wr w1) := (belowN (Below.refl _ _) 1).trans hb1
          have HBW : Hid (Below w.heap.size w w1) := HB.out.trans (HB1.out.mono HB.out.size)
          have d4' : w1.cell? ⟨g, j * 5 + 4, none⟩ = some t.row := (HB1.out.cell (p := ⟨g, j * 5 + 4, none⟩) hgl).trans d4
          have CM := C5.out (K + 4) w1 (HKJ.out.kept fun b hb => HB1.out.block b (HKJ.out.lt b hb)) (by omega) (by omega)
          rw [show ((K + 4 : Nat) : Int) = (K : Int) + 1 + 1 + 1 + 1 by omega] at CM
          replace CM := Lib.hid CM
          clear hb1 d0 d1 d2 d3 d4 CT C5 HKJ HBK HB HB1 g1
          go_wp2_with fail
          with_reducible refine CM.out.mono ?_
          rintro r5 w5 ⟨rfl, hb5⟩
          have HB5 : Hid (Below w.heap.size w w5) := HBW.out.trans (hb5.mono HBW.out.size)
          have hnn : ¬ ((K + 4 + 4 * LT.nodesL t.kids : Nat) : Int) < 0 := by omega
          clear CM hb5 d4'
          go_wp2
          go_roundw
          case rel => exact ⟨j + 1, by go_num, by omega, by rw [HK2.out]; congr 1, HB5⟩
          case measure => simp [intOf]; omega
    · have hj1 : ¬ (j : Int) < (kids.length : Int) := by omega
      have he : kids.take j = kids := List.take_of_length_le (by omega)
      rw [he]
      clear HM IH
      go_wp2
      go_ret
      exact ⟨rfl, HB.out⟩

theorem heldX_nil (k n e : Int) (s : ByteArray) (cap : Nat) : HdX (.mk k n e s none cap []) := by
  intro K w _ h0 hk
  unfold LT.row
  simp only [LT.a, LT.cap, LT.kids, List.length_nil, LT.nodesL, Nat.mul_zero, Nat.add_zero] at *
  go_enter Tryd.func31, Tryd.ntmps31
  go_wp2_with fail
  go_loop [1, 5] (fun q i => q = .int .i64 (K : Int) ∧ i = .int .i64 0) (fun _ _ => 0)
  case atStart => exact ⟨rfl, rfl⟩
  case round =>
    obtain ⟨rfl, rfl⟩ := hrel
    go_wp2
    go_ret
    exact ⟨rfl, Below.refl _ _⟩
theorem held_rowX {w : World} {K : Nat} {t : LT} (h : Marked w K t) : HdX t := by
  induction h with
  | nil => exact heldX_nil _ _ _ _ _
  | mk cs hl hb hz hm hc hkids ih => exact heldX ih
set_option maxHeartbeats 1000000 in
/-- laws.heldValue finds the marks. -/
theorem held_full {w : World} {t : LT} (h : Marked w 1 t) (hz : t.sz ≤ 1048576) :
    Calls Tryd.prog 11 #[.agg #[.int .i64 t.k, .int .i64 t.n, .int .i64 t.e, .string t.s, t.row], .int .i64 1] w fun e w' => e = .returned (.int .i64 ((1 + 4 * LT.nodesL t.kids : Nat) : Int)) ∧ Below w.heap.size w w' := by
  have h1 := nodesL_sz t.kids
  have h2 := sz_mk t
  have hb1 : Below w.heap.size w (w.alloc (.cells #[.int .i64 t.k, .int .i64 t.n, .int .i64 t.e, .string t.s, t.row] 24)) := (Below.refl _ _).alloc (Nat.le_refl _) _
  have C0 := held_rowX h 1 _ (h.kept fun b hb => hb1.block b (h.lt b hb)) (by omega) (by omega)
  rw [show ((1 : Nat) : Int) = 1 from rfl] at C0
  have C := Lib.hid C0
  have HB := Lib.hid hb1
  have hnn : ¬ ((1 + 4 * LT.nodesL t.kids : Nat) : Int) < 0 := by omega
  clear h hb1 h1 h2 hz C0
  generalize 1 + 4 * LT.nodesL t.kids = K at *
  unfold LT.row at *
  go_enter Tryd.func11, Tryd.ntmps11
  go_wp2_with fail
  with_reducible refine C.out.mono ?_
  rintro e w1 ⟨rfl, b1⟩
  have B2 := Lib.hid (HB.out.trans (b1.mono HB.out.size))
  clear C b1
  go_wp2
  go_ret
  exact ⟨rfl, B2.out⟩

end Go.Proofs.YtnaghafmpncdkaaDoor.val
