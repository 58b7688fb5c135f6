/-
  What laws.markValue does to a value in memory of a call's own: it ends, and writes into the value's own blocks alone. (That its marks are held is told elsewhere.)
-/
import Derived.Test.YtkjffifdlckljaaDoorPathsJ1
import Derived.Test.YtkjffifdlckljaaDoorPathsJ2
namespace Go.Proofs.YtkjffifdlckljaaDoor.val
open Go.ChangeShapes Go.WideShapes Go.ChangeAt Go.RowKit
set_option maxRecDepth 100000

/-- The lists of a value, their places alone: whole blocks from lo on, below hi, that may be written. -/
inductive Shp (w : World) (lo hi : Nat) : LT → Prop
  | mk {k n e : Int} {s : ByteArray} {g cap : Nat} {kids : List LT} (cs : Array Value) (hl : kids.length ≤ 1048576) (hlo : lo ≤ g) (hhi : g < hi) (hb : w.heap[g]? = some (.cells cs 24 (0, 0))) (hz : kids.length * 5 ≤ cs.size)
      (hc : ∀ i (h : i < kids.length), cs[i * 5 + 4]? = some kids[i].row) (hkids : ∀ i (h : i < kids.length), Shp w lo hi kids[i]) : Shp w lo hi (.mk k n e s (some ⟨g, 0, none⟩) cap kids)
/-- From w to w' only cells of blocks in between are written, and no cell that holds a list. -/
structure Touched (lo hi : Nat) (w w' : World) : Prop where
  os : w'.os = w.os
  tape : w'.tape = w.tape
  output : w'.output = w.output
  size : w.heap.size ≤ w'.heap.size
  out : ∀ b, b < w.heap.size → (b < lo ∨ hi ≤ b) → w'.heap[b]? = w.heap[b]?
  mid : ∀ b cs, lo ≤ b → b < hi → w.heap[b]? = some (.cells cs 24 (0, 0)) → ∃ cs', w'.heap[b]? = some (.cells cs' 24 (0, 0)) ∧ cs'.size = cs.size ∧ ∀ i, cs'[i * 5 + 4]? = cs[i * 5 + 4]?
theorem Touched.refl (lo hi : Nat) (w : World) : Touched lo hi w w := ⟨rfl, rfl, rfl, Nat.le_refl _, fun _ _ _ => rfl, fun b cs _ _ h => ⟨cs, h, rfl, fun _ => rfl⟩⟩
theorem Touched.trans {lo hi : Nat} {a b c : World} (h : Touched lo hi a b) (k : Touched lo hi b c) : Touched lo hi a c :=
  ⟨k.os.trans h.os, k.tape.trans h.tape, k.output.trans h.output, Nat.le_trans h.size k.size, fun i h1 h2 => (k.out i (Nat.lt_of_lt_of_le h1 h.size) h2).trans (h.out i h1 h2), fun i cs h1 h2 h3 => by
    obtain ⟨cs1, e1, z1, f1⟩ := h.mid i cs h1 h2 h3
    obtain ⟨cs2, e2, z2, f2⟩ := k.mid i cs1 h1 h2 e1
    exact ⟨cs2, e2, z2.trans z1, fun i => (f2 i).trans (f1 i)⟩⟩
theorem Touched.of_below {lo hi : Nat} {a b : World} (h : Below a.heap.size a b) (hh : hi ≤ a.heap.size) : Touched lo hi a b :=
  ⟨h.os, h.tape, h.output, h.size, fun i h1 _ => h.block i h1, fun i cs _ h2 h3 => ⟨cs, (h.block i (by omega)).trans h3, rfl, fun _ => rfl⟩⟩
theorem Touched.below {lo hi : Nat} {a b : World} (h : Touched lo hi a b) (hl : lo ≤ a.heap.size) : Below lo a b := ⟨h.os, h.tape, h.output, h.size, fun k hk => h.out k (by omega) (.inl hk)⟩
theorem Touched.set {lo hi : Nat} {a w : World} {g o : Nat} (h : Touched lo hi a w) (hl : lo ≤ g) (hh : g < hi) (ho : ∀ i, o ≠ i * 5 + 4) (v : Value) : Touched lo hi a (w.setCell ⟨g, o, none⟩ v) :=
  h.trans ⟨rfl, rfl, rfl, by rw [set_size]; exact Nat.le_refl _, fun b _ hb => blk_other v (by omega), fun b cs _ _ hb => by
    by_cases e : b = g
    · subst e
      exact ⟨_, blk_set hb v, by simp, fun i => Array.getElem?_setIfInBounds_ne (ho i)⟩
    · exact ⟨cs, (blk_other v e).trans hb, rfl, fun _ => rfl⟩⟩
theorem Shp.touched {w w' : World} {lo hi : Nat} {t : LT} (h : Shp w lo hi t) (ht : Touched lo hi w w') : Shp w' lo hi t := by
  induction h with
  | mk cs hl hlo hhi hb hz hc _ ih =>
    obtain ⟨cs', e1, z1, f1⟩ := ht.mid _ cs hlo hhi hb
    exact .mk cs' hl hlo hhi e1 (by omega) (fun i hi => (f1 i).trans (hc i hi)) ih
theorem Own.shp {w : World} {lo hi : Nat} {t : LT} (h : Own w lo hi t) (hz : t.sz ≤ 1048576) : Shp w lo hi t := by
  induction h with
  | mk cs k1 k2 k3 k4 k5 hlo hhi hb hz' hc hkk ih =>
    rename_i k n e s g cap kids
    rw [sz_mk] at hz
    simp only [LT.s, LT.kids] at hz
    have hlen := szL_len kids
    refine .mk cs (by omega) hlo hhi hb hz' (fun i hi => ?_) (fun i hi => ih i hi ?_)
    · have := (hc i hi).c4
      rw [cell_of_row w g (i * 5 + 4) cs _ (0, 0) hb] at this
      exact this
    · have h1 := szL_take kids i hi
      have h2 := szL_le kids (i + 1)
      omega
theorem nodes_take (l : List LT) : ∀ j (h : j < l.length), LT.nodesL (l.take (j + 1)) = LT.nodesL (l.take j) + l[j].nodes := by
  induction l with
  | nil => intro j h; simp at h
  | cons t ts ih =>
    intro j h
    cases j with
    | zero => simp [LT.nodesL]
    | succ j =>
      have := ih j (by simpa using h)
      simp only [List.take_succ_cons, LT.nodesL, List.getElem_cons_succ]
      omega
theorem nodes_le (l : List LT) (j : Nat) : LT.nodesL (l.take j) ≤ LT.nodesL l := by
  induction l generalizing j with
  | nil => simp
  | cons t ts ih =>
    cases j with
    | zero => simp [LT.nodesL]
    | succ j => have := ih j; simp only [List.take_succ_cons, LT.nodesL]; omega
theorem nodes_mk (t : LT) : t.nodes = 1 + LT.nodesL t.kids := by cases t; simp [LT.nodes, LT.kids]
mutual
theorem nodes_sz : ∀ t : LT, t.nodes ≤ 1 + t.sz
  | .mk k n e s a cap kids => by have := nodesL_sz kids; rw [LT.nodes, LT.sz]; omega
theorem nodesL_sz : ∀ l : List LT, LT.nodesL l ≤ LT.szL l
  | [] => by rw [LT.nodesL, LT.szL]; omega
  | t :: ts => by have := nodes_sz t; have := nodesL_sz ts; rw [LT.nodesL, LT.szL]; omega
end

def MkC (t : LT) : Prop := ∀ (lo hi k : Nat) (w : World), Shp w lo hi t → hi ≤ w.heap.size → 0 < k → k + 4 * LT.nodesL t.kids ≤ 100000000 →
  Calls Tryd.prog 37 #[t.row, .int .i64 k] w fun e w' => e = .returned (.int .i64 ((k + 4 * LT.nodesL t.kids : Nat) : Int)) ∧ Touched lo hi w w'

set_option maxHeartbeats 4000000 in
theorem markS {g cap : Nat} {kk n e : Int} {s : ByteArray} {kids : List LT} (ih : ∀ i (h : i < kids.length), MkC kids[i]) : MkC (.mk kk n e s (some ⟨g, 0, none⟩) cap kids) := by
  intro lo hi k w hS hh h0 hk
  have IH := Lib.hid ih
  have HS := Lib.hid hS
  clear ih hS
  unfold LT.row
  simp only [LT.a, LT.cap, LT.kids] at *
  go_enter Tryd.func37, Tryd.ntmps37
  go_wp2_with fail
  go_loopw [1, 5] (fun q i wr => ∃ (j : Nat), i = .int .i64 j ∧ j ≤ kids.length ∧ q = .int .i64 ((k + 4 * LT.nodesL (kids.take j) : Nat) : Int) ∧ Hid (Touched lo hi w wr)) (fun _ i _ => kids.length - (intOf i).toNat)
  case atStart => exact ⟨0, rfl, by omega, by simp [LT.nodesL], Touched.refl _ _ _⟩
  case round =>
    obtain ⟨j, rfl, hj, rfl, HT⟩ := hrel
    by_cases hlt : j < kids.length
    · have hj0 : (0 : Int) ≤ (j : Int) := by omega
      have hj1 : (j : Int) < (kids.length : Int) := by omega
      have hS1 := HS.out.touched HT.out
      have n1 := nodes_take kids j hlt
      have n2 := nodes_le kids (j + 1)
      have n3 := nodes_mk kids[j]
      have C5 := Lib.hid (IH.out j hlt)
      cases hS1 with
      | mk cs hl hlo hhi hb hz hc hkids =>
        have hcj := hc j hlt
        have hkj := Lib.hid (hkids j hlt)
        have hgz : g < wr.heap.size := by have := HT.out.size; omega
        obtain ⟨K, hK⟩ : ∃ K, Hid (k + 4 * LT.nodesL (kids.take j) = K) := ⟨_, rfl⟩
        rw [hK.out]
        have hKb : K + 4 + 4 * LT.nodesL kids[j].kids ≤ 100000000 := by have := hK.out; omega
        have HK2 : Hid (k + 4 * LT.nodesL (kids.take (j + 1)) = K + 4 + 4 * LT.nodesL kids[j].kids) := by have := hK.out; unfold Hid; omega
        have hK0 : 0 < K := by have := hK.out; omega
        clear n1 n2 n3 hc hkids IH
        generalize kids[j] = t at *
        have f : ∀ o, wr.frozen? ⟨g, o, none⟩ = false := fun o => frozen_of_row wr g o _ _ hb
        obtain ⟨v0, d0⟩ : ∃ v, wr.cell? ⟨g, j * 5, none⟩ = some v := ⟨_, (cell_of_row wr _ _ _ _ (0, 0) hb).trans (Array.getElem?_eq_getElem (by omega))⟩
        obtain ⟨v1, d1⟩ : ∃ v, wr.cell? ⟨g, j * 5 + 1, none⟩ = some v := ⟨_, (cell_of_row wr _ _ _ _ (0, 0) hb).trans (Array.getElem?_eq_getElem (by omega))⟩
        obtain ⟨v2, d2⟩ : ∃ v, wr.cell? ⟨g, j * 5 + 2, none⟩ = some v := ⟨_, (cell_of_row wr _ _ _ _ (0, 0) hb).trans (Array.getElem?_eq_getElem (by omega))⟩
        have HB := Lib.hid hb
        clear hb
        have CT : Hid (∀ w, Calls Tryd.prog 49 #[.int .i64 ((K : Int) + 1 + 1 + 1)] w fun e w' => e = .returned (.string (strs.markB (K + 3))) ∧ Below w.heap.size w w') := fun w => by
          have := strs.text_any (K + 3) (by omega) (by omega) w
          rwa [show ((K + 3 : Nat) : Int) = (K : Int) + 1 + 1 + 1 by omega] at this
        generalize strs.markB (K + 3) = M at *
        go_wp2_with fail
        with_reducible refine (CT.out _).mono ?_
        rintro e4 w4 ⟨rfl, hb4⟩
        have T3 := ((((Touched.refl lo hi wr).set hlo hhi (o := j * 5) (by omega) (.int .i64 (K : Int))).set hlo hhi (o := j * 5 + 1) (by omega) (.int .i64 ((K : Int) + 1))).set hlo hhi (o := j * 5 + 2) (by omega) (.int .i64 ((K : Int) + 1 + 1)))
        have b3 := blk_set (o := j * 5 + 2) (blk_set (o := j * 5 + 1) (blk_set (o := j * 5) HB.out (.int .i64 (K : Int))) (.int .i64 ((K : Int) + 1))) (.int .i64 ((K : Int) + 1 + 1))
        have hz3 : hi ≤ (((wr.setCell ⟨g, j * 5, none⟩ (.int .i64 (K : Int))).setCell ⟨g, j * 5 + 1, none⟩ (.int .i64 ((K : Int) + 1))).setCell ⟨g, j * 5 + 2, none⟩ (.int .i64 ((K : Int) + 1 + 1))).heap.size := by
          rw [set_size, set_size, set_size]
          have := HT.out.size
          omega
        generalize ((wr.setCell ⟨g, j * 5, none⟩ (.int .i64 (K : Int))).setCell ⟨g, j * 5 + 1, none⟩ (.int .i64 ((K : Int) + 1))).setCell ⟨g, j * 5 + 2, none⟩ (.int .i64 ((K : Int) + 1 + 1)) = W3 at *
        have T4 := T3.trans (Touched.of_below (lo := lo) hb4 hz3)
        have b4 := (hb4.block g (by omega)).trans b3
        have f4 : ∀ o, w4.frozen? ⟨g, o, none⟩ = false := fun o => frozen_of_row w4 g o _ _ b4
        obtain ⟨v3, d3⟩ : ∃ v, w4.cell? ⟨g, j * 5 + 3, none⟩ = some v := ⟨_, (cell_of_row w4 _ _ _ _ (0, 0) b4).trans (Array.getElem?_eq_getElem (by simp; omega))⟩
        have d4 : w4.cell? ⟨g, j * 5 + 4, none⟩ = some t.row := by
          rw [cell_of_row w4 _ _ _ _ (0, 0) b4, Array.getElem?_setIfInBounds_ne (by omega), Array.getElem?_setIfInBounds_ne (by omega), Array.getElem?_setIfInBounds_ne (by omega)]
          exact hcj
        have T5 := Lib.hid (T4.set hlo hhi (o := j * 5 + 3) (by omega) (.string M))
        have CM := C5.out lo hi (K + 4) _ (hkj.out.touched T5.out) (by rw [set_size]; have := hb4.size; omega) (by omega) (by omega)
        rw [show ((K + 4 : Nat) : Int) = (K : Int) + 1 + 1 + 1 + 1 by omega] at CM
        replace CM := Lib.hid CM
        clear CT hb4 T3 b3 T4 b4 d0 d1 d2 f HB C5 hkj hcj
        go_wp2_with fail
        with_reducible refine CM.out.mono ?_
        rintro e5 w5 ⟨rfl, t5⟩
        have HT5 := Lib.hid ((HT.out.trans T5.out).trans t5)
        clear CM t5 T5 d3 d4 f4 HT
        go_wp2
        go_roundw
        case rel => exact ⟨j + 1, by go_num, by omega, by rw [HK2.out]; congr 1, HT5⟩
        case measure => simp [intOf]; omega
    · have hj1 : ¬ (j : Int) < (kids.length : Int) := by omega
      have he : kids.take j = kids := List.take_of_length_le (by omega)
      rw [he]
      go_wp2
      go_ret
      exact ⟨rfl, HT.out⟩

theorem mark_row {w : World} {lo hi : Nat} {t : LT} (h : Shp w lo hi t) : MkC t := by
  induction h with
  | mk cs hl hlo hhi hb hz hc hkids ih => exact markS ih

set_option maxHeartbeats 1000000 in
theorem mark_any {w : World} {lo hi k : Nat} {t : LT} (h : Shp w lo hi t) (hh : hi ≤ w.heap.size) (h0 : 0 < k) (hk : k + 4 * LT.nodesL t.kids ≤ 100000000) :
    Calls Tryd.prog 12 #[t.val, .int .i64 k] w fun e w' => e = .returned (.int .i64 ((k + 4 * LT.nodesL t.kids : Nat) : Int)) ∧ Touched lo hi w w' := by
  have hb1 : Below w.heap.size w (w.alloc (.cells #[.int .i64 t.k, .int .i64 t.n, .int .i64 t.e, .string t.s, t.row] 24)) := (Below.refl _ _).alloc (Nat.le_refl _) _
  have T1 := Lib.hid (Touched.of_below (lo := lo) hb1 hh)
  have C := Lib.hid (mark_row h lo hi k _ (h.touched T1.out) (Nat.le_trans hh hb1.size) h0 hk)
  clear h hb1
  generalize k + 4 * LT.nodesL t.kids = K at *
  unfold LT.val LT.row
  unfold LT.row at C T1
  go_enter Tryd.func12, Tryd.ntmps12
  go_wp2_with fail
  with_reducible refine C.out.mono ?_
  rintro e w1 ⟨rfl, t1⟩
  have T2 := Lib.hid (T1.out.trans t1)
  clear C t1
  go_wp2
  go_ret
  exact ⟨rfl, T2.out⟩

end Go.Proofs.YtkjffifdlckljaaDoor.val
