/-
  What laws.markValue does to a value in memory of a call's own: it ends, and writes into the value's own blocks alone. (That its marks are held is told elsewhere.)
-/
import Derived.Test.YtnaghafmpncdkaaDoorGetCborJ0
import Derived.Test.YtnaghafmpncdkaaDoorGetCborJ1
namespace Go.Proofs.YtnaghafmpncdkaaDoor.val
open Go.ChangeShapes Go.WideShapes Go.ChangeAt Go.RowKit
set_option maxRecDepth 100000

/-- The lists of a value, their places alone: whole blocks from lo on, below hi, that may be written. -/
inductive Shp (w : World) (lo hi : Nat) : LT → Prop
  | mk {k n e : Int} {s : ByteArray} {g cap : Nat} {kids : List LT} (cs : Array Value) (hl : kids.length ≤ 1048576) (hlo : lo ≤ g) (hhi : g < hi) (hb : w.heap[g]? = some (.cells cs 24 (0, 0))) (hz : kids.length * 5 ≤ cs.size)
      (hc : ∀ i (h : i < kids.length), cs[i * 5 + 4]? = some kids[i].row) (hkids : ∀ i (h : i < kids.length), Shp w lo hi kids[i]) : Shp w lo hi (.mk k n e s (some ⟨g, 0, none⟩) cap kids)
/-- From w to w' only cells of blocks in between are written, and no cell that holds a list. -/
structure Touched (lo hi : Nat) (w w' : World) : Prop where
  os : w'.os = w.os
  tape : w'.tape = w.tape
  output : w'.output = w.output
  size : w.heap.size ≤ w'.heap.size
  out : ∀ b, b < w.heap.size → (b < lo ∨ hi ≤ b) → w'.heap[b]? = w.heap[b]?
  mid : ∀ b cs, lo ≤ b → b < hi → w.heap[b]? = some (.cells cs 24 (0, 0)) → ∃ cs', w'.heap[b]? = some (.cells cs' 24 (0, 0)) ∧ cs'.size = cs.size ∧ ∀ i, cs'[i * 5 + 4]? = cs[i * 5 + 4]?
theorem Touched.refl (lo hi : Nat) (w : World) : Touched lo hi w w := ⟨rfl, rfl, rfl, Nat.le_refl _, fun _ _ _ => rfl, fun b cs _ _ h => ⟨cs, h, rfl, fun _ => rfl⟩⟩
theorem Touched.trans {lo hi : Nat} {a b c : World} (h : Touched lo hi a b) (k : Touched lo hi b c) : Touched lo hi a c :=
  ⟨k.os.trans h.os, k.tape.trans h.tape, k.output.trans h.output, Nat.le_trans h.size k.size, fun i h1 h2 => (k.out i (Nat.lt_of_lt_of_le h1 h.size) h2).trans (h.out i h1 h2), fun i cs h1 h2 h3 => by
    obtain ⟨cs1, e1, z1, f1⟩ := h.mid i cs h1 h2 h3
    obtain ⟨cs2, e2, z2, f2⟩ := k.mid i cs1 h1 h2 e1
    exact ⟨cs2, e2, z2.trans z1, fun i => (f2 i).trans (f1 i)⟩⟩
theorem Touched.of_below {lo hi : Nat} {a b : World} (h : Below a.heap.size a b) (hh : hi ≤ a.heap.size) : Touched lo hi a b :=
  ⟨h.os, h.tape, h.output, h.size, fun i h1 _ => h.block i h1, fun i cs _ h2 h3 => ⟨cs, (h.block i (by omega)).trans h3, rfl, fun _ => rfl⟩⟩
theorem Touched.below {lo hi : Nat} {a b : World} (h : Touched lo hi a b) (hl : lo ≤ a.heap.size) : Below lo a b := ⟨h.os, h.tape, h.output, h.size, fun k hk => h.out k (by omega) (.inl hk)⟩
theorem Touched.set {lo hi : Nat} {a w : World} {g o : Nat} (h : Touched lo hi a w) (hl : lo ≤ g) (hh : g < hi) (ho : ∀ i, o ≠ i * 5 + 4) (v : Value) : Touched lo hi a (w.setCell ⟨g, o, none⟩ v) :=
  h.trans ⟨rfl, rfl, rfl, by rw [set_size]; exact Nat.le_refl _, fun b _ hb => blk_other v (by omega), fun b cs _ _ hb => by
    by_cases e : b = g
    · subst e
      exact ⟨_, blk_set hb v, by simp, fun i => Array.getElem?_setIfInBounds_ne (ho i)⟩
    · exact ⟨cs, (blk_other v e).trans hb, rfl, fun _ => rfl⟩⟩
theorem Shp.touched {w w' : World} {lo hi : Nat} {t : LT} (h : Shp w lo hi t) (ht : Touched lo hi w w') : Shp w' lo hi t := by
  induction h with
  | mk cs hl hlo hhi hb hz hc _ ih =>
    obtain ⟨cs', e1, z1, f1⟩ := ht.mid _ cs hlo hhi hb
    exact .mk cs' hl hlo hhi e1 (by omega) (fun i hi => (f1 i).trans (hc i hi)) ih
theorem Own.shp {w : World} {lo hi : Nat} {t : LT} (h : Own w lo hi t) (hz : t.sz ≤ 1048576) : Shp w lo hi t := by
  induction h with
  | mk cs k1 k2 k3 k4 k5 hlo hhi hb hz' hc hkk ih =>
    rename_i k n e s g cap kids
    rw [sz_mk] at hz
    simp only [LT.s, LT.kids] at hz
    have hlen := szL_len kids
    refine .mk cs (by omega) hlo hhi hb hz' (fun i hi => ?_) (fun i hi => ih i hi ?_)
    · have := (hc i hi).c4
      rw [cell_of_row w g (i * 5 + 4) cs _ (0, 0) hb] at this
      exact this
    · have h1 := szL_take kids i hi
      have h2 := szL_le kids (i + 1)
      omega
theorem nodes_take (l : List LT) : ∀ j (h : j < l.length), LT.nodesL (l.take (j + 1)) = LT.nodesL (l.take j) + l[j].nodes := by
  induction l with
  | nil => intro j h; simp at h
  | cons t ts ih =>
    intro j h
    cases j with
    | zero => simp [LT.nodesL]
    | succ j =>
      have := ih j (by simpa using h)
      simp only [List.take_succ_cons, LT.nodesL, List.getElem_cons_succ]
      omega
theorem nodes_le (l : List LT) (j : Nat) : LT.nodesL (l.take j) ≤ LT.nodesL l := by
  induction l generalizing j with
  | nil => simp
  | cons t ts ih =>
    cases j with
    | zero => simp [LT.nodesL]
    | succ j => have := ih j; simp only [List.take_succ_cons, LT.nodesL]; omega
theorem nodes_mk (t : LT) : t.nodes = 1 + LT.nodesL t.kids := by cases t; simp [LT.nodes, LT.kids]
mutual
theorem nodes_sz : ∀ t : LT, t.nodes ≤ 1 + t.sz
  | .mk k n e s a cap kids => by have := nodesL_sz kids; rw [LT.nodes, LT.sz]; omega
theorem nodesL_sz : ∀ l : List LT, LT.nodesL l ≤ LT.szL l
  | [] => by rw [LT.nodesL, LT.szL]; omega
  | t :: ts => by have := nodes_sz t; have := nodesL_sz ts; rw [LT.nodesL, LT.szL]; omega
end

def MkC (t : LT) : Prop := ∀ (lo hi k : Nat) (w : World), Shp w lo hi t → hi ≤ w.heap.size → 0 < k → k + 4 * LT.nodesL t.kids ≤ 100000000 →
  Calls Tryd.prog 30 #[t.row, .int .i64 k] w fun e w' => e = .returned (.int .i64 ((k + 4 * LT.nodesL t.kids : Nat) : Int)) ∧ Touched lo hi w w'

set_option maxHeartbeats 4000000 in
theorem markS {g cap : Nat} {kk n e : Int} {s : ByteArray} {kids : List LT} (ih : ∀ i (h : i < kids.length), MkC kids[i]) : MkC (.mk kk n e s (some ⟨g, 0, none⟩) cap kids) := by
  intro lo hi k w hS hh h0 hk
  have IH := Lib.hid ih
  have HS := Lib.hid hS
  clear ih hS
  unfold LT.row
  simp only [LT.a, LT.cap, LT.kids] at *
  go_enter Tryd.func30, Tryd.ntmps30
  go_wp2_with fail
  go_loopw [1, 5] (fun q i wr => ∃ (j : Nat), i = .int .i64 j ∧ j ≤ kids.length ∧ q = .int .i64 ((k + 4 * LT.nodesL (kids.take j) : Nat) : Int) ∧ Hid (Touched lo hi w wr)) (fun _ i _ => kids.length - (intOf i).toNat)
  case atStart => exact ⟨0, rfl, by omega, by simp [LT.nodesL], Touched.refl _ _ _⟩
  case round =>
    obtain ⟨j, rfl, hj, rfl, HT⟩ := hrel
    by_cases hlt : j < kids.length
    · have hj0 : (0 : Int) ≤ (j : Int) := by omega
      have hj1 : (j : Int) < (kids.length : Int) := by omega
      have hS1 := HS.out.touched HT.out
      have n1 := nodes_take kids j hlt
      have n2 := nodes_le kids (j + 1)
      have n3 := nodes_mk kids[j]
      have C5 := Lib.hid (IH.out j hlt)
      cases hS1 with
      | mk cs hl hlo hhi hb hz hc hkids =>
        have hcj := hc j hlt
        have hkj := Lib.hid (hkids j hlt)
        have hgz : g < wr.heap.size := by have := HT.out.size; omega
        obtain ⟨K, hK⟩ : ∃ K, Hid (k + 4 * LT.nodesL (kids.take j) = K) := ⟨_, rfl⟩
        rw [hK.out]
        have hKb : K + 4 + 4 * LT.nodesL kids[j].kids ≤ 100000000 := by have := hK.out; omega
        have HK2 : Hid (k + 4 * LT.nodesL (kids.take (j + 1)) = K + 4 + 4 * LT.nodesL kids[j].kids) := by have := hK.out; unfold Hid; omega
        have hK0 : 0 < K := by have := hK.out; omega
        clear n1 n2 n3 hc hkids IH
        generalize kids[j] = t at *
        have f : ∀ o, wr.frozen? ⟨g, o, none⟩ = false := fun o => frozen_of_row wr g o _ _ hb
        obtain ⟨v0, d0⟩ : ∃ v, wr.cell? ⟨g, j * 5, none⟩ = some v := ⟨_, (cell_of_row wr _ _ _ _ (0, 0) hb).trans (Array.getElem?_eq_getElem (by omega))⟩
        obtain ⟨v1, d1⟩ : ∃ v, wr.cell? ⟨g, j * 5 + 1, none⟩ = some v := ⟨_, (cell_of_row wr _ _ _ _ (0, 0) hb).trans (Array.getElem?_eq_getElem (by omega))⟩
        obtain ⟨v2, d2⟩ : ∃ v, wr.cell? ⟨g, j * 5 + 2, none⟩ = some v := ⟨_, (cell_of_row wr _ _ _ _ (0, 0) hb).trans (Array.getElem?_eq_getElem (by omega))⟩
        have HB := Lib.hid hb
        clear hb
        have CT : Hid (∀ w, Calls Tryd.prog 43 #[.int .i64 ((K : Int) + 1 + 1 + 1)] w fun e w' => e = .returned (.string (strs.markB (K + 3))) ∧ Below w.heap.size w w') := fun w => by
          have := strs.text_any (K + 3) (by omega) (by omega) w
          rwa [show ((K + 3 : Nat) : Int) = (K : Int) + 1 + 1 + 1 by omega] at this
        generalize strs.markB (K + 3) = M at *
        go_wp2_with fail
        with_reducible refine (CT.out _).mono ?_
        rintro e4 w4 ⟨rfl, hb4⟩
        have T3 := ((((Touched.refl lo hi wr).set hlo hhi (o := j * 5) (by omega) (.int .i64 (K : Int))).set hlo hhi (o := j * 5 + 1) (by omega) (.int .i64 ((K : Int) + 1))).set hlo hhi (o := j * 5 + 2) (by omega) (.int .i64 ((K : Int) + 1 + 1)))
        have b3 := blk_set (o := j * 5 + 2) (blk_set (o := j * 5 + 1) (blk_set (o := j * 5) HB.out (.int .i64 (K : Int))) (.int .i64 ((K : Int) + 1))) (.int .i64 ((K : Int) + 1 + 1))
        have hz3 : hi ≤ (((wr.setCell ⟨g, j * 5, none⟩ (.int .i64 (K : Int))).setCell ⟨g, j * 5 + 1, none⟩ (.int .i64 ((K : Int) + 1))).setCell ⟨g, j * 5 + 2, none⟩ (.int .i64 ((K : Int) + 1 + 1))).heap.size := by
          rw [set_size, set_size, set_size]
          have := HT.out.size
          omega
        generalize ((wr.setCell ⟨g, j * 5, none⟩ (.int .i64 (K : Int))).setCell ⟨g, j * 5 + 1, none⟩ (.int .i64 ((K : Int) + 1))).setCell ⟨g, j * 5 + 2, none⟩ (.int .i64 ((K : Int) + 1 + 1)) = W3 at *
        have T4 := T3.trans (Touched.of_below (lo := lo) hb4 hz3)
        have b4 := (hb4.block g (by omega)).trans b3
        have f4 : ∀ o, w4.frozen? ⟨g, o, none⟩ = false := fun o => frozen_of_row w4 g o _ _ b4
        obtain ⟨v3, d3⟩ : ∃ v, w4.cell? ⟨g, j * 5 + 3, none⟩ = some v := ⟨_, (cell_of_row w4 _ _ _ _ (0, 0) b4).trans (Array.getElem?_eq_getElem (by simp; omega))⟩
        have d4 : w4.cell? ⟨g, j * 5 + 4, none⟩ = some t.row := by
          rw [cell_of_row w4 _ _ _ _ (0, 0) b4, Array.getElem?_setIfInBounds_ne (by omega), Array.getElem?_setIfInBounds_ne (by omega), Array.getElem?_setIfInBounds_ne (by omega)]
          exact hcj
        have T5 := Lib.hid (T4.set hlo hhi (o := j * 5 + 3) (by omega) (.string M))
        have CM := C5.out lo hi (K + 4) _ (hkj.out.touched T5.out) (by rw [set_size]; have := hb4.size; omega) (by omega) (by omega)
        rw [show ((K + 4 : Nat) : Int) = (K : Int) + 1 + 1 + 1 + 1 by omega] at CM
        replace CM := Lib.hid CM
        clear CT hb4 T3 b3 T4 b4 d0 d1 d2 f HB C5 hkj hcj
        go_wp2_with fail
        with_reducible refine CM.out.mono ?_
        rintro e5 w5 ⟨rfl, t5⟩
        have HT5 := Lib.hid ((HT.out.trans T5.out).trans t5)
        clear CM t5 T5 d3 d4 f4 HT
        go_wp2
        go_roundw
        case rel => exact ⟨j + 1, by go_num, by omega, by rw [HK2.out]; congr 1, HT5⟩
        case measure => simp [intOf]; omega
    · have hj1 : ¬ (j : Int) < (kids.length : Int) := by omega
      have he : kids.take j = kids := List.take_of_length_le (by omega)
      rw [he]
      go_wp2
      go_ret
      exact ⟨rfl, HT.out⟩

theorem mark_row {w : World} {lo hi : Nat} {t : LT} (h : Shp w lo hi t) : MkC t := by
  induction h with
  | mk cs hl hlo hhi hb hz hc hkids ih => exact markS ih

set_option maxHeartbeats 1000000 in
theorem mark_any {w : World} {lo hi k : Nat} {t : LT} (h : Shp w lo hi t) (hh : hi ≤ w.heap.size) (h0 : 0 < k) (hk : k + 4 * LT.nodesL t.kids ≤ 100000000) :
    Calls Tryd.prog 10 #[t.val, .int .i64 k] w fun e w' => e = .returned (.int .i64 ((k + 4 * LT.nodesL t.kids : Nat) : Int)) ∧ Touched lo hi w w' := by
  have hb1 : Below w.heap.size w (w.alloc (.cells #[.int .i64 t.k, .int .i64 t.n, .int .i64 t.e, .string t.s, t.row] 24)) := (Below.refl _ _).alloc (Nat.le_refl _) _
  have T1 := Lib.hid (Touched.of_below (lo := lo) hb1 hh)
  have C := Lib.hid (mark_row h lo hi k _ (h.touched T1.out) (Nat.le_trans hh hb1.size) h0 hk)
  clear h hb1
  generalize k + 4 * LT.nodesL t.kids = K at *
  unfold LT.val LT.row
  unfold LT.row at C T1
  go_enter Tryd.func10, Tryd.ntmps10
  go_wp2_with fail
  with_reducible refine C.out.mono ?_
  rintro e w1 ⟨rfl, t1⟩
  have T2 := Lib.hid (T1.out.trans t1)
  clear C t1
  go_wp2
  go_ret
  exact ⟨rfl, T2.out⟩

end Go.Proofs.YtnaghafmpncdkaaDoor.val
/-
  What laws.toValue returns: a value that tells the same, in memory of its own.
-/
namespace Go.Proofs.YtnaghafmpncdkaaDoor.val
open Go.ChangeShapes Go.WideShapes Go.ChangeAt Go.RowKit
set_option maxRecDepth 100000

theorem infoV : (Tryd.prog.info? 24).map (fun i => (i.zero, i.size, i.bytes)) = some (some (.agg #[.int .i64 0, .int .i64 0, .int .i64 0, .string ⟨#[]⟩, .slice none 0 0]), 5, 64) := by kernel_rfl
def zeros (n : Nat) : Array Value := madeCells #[.int .i64 0, .int .i64 0, .int .i64 0, .string ⟨#[]⟩, .slice none 0 0] (n * 5)
theorem zeros_size (n : Nat) : (zeros n).size = n * 5 := size_madeCells _ _
theorem make_any (n : Nat) (hn : n ≤ 1048576) (w : World) : (Instr.makeSlice 22 (.int .i64 (n : Int)) (.int .i64 (n : Int))).run Tryd.prog w = .ok (.slice (some ⟨w.heap.size, 0, none⟩) n n) (w.alloc (.cells (zeros n) 24)) := by
  obtain ⟨i0, hi0, hz0, hz1, hz2⟩ := info_parts infoV
  have h := run_make (P := Tryd.prog) w 22 24 i0 _ Tryd.underlying22 hi0 hz0 .i64 .i64 (n : Int) (n : Int) (by omega) (by omega) (by rw [hz2]; omega) (by omega)
  rw [hz1] at h
  simpa [zeros, Value.cells] using h

def ToC (w' : World) (t : LT) : Prop := Calls Tryd.prog 19 #[t.val] w' fun e w'' => ∃ t' : LT, e = .returned t'.val ∧ er t' = er t ∧ Own w'' w'.heap.size w''.heap.size t' ∧ Below w'.heap.size w' w''

/-- What the loop of toValueS has made. -/
structure Made (w' wr : World) (g : Nat) (kids done : List LT) : Prop where
  below : Below w'.heap.size w' wr
  size : g < wr.heap.size
  block : ∃ cs, wr.heap[g]? = some (.cells cs 24 (0, 0)) ∧ cs.size = kids.length * 5
  len : done.length ≤ kids.length
  same : ∀ i (h : i < done.length) (h' : i < kids.length), er done[i] = er kids[i]
  at5 : ∀ i (h : i < done.length), At5 wr ⟨g, i * 5, none⟩ done[i]
  own : ∀ i (h : i < done.length), Own wr (g + 1) wr.heap.size done[i]
theorem Made.start (w' : World) (kids : List LT) : Made w' (w'.alloc (.cells (zeros kids.length) 24)) w'.heap.size kids [] :=
  ⟨(Below.refl _ _).alloc (Nat.le_refl _) _, by simp, ⟨_, heap_alloc_new w' _, zeros_size _⟩, by simp, fun i h => by simp at h, fun i h => by simp at h, fun i h => by simp at h⟩
theorem Made.step {w' wr w1 : World} {g : Nat} {kids done : List LT} {t' : LT} (h : Made w' wr g kids done) (hlt : done.length < kids.length) (hg : w'.heap.size ≤ g) (he : er t' = er kids[done.length]) (ho : Own w1 wr.heap.size w1.heap.size t') (hb : Below wr.heap.size wr w1) :
    Made w' (put5 w1 g (done.length * 5) t') g kids (done ++ [t']) := by
  obtain ⟨cs, hcs, hsz⟩ := h.block
  have hgz := h.size
  have hz := hb.size
  have hcs1 : w1.heap[g]? = some (.cells cs 24 (0, 0)) := by rw [hb.block g hgz]; exact hcs
  have hsz' := put5_size (w := w1) (g := g) (o := done.length * 5) t'
  refine ⟨(h.below.trans (hb.mono h.below.size)).trans (put5_below t' hg), by omega, ⟨_, put5_block t' hcs1, by rw [set5_size]; exact hsz⟩, by simp; omega, ?_, ?_, ?_⟩
  · intro i hi hi'
    by_cases e : i < done.length
    · rw [List.getElem_append_left e]; exact h.same i e hi'
    · have : i = done.length := by simp at hi; omega
      subst this
      simpa using he
  · intro i hi
    by_cases e : i < done.length
    · rw [List.getElem_append_left e]
      exact put5_apart hcs1 (by omega) ((h.at5 i e).of_block (hb.block g hgz))
    · have : i = done.length := by simp at hi; omega
      subst this
      simpa using put5_at t' hcs1 (by omega)
  · intro i hi
    by_cases e : i < done.length
    · rw [List.getElem_append_left e]
      exact (h.own i e).kept (Nat.le_refl _) (by omega) fun b h1 h2 => by rw [put5_other t' (by omega), hb.block b h2]
    · have : i = done.length := by simp at hi; omega
      subst this
      simpa using ho.kept (lo' := g + 1) (by omega) (Nat.le_of_eq hsz'.symm) fun b h1 h2 => put5_other t' (by omega)

set_option maxHeartbeats 2000000 in
theorem toS (w : World) (B : Nat) (a : Option Addr) (cap : Nat) (kids : List LT) (hl : kids.length ≤ 1048576) (hc : ∀ i (h : i < kids.length), ∃ x, a = some x ∧ x.block < B ∧ At5 w (x.add (i * 5)) kids[i])
    (ih : ∀ i (h : i < kids.length), ∀ w', Below B w w' → B ≤ w'.heap.size → ToC w' kids[i]) :
    ∀ w', Below B w w' → B ≤ w'.heap.size → Calls Tryd.prog 39 #[.slice a kids.length cap] w' fun e w'' => ∃ done : List LT, done.length = kids.length ∧ e = .returned (.slice (some ⟨w'.heap.size, 0, none⟩) done.length done.length) ∧ Made w' w'' w'.heap.size kids done := by
  intro w' hb hB
  have HC := Lib.hid hc
  have IH := Lib.hid ih
  have HB := Lib.hid hb
  clear hc ih hb
  have hmk := make_any kids.length hl
  have HS := Lib.hid (Made.start w' kids)
  go_enter Tryd.func39, Tryd.ntmps39
  go_wp2
  go_loopw [4] (fun i wr => ∃ (done : List LT), i = .int .i64 done.length ∧ done.length ≤ kids.length ∧ Hid (Made w' wr w'.heap.size kids done)) (fun i _ => kids.length - (intOf i).toNat)
  case atStart => exact ⟨[], rfl, by simp, HS⟩
  case round =>
    clear HS hmk
    obtain ⟨done, rfl, hd, HM⟩ := hrel
    by_cases hlt : done.length < kids.length
    · have hj0 : (0 : Int) ≤ (done.length : Int) := by omega
      have hj1 : (done.length : Int) < (kids.length : Int) := by omega
      obtain ⟨x, rfl, hx, h5⟩ := HC.out done.length hlt
      have hbr := HB.out.trans (HM.out.below.mono hB)
      obtain ⟨c0, c1, c2, c3, c4⟩ := h5.below (by rw [add_block]; exact hx) hbr
      have C := IH.out done.length hlt wr hbr (Nat.le_trans hB HM.out.below.size)
      unfold ToC LT.val at C
      have HST : Hid (∀ (t' : LT) (w1 : World), er t' = er kids[done.length] → Own w1 wr.heap.size w1.heap.size t' → Below wr.heap.size wr w1 → Made w' (put5 w1 w'.heap.size (done.length * 5) t') w'.heap.size kids (done ++ [t'])) := fun t' w1 h1 h2 h3 => HM.out.step hlt (Nat.le_refl _) h1 h2 h3
      obtain ⟨cs, hcs, hcz⟩ := HM.out.block
      have hwz := HM.out.size
      generalize kids[done.length] = t at *
      replace C := Lib.hid C
      clear h5 HC IH hbr
      go_wp2_with fail
      with_reducible refine C.out.mono ?_
      rintro e w1 ⟨t', rfl, he, ho, hb1⟩
      have HN := Lib.hid (HST.out t' w1 he ho hb1)
      have hcs1 : w1.heap[w'.heap.size]? = some (.cells cs 24 (0, 0)) := by rw [hb1.block _ hwz]; exact hcs
      have f0 : w1.frozen? ⟨w'.heap.size, done.length * 5, none⟩ = false := frozen_of_row w1 _ _ _ _ hcs1
      have f1 : w1.frozen? ⟨w'.heap.size, done.length * 5 + 1, none⟩ = false := frozen_of_row w1 _ _ _ _ hcs1
      have f2 : w1.frozen? ⟨w'.heap.size, done.length * 5 + 2, none⟩ = false := frozen_of_row w1 _ _ _ _ hcs1
      have f3 : w1.frozen? ⟨w'.heap.size, done.length * 5 + 3, none⟩ = false := frozen_of_row w1 _ _ _ _ hcs1
      have f4 : w1.frozen? ⟨w'.heap.size, done.length * 5 + 4, none⟩ = false := frozen_of_row w1 _ _ _ _ hcs1
      obtain ⟨v0, d0⟩ : ∃ v, w1.cell? ⟨w'.heap.size, done.length * 5, none⟩ = some v := ⟨_, (cell_of_row w1 _ _ _ _ (0, 0) hcs1).trans (Array.getElem?_eq_getElem (by omega))⟩
      obtain ⟨v1, d1⟩ : ∃ v, w1.cell? ⟨w'.heap.size, done.length * 5 + 1, none⟩ = some v := ⟨_, (cell_of_row w1 _ _ _ _ (0, 0) hcs1).trans (Array.getElem?_eq_getElem (by omega))⟩
      obtain ⟨v2, d2⟩ : ∃ v, w1.cell? ⟨w'.heap.size, done.length * 5 + 2, none⟩ = some v := ⟨_, (cell_of_row w1 _ _ _ _ (0, 0) hcs1).trans (Array.getElem?_eq_getElem (by omega))⟩
      obtain ⟨v3, d3⟩ : ∃ v, w1.cell? ⟨w'.heap.size, done.length * 5 + 3, none⟩ = some v := ⟨_, (cell_of_row w1 _ _ _ _ (0, 0) hcs1).trans (Array.getElem?_eq_getElem (by omega))⟩
      obtain ⟨v4, d4⟩ : ∃ v, w1.cell? ⟨w'.heap.size, done.length * 5 + 4, none⟩ = some v := ⟨_, (cell_of_row w1 _ _ _ _ (0, 0) hcs1).trans (Array.getElem?_eq_getElem (by omega))⟩
      clear C hb1 c0 c1 c2 c3 c4 HM ho he HST hcs hcs1
      unfold LT.row
      go_wp2
      go_roundw
      case rel => exact ⟨done ++ [t'], by simp, by simp; omega, HN⟩
      case measure => simp [intOf]; omega
    · have hj1 : ¬ (done.length : Int) < (kids.length : Int) := by omega
      have he : done.length = kids.length := by omega
      go_wp2
      go_ret
      exact ⟨done, he, by rw [he]; rfl, HM.out⟩

theorem sz_kid {kids : List LT} (i : Nat) (h : i < kids.length) : kids[i].sz ≤ LT.szL kids := by
  have h1 := szL_take kids i h
  have h2 := szL_le kids (i + 1)
  omega

theorem three (w : World) (o1 o2 o3 : Obj) : (((w.alloc o1).alloc o2).alloc o3).heap.size = w.heap.size + 3 ∧ (((w.alloc o1).alloc o2).alloc o3).heap[w.heap.size + 1]? = some o2 ∧ (((w.alloc o1).alloc o2).alloc o3).heap[w.heap.size + 1 + 1]? = some o3 := by
  refine ⟨by simp, ?_, ?_⟩
  · rw [Below.heap_alloc _ _ _ (by simp)]
    have := heap_alloc_new (w.alloc o1) o2
    simpa using this
  · have := heap_alloc_new ((w.alloc o1).alloc o2) o3
    simpa using this
def six (w : World) (N : Nat) (v a0 a1 a2 a3 a4 : Value) : World :=
  (((((w.setCell { block := N + 1 + 1, off := 4 } v).setCell { block := N + 1, off := 0 } a0).setCell { block := N + 1, off := 1 } a1).setCell { block := N + 1, off := 2 } a2).setCell { block := N + 1, off := 3 } a3).setCell { block := N + 1, off := 4 } a4
theorem six_below (w : World) (N : Nat) (v a0 a1 a2 a3 a4 : Value) : Below N w (six w N v a0 a1 a2 a3 a4) := by
  have h1 : N ≤ N + 1 := by omega
  have h2 : N ≤ N + 1 + 1 := by omega
  unfold six
  exact (((((((Below.refl N w).setCell (p := { block := N + 1 + 1, off := 4 }) h2 _).setCell (p := { block := N + 1, off := 0 }) h1 _).setCell (p := { block := N + 1, off := 1 }) h1 _).setCell (p := { block := N + 1, off := 2 }) h1 _).setCell (p := { block := N + 1, off := 3 }) h1 _).setCell (p := { block := N + 1, off := 4 }) h1 _)
theorem six_size (w : World) (N : Nat) (v a0 a1 a2 a3 a4 : Value) : (six w N v a0 a1 a2 a3 a4).heap.size = w.heap.size := by
  unfold six
  rw [set_size, set_size, set_size, set_size, set_size, set_size]
theorem six_other (w : World) (N : Nat) (v a0 a1 a2 a3 a4 : Value) (b : Nat) (e1 : b ≠ N + 1) (e2 : b ≠ N + 1 + 1) : (six w N v a0 a1 a2 a3 a4).heap[b]? = w.heap[b]? := by
  unfold six
  rw [blk_other _ e1, blk_other _ e1, blk_other _ e1, blk_other _ e1, blk_other _ e1, blk_other _ e2]
/-- What toValue has made, behind its own stores. -/
theorem made_own {w' wc w1 wf : World} {k n e : Int} {s : ByteArray} {a : Option Addr} {cap : Nat} {kids done : List LT} (hk : InI k) (hn : InI n) (he : InI e) (hs : s.size ≤ 9223372036854775807) (hl : kids.length ≤ 9223372036854775807)
    (hwc : Below w'.heap.size w' wc) (hc3 : wc.heap.size = w'.heap.size + 3) (hm : Made wc w1 wc.heap.size kids done) (hd : done.length = kids.length)
    (hb : Below w'.heap.size w1 wf) (hz : wf.heap.size = w1.heap.size) (hk2 : ∀ b, b ≠ w'.heap.size + 1 → b ≠ w'.heap.size + 1 + 1 → wf.heap[b]? = w1.heap[b]?) :
    er (.mk k n e s (some ⟨wc.heap.size, 0, none⟩) done.length done) = er (.mk k n e s a cap kids) ∧ Own wf w'.heap.size wf.heap.size (.mk k n e s (some ⟨wc.heap.size, 0, none⟩) done.length done) ∧ Below w'.heap.size w' wf := by
  refine ⟨?_, ?_, (hwc.trans (hm.below.mono (by omega))).trans hb⟩
  · simp only [er, erL_map]
    congr 1
    apply List.ext_getElem
    · simp [hd]
    · intro i h1 h2
      simp only [List.getElem_map]
      simp only [List.length_map] at h1 h2
      exact hm.same i h1 h2
  · obtain ⟨cs, hcs, hsz⟩ := hm.block
    have hg := hm.size
    exact .mk cs hk hn he hs (by omega) (by omega) (by omega) (by rw [hk2 _ (by omega) (by omega)]; exact hcs) (by omega)
      (fun i hi => (hm.at5 i hi).of_block (hk2 _ (by omega) (by omega)))
      (fun i hi => (hm.own i hi).kept (by omega) (by omega) fun b h1 _ => hk2 b (by omega) (by omega))

set_option maxHeartbeats 2000000 in
theorem to_any {w : World} {B : Nat} {t : LT} (h : In w B t) : t.sz ≤ 1048576 → ∀ w', Below B w w' → B ≤ w'.heap.size → ToC w' t := by
  induction h with
  | mk hk hn he hs hl hc hkids ih =>
    rename_i k n e s a cap kids
    intro hz w' hb hB
    have hz' : s.size + LT.szL kids ≤ 1048576 := by rw [sz_mk] at hz; exact hz
    have hlen := szL_len kids
    have CS := Lib.hid (toS w B a cap kids (by omega) hc (fun i hi => ih i hi (by have := sz_kid i hi; omega)))
    have HB := Lib.hid hb
    have HI := Lib.hid (And.intro hk (And.intro hn he))
    unfold ToC LT.val LT.row
    simp only [LT.k, LT.n, LT.e, LT.s, LT.a, LT.cap, LT.kids]
    clear hc ih hkids hb hz hk hn he
    go_enter Tryd.func19, Tryd.ntmps19
    go_wp2_with fail
    with_reducible refine (CS.out _ (((HB.out.alloc hB _).alloc (by simp; omega) _).alloc (by simp; omega) _) (by simp; omega)).mono ?_
    rintro e1 w1 ⟨done, hd, rfl, hm⟩
    obtain ⟨t3, t1, t2⟩ := three w' (.cells #[.int .i64 k, .int .i64 n, .int .i64 e, .string s, .slice a kids.length cap] 35) (.cells #[.int .i64 0, .int .i64 0, .int .i64 0, .string ⟨#[]⟩, .slice none 0 0] 24) (.cells #[.int .i64 k, .int .i64 n, .int .i64 e, .string s, .slice none 0 0] 24)
    have HWC : Hid (Below w'.heap.size w' (((w'.alloc (.cells #[.int .i64 k, .int .i64 n, .int .i64 e, .string s, .slice a kids.length cap] 35)).alloc (.cells #[.int .i64 0, .int .i64 0, .int .i64 0, .string ⟨#[]⟩, .slice none 0 0] 24)).alloc (.cells #[.int .i64 k, .int .i64 n, .int .i64 e, .string s, .slice none 0 0] 24))) := (((Below.refl _ _).alloc (Nat.le_refl _) _).alloc (by simp) _).alloc (by simp; omega) _
    generalize (((w'.alloc (.cells #[.int .i64 k, .int .i64 n, .int .i64 e, .string s, .slice a kids.length cap] 35)).alloc (.cells #[.int .i64 0, .int .i64 0, .int .i64 0, .string ⟨#[]⟩, .slice none 0 0] 24)).alloc (.cells #[.int .i64 k, .int .i64 n, .int .i64 e, .string s, .slice none 0 0] 24)) = wc at *
    have HM := Lib.hid hm
    have r1 : w1.heap[w'.heap.size + 1]? = some (.cells #[.int .i64 0, .int .i64 0, .int .i64 0, .string ⟨#[]⟩, .slice none 0 0] 24 (0, 0)) := (hm.below.block _ (by omega)).trans t1
    have r2 : w1.heap[w'.heap.size + 1 + 1]? = some (.cells #[.int .i64 k, .int .i64 n, .int .i64 e, .string s, .slice none 0 0] 24 (0, 0)) := (hm.below.block _ (by omega)).trans t2
    have HT3 := Lib.hid t3
    clear hm t1 t2 CS
    have hwz : wc.heap.size = w'.heap.size + 3 := t3
    clear t3
    have f0 := fun o => frozen_of_row w1 _ o _ _ r1
    have f1 := fun o => frozen_of_row w1 _ o _ _ r2
    have d0 : w1.cell? ⟨w'.heap.size + 1, 0, none⟩ = some (.int .i64 0) := cell_of_row w1 _ 0 _ _ (0, 0) r1
    have d1 : w1.cell? ⟨w'.heap.size + 1, 1, none⟩ = some (.int .i64 0) := cell_of_row w1 _ 1 _ _ (0, 0) r1
    have d2 : w1.cell? ⟨w'.heap.size + 1, 2, none⟩ = some (.int .i64 0) := cell_of_row w1 _ 2 _ _ (0, 0) r1
    have d3 : w1.cell? ⟨w'.heap.size + 1, 3, none⟩ = some (.string ⟨#[]⟩) := cell_of_row w1 _ 3 _ _ (0, 0) r1
    have d4 : w1.cell? ⟨w'.heap.size + 1, 4, none⟩ = some (.slice none 0 0) := cell_of_row w1 _ 4 _ _ (0, 0) r1
    have g0 : w1.cell? ⟨w'.heap.size + 1 + 1, 0, none⟩ = some (.int .i64 k) := cell_of_row w1 _ 0 _ _ (0, 0) r2
    have g1 : w1.cell? ⟨w'.heap.size + 1 + 1, 1, none⟩ = some (.int .i64 n) := cell_of_row w1 _ 1 _ _ (0, 0) r2
    have g2 : w1.cell? ⟨w'.heap.size + 1 + 1, 2, none⟩ = some (.int .i64 e) := cell_of_row w1 _ 2 _ _ (0, 0) r2
    have g3 : w1.cell? ⟨w'.heap.size + 1 + 1, 3, none⟩ = some (.string s) := cell_of_row w1 _ 3 _ _ (0, 0) r2
    have g4 : w1.cell? ⟨w'.heap.size + 1 + 1, 4, none⟩ = some (.slice none 0 0) := cell_of_row w1 _ 4 _ _ (0, 0) r2
    clear r1 r2
    go_wp2
    refine bodyPost_ret (v := .agg #[.int .i64 k, .int .i64 n, .int .i64 e, .string s, .slice (some ⟨w'.heap.size + 3, 0, none⟩) kids.length kids.length]) (by simp [results, Tryd.results19, go_sem, f0, d0, d1, d2, d3, d4]) rfl ?_
    obtain ⟨m1, m2, m3⟩ := made_own (a := a) (cap := cap) HI.out.1 HI.out.2.1 HI.out.2.2 hs (by omega) HWC.out hwz HM.out hd (six_below w1 w'.heap.size (.slice (some ⟨w'.heap.size + 3, 0, none⟩) kids.length kids.length) (.int .i64 k) (.int .i64 n) (.int .i64 e) (.string s) (.slice (some ⟨w'.heap.size + 3, 0, none⟩) kids.length kids.length)) (six_size _ _ _ _ _ _ _ _) (six_other _ _ _ _ _ _ _ _)
    refine ⟨.mk k n e s (some ⟨wc.heap.size, 0, none⟩) done.length done, ?_, m1, m2, m3⟩
    show Ending.returned (.agg #[.int .i64 k, .int .i64 n, .int .i64 e, .string s, .slice (some ⟨w'.heap.size + 3, 0, none⟩) kids.length kids.length]) = .returned (.agg #[.int .i64 k, .int .i64 n, .int .i64 e, .string s, .slice (some ⟨wc.heap.size, 0, none⟩) done.length done.length])
    rw [hd, hwz]

end Go.Proofs.YtnaghafmpncdkaaDoor.val
