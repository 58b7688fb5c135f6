/-
  Why no list of a value that a call has copied holds itself: one place bears one value; a part has fewer nodes than the whole. The stack of impl.endless, and its measure.
-/
import Derived.Test.YtkjffifdlckljaaDoorPathsJ41
import Derived.Test.YtkjffifdlckljaaDoorPathsJ28
namespace Go.Proofs.YtkjffifdlckljaaDoor.val
open Go.ChangeShapes Go.WideShapes Go.ChangeAt Go.RowKit
set_option maxRecDepth 100000

theorem uniq {w : World} {lo hi : Nat} {x : LT} (hx : Own w lo hi x) : ∀ {p : Addr} {y : LT} {lo' hi' : Nat}, Own w lo' hi' y → At5 w p x → At5 w p y → x = y := by
  induction hx with
  | mk cs k1 k2 k3 k4 k5 hlo hhi hb hz hc _ ih =>
    intro p y lo' hi' hy ax ay
    cases hy with
    | mk cs' k1' k2' k3' k4' k5' hlo' hhi' hb' hz' hc' hk' =>
      have e0 := ax.c0.symm.trans ay.c0
      have e1 := ax.c1.symm.trans ay.c1
      have e2 := ax.c2.symm.trans ay.c2
      have e3 := ax.c3.symm.trans ay.c3
      have e4 := ax.c4.symm.trans ay.c4
      simp only [LT.row, LT.k, LT.n, LT.e, LT.s, LT.a, LT.kids, LT.cap, Option.some.injEq, Value.int.injEq, Value.string.injEq, Value.slice.injEq, Addr.mk.injEq, true_and, and_true] at e0 e1 e2 e3 e4
      obtain ⟨e4, e5, e6⟩ := e4
      subst e0 e1 e2 e3 e4 e6
      congr 1
      refine List.ext_getElem e5 fun i h1 h2 => ?_
      exact ih i h1 (hk' i h2) (hc i h1) (hc' i h2)
theorem nodesL_mem {x : LT} : ∀ {l : List LT}, x ∈ l → x.nodes ≤ LT.nodesL l
  | [], h => by cases h
  | t :: ts, h => by
    rw [LT.nodesL]
    rcases List.mem_cons.1 h with rfl | h
    · omega
    · have := nodesL_mem h; omega
theorem nodesL_suffix {l l' : List LT} (h : l <:+ l') : LT.nodesL l ≤ LT.nodesL l' := by
  obtain ⟨p, rfl⟩ := h
  induction p with
  | nil => exact Nat.le_refl _
  | cons t ts ih => rw [List.cons_append, LT.nodesL]; omega
theorem mem_less {x y : LT} {l : List LT} (h : x ∈ l) (hs : l <:+ y.kids) : x.nodes < y.nodes := by
  have h1 := nodesL_mem (hs.mem h)
  rw [nodes_mk y]
  omega

/-- The lists that the search is in, the innermost first; and the elements that it has entered. -/
inductive Chain (t : LT) : List Seg → List (Addr × LT) → Prop
  | base {s : Seg} (h : s.ts <:+ t.kids) : Chain t [s] []
  | push {s : Seg} {p : Addr} {cap : Nat} {x : LT} {ts : List LT} {rest : List Seg} {E : List (Addr × LT)} (h : Chain t (⟨some p, cap, x :: ts⟩ :: rest) E) (hs : s.ts <:+ x.kids) : Chain t (s :: ⟨some p, cap, x :: ts⟩ :: rest) ((p, x) :: E)
theorem Chain.less {t : LT} {st : List Seg} {E : List (Addr × LT)} (h : Chain t st E) : ∀ s rest, st = s :: rest → ∀ y ∈ s.ts, y.nodes + st.length ≤ t.nodes ∧ ∀ z ∈ E, y.nodes < z.2.nodes := by
  induction h with
  | base h =>
    intro s rest e y hy
    obtain ⟨rfl, rfl⟩ := List.cons.inj e
    have := mem_less hy h
    exact ⟨by simp; omega, fun z hz => by cases hz⟩
  | push h hs ih =>
    intro s rest e y hy
    obtain ⟨rfl, rfl⟩ := List.cons.inj e
    have h1 := mem_less hy hs
    obtain ⟨h2, h3⟩ := ih _ _ rfl _ (List.mem_cons_self ..)
    refine ⟨by simp only [List.length_cons] at *; omega, fun z hz => ?_⟩
    rcases List.mem_cons.1 hz with rfl | hz
    · exact h1
    · exact Nat.lt_trans h1 (h3 z hz)
theorem nodes_pos (t : LT) : 1 ≤ t.nodes := by rw [nodes_mk]; omega
theorem Chain.short {t : LT} {st : List Seg} {E : List (Addr × LT)} (h : Chain t st E) : st.length ≤ t.nodes := by
  cases h with
  | base h => have := nodes_pos t; simpa using this
  | @push s p cap x ts rest E h hs =>
    have h1 := (h.less _ _ rfl x (List.mem_cons_self ..)).1
    have h3 := nodes_pos x
    simp only [List.length_cons] at *
    omega
theorem Chain.mem {t : LT} {st : List Seg} {E : List (Addr × LT)} (h : Chain t st E) : ∀ z ∈ E, ∃ s ∈ st, ∃ ts, s.a = some z.1 ∧ s.ts = z.2 :: ts := by
  induction h with
  | base h => intro z hz; cases hz
  | push h hs ih =>
    intro z hz
    rcases List.mem_cons.1 hz with rfl | hz
    · exact ⟨_, List.mem_cons_of_mem _ (List.mem_cons_self ..), _, rfl, rfl⟩
    · obtain ⟨s, h1, h2⟩ := ih z hz
      exact ⟨s, List.mem_cons_of_mem _ h1, h2⟩
theorem Chain.tail {t : LT} {a b : Option Addr} {cap cap' : Nat} {x : LT} {ts : List LT} {rest : List Seg} {E : List (Addr × LT)} (h : Chain t (⟨a, cap, x :: ts⟩ :: rest) E) : Chain t (⟨b, cap', ts⟩ :: rest) E := by
  cases h with
  | base h => exact .base ((List.suffix_cons x ts).trans h)
  | push h hs => exact .push h ((List.suffix_cons x ts).trans hs)

/-- A list of the search lies in memory that is whole. -/
structure SegO (w : World) (lo hi : Nat) (s : Seg) : Prop where
  at5 : ∀ i (h : i < s.ts.length), ∃ x, s.a = some x ∧ Solid w hi x ∧ At5 w (x.add (i * 5)) s.ts[i]
  own : ∀ i (h : i < s.ts.length), Own w lo hi s.ts[i]
  lc : s.ts.length ≤ s.cap
theorem SegO.kept {w w' : World} {lo hi : Nat} {s : Seg} (h : SegO w lo hi s) (hb : ∀ k, k < hi → w'.heap[k]? = w.heap[k]?) : SegO w' lo hi s := by
  refine ⟨fun i hi => ?_, fun i hi => (h.own i hi).kept (Nat.le_refl _) (Nat.le_refl _) fun b _ hh => hb b hh, h.lc⟩
  obtain ⟨x, hx, hs, h5⟩ := h.at5 i hi
  exact ⟨x, hx, hs.kept hb, h5.same (by rw [add_block]; exact hb _ hs.1)⟩
theorem segO_kids {w : World} {lo hi : Nat} {x : LT} (h : Own w lo hi x) : SegO w lo hi ⟨x.a, x.cap, x.kids⟩ := by
  cases h with
  | mk cs k1 k2 k3 k4 k5 hlo hhi hb hz hc hk =>
    exact ⟨fun i hi => ⟨_, rfl, ⟨hhi, cs, _, hb⟩, by rw [add0]; exact hc i hi⟩, hk, k5.1⟩
theorem segO_tail {w : World} {lo hi : Nat} {p : Addr} {cap : Nat} {x : LT} {ts : List LT} (h : SegO w lo hi ⟨some p, cap, x :: ts⟩) : SegO w lo hi ⟨some ⟨p.block, p.off + 5, none⟩, cap - 1, ts⟩ := by
  have hl := h.lc
  simp only [List.length_cons] at hl
  refine ⟨fun i hi => ?_, fun i hi => h.own (i + 1) (by simpa using hi), by simp only; omega⟩
  have e5 : (⟨p.block, p.off + 5, none⟩ : Addr) = p.add 5 := rfl
  rw [e5]
  obtain ⟨q, hq, hk, h5⟩ := h.at5 (i + 1) (by simpa using hi)
  injection hq with hq
  subst hq
  refine ⟨_, rfl, hk, ?_⟩
  rw [Go.Deep.add_add, show 5 + i * 5 = (i + 1) * 5 by omega]
  exact h5
theorem segO_last {w : World} {lo hi : Nat} {p : Addr} {x : LT} {ts : List LT} (h : SegO w lo hi ⟨some p, 1, x :: ts⟩) : ts = [] ∧ SegO w lo hi ⟨some p, 0, ts⟩ := by
  have hl := h.lc
  simp only [List.length_cons] at hl
  have e : ts = [] := List.eq_nil_of_length_eq_zero (by omega)
  subst e
  exact ⟨rfl, fun i hi => by simp at hi, fun i hi => by simp at hi, by simp⟩
theorem SegO.head {w : World} {lo hi : Nat} {a : Option Addr} {cap : Nat} {x : LT} {ts : List LT} (h : SegO w lo hi ⟨a, cap, x :: ts⟩) : ∃ p, a = some p ∧ Solid w hi p ∧ At5 w p x ∧ Own w lo hi x := by
  obtain ⟨p, hp, hs, h5⟩ := h.at5 0 (by simp)
  refine ⟨p, hp, hs, ?_, h.own 0 (by simp)⟩
  have e : p.add (0 * 5) = p := by unfold Addr.add; simp
  rw [e] at h5
  exact h5

/-- How far the search is from its end. -/
def topW (f : Addr → Int) : Seg → Nat
  | ⟨some p, _, x :: ts⟩ => (if f p = 2 then 1 else 4 * x.nodes) + 4 * LT.nodesL ts
  | ⟨_, _, ts⟩ => 4 * LT.nodesL ts
def lowW : List Seg → Nat
  | [] => 0
  | s :: rest => 2 + 4 * LT.nodesL s.ts.tail + lowW rest
def farW (f : Addr → Int) : List Seg → Nat
  | [] => 0
  | s :: rest => topW f s + lowW rest
theorem topW_le (f : Addr → Int) (s : Seg) : topW f s ≤ 4 * LT.nodesL s.ts := by
  obtain ⟨a, cap, ts⟩ := s
  cases a with
  | none => exact Nat.le_refl _
  | some p =>
    cases ts with
    | nil => exact Nat.le_refl _
    | cons x ts =>
      have := nodes_pos x
      simp only [topW, LT.nodesL]
      split <;> omega
theorem far_left {f : Addr → Int} {p : Addr} {cap : Nat} {x : LT} {ts : List LT} {rest : List Seg} {b : Option Addr} {cap' : Nat} (h : f p = 2) : farW f (⟨b, cap', ts⟩ :: rest) < farW f (⟨some p, cap, x :: ts⟩ :: rest) := by
  have h1 := topW_le f ⟨b, cap', ts⟩
  simp only [farW] at *
  have h2 : topW f ⟨some p, cap, x :: ts⟩ = 1 + 4 * LT.nodesL ts := by simp [topW, h]
  omega
theorem far_push {f f' : Addr → Int} {p : Addr} {cap : Nat} {x : LT} {ts : List LT} {rest : List Seg} (h : f p ≠ 2) : farW f' (⟨x.a, x.cap, x.kids⟩ :: ⟨some p, cap, x :: ts⟩ :: rest) < farW f (⟨some p, cap, x :: ts⟩ :: rest) := by
  have h1 := topW_le f' ⟨x.a, x.cap, x.kids⟩
  have h2 : topW f ⟨some p, cap, x :: ts⟩ = 4 * x.nodes + 4 * LT.nodesL ts := by simp [topW, h]
  have h3 := nodes_mk x
  simp only [farW, lowW, List.tail_cons] at *
  omega
theorem far_pop {f : Addr → Int} {a : Option Addr} {p : Addr} {cap cap' : Nat} {x : LT} {ts : List LT} {rest : List Seg} : farW (upd f p 2) (⟨some p, cap', x :: ts⟩ :: rest) < farW f (⟨a, cap, []⟩ :: ⟨some p, cap', x :: ts⟩ :: rest) := by
  have h2 : topW (upd f p 2) ⟨some p, cap', x :: ts⟩ = 1 + 4 * LT.nodesL ts := by simp [topW, upd]
  simp only [farW, lowW, List.tail_cons]
  omega

/-- What holds between two rounds of the search. -/
structure EndRel (w0 wr : World) (lo r g0 : Nat) (t : LT) (v : Value) (f : Addr → Int) (E : List (Addr × LT)) (st : List Seg) : Prop where
  own : OwnL wr g0 22 Seg.enc v st.reverse
  map : MapIs wr w0.heap.size r f
  seg : ∀ s ∈ st, SegO wr lo w0.heap.size s
  ch : Chain t st E
  few : ∀ a, f a = 0 ∨ f a = 1 ∨ f a = 2
  ent : ∀ a, f a = 1 → ∃ x, (a, x) ∈ E
  size : g0 ≤ wr.heap.size
  low : Below w0.heap.size w0 wr
def EndAt (w0 wr : World) (lo r g0 : Nat) (t : LT) (v : Value) (k : Nat) : Prop := ∃ f E st, EndRel w0 wr lo r g0 t v f E st ∧ k = farW f st
theorem EndAt.least {w0 wr : World} {lo r g0 : Nat} {t : LT} {v : Value} (h : ∃ k, EndAt w0 wr lo r g0 t v k) : ∃ f E st, EndRel w0 wr lo r g0 t v f E st ∧ leastOf (EndAt w0 wr lo r g0 t v) = farW f st := (leastOf_spec h).1
theorem EndAt.less {w0 wr' : World} {lo r g0 : Nat} {t : LT} {v' : Value} {f : Addr → Int} {E : List (Addr × LT)} {st : List Seg} {k : Nat} (h : EndRel w0 wr' lo r g0 t v' f E st) (hk : farW f st < k) : leastOf (EndAt w0 wr' lo r g0 t v') < k :=
  Nat.lt_of_le_of_lt ((leastOf_spec ⟨_, f, E, st, h, rfl⟩).2 _ ⟨f, E, st, h, rfl⟩) hk
/-- The first element of the innermost list is not one that the search has entered. -/
theorem EndRel.fresh {w0 wr : World} {lo r g0 : Nat} {t : LT} {v : Value} {f : Addr → Int} {E : List (Addr × LT)} {p : Addr} {cap : Nat} {x : LT} {ts : List LT} {rest : List Seg} (R : EndRel w0 wr lo r g0 t v f E (⟨some p, cap, x :: ts⟩ :: rest)) : f p ≠ 1 := by
  intro h1
  obtain ⟨y, hy⟩ := R.ent p h1
  obtain ⟨s, hs, ts', ha, hts⟩ := R.ch.mem _ hy
  have hS := R.seg s hs
  obtain ⟨sa, scap, sts⟩ := s
  simp only at ha hts
  subst ha hts
  obtain ⟨q, hq, _, ay, oy⟩ := hS.head
  obtain ⟨q', hq', _, ax, ox⟩ := (R.seg _ (List.mem_cons_self ..)).head
  injection hq with hq
  injection hq' with hq'
  subst hq hq'
  have e := uniq ox oy ax ay
  have hl := (R.ch.less _ _ rfl x (List.mem_cons_self ..)).2 _ hy
  simp only at hl
  rw [e] at hl
  exact Nat.lt_irrefl _ hl
theorem own_at_block {α : Type} {w w' : World} {base : Nat} {e : TypeId} {enc : α → Value} {v : Value} {l : List α} (h : OwnL w base e enc v l) (hb : ∀ k, base ≤ k → k < w.heap.size → w'.heap[k]? = w.heap[k]?) : OwnL w' base e enc v l := by
  obtain ⟨h1, h2⟩ := h
  refine ⟨h1, ?_⟩
  rcases h2 with h2 | ⟨g, cap, cur, rfl, hb', hg, rest⟩
  · exact .inl h2
  · refine .inr ⟨g, cap, cur, rfl, hb', ?_, rest⟩
    rw [hb g hb' (Array.getElem?_eq_some_iff.1 hg).1]
    exact hg
/-- The first element was left behind: the list goes on. -/
theorem EndRel.left {w0 wr : World} {lo r g0 g c : Nat} {t : LT} {f : Addr → Int} {E : List (Addr × LT)} {p : Addr} {cap : Nat} {x : LT} {ts : List LT} {rest : List Seg} (hr : w0.heap.size ≤ r) (hrg : r < g0)
    (R : EndRel w0 wr lo r g0 t (.slice (some ⟨g, 0, none⟩) (rest.length + 1) c) f E (⟨some p, cap, x :: ts⟩ :: rest)) (b : Option Addr) (cap' : Nat) (hs : SegO wr lo w0.heap.size ⟨b, cap', ts⟩) :
    EndRel w0 (wr.setCell ⟨g, rest.length, none⟩ (.slice b ts.length cap')) lo r g0 t (.slice (some ⟨g, 0, none⟩) (rest.length + 1) c) f E (⟨b, cap', ts⟩ :: rest) := by
  have hg : g0 ≤ g := R.own.base_le g rfl
  have hb : ∀ k, k < w0.heap.size → (wr.setCell ⟨g, rest.length, none⟩ (.slice b ts.length cap')).heap[k]? = wr.heap[k]? := fun k hk => blk_other _ (by omega)
  refine ⟨?_, R.map.kept (blk_other _ (by omega)) hb, ?_, R.ch.tail, R.few, R.ent, by rw [set_size]; exact R.size, R.low.setCell (p := ⟨g, rest.length, none⟩) (by show w0.heap.size ≤ g; omega) _⟩
  · have h0 := R.own
    have hl : (⟨some p, cap, x :: ts⟩ :: rest : List Seg).reverse.length = rest.length + 1 := by simp
    have h1 := (own_set (l := (⟨some p, cap, x :: ts⟩ :: rest : List Seg).reverse) (by rw [hl]; exact h0) rest.length ⟨b, cap', ts⟩).1
    rw [hl] at h1
    have e : ((⟨some p, cap, x :: ts⟩ :: rest : List Seg).reverse).set rest.length ⟨b, cap', ts⟩ = (⟨b, cap', ts⟩ :: rest : List Seg).reverse := by
      rw [List.reverse_cons, List.reverse_cons, List.set_append_right _ _ (by simp)]
      simp
    rw [e] at h1
    exact h1
  · intro s hs'
    rcases List.mem_cons.1 hs' with rfl | h
    · exact hs.kept hb
    · exact (R.seg s (List.mem_cons_of_mem _ h)).kept hb
/-- The first element is entered: its own list is pushed. -/
theorem EndRel.push {w0 wr wm w3 : World} {lo r g0 g c : Nat} {t : LT} {f : Addr → Int} {E : List (Addr × LT)} {p : Addr} {cap : Nat} {x : LT} {ts : List LT} {rest : List Seg} {v' : Value} {o : Obj} (hr : w0.heap.size ≤ r) (hrg : r < g0)
    (R : EndRel w0 wr lo r g0 t (.slice (some ⟨g, 0, none⟩) (rest.length + 1) c) f E (⟨some p, cap, x :: ts⟩ :: rest)) (hM : MapIs wm w0.heap.size r (upd f p 1)) (hgm : wr.grownBy wm (some r)) (hsz : wm.heap.size = wr.heap.size)
    (ho : w3.ownsRow g0 22 1 v' ((⟨some p, cap, x :: ts⟩ :: rest : List Seg).reverse.length + 1) ((⟨some p, cap, x :: ts⟩ :: rest : List Seg).reverse.map Seg.enc ++ [Seg.enc ⟨x.a, x.cap, x.kids⟩]))
    (hg : (wm.alloc o).grownBy w3 (Value.slice (some ⟨g, 0, none⟩) (rest.length + 1) c).ownBlock) :
    EndRel w0 w3 lo r g0 t v' (upd f p 1) ((p, x) :: E) (⟨x.a, x.cap, x.kids⟩ :: ⟨some p, cap, x :: ts⟩ :: rest) := by
  have hgb : g0 ≤ g := R.own.base_le g rfl
  have hwz := R.size
  have hk3 : ∀ k, k < g0 → w3.heap[k]? = wm.heap[k]? := fun k hk => by
    rw [hg.block _ (by simp; omega) (by simp [Value.ownBlock]; omega), Below.heap_alloc _ _ _ (by omega)]
  have hkm : ∀ k, k < g0 → k ≠ r → wm.heap[k]? = wr.heap[k]? := fun k hk hne => hgm.block k (by omega) (by simpa using hne)
  have hb : ∀ k, k < w0.heap.size → w3.heap[k]? = wr.heap[k]? := fun k hk => (hk3 k (by omega)).trans (hkm k (by omega) (by omega))
  obtain ⟨q, hq, hqs, _, ox⟩ := (R.seg _ (List.mem_cons_self ..)).head
  have hs3 := hg.size
  refine ⟨?_, hM.kept (hk3 r hrg) (fun k hk => hk3 k (by omega)), ?_, .push R.ch (List.suffix_refl _), ?_, ?_, by simp at hs3; omega, ?_⟩
  · unfold OwnL
    rw [List.reverse_cons, List.length_append, List.map_append]
    exact ho
  · intro s hs
    rcases List.mem_cons.1 hs with rfl | h
    · exact (segO_kids ox).kept hb
    · exact (R.seg s h).kept hb
  · intro a
    unfold upd
    split
    · exact .inr (.inl rfl)
    · exact R.few a
  · intro a ha
    unfold upd at ha
    split at ha
    · rename_i e
      subst e
      exact ⟨x, List.mem_cons_self ..⟩
    · obtain ⟨y, hy⟩ := R.ent a ha
      exact ⟨y, List.mem_cons_of_mem _ hy⟩
  · refine R.low.trans ⟨?_, ?_, ?_, by simp at hs3; omega, hb⟩
    · exact hg.os.trans hgm.os
    · exact hg.tape.trans hgm.tape
    · exact hg.output.trans hgm.output
/-- A list has come to its end: the element above it is left behind. -/
theorem EndRel.pop {w0 wr wm : World} {lo r g0 g c m : Nat} {t : LT} {f : Addr → Int} {E : List (Addr × LT)} {a : Option Addr} {p : Addr} {cap cap' : Nat} {x : LT} {ts : List LT} {rest : List Seg} (hr : w0.heap.size ≤ r) (hrg : r < g0)
    (R : EndRel w0 wr lo r g0 t (.slice (some ⟨g, 0, none⟩) m c) f E (⟨a, cap, []⟩ :: ⟨some p, cap', x :: ts⟩ :: rest)) (hM : MapIs wm w0.heap.size r (upd f p 2)) (hgm : wr.grownBy wm (some r)) :
    ∃ E', EndRel w0 wm lo r g0 t (.slice (some ⟨g, 0, none⟩) (rest.length + 1) c) (upd f p 2) E' (⟨some p, cap', x :: ts⟩ :: rest) := by
  have hwz := R.size
  have hkm : ∀ k, k < wr.heap.size → k ≠ r → wm.heap[k]? = wr.heap[k]? := fun k hk hne => hgm.block k hk (by simpa using hne)
  have hb : ∀ k, k < w0.heap.size → wm.heap[k]? = wr.heap[k]? := fun k hk => hkm k (by omega) (by omega)
  have hc := R.ch
  cases hc with
  | push hc' hs =>
    rename_i E'
    refine ⟨E', ?_, hM, fun s hs => (R.seg s (List.mem_cons_of_mem _ hs)).kept hb, hc', ?_, ?_, Nat.le_trans hwz hgm.size, R.low.trans ⟨hgm.os, hgm.tape, hgm.output, hgm.size, hb⟩⟩
    · have h1 := own_take (rest.length + 1) (by simp) R.own
      rw [List.reverse_cons, List.take_left' (by simp)] at h1
      exact own_at_block h1 fun k hk hk' => hkm k hk' (by omega)
    · intro a
      unfold upd
      split
      · exact .inr (.inr rfl)
      · exact R.few a
    · intro b hb'
      unfold upd at hb'
      split at hb'
      · exact absurd hb' (by decide)
      · rename_i hne
        obtain ⟨y, hy⟩ := R.ent b hb'
        rcases List.mem_cons.1 hy with e | hy
        · exact absurd (Prod.mk.inj e).1 hne
        · exact ⟨y, hy⟩

end Go.Proofs.YtkjffifdlckljaaDoor.val
/-
  impl.endless answers false at a value whose lists lie in whole blocks that the call has made: no list holds itself.
-/
namespace Go.Proofs.YtkjffifdlckljaaDoor.val
open Go.ChangeShapes Go.WideShapes Go.ChangeAt Go.RowKit
set_option maxRecDepth 100000

theorem info29 : (Tryd.prog.info? 24).map (fun i => i.size) = some 5 := by kernel_rfl
theorem zero3 (w : World) : (zeroValue 3).run Tryd.prog w = .ok (.int .i64 0) w := by simp [zeroValue, go_sem, Tryd.t3]

theorem pop_facts (m n c : Nat) (hm : m = n + 1) (hb : m ≤ 2000000) (hc : m + 1 ≤ c) : ((m : Int) == 0) = false ∧ (m : Int) ≤ (c : Int) ∧ (n : Int) < (m : Int) ∧ wrap64 ((m : Int) - 1) = (n : Int) := by
  subst hm
  refine ⟨?_, by omega, by omega, ?_⟩
  · simp only [beq_eq_false_iff_ne, ne_eq]; omega
  · unfold wrap64; omega

end Go.Proofs.YtkjffifdlckljaaDoor.val
