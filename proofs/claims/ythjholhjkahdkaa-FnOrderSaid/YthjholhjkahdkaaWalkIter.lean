/-
  The iterator that impl.walk hands out: it yields every node of a value, each ahead of its kids, with its level; for loop bodies that keep all but what lies between two marks of the heap.
-/
import Derived.RangeFuncNested
import Derived.RangeFuncBound
import Derived.RangeFuncCalls
import Derived.RangeFuncLeaves
import Derived.Shelf.Abstract
import Derived.Shelf.RegionOpen
import Derived.WalkKit
import Derived.OwnWalkIn
import Derived.TacticsInMore
import Derived.LoopNIn
import Derived.LoopIn
import Derived.Deep.LoopGhost
import Derived.Maps.AppendAt
import Derived.Test.YthjholhjkahdkaaValBox
namespace Go.Proofs.Ythjholhjkahdkaa.val
open Go.ChangeShapes Go.WideShapes Go.ChangeAt Go.RowKit
set_option maxRecDepth 100000
attribute [local go_sem] Oper.semAt_some

/-! The order in which the nodes come. -/
mutual
def LT.pre : Nat → LT → List (Nat × LT)
  | d, .mk k n e s a cap kids => (d, .mk k n e s a cap kids) :: preL (d + 1) kids
def preL : Nat → List LT → List (Nat × LT)
  | _, [] => []
  | d, t :: ts => LT.pre d t ++ preL d ts
end
theorem pre_mk (d : Nat) (t : LT) : t.pre d = (d, t) :: preL (d + 1) t.kids := by cases t; rw [LT.pre]; rfl
mutual
theorem pre_len : ∀ (d : Nat) (t : LT), (t.pre d).length = t.nodes
  | d, .mk k n e s a cap kids => by rw [LT.pre, List.length_cons, preL_len (d + 1) kids, LT.nodes]; omega
theorem preL_len : ∀ (d : Nat) (l : List LT), (preL d l).length = LT.nodesL l
  | d, [] => by rw [preL, LT.nodesL]; rfl
  | d, t :: ts => by rw [preL, LT.nodesL, List.length_append, pre_len d t, preL_len d ts]
end
/-- What is left of one list that the walk is in. -/
structure Seg where
  a : Option Addr
  cap : Nat
  ts : List LT
def Seg.enc (s : Seg) : Value := .slice s.a s.ts.length s.cap
theorem oneSeg (s : Seg) : s.enc.oneCell' = true := rfl
/-- What is still to come, the innermost list first. -/
def rem : List Seg → List (Nat × LT)
  | [] => []
  | s :: rest => preL rest.length s.ts ++ rem rest
/-- The list lies in w, in blocks below n₀ or in block g. -/
structure SegIn (w : World) (n₀ g : Nat) (s : Seg) : Prop where
  at5 : ∀ i (h : i < s.ts.length), ∃ x, s.a = some x ∧ (x.block < n₀ ∨ x.block = g) ∧ At5 w (x.add (i * 5)) s.ts[i]
  isIn : ∀ i (h : i < s.ts.length), In w n₀ s.ts[i]
  lc : s.ts.length ≤ s.cap
/-- Outside of n₀ .. B all is kept. -/
structure Mid (n₀ B : Nat) (w w' : World) : Prop where
  os : w'.os = w.os
  tape : w'.tape = w.tape
  output : w'.output = w.output
  size : w.heap.size ≤ w'.heap.size
  block : ∀ k, k < w.heap.size → (k < n₀ ∨ B ≤ k) → w'.heap[k]? = w.heap[k]?
theorem Mid.below {n₀ B : Nat} {w w' : World} (h : Mid n₀ B w w') (hn : n₀ ≤ w.heap.size) : Below n₀ w w' := ⟨h.os, h.tape, h.output, h.size, fun k hk => h.block k (by omega) (.inl hk)⟩
theorem At5.same {w w' : World} {p : Addr} {t : LT} (h : At5 w p t) (hb : w'.heap[p.block]? = w.heap[p.block]?) : At5 w' p t :=
  ⟨(World.cell?_of_block hb).trans h.c0, (World.cell?_of_block (a := ⟨p.block, p.off + 1, none⟩) hb).trans h.c1, (World.cell?_of_block (a := ⟨p.block, p.off + 2, none⟩) hb).trans h.c2, (World.cell?_of_block (a := ⟨p.block, p.off + 3, none⟩) hb).trans h.c3, (World.cell?_of_block (a := ⟨p.block, p.off + 4, none⟩) hb).trans h.c4⟩
theorem In.behind {w w' : World} {B : Nat} {t : LT} (h : In w B t) (hb : Below B w w') : In w' B t := by
  induction h with
  | mk k1 k2 k3 k4 k5 hc _ ih => exact .mk k1 k2 k3 k4 k5 (fun i hi => by obtain ⟨x, h1, h2, h3⟩ := hc i hi; exact ⟨x, h1, h2, h3.below (by rw [add_block]; exact h2) hb⟩) ih
theorem SegIn.kept {w w' : World} {n₀ g : Nat} {s : Seg} (h : SegIn w n₀ g s) (hb : Below n₀ w w') (hg : w'.heap[g]? = w.heap[g]?) : SegIn w' n₀ g s := by
  refine ⟨fun i hi => ?_, fun i hi => ?_, h.lc⟩
  · obtain ⟨x, hx, hk, h5⟩ := h.at5 i hi
    refine ⟨x, hx, hk, ?_⟩
    have hk' : w'.heap[x.block]? = w.heap[x.block]? := by
      rcases hk with hk | hk
      · exact hb.block _ hk
      · rw [hk]; exact hg
    exact h5.same (by rw [add_block]; exact hk')
  · exact (h.isIn i hi).behind hb
theorem infoL : (Try.prog.info? 24).map (fun i => (i.zero, i.size, i.bytes)) = some (some (.slice none 0 0), 1, 24) := by kernel_rfl

/-- What holds between two steps of the iterator: the stack, the innermost list first. -/
structure WalkRel (W wr : World) (n₀ : Nat) (t : LT) (J : List (Nat × LT) → World → Prop) (v : Value) (done : List (Nat × LT)) (st : List Seg) : Prop where
  own : OwnL wr (W.heap.size + 1) 24 Seg.enc v st.reverse
  seg : ∀ s ∈ st, SegIn wr n₀ W.heap.size s
  eq : t.pre 0 = done ++ rem st
  len : st.length ≤ done.length + 1
  size : W.heap.size + 2 ≤ wr.heap.size
  inv : J done wr
def WalkAt (W wr : World) (n₀ : Nat) (t : LT) (J : List (Nat × LT) → World → Prop) (v : Value) (k : Nat) : Prop := ∃ done st, WalkRel W wr n₀ t J v done st ∧ k = 2 * (rem st).length + st.length

theorem WalkAt.least {W wr : World} {n₀ : Nat} {t : LT} {J : List (Nat × LT) → World → Prop} {v : Value} (h : ∃ k, WalkAt W wr n₀ t J v k) : ∃ done st, WalkRel W wr n₀ t J v done st ∧ leastOf (WalkAt W wr n₀ t J v) = 2 * (rem st).length + st.length := (leastOf_spec h).1
theorem WalkAt.less {W wr' : World} {n₀ : Nat} {t : LT} {J : List (Nat × LT) → World → Prop} {v' : Value} {done : List (Nat × LT)} {st : List Seg} {k : Nat} (h : WalkRel W wr' n₀ t J v' done st) (hk : 2 * (rem st).length + st.length < k) : leastOf (WalkAt W wr' n₀ t J v') < k :=
  Nat.lt_of_le_of_lt ((leastOf_spec ⟨_, done, st, h, rfl⟩).2 _ ⟨done, st, h, rfl⟩) hk

theorem own_take {α : Type} {w : World} {base : Nat} {e : TypeId} {enc : α → Value} {a : Option Addr} {n' cap' : Nat} {l : List α} (n : Nat) (hn : n ≤ l.length) (h : OwnL w base e enc (.slice a n' cap') l) : OwnL w base e enc (.slice a n cap') (l.take n) := by
  obtain ⟨_, h2⟩ := h
  refine ⟨by simp, ?_⟩
  rcases h2 with ⟨h0, hz⟩ | ⟨g, cap, cur, h0, hb, hg, hc, hm, hs, ht⟩
  · injection h0 with h1 h2 h3
    have : n = 0 := by omega
    subst this; subst h1; subst h3
    exact .inl ⟨rfl, by simp⟩
  · injection h0 with h1 h2 h3
    subst h1; subst h3
    have hl : (l.take n).length = n := by rw [List.length_take]; omega
    refine .inr ⟨g, _, cur, by rw [hl], hb, hg, by omega, hm, hs, ?_⟩
    rw [hl, List.map_take, ← ht, List.take_take]
    congr 1
    omega
theorem own_set {α : Type} {w : World} {base g cap : Nat} {e : TypeId} {enc : α → Value} {l : List α} (h : OwnL w base e enc (.slice (some ⟨g, 0, none⟩) l.length cap) l) (j : Nat) (x : α) :
    OwnL (w.setCell ⟨g, j, none⟩ (enc x)) base e enc (.slice (some ⟨g, 0, none⟩) l.length cap) (l.set j x) ∧ w.grownBy (w.setCell ⟨g, j, none⟩ (enc x)) (some g) := by
  obtain ⟨h1, h2⟩ := World.ownsRow.stored h j (enc x)
  refine ⟨?_, h2⟩
  unfold OwnL
  rw [List.length_set, List.map_set]
  exact h1
theorem own_mid {α : Type} {w w' : World} {n₀ B base : Nat} {e : TypeId} {enc : α → Value} {v : Value} {l : List α} (h : OwnL w base e enc v l) (hm : Mid n₀ B w w') (hB : B ≤ base) : OwnL w' base e enc v l := by
  obtain ⟨h1, h2⟩ := h
  refine ⟨h1, ?_⟩
  rcases h2 with h2 | ⟨g, cap, cur, rfl, hb, hg, rest⟩
  · exact .inl h2
  · refine .inr ⟨g, cap, cur, rfl, hb, ?_, rest⟩
    rw [hm.block g (Array.getElem?_eq_some_iff.1 hg).1 (.inr (by omega))]
    exact hg
theorem wrap_small (n : Nat) (h : n ≤ 2000000) : wrap64 (n : Int) = (n : Int) := by unfold wrap64; omega
theorem rem_cons (s : Seg) (rest : List Seg) : rem (s :: rest) = preL rest.length s.ts ++ rem rest := rfl
theorem rem_empty {a : Option Addr} {cap : Nat} (rest : List Seg) : rem (⟨a, cap, []⟩ :: rest) = rem rest := by rw [rem_cons, preL]; rfl
theorem rem_step {a b : Option Addr} {cap cap' : Nat} (x : LT) (ts : List LT) (rest : List Seg) : rem (⟨a, cap, x :: ts⟩ :: rest) = (rest.length, x) :: rem (⟨x.a, x.cap, x.kids⟩ :: ⟨b, cap', ts⟩ :: rest) := by
  rw [rem_cons, rem_cons, rem_cons, preL, pre_mk]
  simp
theorem WalkRel.pop {W wr : World} {n₀ : Nat} {t : LT} {J : List (Nat × LT) → World → Prop} {g c : Nat} {done : List (Nat × LT)} {a : Option Addr} {cap : Nat} {rest : List Seg} {m : Nat} (h : WalkRel W wr n₀ t J (.slice (some ⟨g, 0, none⟩) m c) done (⟨a, cap, []⟩ :: rest)) :
    WalkRel W wr n₀ t J (.slice (some ⟨g, 0, none⟩) rest.length c) done rest := by
  refine ⟨?_, fun s hs => h.seg s (by simp [hs]), by rw [h.eq, rem_empty], by have := h.len; simp at this; omega, h.size, h.inv⟩
  have := own_take rest.length (by simp) h.own
  rw [List.reverse_cons, List.take_left' (by simp)] at this
  exact this
theorem seg_tail {w : World} {n₀ g : Nat} {p : Addr} {cap : Nat} {x : LT} {ts : List LT} (h : SegIn w n₀ g ⟨some p, cap, x :: ts⟩) : SegIn w n₀ g ⟨some ⟨p.block, p.off + 5, none⟩, cap - 1, ts⟩ := by
  have hl := h.lc
  simp only [List.length_cons] at hl
  refine ⟨fun i hi => ?_, fun i hi => h.isIn (i + 1) (by simpa using hi), by simp only; omega⟩
  have e5 : (⟨p.block, p.off + 5, none⟩ : Addr) = p.add 5 := rfl
  rw [e5]
  obtain ⟨q, hq, hk, h5⟩ := h.at5 (i + 1) (by simpa using hi)
  injection hq with hq
  subst hq
  refine ⟨_, rfl, by rw [add_block]; exact hk, ?_⟩
  rw [Go.Deep.add_add, show 5 + i * 5 = (i + 1) * 5 by omega]
  exact h5
theorem seg_kids {w : World} {n₀ g : Nat} {x : LT} (h : In w n₀ x) : SegIn w n₀ g ⟨x.a, x.cap, x.kids⟩ := by
  cases h with
  | mk k1 k2 k3 k4 k5 hc hk =>
    exact ⟨fun i hi => by obtain ⟨p, h1, h2, h3⟩ := hc i hi; exact ⟨p, h1, .inl h2, h3⟩, hk, k5.1⟩

theorem seg_last {w : World} {n₀ g : Nat} {p : Addr} {x : LT} {ts : List LT} (h : SegIn w n₀ g ⟨some p, 1, x :: ts⟩) : ts = [] ∧ SegIn w n₀ g ⟨some p, 0, ts⟩ := by
  have hl := h.lc
  simp only [List.length_cons] at hl
  have e : ts = [] := List.eq_nil_of_length_eq_zero (by omega)
  subst e
  exact ⟨rfl, fun i hi => by simp at hi, fun i hi => by simp at hi, by simp⟩
/-- Ahead of a round: the list is cut by its first element; the element lies in a box. -/
structure Ahead (W wr w1 : World) (n₀ g c : Nat) (rest : List Seg) (nseg : Seg) (x : LT) : Prop where
  below : Below W.heap.size wr w1
  own : OwnL w1 (W.heap.size + 1) 24 Seg.enc (.slice (some ⟨g, 0, none⟩) (rest.length + 1) c) (nseg :: rest).reverse
  seg : ∀ s ∈ nseg :: rest, SegIn w1 n₀ W.heap.size s
  box : Box w1 wr.heap.size x
  isIn : In w1 n₀ x
theorem WalkRel.ahead {W wr : World} {n₀ : Nat} {t : LT} {J : List (Nat × LT) → World → Prop} {g c : Nat} {done : List (Nat × LT)} {p : Addr} {cap : Nat} {x : LT} {ts : List LT} {rest : List Seg} (hn : n₀ ≤ W.heap.size)
    (R : WalkRel W wr n₀ t J (.slice (some ⟨g, 0, none⟩) (rest.length + 1) c) done (⟨some p, cap, x :: ts⟩ :: rest)) (nseg : Seg) (hs : SegIn wr n₀ W.heap.size nseg) :
    Ahead W wr ((wr.setCell ⟨g, rest.length, none⟩ nseg.enc).alloc (.cells #[.int .i64 x.k, .int .i64 x.n, .int .i64 x.e, .string x.s, .slice x.a x.kids.length x.cap] 26)) n₀ g c rest nseg x := by
  have hg : W.heap.size + 1 ≤ g := R.own.base_le g rfl
  have hz := R.size
  have hb : Below W.heap.size wr ((wr.setCell ⟨g, rest.length, none⟩ nseg.enc).alloc (.cells #[.int .i64 x.k, .int .i64 x.n, .int .i64 x.e, .string x.s, .slice x.a x.kids.length x.cap] 26)) :=
    ((Below.refl _ _).setCell (p := ⟨g, rest.length, none⟩) (by show W.heap.size ≤ g; omega) _).alloc (by rw [set_size]; omega) _
  have hW : ((wr.setCell ⟨g, rest.length, none⟩ nseg.enc).alloc (.cells #[.int .i64 x.k, .int .i64 x.n, .int .i64 x.e, .string x.s, .slice x.a x.kids.length x.cap] 26)).heap[W.heap.size]? = wr.heap[W.heap.size]? := by
    rw [Below.heap_alloc _ _ _ (by rw [set_size]; omega), blk_other _ (by omega)]
  refine ⟨hb, ?_, ?_, ?_, ?_⟩
  · have h0 := R.own
    have hl : (⟨some p, cap, x :: ts⟩ :: rest : List Seg).reverse.length = rest.length + 1 := by simp
    have h1 := (own_set (l := (⟨some p, cap, x :: ts⟩ :: rest : List Seg).reverse) (by rw [hl]; exact h0) rest.length nseg).1
    rw [hl] at h1
    have e : ((⟨some p, cap, x :: ts⟩ :: rest : List Seg).reverse).set rest.length nseg = (nseg :: rest).reverse := by
      rw [List.reverse_cons, List.reverse_cons, List.set_append_right _ _ (by simp)]
      simp
    rw [e] at h1
    exact h1.alloc _
  · intro s hs'
    rcases List.mem_cons.1 hs' with rfl | h
    · exact hs.kept (hb.mono hn) hW
    · exact (R.seg s (List.mem_cons_of_mem _ h)).kept (hb.mono hn) hW
  · have := Box.new (wr.setCell ⟨g, rest.length, none⟩ nseg.enc) x 26
    rw [set_size] at this
    exact this
  · exact ((R.seg _ (List.mem_cons_self ..)).isIn 0 (by simp)).behind (hb.mono hn)
/-- Behind a round that goes on: the element's own list is pushed. -/
theorem Ahead.push {W wr w1 W2 w3 : World} {n₀ : Nat} {t : LT} {J : List (Nat × LT) → World → Prop} {g c : Nat} {done : List (Nat × LT)} {p : Addr} {cap : Nat} {x : LT} {ts : List LT} {rest : List Seg} {nseg : Seg} {v v' : Value} (hn : n₀ ≤ W.heap.size)
    (R : WalkRel W wr n₀ t J v done (⟨some p, cap, x :: ts⟩ :: rest)) (hts : nseg.ts = ts) (A : Ahead W wr w1 n₀ g c rest nseg x) (hm : Mid n₀ W.heap.size w1 W2) (hJ : J (done ++ [(rest.length, x)]) w3)
    (hb3 : Below W.heap.size W2 w3) (hW3 : w3.heap[W.heap.size]? = W2.heap[W.heap.size]?) (ho : OwnL w3 (W.heap.size + 1) 24 Seg.enc v' ((nseg :: rest).reverse ++ [⟨x.a, x.cap, x.kids⟩])) :
    WalkRel W w3 n₀ t J v' (done ++ [(rest.length, x)]) (⟨x.a, x.cap, x.kids⟩ :: nseg :: rest) := by
  have hz := A.below.size
  have hwz := R.size
  have hm2 := hm.below (by omega)
  have hW2 : W2.heap[W.heap.size]? = w1.heap[W.heap.size]? := hm.block _ (by omega) (.inr (Nat.le_refl _))
  refine ⟨by rw [List.reverse_cons]; exact ho, ?_, ?_, ?_, ?_, hJ⟩
  · intro s hs
    rcases List.mem_cons.1 hs with rfl | h
    · exact (seg_kids (g := W.heap.size) ((A.isIn.behind hm2).behind (hb3.mono hn)))
    · exact ((A.seg s h).kept hm2 hW2).kept (hb3.mono hn) hW3
  · obtain ⟨na, nc, nt⟩ := nseg
    simp only at hts
    subst hts
    rw [R.eq, rem_step (b := na) (cap' := nc)]
    simp
  · have := R.len
    simp only [List.length_cons, List.length_append, List.length_nil] at *
    omega
  · have := hm.size
    have := hb3.size
    omega

theorem small_len {n : Nat} (h : n ≤ 2000000) : n + 1 + 1 ≤ maxLen := by unfold maxLen; omega
theorem small_bytes {n : Nat} (h : n ≤ 2000000) : (n + 1 + 1) * 24 ≤ 140737488355328 := by omega
theorem push_less {a b : Option Addr} {cap cap' : Nat} (x : LT) (ts : List LT) (rest : List Seg) : 2 * (rem (⟨x.a, x.cap, x.kids⟩ :: ⟨b, cap', ts⟩ :: rest)).length + (⟨x.a, x.cap, x.kids⟩ :: ⟨b, cap', ts⟩ :: rest : List Seg).length < 2 * (rem (⟨a, cap, x :: ts⟩ :: rest)).length + (⟨a, cap, x :: ts⟩ :: rest : List Seg).length := by
  rw [rem_step (b := b) (cap' := cap')]
  simp only [List.length_cons]
  omega
theorem push_end {W wr w1 W2 w3 : World} {n₀ : Nat} {t : LT} {J : List (Nat × LT) → World → Prop} {g c : Nat} {done : List (Nat × LT)} {p : Addr} {cap : Nat} {x : LT} {ts : List LT} {rest : List Seg} {nseg : Seg} {v v' : Value} {o : Obj} (hn : n₀ ≤ W.heap.size)
    (R : WalkRel W wr n₀ t J v done (⟨some p, cap, x :: ts⟩ :: rest)) (hts : nseg.ts = ts) (A : Ahead W wr w1 n₀ g c rest nseg x) (hm : Mid n₀ W.heap.size w1 W2) (hJ2 : J (done ++ [(rest.length, x)]) W2)
    (hJ : ∀ s A B, J s A → Below W.heap.size A B → J s B) (hz : W.heap.size + 1 ≤ W2.heap.size)
    (ho : w3.ownsRow (W.heap.size + 1) 24 1 v' ((nseg :: rest).reverse.length + 1) ((nseg :: rest).reverse.map Seg.enc ++ [Seg.enc ⟨x.a, x.cap, x.kids⟩]))
    (hg : (W2.alloc o).grownBy w3 (Value.slice (some ⟨g, 0, none⟩) (rest.length + 1) c).ownBlock) (O2 : OwnL W2 (W.heap.size + 1) 24 Seg.enc (.slice (some ⟨g, 0, none⟩) (rest.length + 1) c) (nseg :: rest).reverse) :
    WalkRel W w3 n₀ t J v' (done ++ [(rest.length, x)]) (⟨x.a, x.cap, x.kids⟩ :: nseg :: rest) := by
  have hgb : W.heap.size + 1 ≤ g := O2.base_le g rfl
  have hb3 : Below W.heap.size W2 w3 := ((Below.refl _ W2).alloc (by omega) o).grown hg (by simp; omega) (fun k hk => by simp [Value.ownBlock] at hk; omega)
  have hW3 : w3.heap[W.heap.size]? = W2.heap[W.heap.size]? := by
    rw [hg.block _ (by simp; omega) (by simp [Value.ownBlock]; omega), Below.heap_alloc _ _ _ (by omega)]
  refine A.push hn R hts hm (hJ _ _ _ hJ2 hb3) hb3 hW3 ?_
  unfold OwnL
  rw [List.length_append, List.map_append]
  exact ho

theorem pre_lt {t : LT} {pre : List (Nat × LT)} {x : Nat × LT} (h : pre ++ [x] <+: t.pre 0) : pre.length < t.nodes := by
  have := h.length_le
  rw [pre_len] at this
  simp at this
  omega

set_option maxHeartbeats 2000000 in
theorem walk1 (n : Nat) (l n₀ Bx : Nat) (t : LT) (J Jx : List (Nat × LT) → World → Prop) (W : World) (hz : t.nodes ≤ 2000000) (hn0 : n₀ ≤ W.heap.size) (hIn : In W n₀ t) (hBox : Box W Bx t)
    (hJ : ∀ s A B, J s A → Below W.heap.size A B → J s B)
    (hY : ∀ pre x W1, J pre W1 → pre ++ [x] <+: t.pre 0 → YieldAt Fence.wide (n - 1) Try.prog l #[.int .i64 (x.1 : Nat), .agg #[.int .i64 x.2.k, .int .i64 x.2.n, .int .i64 x.2.e, .string x.2.s, x.2.row]] W1 fun e W' =>
      (e = .returned (.bool true) ∧ J (pre ++ [x]) W' ∧ Mid n₀ W.heap.size W1 W') ∨ (e = .returned (.bool false) ∧ Jx (pre ++ [x]) W'))
    (h0 : J [] W) :
    CallsIn Fence.wide n Try.prog 52 #[.func (.yield l) #[] #[], .pointer (some ⟨Bx, 0, none⟩)] W fun e W' => (∃ v, e = .returned v) ∧ ((∃ xs, xs = t.pre 0 ∧ J xs W') ∨ (∃ p, p <+: t.pre 0 ∧ Jx p W')) := by
  obtain ⟨i0, hi0, hz0, hz1, hz2⟩ := info_parts infoL
  have HJ := Lib.hid hJ
  have HY := Lib.hid hY
  have HIn := Lib.hid hIn
  have hlen := pre_len 0 t
  obtain ⟨q0, q1, q2, q3, q4⟩ := hBox
  clear hJ hY hIn
  refine callsIn_of_wp Try.func52 rfl trivial ?_ rfl
  simp only [Try.ntmps52, List.size_toArray, List.length_cons, List.length_nil, Nat.reduceAdd, Nat.reduceSub, Array.replicate_succ, Array.replicate_zero, List.push_toArray, List.append_toArray, List.nil_append, List.cons_append]
  have hIt := Lib.hid (seg_kids (g := W.heap.size) HIn.out)
  have HS : Hid (WalkRel W ((W.alloc (.cells #[.int .i64 t.k, .int .i64 t.n, .int .i64 t.e, .string t.s, t.row] 26)).alloc (.cells #[.slice (some ⟨W.heap.size, 0, none⟩) 1 1] 24)) n₀ t J (.slice (some ⟨W.heap.size + 1, 0, none⟩) 1 1) [] [⟨some ⟨W.heap.size, 0, none⟩, 1, [t]⟩]) := by
    have hb : Below W.heap.size W ((W.alloc (.cells #[.int .i64 t.k, .int .i64 t.n, .int .i64 t.e, .string t.s, t.row] 26)).alloc (.cells #[.slice (some ⟨W.heap.size, 0, none⟩) 1 1] 24)) := ((Below.refl _ _).alloc (Nat.le_refl _) _).alloc (by simp) _
    have hx := (Box.new W t 26).of_block (w' := (W.alloc (.cells #[.int .i64 t.k, .int .i64 t.n, .int .i64 t.e, .string t.s, t.row] 26)).alloc (.cells #[.slice (some ⟨W.heap.size, 0, none⟩) 1 1] 24)) (Below.heap_alloc _ _ _ (by simp))
    refine ⟨?_, ?_, by simp [rem, preL], by simp, by simp, HJ.out _ _ _ h0 hb⟩
    · have hn := heap_alloc_new (W.alloc (.cells #[.int .i64 t.k, .int .i64 t.n, .int .i64 t.e, .string t.s, t.row] 26)) (.cells #[.slice (some ⟨W.heap.size, 0, none⟩) 1 1] 24)
      simp only [World.size_alloc] at hn
      exact OwnL.of_block (l := [(⟨some ⟨W.heap.size, 0, none⟩, 1, [t]⟩ : Seg)]) (W.heap.size + 1) _ (by omega) hn rfl (by simp [maxLen])
    · intro s hs
      obtain rfl := List.mem_singleton.1 hs
      refine ⟨fun i hi => ?_, fun i hi => ?_, by simp⟩
      · have : i = 0 := by simp at hi; omega
        subst this
        exact ⟨_, rfl, .inr rfl, ⟨hx.b0, hx.b1, hx.b2, hx.b3, hx.b4⟩⟩
      · have : i = 0 := by simp at hi; omega
        subst this
        exact HIn.out.behind (hb.mono hn0)
  clear h0
  gi_wp2
  gi_loopw [3] (fun v wr => ∃ k, WalkAt W wr n₀ t J v k) (fun v wr => leastOf (WalkAt W wr n₀ t J v))
  case atStart => exact ⟨_, _, _, HS.out, rfl⟩
  case round =>
    clear HS q0 q1 q2 q3 q4
    obtain ⟨done, st, R, hlk⟩ := WalkAt.least hrel
    have HL := Lib.hid hlk
    clear hlk hrel
    have hwz := R.size
    cases st with
    | nil =>
      have hfin : done = t.pre 0 := by have := R.eq; simp [rem] at this; exact this.symm
      have HJd := Lib.hid R.inv
      obtain ⟨a, c, hv, _⟩ := R.own.shape
      subst hv
      clear R
      gi_wp2
      go_end0
      exact ⟨⟨_, rfl⟩, .inl ⟨done, hfin, HJd.out⟩⟩
    | cons s rest =>
      have hsl : (s :: rest).reverse.length = rest.length + 1 := by simp
      obtain ⟨a, c, hv, hc1, hc2, hg⟩ := R.own.shape
      obtain ⟨g, rfl, hgl, hgs⟩ := hg (by rw [hsl]; omega)
      rw [hsl] at hv hc1
      subst hv
      have hd := R.len
      have hq := congrArg List.length R.eq
      rw [hlen, List.length_append] at hq
      simp only [List.length_cons] at hd
      have hcell : wr.cell? ⟨g, rest.length, none⟩ = some s.enc := by
        have := R.own.cell rest.length (by rw [hsl]; omega)
        simpa using this
      have hfr : wr.frozen? ⟨g, rest.length, none⟩ = false := World.ownsRow.frozenAt (by have := R.own; unfold OwnL at this; rw [hsl] at this; exact this) _
      have hd0 : (0 : Int) ≤ (rest.length : Int) := by omega
      have hd1 : (rest.length : Int) < ((rest.length + 1 : Nat) : Int) := by omega
      have hrb : rest.length ≤ 2000000 := Nat.le_trans (Nat.le_of_succ_le_succ hd) (Nat.le_trans (by rw [hq]; exact Nat.le_add_right _ _) hz)
      have hwr := wrap_small rest.length hrb
      obtain ⟨sa, scap, ts⟩ := s
      cases ts with
      | nil =>
        have HR := Lib.hid R.pop
        have hm : 2 * (rem rest).length + rest.length < leastOf (WalkAt W wr n₀ t J (.slice (some ⟨g, 0, none⟩) (rest.length + 1) c)) := by rw [HL.out, rem_empty]; simp
        have HM := Lib.hid hm
        unfold Seg.enc at hcell
        simp only [List.length_nil] at hcell
        have hc1' : (rest.length : Int) ≤ (c : Int) := Int.ofNat_le.2 (Nat.le_of_succ_le hc1)
        clear R hm hq hz hn0 hlen hd hgl hgs hwz hc2 hsl hc1 hz2 hz1 hz0 hi0
        gi_wp2
        exact ⟨⟨_, _, _, HR.out, rfl⟩, WalkAt.less HR.out HM.out⟩
      | cons x ts =>
        have hS := R.seg _ (List.mem_cons_self ..)
        obtain ⟨p, hp, hpb, h5⟩ := hS.at5 0 (by simp)
        simp only at hp
        subst hp
        have h5' : At5 wr p x := by
          have e : p.add (0 * 5) = p := by unfold Addr.add; simp
          rw [e] at h5
          exact h5
        obtain ⟨c0, c1, c2, c3, c4⟩ := h5'
        unfold LT.row at c4
        unfold Seg.enc at hcell
        simp only [List.length_cons] at hcell
        by_cases hs1 : scap = 1
        · subst hs1
          have HA := Lib.hid (R.ahead hn0 ⟨some p, 0, ts⟩ (seg_last hS).2)
          have hlt : done ++ [(rest.length, x)] <+: t.pre 0 := ⟨rem (⟨x.a, x.cap, x.kids⟩ :: ⟨none, 0, ts⟩ :: rest), by rw [R.eq, rem_step (b := none) (cap' := 0)]; simp⟩
          obtain ⟨fn, tmps, assign, body, hy, hRd⟩ := HY.out done (rest.length, x) _ (HJ.out _ _ _ R.inv HA.out.below) hlt
          have HRd := Lib.hid hRd
          unfold LT.row Seg.enc at hy
          simp only at hy
          have HRR := Lib.hid R
          have HB1 := Lib.hid (And.intro hz (And.intro hn0 (And.intro hd (And.intro hwz hq))))
          have HI0 := Lib.hid (And.intro hi0 (And.intro hz0 (And.intro hz1 hz2)))
          have hts : (0 : Int) < ((ts.length + 1 : Nat) : Int) := Int.ofNat_lt.2 (Nat.succ_pos _)
          clear R hS h5 hq hz hn0 hlen hd hgl hwz hc2 hsl hc1 hz2 hz1 hz0 hi0 hpb hRd hlt
          gi_wp2
          refine ⟨fun h => (by cases h), HRd.out.mono ?_⟩
          rintro e W2 (⟨rfl, hJ2, hm2⟩ | ⟨rfl, hJx2⟩)
          · have hbx4 : W2.cell? ⟨wr.heap.size, 4, none⟩ = some (.slice x.a x.kids.length x.cap) := (HA.out.box.of_block (hm2.block _ HA.out.box.lt (.inr (Nat.le_trans (Nat.le_add_right _ 2) HB1.out.2.2.2.1)))).b4
            have O2 := Lib.hid (own_mid HA.out.own hm2 (Nat.le_succ _))
            have HM2 := Lib.hid hm2
            have HJ2 := Lib.hid hJ2
            have hz2' : W.heap.size + 1 ≤ W2.heap.size := Nat.le_trans (Nat.le_of_succ_le (Nat.le_trans HB1.out.2.2.2.1 HA.out.below.size)) HM2.out.size
            clear hm2 hJ2 hcell hfr c0 c1 c2 c3 c4 hy HRd
            have hk1 : ((⟨some p, 0, ts⟩ : Seg) :: rest).reverse.length + 1 ≤ maxLen := by rw [List.length_reverse, List.length_cons]; exact small_len hrb
            have hk2 : (((⟨some p, 0, ts⟩ : Seg) :: rest).reverse.length + 1) * 24 ≤ 140737488355328 := by rw [List.length_reverse, List.length_cons]; exact small_bytes hrb
            have hk3 : W.heap.size + 1 ≤ (W2.alloc (.cells #[.slice x.a x.kids.length x.cap] 24)).heap.size := by rw [World.size_alloc]; exact Nat.le_succ_of_le hz2'
            gi_wp2_with (gi_at_builtin; refine wpListIn_append_own _ rfl _ _ 74 rfl (W.heap.size + 1) 24 i0 (.slice none 0 0) 1 24 Try.underlying74 HI0.out.1 HI0.out.2.1 HI0.out.2.2.1 HI0.out.2.2.2 rfl (by decide) _ _ _ rfl (O2.out.alloc _) ⟨W2.heap.size, 0, none⟩ 1 1 [Seg.enc ⟨x.a, x.cap, x.kids⟩] rfl rfl (cell_one_new _ _ _) (by simp [Value.oneCell', Seg.enc]) hk1 hk2 hk3 ?_; intro v' w3 hown' hgrow _)
            have hR := push_end HB1.out.2.1 HRR.out rfl HA.out HM2.out HJ2.out HJ.out hz2' hown' hgrow O2.out
            exact ⟨⟨_, _, _, hR, rfl⟩, WalkAt.less hR (by rw [HL.out]; exact push_less x ts rest)⟩
          · have HP : Hid (done ++ [(rest.length, x)] <+: t.pre 0) := ⟨rem (⟨x.a, x.cap, x.kids⟩ :: ⟨none, 0, ts⟩ :: rest), by rw [HRR.out.eq, rem_step (b := none) (cap' := 0)]; simp⟩
            have HJX := Lib.hid hJx2
            clear hJx2 hcell hfr c0 c1 c2 c3 c4 hy HRd
            gi_wp2
            refine bodyPost_ret (results_none rfl _ _ _) rfl ?_
            exact ⟨⟨_, rfl⟩, .inr ⟨_, HP.out, HJX.out⟩⟩
        · have hs2 : ¬ scap = 1 := hs1
          have HA := Lib.hid (R.ahead hn0 ⟨some ⟨p.block, p.off + 5, none⟩, scap - 1, ts⟩ (seg_tail hS))
          have hlt : done ++ [(rest.length, x)] <+: t.pre 0 := ⟨rem (⟨x.a, x.cap, x.kids⟩ :: ⟨none, 0, ts⟩ :: rest), by rw [R.eq, rem_step (b := none) (cap' := 0)]; simp⟩
          obtain ⟨fn, tmps, assign, body, hy, hRd⟩ := HY.out done (rest.length, x) _ (HJ.out _ _ _ R.inv HA.out.below) hlt
          have HRd := Lib.hid hRd
          unfold LT.row Seg.enc at hy
          simp only at hy
          have HRR := Lib.hid R
          have HB1 := Lib.hid (And.intro hz (And.intro hn0 (And.intro hd (And.intro hwz hq))))
          have HI0 := Lib.hid (And.intro hi0 (And.intro hz0 (And.intro hz1 hz2)))
          have hts : (0 : Int) < ((ts.length + 1 : Nat) : Int) := Int.ofNat_lt.2 (Nat.succ_pos _)
          clear R hS h5 hq hz hn0 hlen hd hgl hwz hc2 hsl hc1 hz2 hz1 hz0 hi0 hpb hRd hlt
          gi_wp2
          refine ⟨fun h => (by cases h), HRd.out.mono ?_⟩
          rintro e W2 (⟨rfl, hJ2, hm2⟩ | ⟨rfl, hJx2⟩)
          · have hbx4 : W2.cell? ⟨wr.heap.size, 4, none⟩ = some (.slice x.a x.kids.length x.cap) := (HA.out.box.of_block (hm2.block _ HA.out.box.lt (.inr (Nat.le_trans (Nat.le_add_right _ 2) HB1.out.2.2.2.1)))).b4
            have O2 := Lib.hid (own_mid HA.out.own hm2 (Nat.le_succ _))
            have HM2 := Lib.hid hm2
            have HJ2 := Lib.hid hJ2
            have hz2' : W.heap.size + 1 ≤ W2.heap.size := Nat.le_trans (Nat.le_of_succ_le (Nat.le_trans HB1.out.2.2.2.1 HA.out.below.size)) HM2.out.size
            clear hm2 hJ2 hcell hfr c0 c1 c2 c3 c4 hy HRd
            have hk1 : ((⟨some ⟨p.block, p.off + 5, none⟩, scap - 1, ts⟩ : Seg) :: rest).reverse.length + 1 ≤ maxLen := by rw [List.length_reverse, List.length_cons]; exact small_len hrb
            have hk2 : (((⟨some ⟨p.block, p.off + 5, none⟩, scap - 1, ts⟩ : Seg) :: rest).reverse.length + 1) * 24 ≤ 140737488355328 := by rw [List.length_reverse, List.length_cons]; exact small_bytes hrb
            have hk3 : W.heap.size + 1 ≤ (W2.alloc (.cells #[.slice x.a x.kids.length x.cap] 24)).heap.size := by rw [World.size_alloc]; exact Nat.le_succ_of_le hz2'
            gi_wp2_with (gi_at_builtin; refine wpListIn_append_own _ rfl _ _ 74 rfl (W.heap.size + 1) 24 i0 (.slice none 0 0) 1 24 Try.underlying74 HI0.out.1 HI0.out.2.1 HI0.out.2.2.1 HI0.out.2.2.2 rfl (by decide) _ _ _ rfl (O2.out.alloc _) ⟨W2.heap.size, 0, none⟩ 1 1 [Seg.enc ⟨x.a, x.cap, x.kids⟩] rfl rfl (cell_one_new _ _ _) (by simp [Value.oneCell', Seg.enc]) hk1 hk2 hk3 ?_; intro v' w3 hown' hgrow _)
            have hR := push_end HB1.out.2.1 HRR.out rfl HA.out HM2.out HJ2.out HJ.out hz2' hown' hgrow O2.out
            exact ⟨⟨_, _, _, hR, rfl⟩, WalkAt.less hR (by rw [HL.out]; exact push_less x ts rest)⟩
          · have HP : Hid (done ++ [(rest.length, x)] <+: t.pre 0) := ⟨rem (⟨x.a, x.cap, x.kids⟩ :: ⟨none, 0, ts⟩ :: rest), by rw [HRR.out.eq, rem_step (b := none) (cap' := 0)]; simp⟩
            have HJX := Lib.hid hJx2
            clear hJx2 hcell hfr c0 c1 c2 c3 c4 hy HRd
            gi_wp2
            refine bodyPost_ret (results_none rfl _ _ _) rfl ?_
            exact ⟨⟨_, rfl⟩, .inr ⟨_, HP.out, HJX.out⟩⟩

end Go.Proofs.Ythjholhjkahdkaa.val
