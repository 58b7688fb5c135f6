/-
  Laws on a slice of one-cell elements that a call itself has made ('OwnL'): how it begins, what append does to it, what it reads as. Of any program.
-/
import Derived.WalkKit
import Derived.Laws.Rows
import Derived.Laws.OwnMore
import Derived.Deep.Draws
import Derived.Below
import Derived.Deep.RegionLaw
import Derived.Deep.AppendLies
import Derived.Maps.AppendAt
import Derived.OwnWalk
import Derived.Laws.BytesArg
import Derived.Lib.OthersKept
namespace Go.Proofs.Ythjholhjkahdkaa
open Go.RowKit

theorem belowN {B : Nat} {a w : World} (h : Below B a w) (n : Nat) : Below B a (w.drewN n) := h.trans ⟨rfl, rfl, rfl, Nat.le_refl _, fun _ _ => rfl⟩

/-- The slice value v owns the elements l, in a row from block 'base' on. -/
def OwnL {α : Type} (w : World) (base : Nat) (e : TypeId) (enc : α → Value) (v : Value) (l : List α) : Prop := w.ownsRow base e 1 v l.length (l.map enc)

def encB (b : UInt8) : Value := .int .u8 b.toNat
def encI (n : Int) : Value := .int .i64 n
theorem oneI (x : Int) : (encI x).oneCell' = true := rfl

section
variable {α : Type} {w w' : World} {base : Nat} {e : TypeId} {enc : α → Value} {v : Value} {l : List α}

theorem OwnL.nil (w : World) (base : Nat) (e : TypeId) (enc : α → Value) : OwnL w base e enc (.slice none 0 0) [] := World.ownsRow_nil _ _ _ _

/-- '[]T{}': an empty literal. -/
theorem OwnL.empty (w : World) (e : TypeId) (enc : α → Value) (hb : base ≤ w.heap.size) : OwnL (w.alloc (.cells #[] e)) base e enc (.slice (some ⟨w.heap.size, 0, none⟩) 0 0) [] :=
  ⟨rfl, .inr ⟨_, _, #[], rfl, hb, heap_alloc_new w _, Nat.le_refl _, by simp [maxLen], rfl, rfl⟩⟩

/-- A block known whole, read from its head. -/
theorem OwnL.of_block (g : Nat) (cs : Array Value) (hb : base ≤ g) (hg : w.heap[g]? = some (.cells cs e (0, 0))) (hl : l.map enc = cs.toList) (hm : l.length ≤ maxLen) :
    OwnL w base e enc (.slice (some ⟨g, 0, none⟩) l.length l.length) l := by
  have hz : cs.size = l.length := by
    have := congrArg List.length hl
    simpa using this.symm
  exact ⟨by simp, .inr ⟨g, _, cs, rfl, hb, hg, Nat.le_refl _, hm, by omega, by rw [hl]; exact List.take_of_length_le (by simp; omega)⟩⟩

theorem OwnL.drew (h : OwnL w base e enc v l) : OwnL w.drew base e enc v l := h
theorem OwnL.drewN (h : OwnL w base e enc v l) (n : Nat) : OwnL (w.drewN n) base e enc v l := h
theorem OwnL.alloc (h : OwnL w base e enc v l) (o : Obj) : OwnL (w.alloc o) base e enc v l := World.ownsRow.alloc h o
theorem OwnL.mono {base' : Nat} (h : OwnL w base e enc v l) (hb : base' ≤ base) : OwnL w base' e enc v l := by
  obtain ⟨hl, hc⟩ := h
  refine ⟨hl, ?_⟩
  rcases hc with hc | ⟨g, cap, cur, h1, h2, h3⟩
  · exact .inl hc
  · exact .inr ⟨g, cap, cur, h1, Nat.le_trans hb h2, h3⟩
/-- What stands is kept where all old blocks are. -/
theorem OwnL.below (h : OwnL w base e enc v l) (hb : Below w.heap.size w w') : OwnL w' base e enc v l := by
  refine World.ownsRow.kept (row := none) h ⟨hb.os, hb.tape, hb.output, hb.size, fun k hk _ => hb.block k hk⟩ ?_
  rcases h.2 with ⟨rfl, _⟩ | ⟨g, cap, cur, rfl, _⟩
  · exact .inl rfl
  · exact .inr (by simp [Value.ownBlock])
theorem OwnL.base_le (h : OwnL w base e enc v l) : ∀ k, v.ownBlock = some k → base ≤ k := fun k hk => (World.ownsRow.lt h k hk).1

/-- The shape of such a value. -/
theorem OwnL.shape (h : OwnL w base e enc v l) : ∃ a cap, v = .slice a l.length cap ∧ l.length ≤ cap ∧ cap ≤ maxLen ∧ (0 < l.length → ∃ g, a = some ⟨g, 0, none⟩ ∧ base ≤ g ∧ g < w.heap.size) := by
  rcases h.2 with ⟨rfl, hn⟩ | ⟨g, cap, cur, rfl, hb, hg, hc, hm, hs, ht⟩
  · exact ⟨none, 0, by rw [hn], by omega, by simp [maxLen], fun h0 => by omega⟩
  · refine ⟨_, cap, rfl, hc, hm, fun _ => ⟨g, rfl, hb, ?_⟩⟩
    rcases Nat.lt_or_ge g w.heap.size with hlt | hge
    · exact hlt
    · rw [Array.getElem?_eq_none hge] at hg; cases hg

theorem OwnL.cell {g n cap : Nat} (h : OwnL w base e enc (.slice (some ⟨g, 0, none⟩) n cap) l) (j : Nat) (hj : j < l.length) : w.cell? ⟨g, j, none⟩ = some (enc l[j]) := by
  rcases h.2 with ⟨h0, _⟩ | ⟨g', cap', cur, h0, hb, hg, hc, hm, hs, ht⟩
  · cases h0
  · injection h0 with h1 h2 h3
    injection h1 with h1
    injection h1 with h1
    subst h1
    rw [cell_of_row w g j cur e (0, 0) hg]
    have hj' : j < cur.size := by omega
    have e1 : (cur.toList.take (l.length * 1))[j]? = some (enc l[j]) := by rw [ht]; simp [List.getElem?_eq_getElem hj]
    rw [List.getElem?_take_of_lt (by omega)] at e1
    simpa using e1
end

section
variable {P : Program} {w : World} {α : Type}

theorem run_app (base : Nat) (t ty e : TypeId) (enc : α → Value) (i : TypeInfo) (z : Value) (bytes : Nat) (ht : P.underlying t = some (.slice e)) (hi : P.info? e = some i) (hz : i.zero = some z)
    (hsize : i.size = 1) (hby : i.bytes = bytes) (hzs : z.cells.size = 1) (h1 : ∀ x, (enc x).oneCell' = true)
    (v : Value) (l news : List α) (hown : OwnL w base e enc v l) (g : Nat) (m c : Nat) (hm : news.length = m) (cs : Array Value) (hg : w.heap[g]? = some (.cells cs e (0, 0))) (hcs : cs.toList = news.map enc)
    (h63 : l.length + m ≤ maxLen) (hbytes : (l.length + m) * bytes ≤ 140737488355328) (hbase : base ≤ w.heap.size) :
    ∃ v' w', (Builtin.append_ #[t, t] ty #[v, .slice (some ⟨g, 0, none⟩) m c]).run P w = .ok v' w' ∧ OwnL w' base e enc v' (l ++ news) ∧ w.grownBy w' v.ownBlock := by
  subst hm
  obtain ⟨v', w', hrun, h2, h3, _, _⟩ := run_append_own_at (P := P) w base t ty e i z 1 bytes ht hi hz hsize hby hzs (by omega) v l.length (l.map enc) hown ⟨g, 0, none⟩ news.length c (news.map enc) (by simp)
    (fun j u hj => by
      have hp : (⟨g, 0, none⟩ : Addr).add j = ⟨g, j, none⟩ := by unfold Addr.add; split <;> simp_all
      rw [hp, cell_of_row w g j cs e (0, 0) hg, ← hj, ← hcs]; simp)
    (fun u hu => by obtain ⟨x, _, rfl⟩ := List.mem_map.1 hu; exact h1 x) h63 hbytes hbase
  exact ⟨v', w', hrun, by unfold OwnL; rw [List.length_append, List.map_append]; exact h2, h3⟩

theorem wp_app {o : Oper} {a : Act} {K : Act → World → Prop} {Q : Exit → Act → World → Prop} (s x : Operand) (t : TypeId)
    (ho : o.op = .call { callee := .builtin .append, args := #[s, x], argTypes := #[t, t] })
    (base : Nat) (e : TypeId) (enc : α → Value) (i : TypeInfo) (z : Value) (bytes : Nat) (ht : P.underlying t = some (.slice e)) (hi : P.info? e = some i) (hz : i.zero = some z)
    (hsize : i.size = 1) (hby : i.bytes = bytes) (hzs : z.cells.size = 1) (h1 : ∀ x, (enc x).oneCell' = true)
    (v : Value) (l : List α) (hs : a.eval s = v) (hown : OwnL w base e enc v l) (g m c : Nat) (news : List α) (hx : a.eval x = .slice (some ⟨g, 0, none⟩) m c) (hm : news.length = m) (cs : Array Value) (hg : w.heap[g]? = some (.cells cs e (0, 0))) (hcs : cs.toList = news.map enc)
    (h63 : l.length + m ≤ maxLen) (hbytes : (l.length + m) * bytes ≤ 140737488355328) (hbase : base ≤ w.heap.size)
    (h : ∀ v' w', OwnL w' base e enc v' (l ++ news) → w.grownBy w' v.ownBlock → K (a.put o.dst v') w') : o.wp P a w K Q := by
  obtain ⟨v', w', hrun, h2, h3⟩ := run_app (P := P) base t o.type e enc i z bytes ht hi hz hsize hby hzs h1 v l news hown g m c hm cs hg hcs h63 hbytes hbase
  unfold Oper.wp execOp
  simp only [ho, resolve, invoke, builtin, Sem.run_bind, Sem.run_pure, Result.andThen_ok, List.map_toArray, List.map_cons, List.map_nil, hs, hx, hrun]
  exact h v' w' h2 h3

/-- append in a plain region. -/
theorem wpList_app {ops : Array Oper} {rest : List Oper} {o : Oper} {a : Act} {Q : Exit → Act → World → Prop} (hgd : o.guard = none) (s x : Operand) (t : TypeId)
    (ho : o.op = .call { callee := .builtin .append, args := #[s, x], argTypes := #[t, t] })
    (base : Nat) (e : TypeId) (enc : α → Value) (i : TypeInfo) (z : Value) (bytes : Nat) (ht : P.underlying t = some (.slice e)) (hi : P.info? e = some i) (hz : i.zero = some z)
    (hsize : i.size = 1) (hby : i.bytes = bytes) (hzs : z.cells.size = 1) (h1 : ∀ x, (enc x).oneCell' = true)
    (v : Value) (l : List α) (hs : a.eval s = v) (hown : OwnL w base e enc v l) (g m c : Nat) (news : List α) (hx : a.eval x = .slice (some ⟨g, 0, none⟩) m c) (hm : news.length = m) (cs : Array Value) (hg : w.heap[g]? = some (.cells cs e (0, 0))) (hcs : cs.toList = news.map enc)
    (h63 : l.length + m ≤ maxLen) (hbytes : (l.length + m) * bytes ≤ 140737488355328) (hbase : base ≤ w.heap.size)
    (h : ∀ v' w', OwnL w' base e enc v' (l ++ news) → w.grownBy w' v.ownBlock → wpList P ops Q rest (a.put o.dst v') w') : wpList P ops Q (o :: rest) a w :=
  wpList_plain hgd fun _ hK => wp_app s x t ho base e enc i z bytes ht hi hz hsize hby hzs h1 v l hs hown g m c news hx hm cs hg hcs h63 hbytes hbase fun v' w' h2 h3 => hK _ _ (h v' w' h2 h3)

/-- append as a step of a region that draws its order. -/
theorem step_app {ops : Array Oper} {o : Oper} {a : Act} {K : Act → World → Prop} {Q : Exit → Act → World → Prop} {E : Prop} (hgd : o.guard = none) (s x : Operand) (t : TypeId)
    (ho : o.op = .call { callee := .builtin .append, args := #[s, x], argTypes := #[t, t] })
    (base : Nat) (e : TypeId) (enc : α → Value) (i : TypeInfo) (z : Value) (bytes : Nat) (ht : P.underlying t = some (.slice e)) (hi : P.info? e = some i) (hz : i.zero = some z)
    (hsize : i.size = 1) (hby : i.bytes = bytes) (hzs : z.cells.size = 1) (h1 : ∀ x, (enc x).oneCell' = true)
    (v : Value) (l : List α) (hs : a.eval s = v) (hown : OwnL w base e enc v l) (g m c : Nat) (news : List α) (hx : a.eval x = .slice (some ⟨g, 0, none⟩) m c) (hm : news.length = m) (cs : Array Value) (hg : w.heap[g]? = some (.cells cs e (0, 0))) (hcs : cs.toList = news.map enc)
    (h63 : l.length + m ≤ maxLen) (hbytes : (l.length + m) * bytes ≤ 140737488355328) (hbase : base ≤ w.heap.size)
    (h : ∀ v' w', OwnL w' base e enc v' (l ++ news) → w.grownBy w' v.ownBlock → K (a.put o.dst v') w') :
    if Region.wanted o (yielded ops a.tmps) = true then Oper.wp P o a w K Q else E := by
  have hw : Region.wanted o (yielded ops a.tmps) = true := by simp [Region.wanted, hgd]
  rw [if_pos hw]
  exact wp_app s x t ho base e enc i z bytes ht hi hz hsize hby hzs h1 v l hs hown g m c news hx hm cs hg hcs h63 hbytes hbase h

/-- From before the append to behind it: what lies below the row's base is kept. -/
theorem grown_below {w0 w1 : World} {base : Nat} {e : TypeId} {enc : α → Value} {v : Value} {l : List α} (hb : Below base w0 w) (hbase : base ≤ w.heap.size) (hown : OwnL w base e enc v l) (hg : w.grownBy w1 v.ownBlock) : Below base w0 w1 :=
  hb.grown hg hbase hown.base_le

/-- 'string(v)' of a byte slice of the call's own. -/
theorem run_string_own (src e dst : TypeId) (hs : P.underlying src = some (.slice e)) (he : P.underlying e = some (.int .u8)) (hd : P.underlying dst = some .string) {base : Nat} {v : Value} {l : List UInt8} (h : OwnL w base e encB v l) :
    (convert src dst v).run P w = .ok (.string ⟨l.toArray⟩) w := by
  have hh := h
  rcases h.2 with ⟨rfl, hn⟩ | ⟨g, cap, cur, rfl, hb, hg, hc, hm, hz, ht⟩
  · have : l = [] := List.eq_nil_of_length_eq_zero hn
    subst this
    rw [run_convert_bytes_nil w src e hs he 0 0 dst hd]
    rfl
  · rw [run_convert_bytes_arg w src e hs he g 0 l.length cap (l.map fun b => (b.toNat : Int)) (by simp) (fun i hi => by
      rw [Nat.zero_add, hh.cell i hi]
      simp [encB, List.getD, List.getElem?_eq_getElem hi]) dst hd]
    congr 2
    apply ByteArray.ext
    apply Array.toList_inj.1
    rw [strOfNums_data, List.map_map]
    show l.map _ = l
    conv => rhs; rw [← List.map_id l]
    apply List.map_congr_left
    intro x _
    simp
end

/-! Beside a string's iterator. -/
section
variable {α : Type} {w w' : World} {base : Nat} {e : TypeId} {enc : α → Value} {v : Value} {l : List α} {k : Nat} {s : ByteArray} {pos : Nat}
theorem OwnL.ne_iter (h : OwnL w base e enc v l) (hk : w.heap[k]? = some (.stringIter s pos)) : some k ≠ v.ownBlock := by
  rcases h.2 with ⟨rfl, _⟩ | ⟨g, cap, cur, rfl, _, hg, _⟩
  · simp [Value.ownBlock]
  · simp only [Value.ownBlock]
    intro e1
    have e2 := Option.some.inj e1
    rw [← e2, hk] at hg
    cases hg
theorem OwnL.iterAt (h : OwnL w base e enc v l) (hk : w.heap[k]? = some (.stringIter s pos)) (pos' : Nat) : OwnL (w.iterAt k s pos') base e enc v l := by
  have hne := h.ne_iter hk
  obtain ⟨hl, hc⟩ := h
  refine ⟨hl, ?_⟩
  rcases hc with hc | ⟨g, cap, cur, h1, h2, h3, h4⟩
  · exact .inl hc
  · refine .inr ⟨g, cap, cur, h1, h2, ?_, h4⟩
    rw [Lib.iterAt_other w k g s pos' (fun e1 => hne (by rw [h1, e1]; rfl))]
    exact h3
/-- append leaves the iterator where it stood. -/
theorem iter_grown (hg : w.grownBy w' v.ownBlock) (h : OwnL w base e enc v l) (hk : w.heap[k]? = some (.stringIter s pos)) : w'.heap[k]? = some (.stringIter s pos) := by
  rw [hg.block k (Array.getElem?_eq_some_iff.1 hk).1 (h.ne_iter hk)]
  exact hk
theorem iter_alloc (o : Obj) (hk : w.heap[k]? = some (.stringIter s pos)) : (w.alloc o).heap[k]? = some (.stringIter s pos) := by
  rw [Below.heap_alloc w o k (Array.getElem?_eq_some_iff.1 hk).1]
  exact hk
end
end Go.Proofs.Ythjholhjkahdkaa
