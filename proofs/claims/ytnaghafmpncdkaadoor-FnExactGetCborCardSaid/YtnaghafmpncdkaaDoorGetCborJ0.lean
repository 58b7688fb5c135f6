/-
  Laws on a slice of one-cell elements that a call itself has made ('OwnL'): how it begins, what append does to it, what it reads as. Of any program.
-/
import Derived.WalkKit
import Derived.Laws.Rows
import Derived.Laws.OwnMore
import Derived.Deep.Draws
import Derived.Below
import Derived.Deep.RegionLaw
import Derived.Deep.AppendLies
import Derived.Maps.AppendAt
import Derived.OwnWalk
import Derived.Laws.BytesArg
import Derived.Lib.OthersKept
import Derived.Test.YtnaghafmpncdkaaDoorRows
import Derived.ProofKit
import Derived.OpenShut
import Derived.WalkLawsBesides
import Derived.Deep.QuietTactic
import Derived.BigQuiet
import Derived.Deep.RegionWith
import Derived.Deep.MidRow
import Derived.Deep.Slices
import Derived.Lib.Hide
import Derived.Laws.MakeOwn
import Derived.Deep.Heap
namespace Go.Proofs.YtnaghafmpncdkaaDoor
open Go.RowKit

theorem belowN {B : Nat} {a w : World} (h : Below B a w) (n : Nat) : Below B a (w.drewN n) := h.trans ⟨rfl, rfl, rfl, Nat.le_refl _, fun _ _ => rfl⟩

/-- The slice value v owns the elements l, in a row from block 'base' on. -/
def OwnL {α : Type} (w : World) (base : Nat) (e : TypeId) (enc : α → Value) (v : Value) (l : List α) : Prop := w.ownsRow base e 1 v l.length (l.map enc)

def encB (b : UInt8) : Value := .int .u8 b.toNat
def encI (n : Int) : Value := .int .i64 n
theorem oneI (x : Int) : (encI x).oneCell' = true := rfl

section
variable {α : Type} {w w' : World} {base : Nat} {e : TypeId} {enc : α → Value} {v : Value} {l : List α}

theorem OwnL.nil (w : World) (base : Nat) (e : TypeId) (enc : α → Value) : OwnL w base e enc (.slice none 0 0) [] := World.ownsRow_nil _ _ _ _

/-- '[]T{}': an empty literal. -/
theorem OwnL.empty (w : World) (e : TypeId) (enc : α → Value) (hb : base ≤ w.heap.size) : OwnL (w.alloc (.cells #[] e)) base e enc (.slice (some ⟨w.heap.size, 0, none⟩) 0 0) [] :=
  ⟨rfl, .inr ⟨_, _, #[], rfl, hb, heap_alloc_new w _, Nat.le_refl _, by simp [maxLen], rfl, rfl⟩⟩

/-- A block known whole, read from its head. -/
theorem OwnL.of_block (g : Nat) (cs : Array Value) (hb : base ≤ g) (hg : w.heap[g]? = some (.cells cs e (0, 0))) (hl : l.map enc = cs.toList) (hm : l.length ≤ maxLen) :
    OwnL w base e enc (.slice (some ⟨g, 0, none⟩) l.length l.length) l := by
  have hz : cs.size = l.length := by
    have := congrArg List.length hl
    simpa using this.symm
  exact ⟨by simp, .inr ⟨g, _, cs, rfl, hb, hg, Nat.le_refl _, hm, by omega, by rw [hl]; exact List.take_of_length_le (by simp; omega)⟩⟩

theorem OwnL.drew (h : OwnL w base e enc v l) : OwnL w.drew base e enc v l := h
theorem OwnL.drewN (h : OwnL w base e enc v l) (n : Nat) : OwnL (w.drewN n) base e enc v l := h
theorem OwnL.alloc (h : OwnL w base e enc v l) (o : Obj) : OwnL (w.alloc o) base e enc v l := World.ownsRow.alloc h o
theorem OwnL.mono {base' : Nat} (h : OwnL w base e enc v l) (hb : base' ≤ base) : OwnL w base' e enc v l := by
  obtain ⟨hl, hc⟩ := h
  refine ⟨hl, ?_⟩
  rcases hc with hc | ⟨g, cap, cur, h1, h2, h3⟩
  · exact .inl hc
  · exact .inr ⟨g, cap, cur, h1, Nat.le_trans hb h2, h3⟩
/-- What stands is kept where all old blocks are. -/
theorem OwnL.below (h : OwnL w base e enc v l) (hb : Below w.heap.size w w') : OwnL w' base e enc v l := by
  refine World.ownsRow.kept (row := none) h ⟨hb.os, hb.tape, hb.output, hb.size, fun k hk _ => hb.block k hk⟩ ?_
  rcases h.2 with ⟨rfl, _⟩ | ⟨g, cap, cur, rfl, _⟩
  · exact .inl rfl
  · exact .inr (by simp [Value.ownBlock])
theorem OwnL.base_le (h : OwnL w base e enc v l) : ∀ k, v.ownBlock = some k → base ≤ k := fun k hk => (World.ownsRow.lt h k hk).1

/-- The shape of such a value. -/
theorem OwnL.shape (h : OwnL w base e enc v l) : ∃ a cap, v = .slice a l.length cap ∧ l.length ≤ cap ∧ cap ≤ maxLen ∧ (0 < l.length → ∃ g, a = some ⟨g, 0, none⟩ ∧ base ≤ g ∧ g < w.heap.size) := by
  rcases h.2 with ⟨rfl, hn⟩ | ⟨g, cap, cur, rfl, hb, hg, hc, hm, hs, ht⟩
  · exact ⟨none, 0, by rw [hn], by omega, by simp [maxLen], fun h0 => by omega⟩
  · refine ⟨_, cap, rfl, hc, hm, fun _ => ⟨g, rfl, hb, ?_⟩⟩
    rcases Nat.lt_or_ge g w.heap.size with hlt | hge
    · exact hlt
    · rw [Array.getElem?_eq_none hge] at hg; cases hg

theorem OwnL.cell {g n cap : Nat} (h : OwnL w base e enc (.slice (some ⟨g, 0, none⟩) n cap) l) (j : Nat) (hj : j < l.length) : w.cell? ⟨g, j, none⟩ = some (enc l[j]) := by
  rcases h.2 with ⟨h0, _⟩ | ⟨g', cap', cur, h0, hb, hg, hc, hm, hs, ht⟩
  · cases h0
  · injection h0 with h1 h2 h3
    injection h1 with h1
    injection h1 with h1
    subst h1
    rw [cell_of_row w g j cur e (0, 0) hg]
    have hj' : j < cur.size := by omega
    have e1 : (cur.toList.take (l.length * 1))[j]? = some (enc l[j]) := by rw [ht]; simp [List.getElem?_eq_getElem hj]
    rw [List.getElem?_take_of_lt (by omega)] at e1
    simpa using e1
end

section
variable {P : Program} {w : World} {α : Type}

theorem run_app (base : Nat) (t ty e : TypeId) (enc : α → Value) (i : TypeInfo) (z : Value) (bytes : Nat) (ht : P.underlying t = some (.slice e)) (hi : P.info? e = some i) (hz : i.zero = some z)
    (hsize : i.size = 1) (hby : i.bytes = bytes) (hzs : z.cells.size = 1) (h1 : ∀ x, (enc x).oneCell' = true)
    (v : Value) (l news : List α) (hown : OwnL w base e enc v l) (g : Nat) (m c : Nat) (hm : news.length = m) (cs : Array Value) (hg : w.heap[g]? = some (.cells cs e (0, 0))) (hcs : cs.toList = news.map enc)
    (h63 : l.length + m ≤ maxLen) (hbytes : (l.length + m) * bytes ≤ 140737488355328) (hbase : base ≤ w.heap.size) :
    ∃ v' w', (Builtin.append_ #[t, t] ty #[v, .slice (some ⟨g, 0, none⟩) m c]).run P w = .ok v' w' ∧ OwnL w' base e enc v' (l ++ news) ∧ w.grownBy w' v.ownBlock := by
  subst hm
  obtain ⟨v', w', hrun, h2, h3, _, _⟩ := run_append_own_at (P := P) w base t ty e i z 1 bytes ht hi hz hsize hby hzs (by omega) v l.length (l.map enc) hown ⟨g, 0, none⟩ news.length c (news.map enc) (by simp)
    (fun j u hj => by
      have hp : (⟨g, 0, none⟩ : Addr).add j = ⟨g, j, none⟩ := by unfold Addr.add; split <;> simp_all
      rw [hp, cell_of_row w g j cs e (0, 0) hg, ← hj, ← hcs]; simp)
    (fun u hu => by obtain ⟨x, _, rfl⟩ := List.mem_map.1 hu; exact h1 x) h63 hbytes hbase
  exact ⟨v', w', hrun, by unfold OwnL; rw [List.length_append, List.map_append]; exact h2, h3⟩

theorem wp_app {o : Oper} {a : Act} {K : Act → World → Prop} {Q : Exit → Act → World → Prop} (s x : Operand) (t : TypeId)
    (ho : o.op = .call { callee := .builtin .append, args := #[s, x], argTypes := #[t, t] })
    (base : Nat) (e : TypeId) (enc : α → Value) (i : TypeInfo) (z : Value) (bytes : Nat) (ht : P.underlying t = some (.slice e)) (hi : P.info? e = some i) (hz : i.zero = some z)
    (hsize : i.size = 1) (hby : i.bytes = bytes) (hzs : z.cells.size = 1) (h1 : ∀ x, (enc x).oneCell' = true)
    (v : Value) (l : List α) (hs : a.eval s = v) (hown : OwnL w base e enc v l) (g m c : Nat) (news : List α) (hx : a.eval x = .slice (some ⟨g, 0, none⟩) m c) (hm : news.length = m) (cs : Array Value) (hg : w.heap[g]? = some (.cells cs e (0, 0))) (hcs : cs.toList = news.map enc)
    (h63 : l.length + m ≤ maxLen) (hbytes : (l.length + m) * bytes ≤ 140737488355328) (hbase : base ≤ w.heap.size)
    (h : ∀ v' w', OwnL w' base e enc v' (l ++ news) → w.grownBy w' v.ownBlock → K (a.put o.dst v') w') : o.wp P a w K Q := by
  obtain ⟨v', w', hrun, h2, h3⟩ := run_app (P := P) base t o.type e enc i z bytes ht hi hz hsize hby hzs h1 v l news hown g m c hm cs hg hcs h63 hbytes hbase
  unfold Oper.wp execOp
  simp only [ho, resolve, invoke, builtin, Sem.run_bind, Sem.run_pure, Result.andThen_ok, List.map_toArray, List.map_cons, List.map_nil, hs, hx, hrun]
  exact h v' w' h2 h3

/-- append in a plain region. -/
theorem wpList_app {ops : Array Oper} {rest : List Oper} {o : Oper} {a : Act} {Q : Exit → Act → World → Prop} (hgd : o.guard = none) (s x : Operand) (t : TypeId)
    (ho : o.op = .call { callee := .builtin .append, args := #[s, x], argTypes := #[t, t] })
    (base : Nat) (e : TypeId) (enc : α → Value) (i : TypeInfo) (z : Value) (bytes : Nat) (ht : P.underlying t = some (.slice e)) (hi : P.info? e = some i) (hz : i.zero = some z)
    (hsize : i.size = 1) (hby : i.bytes = bytes) (hzs : z.cells.size = 1) (h1 : ∀ x, (enc x).oneCell' = true)
    (v : Value) (l : List α) (hs : a.eval s = v) (hown : OwnL w base e enc v l) (g m c : Nat) (news : List α) (hx : a.eval x = .slice (some ⟨g, 0, none⟩) m c) (hm : news.length = m) (cs : Array Value) (hg : w.heap[g]? = some (.cells cs e (0, 0))) (hcs : cs.toList = news.map enc)
    (h63 : l.length + m ≤ maxLen) (hbytes : (l.length + m) * bytes ≤ 140737488355328) (hbase : base ≤ w.heap.size)
    (h : ∀ v' w', OwnL w' base e enc v' (l ++ news) → w.grownBy w' v.ownBlock → wpList P ops Q rest (a.put o.dst v') w') : wpList P ops Q (o :: rest) a w :=
  wpList_plain hgd fun _ hK => wp_app s x t ho base e enc i z bytes ht hi hz hsize hby hzs h1 v l hs hown g m c news hx hm cs hg hcs h63 hbytes hbase fun v' w' h2 h3 => hK _ _ (h v' w' h2 h3)

/-- append as a step of a region that draws its order. -/
theorem step_app {ops : Array Oper} {o : Oper} {a : Act} {K : Act → World → Prop} {Q : Exit → Act → World → Prop} {E : Prop} (hgd : o.guard = none) (s x : Operand) (t : TypeId)
    (ho : o.op = .call { callee := .builtin .append, args := #[s, x], argTypes := #[t, t] })
    (base : Nat) (e : TypeId) (enc : α → Value) (i : TypeInfo) (z : Value) (bytes : Nat) (ht : P.underlying t = some (.slice e)) (hi : P.info? e = some i) (hz : i.zero = some z)
    (hsize : i.size = 1) (hby : i.bytes = bytes) (hzs : z.cells.size = 1) (h1 : ∀ x, (enc x).oneCell' = true)
    (v : Value) (l : List α) (hs : a.eval s = v) (hown : OwnL w base e enc v l) (g m c : Nat) (news : List α) (hx : a.eval x = .slice (some ⟨g, 0, none⟩) m c) (hm : news.length = m) (cs : Array Value) (hg : w.heap[g]? = some (.cells cs e (0, 0))) (hcs : cs.toList = news.map enc)
    (h63 : l.length + m ≤ maxLen) (hbytes : (l.length + m) * bytes ≤ 140737488355328) (hbase : base ≤ w.heap.size)
    (h : ∀ v' w', OwnL w' base e enc v' (l ++ news) → w.grownBy w' v.ownBlock → K (a.put o.dst v') w') :
    if Region.wanted o (yielded ops a.tmps) = true then Oper.wp P o a w K Q else E := by
  have hw : Region.wanted o (yielded ops a.tmps) = true := by simp [Region.wanted, hgd]
  rw [if_pos hw]
  exact wp_app s x t ho base e enc i z bytes ht hi hz hsize hby hzs h1 v l hs hown g m c news hx hm cs hg hcs h63 hbytes hbase h

/-- From before the append to behind it: what lies below the row's base is kept. -/
theorem grown_below {w0 w1 : World} {base : Nat} {e : TypeId} {enc : α → Value} {v : Value} {l : List α} (hb : Below base w0 w) (hbase : base ≤ w.heap.size) (hown : OwnL w base e enc v l) (hg : w.grownBy w1 v.ownBlock) : Below base w0 w1 :=
  hb.grown hg hbase hown.base_le

/-- 'string(v)' of a byte slice of the call's own. -/
theorem run_string_own (src e dst : TypeId) (hs : P.underlying src = some (.slice e)) (he : P.underlying e = some (.int .u8)) (hd : P.underlying dst = some .string) {base : Nat} {v : Value} {l : List UInt8} (h : OwnL w base e encB v l) :
    (convert src dst v).run P w = .ok (.string ⟨l.toArray⟩) w := by
  have hh := h
  rcases h.2 with ⟨rfl, hn⟩ | ⟨g, cap, cur, rfl, hb, hg, hc, hm, hz, ht⟩
  · have : l = [] := List.eq_nil_of_length_eq_zero hn
    subst this
    rw [run_convert_bytes_nil w src e hs he 0 0 dst hd]
    rfl
  · rw [run_convert_bytes_arg w src e hs he g 0 l.length cap (l.map fun b => (b.toNat : Int)) (by simp) (fun i hi => by
      rw [Nat.zero_add, hh.cell i hi]
      simp [encB, List.getD, List.getElem?_eq_getElem hi]) dst hd]
    congr 2
    apply ByteArray.ext
    apply Array.toList_inj.1
    rw [strOfNums_data, List.map_map]
    show l.map _ = l
    conv => rhs; rw [← List.map_id l]
    apply List.map_congr_left
    intro x _
    simp
end

/-! Beside a string's iterator. -/
section
variable {α : Type} {w w' : World} {base : Nat} {e : TypeId} {enc : α → Value} {v : Value} {l : List α} {k : Nat} {s : ByteArray} {pos : Nat}
theorem OwnL.ne_iter (h : OwnL w base e enc v l) (hk : w.heap[k]? = some (.stringIter s pos)) : some k ≠ v.ownBlock := by
  rcases h.2 with ⟨rfl, _⟩ | ⟨g, cap, cur, rfl, _, hg, _⟩
  · simp [Value.ownBlock]
  · simp only [Value.ownBlock]
    intro e1
    have e2 := Option.some.inj e1
    rw [← e2, hk] at hg
    cases hg
theorem OwnL.iterAt (h : OwnL w base e enc v l) (hk : w.heap[k]? = some (.stringIter s pos)) (pos' : Nat) : OwnL (w.iterAt k s pos') base e enc v l := by
  have hne := h.ne_iter hk
  obtain ⟨hl, hc⟩ := h
  refine ⟨hl, ?_⟩
  rcases hc with hc | ⟨g, cap, cur, h1, h2, h3, h4⟩
  · exact .inl hc
  · refine .inr ⟨g, cap, cur, h1, h2, ?_, h4⟩
    rw [Lib.iterAt_other w k g s pos' (fun e1 => hne (by rw [h1, e1]; rfl))]
    exact h3
/-- append leaves the iterator where it stood. -/
theorem iter_grown (hg : w.grownBy w' v.ownBlock) (h : OwnL w base e enc v l) (hk : w.heap[k]? = some (.stringIter s pos)) : w'.heap[k]? = some (.stringIter s pos) := by
  rw [hg.block k (Array.getElem?_eq_some_iff.1 hk).1 (h.ne_iter hk)]
  exact hk
theorem iter_alloc (o : Obj) (hk : w.heap[k]? = some (.stringIter s pos)) : (w.alloc o).heap[k]? = some (.stringIter s pos) := by
  rw [Below.heap_alloc w o k (Array.getElem?_eq_some_iff.1 hk).1]
  exact hk
end
end Go.Proofs.YtnaghafmpncdkaaDoor
/-
  Values of Go's struct 'Value' (a kind, two numbers, a text, a list of further ones) as trees, and how such a tree lies in memory. Of either package's type: the cells are alike.
-/
namespace Go.Proofs.YtnaghafmpncdkaaDoor.val
open Go.ChangeShapes Go.WideShapes Go.ChangeAt Go.RowKit
set_option maxRecDepth 100000

def InI (z : Int) : Prop := -9223372036854775808 ≤ z ∧ z ≤ 9223372036854775807
/-- A value with the places of its lists. -/
inductive LT where
  | mk (k n e : Int) (s : ByteArray) (a : Option Addr) (cap : Nat) (kids : List LT)
namespace LT
def k : LT → Int | .mk k _ _ _ _ _ _ => k
def n : LT → Int | .mk _ n _ _ _ _ _ => n
def e : LT → Int | .mk _ _ e _ _ _ _ => e
def s : LT → ByteArray | .mk _ _ _ s _ _ _ => s
def a : LT → Option Addr | .mk _ _ _ _ a _ _ => a
def cap : LT → Nat | .mk _ _ _ _ _ c _ => c
def kids : LT → List LT | .mk _ _ _ _ _ _ l => l
/-- Its list, as a cell. -/
def row (t : LT) : Value := .slice t.a t.kids.length t.cap
def val (t : LT) : Value := .agg #[.int .i64 t.k, .int .i64 t.n, .int .i64 t.e, .string t.s, t.row]
mutual
/-- How many letters and elements it holds. -/
def sz : LT → Nat
  | .mk _ _ _ s _ _ kids => s.size + szL kids
def szL : List LT → Nat
  | [] => 0
  | t :: ts => 1 + sz t + szL ts
end
mutual
def nodes : LT → Nat
  | .mk _ _ _ _ _ _ kids => 1 + nodesL kids
def nodesL : List LT → Nat
  | [] => 0
  | t :: ts => nodes t + nodesL ts
end
end LT
/-- The five cells of a value from p on. -/
structure At5 (w : World) (p : Addr) (t : LT) : Prop where
  c0 : w.cell? p = some (.int .i64 t.k)
  c1 : w.cell? ⟨p.block, p.off + 1, none⟩ = some (.int .i64 t.n)
  c2 : w.cell? ⟨p.block, p.off + 2, none⟩ = some (.int .i64 t.e)
  c3 : w.cell? ⟨p.block, p.off + 3, none⟩ = some (.string t.s)
  c4 : w.cell? ⟨p.block, p.off + 4, none⟩ = some t.row
/-- The value's lists lie in w, in blocks below B. -/
inductive In (w : World) (B : Nat) : LT → Prop
  | mk {k n e : Int} {s : ByteArray} {a : Option Addr} {cap : Nat} {kids : List LT} (hk : InI k) (hn : InI n) (he : InI e) (hs : s.size ≤ 9223372036854775807) (hl : kids.length ≤ cap ∧ cap ≤ 9223372036854775807)
      (hc : ∀ i (h : i < kids.length), ∃ x, a = some x ∧ x.block < B ∧ At5 w (x.add (i * 5)) kids[i]) (hkids : ∀ i (h : i < kids.length), In w B kids[i]) : In w B (.mk k n e s a cap kids)

theorem add_block (x : Addr) (k : Nat) : (x.add k).block = x.block := by unfold Addr.add; split <;> rfl
theorem At5.below {w w' : World} {B : Nat} {p : Addr} {t : LT} (h : At5 w p t) (hp : p.block < B) (hb : Below B w w') : At5 w' p t :=
  ⟨(hb.cell hp).trans h.c0, (hb.cell (p := ⟨p.block, p.off + 1, none⟩) hp).trans h.c1, (hb.cell (p := ⟨p.block, p.off + 2, none⟩) hp).trans h.c2, (hb.cell (p := ⟨p.block, p.off + 3, none⟩) hp).trans h.c3, (hb.cell (p := ⟨p.block, p.off + 4, none⟩) hp).trans h.c4⟩
theorem At5.list {w : World} {p : Addr} {t : LT} (h : At5 w p t) : ∀ j v, [Value.int .i64 t.k, .int .i64 t.n, .int .i64 t.e, .string t.s, t.row][j]? = some v → w.cell? (p.add j) = some v := by
  intro j v hv
  have hj : j < 5 := by
    have := (List.getElem?_eq_some_iff.1 hv).1
    simpa using this
  have hc : j = 0 ∨ j = 1 ∨ j = 2 ∨ j = 3 ∨ j = 4 := by omega
  rcases hc with rfl | rfl | rfl | rfl | rfl <;> simp at hv <;> subst hv
  · exact h.c0
  · exact h.c1
  · exact h.c2
  · exact h.c3
  · exact h.c4
/-- Such a value is loaded whole. -/
theorem run_load5 {P : Program} {w : World} {p : Addr} {t : LT} (h : At5 w p t) (ty : TypeId) (d : TypeDesc) (hu : P.underlying ty = some d) (hd : d.isRow = true) (hi : (P.info? ty).map (·.size) = some 5) :
    (Instr.loadAt ty (.pointer (some p))).run P w = .ok t.val w := by
  have hl := run_loadCells_list (P := P) w p [Value.int .i64 t.k, .int .i64 t.n, .int .i64 t.e, .string t.s, t.row] h.list
  cases hq : P.info? ty with
  | none => simp [hq] at hi
  | some i =>
    have hs : i.size = 5 := by simpa [hq] using hi
    have hagg : (isAgg ty).run P w = .ok true w := by
      unfold isAgg
      rw [Sem.run_bind, run_underlying hu w]
      cases d <;> simp_all
    simp only [List.length_cons, List.length_nil, Nat.reduceAdd] at hl
    simp [Instr.loadAt, Instr.sureAddr, loadVar, Sem.run_bind, hagg, sizeOf, typeInfo, hq, hs, hl, LT.val]
theorem sz_mk (t : LT) : t.sz = t.s.size + LT.szL t.kids := by cases t; simp [LT.sz, LT.s, LT.kids]
theorem szL_take (l : List LT) : ∀ j (h : j < l.length), LT.szL (l.take (j + 1)) = LT.szL (l.take j) + 1 + l[j].sz := by
  induction l with
  | nil => intro j h; simp at h
  | cons t ts ih =>
    intro j h
    cases j with
    | zero => simp [LT.szL]
    | succ j =>
      have := ih j (by simpa using h)
      simp only [List.take_succ_cons, LT.szL, List.getElem_cons_succ]
      omega
theorem szL_le (l : List LT) (j : Nat) : LT.szL (l.take j) ≤ LT.szL l := by
  induction l generalizing j with
  | nil => simp
  | cons t ts ih =>
    cases j with
    | zero => simp [LT.szL]
    | succ j => have := ih j; simp only [List.take_succ_cons, LT.szL]; omega
theorem szL_rest (l : List LT) : ∀ j, j ≤ l.length → LT.szL (l.take j) + (l.length - j) ≤ LT.szL l := by
  induction l with
  | nil => intro j h; simp at h; simp [h]
  | cons t ts ih =>
    intro j h
    cases j with
    | zero =>
      have := ih 0 (by omega)
      simp [LT.szL] at *
      omega
    | succ j =>
      have := ih j (by simpa using h)
      simp only [List.take_succ_cons, LT.szL, List.length_cons] at *
      omega
theorem szL_len (l : List LT) : l.length ≤ LT.szL l := by
  induction l with
  | nil => simp
  | cons t ts ih => simp only [List.length_cons, LT.szL]; omega

end Go.Proofs.YtnaghafmpncdkaaDoor.val
/-
  Values whose lists a call itself has made: each list a whole block of its own between two marks of the heap. What such a value tells apart from its places.
-/
namespace Go.Proofs.YtnaghafmpncdkaaDoor.val
open Go.ChangeShapes Go.WideShapes Go.ChangeAt Go.RowKit
set_option maxRecDepth 100000

/-- A value apart from its places. -/
inductive VT where
  | mk (k n e : Int) (s : ByteArray) (kids : List VT)
mutual
def er : LT → VT
  | .mk k n e s _ _ kids => .mk k n e s (erL kids)
def erL : List LT → List VT
  | [] => []
  | t :: ts => er t :: erL ts
end
mutual
def VT.sz : VT → Nat
  | .mk _ _ _ s kids => s.size + VT.szL kids
def VT.szL : List VT → Nat
  | [] => 0
  | t :: ts => 1 + VT.sz t + VT.szL ts
end
mutual
theorem sz_er : ∀ t : LT, (er t).sz = t.sz
  | .mk k n e s a cap kids => by rw [er, VT.sz, LT.sz, szL_er kids]
theorem szL_er : ∀ l : List LT, VT.szL (erL l) = LT.szL l
  | [] => by rw [erL, VT.szL, LT.szL]
  | t :: ts => by rw [erL, VT.szL, LT.szL, sz_er t, szL_er ts]
end
theorem er_sz {t u : LT} (h : er t = er u) : t.sz = u.sz := by rw [← sz_er t, ← sz_er u, h]
theorem erL_map (l : List LT) : erL l = l.map er := by
  induction l with
  | nil => rfl
  | cons t ts ih => simp [erL, ih]
theorem er_mk (t : LT) : er t = .mk t.k t.n t.e t.s (t.kids.map er) := by cases t; simp [er, erL_map, LT.k, LT.n, LT.e, LT.s, LT.kids]

/-- The value's lists lie in blocks of their own from lo on, below hi: each from its block's head, none frozen. -/
inductive Own (w : World) (lo hi : Nat) : LT → Prop
  | mk {k n e : Int} {s : ByteArray} {g cap : Nat} {kids : List LT} (cs : Array Value) (hk : InI k) (hn : InI n) (he : InI e) (hs : s.size ≤ 9223372036854775807) (hl : kids.length ≤ cap ∧ cap ≤ 9223372036854775807)
      (hlo : lo ≤ g) (hhi : g < hi) (hb : w.heap[g]? = some (.cells cs 24 (0, 0))) (hz : kids.length * 5 ≤ cs.size)
      (hc : ∀ i (h : i < kids.length), At5 w ⟨g, i * 5, none⟩ kids[i]) (hkids : ∀ i (h : i < kids.length), Own w lo hi kids[i]) : Own w lo hi (.mk k n e s (some ⟨g, 0, none⟩) cap kids)

theorem At5.of_block {w w' : World} {g o : Nat} {t : LT} (h : At5 w ⟨g, o, none⟩ t) (hb : w'.heap[g]? = w.heap[g]?) : At5 w' ⟨g, o, none⟩ t := by
  have c : ∀ j, w'.cell? ⟨g, j, none⟩ = w.cell? ⟨g, j, none⟩ := fun j => World.cell?_of_block hb
  exact ⟨(c _).trans h.c0, (c _).trans h.c1, (c _).trans h.c2, (c _).trans h.c3, (c _).trans h.c4⟩
theorem Own.kept {w w' : World} {lo hi lo' hi' : Nat} {t : LT} (h : Own w lo hi t) (hl : lo' ≤ lo) (hh : hi ≤ hi') (hk : ∀ b, lo ≤ b → b < hi → w'.heap[b]? = w.heap[b]?) : Own w' lo' hi' t := by
  induction h with
  | mk cs k1 k2 k3 k4 k5 hlo hhi hb hz hc _ ih =>
    exact .mk cs k1 k2 k3 k4 k5 (by omega) (by omega) ((hk _ hlo hhi).trans hb) hz (fun i hi => (hc i hi).of_block (hk _ hlo hhi)) ih
theorem Own.behind {w w' : World} {lo hi : Nat} {t : LT} (h : Own w lo hi t) (hb : Below hi w w') : Own w' lo hi t := h.kept (Nat.le_refl _) (Nat.le_refl _) fun b _ hb' => hb.block b hb'
theorem add0 (g i : Nat) : (⟨g, 0, none⟩ : Addr).add i = ⟨g, i, none⟩ := by unfold Addr.add; split <;> simp_all
theorem Own.isIn {w : World} {lo hi : Nat} {t : LT} (h : Own w lo hi t) : In w hi t := by
  induction h with
  | mk cs k1 k2 k3 k4 k5 hlo hhi hb hz hc _ ih => exact .mk k1 k2 k3 k4 k5 (fun i hi => ⟨_, rfl, hhi, by rw [add0]; exact hc i hi⟩) ih
theorem Own.adr {w : World} {lo hi : Nat} {t : LT} (h : Own w lo hi t) : ∃ g, t.a = some ⟨g, 0, none⟩ ∧ lo ≤ g ∧ g < hi := by
  cases h with
  | mk cs k1 k2 k3 k4 k5 hlo hhi hb hz hc _ => exact ⟨_, rfl, hlo, hhi⟩

/-- Five cells stored into a block. -/
theorem blk_set {w : World} {g o : Nat} {cs : Array Value} {T : TypeId} (h : w.heap[g]? = some (.cells cs T (0, 0))) (v : Value) : (w.setCell ⟨g, o, none⟩ v).heap[g]? = some (.cells (cs.setIfInBounds o v) T (0, 0)) := by
  rw [World.setCell, Array.getElem?_modify, if_pos rfl, h]; simp
theorem blk_other {w : World} {g b o : Nat} (v : Value) (h : b ≠ g) : (w.setCell ⟨g, o, none⟩ v).heap[b]? = w.heap[b]? := Go.Deep.blk_setCell_other w ⟨g, o, none⟩ v b h
theorem set_size {w : World} {g o : Nat} (v : Value) : (w.setCell ⟨g, o, none⟩ v).heap.size = w.heap.size := Go.Deep.nblk_setCell w _ v
/-- The world behind a value's store. -/
def put5 (w : World) (g o : Nat) (t : LT) : World := ((((w.setCell ⟨g, o, none⟩ (.int .i64 t.k)).setCell ⟨g, o + 1, none⟩ (.int .i64 t.n)).setCell ⟨g, o + 2, none⟩ (.int .i64 t.e)).setCell ⟨g, o + 3, none⟩ (.string t.s)).setCell ⟨g, o + 4, none⟩ t.row
theorem put5_other {w : World} {g o b : Nat} (t : LT) (h : b ≠ g) : (put5 w g o t).heap[b]? = w.heap[b]? := by
  unfold put5
  rw [blk_other _ h, blk_other _ h, blk_other _ h, blk_other _ h, blk_other _ h]
theorem put5_size {w : World} {g o : Nat} (t : LT) : (put5 w g o t).heap.size = w.heap.size := by
  unfold put5
  simp only [set_size]
theorem put5_below {w : World} {g o : Nat} (t : LT) {B : Nat} (hB : B ≤ g) : Below B w (put5 w g o t) := by
  unfold put5
  exact ((((((Below.refl _ _).setCell hB _).setCell hB _).setCell hB _).setCell hB _).setCell hB _)
def set5 (cs : Array Value) (o : Nat) (t : LT) : Array Value := ((((cs.setIfInBounds o (.int .i64 t.k)).setIfInBounds (o + 1) (.int .i64 t.n)).setIfInBounds (o + 2) (.int .i64 t.e)).setIfInBounds (o + 3) (.string t.s)).setIfInBounds (o + 4) t.row
theorem put5_block {w : World} {g o : Nat} {cs : Array Value} {T : TypeId} (t : LT) (h : w.heap[g]? = some (.cells cs T (0, 0))) : (put5 w g o t).heap[g]? = some (.cells (set5 cs o t) T (0, 0)) := by
  unfold put5 set5
  exact blk_set (blk_set (blk_set (blk_set (blk_set h _) _) _) _) _
theorem set5_size (cs : Array Value) (o : Nat) (t : LT) : (set5 cs o t).size = cs.size := by simp [set5]
theorem put5_at {w : World} {g o : Nat} {cs : Array Value} {T : TypeId} (t : LT) (h : w.heap[g]? = some (.cells cs T (0, 0))) (hs : o + 5 ≤ cs.size) : At5 (put5 w g o t) ⟨g, o, none⟩ t := by
  have hb := put5_block (o := o) t h
  have c : ∀ j, (put5 w g o t).cell? ⟨g, j, none⟩ = (set5 cs o t)[j]? := fun j => cell_of_row _ g j _ _ (0, 0) hb
  refine ⟨(c _).trans ?_, (c _).trans ?_, (c _).trans ?_, (c _).trans ?_, (c _).trans ?_⟩ <;> (unfold set5; simp [Array.getElem?_setIfInBounds]; try omega)
theorem put5_apart {w : World} {g o o' : Nat} {cs : Array Value} {T : TypeId} {t t' : LT} (h : w.heap[g]? = some (.cells cs T (0, 0))) (hap : o' + 5 ≤ o ∨ o + 5 ≤ o') (ha : At5 w ⟨g, o', none⟩ t') : At5 (put5 w g o t) ⟨g, o', none⟩ t' := by
  have hb := put5_block (o := o) t h
  have c : ∀ j, (put5 w g o t).cell? ⟨g, j, none⟩ = (set5 cs o t)[j]? := fun j => cell_of_row _ g j _ _ (0, 0) hb
  have d : ∀ j, w.cell? ⟨g, j, none⟩ = cs[j]? := fun j => cell_of_row _ g j _ _ (0, 0) h
  have e : ∀ j, (j < o ∨ o + 5 ≤ j) → (put5 w g o t).cell? ⟨g, j, none⟩ = w.cell? ⟨g, j, none⟩ := by
    intro j hj
    rw [c, d]
    unfold set5
    rw [Array.getElem?_setIfInBounds_ne (by omega), Array.getElem?_setIfInBounds_ne (by omega), Array.getElem?_setIfInBounds_ne (by omega), Array.getElem?_setIfInBounds_ne (by omega), Array.getElem?_setIfInBounds_ne (by omega)]
  exact ⟨(e _ (by omega)).trans ha.c0, (e _ (by simp only; omega)).trans ha.c1, (e _ (by simp only; omega)).trans ha.c2, (e _ (by simp only; omega)).trans ha.c3, (e _ (by simp only; omega)).trans ha.c4⟩

end Go.Proofs.YtnaghafmpncdkaaDoor.val
/-
  A slice of strings that a call has made, and what it reads as.
-/
namespace Go.Proofs.YtnaghafmpncdkaaDoor.strs
open Go.ChangeShapes Go.WideShapes Go.ChangeAt Go.RowKit
set_option maxRecDepth 100000

def encS (b : ByteArray) : Value := .string b
theorem oneS (x : ByteArray) : (encS x).oneCell' = true := rfl

/-- A slice of strings that reads as l. -/
structure ReadS (w : World) (v : Value) (l : List ByteArray) (a : Option Addr) (c : Nat) (g : Nat) : Prop where
  val : v = .slice a l.length c
  adr : 0 < l.length → a = some ⟨g, 0, none⟩
  cell : ∀ j (h : j < l.length), w.cell? ⟨g, j, none⟩ = some (.string l[j])
theorem readS_of {w : World} {base : Nat} {v : Value} {l : List ByteArray} (h : OwnL w base 9 encS v l) : ∃ a c g, ReadS w v l a c g := by
  rcases h.2 with ⟨rfl, hn⟩ | ⟨g, cap, cur, rfl, hb, hg, hc, hm, hs, ht⟩
  · exact ⟨none, 0, 0, by rw [hn], fun h0 => by omega, fun j hj => by omega⟩
  · exact ⟨_, cap, g, rfl, fun _ => rfl, fun j hj => h.cell j hj⟩

theorem ownL_store {w : World} {base g cap : Nat} {l : List ByteArray} (h : OwnL w base 9 encS (.slice (some ⟨g, 0, none⟩) l.length cap) l) (j : Nat) (x : ByteArray) :
    OwnL (w.setCell ⟨g, j, none⟩ (.string x)) base 9 encS (.slice (some ⟨g, 0, none⟩) l.length cap) (l.set j x) ∧ w.grownBy (w.setCell ⟨g, j, none⟩ (.string x)) (some g) := by
  obtain ⟨h1, h2⟩ := World.ownsRow.stored h j (.string x)
  refine ⟨?_, h2⟩
  unfold OwnL
  rw [List.length_set, List.map_set]
  exact h1
theorem grown_of_below {w w1 w' : World} {row : Option Nat} (hg : w.grownBy w1 row) (hb : Below w1.heap.size w1 w') : w.grownBy w' row :=
  hg.trans ⟨hb.os, hb.tape, hb.output, hb.size, fun k hk _ => hb.block k hk⟩

end Go.Proofs.YtnaghafmpncdkaaDoor.strs
