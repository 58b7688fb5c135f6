/-
  Values of Go's struct 'Value' (a kind, two numbers, a text, a list of further ones) as trees, and how such a tree lies in memory. Of either package's type: the cells are alike.
-/
import Derived.Test.YthjholhjkahdkaaRows
import Derived.Test.YthjholhjkahdkaaOwn
import Derived.WalkKit
import Derived.ProofKit
import Derived.OpenShut
import Derived.WalkLawsBesides
import Derived.Deep.QuietTactic
import Derived.BigQuiet
import Derived.Deep.RegionWith
import Derived.Deep.MidRow
import Derived.Deep.Slices
import Derived.Lib.Hide
namespace Go.Proofs.Ythjholhjkahdkaa.val
open Go.ChangeShapes Go.WideShapes Go.ChangeAt Go.RowKit
set_option maxRecDepth 100000

def InI (z : Int) : Prop := -9223372036854775808 ≤ z ∧ z ≤ 9223372036854775807
/-- A value with the places of its lists. -/
inductive LT where
  | mk (k n e : Int) (s : ByteArray) (a : Option Addr) (cap : Nat) (kids : List LT)
namespace LT
def k : LT → Int | .mk k _ _ _ _ _ _ => k
def n : LT → Int | .mk _ n _ _ _ _ _ => n
def e : LT → Int | .mk _ _ e _ _ _ _ => e
def s : LT → ByteArray | .mk _ _ _ s _ _ _ => s
def a : LT → Option Addr | .mk _ _ _ _ a _ _ => a
def cap : LT → Nat | .mk _ _ _ _ _ c _ => c
def kids : LT → List LT | .mk _ _ _ _ _ _ l => l
/-- Its list, as a cell. -/
def row (t : LT) : Value := .slice t.a t.kids.length t.cap
def val (t : LT) : Value := .agg #[.int .i64 t.k, .int .i64 t.n, .int .i64 t.e, .string t.s, t.row]
mutual
/-- How many letters and elements it holds. -/
def sz : LT → Nat
  | .mk _ _ _ s _ _ kids => s.size + szL kids
def szL : List LT → Nat
  | [] => 0
  | t :: ts => 1 + sz t + szL ts
end
mutual
def nodes : LT → Nat
  | .mk _ _ _ _ _ _ kids => 1 + nodesL kids
def nodesL : List LT → Nat
  | [] => 0
  | t :: ts => nodes t + nodesL ts
end
end LT
/-- The five cells of a value from p on. -/
structure At5 (w : World) (p : Addr) (t : LT) : Prop where
  c0 : w.cell? p = some (.int .i64 t.k)
  c1 : w.cell? ⟨p.block, p.off + 1, none⟩ = some (.int .i64 t.n)
  c2 : w.cell? ⟨p.block, p.off + 2, none⟩ = some (.int .i64 t.e)
  c3 : w.cell? ⟨p.block, p.off + 3, none⟩ = some (.string t.s)
  c4 : w.cell? ⟨p.block, p.off + 4, none⟩ = some t.row
/-- The value's lists lie in w, in blocks below B. -/
inductive In (w : World) (B : Nat) : LT → Prop
  | mk {k n e : Int} {s : ByteArray} {a : Option Addr} {cap : Nat} {kids : List LT} (hk : InI k) (hn : InI n) (he : InI e) (hs : s.size ≤ 9223372036854775807) (hl : kids.length ≤ cap ∧ cap ≤ 9223372036854775807)
      (hc : ∀ i (h : i < kids.length), ∃ x, a = some x ∧ x.block < B ∧ At5 w (x.add (i * 5)) kids[i]) (hkids : ∀ i (h : i < kids.length), In w B kids[i]) : In w B (.mk k n e s a cap kids)

theorem add_block (x : Addr) (k : Nat) : (x.add k).block = x.block := by unfold Addr.add; split <;> rfl
theorem At5.below {w w' : World} {B : Nat} {p : Addr} {t : LT} (h : At5 w p t) (hp : p.block < B) (hb : Below B w w') : At5 w' p t :=
  ⟨(hb.cell hp).trans h.c0, (hb.cell (p := ⟨p.block, p.off + 1, none⟩) hp).trans h.c1, (hb.cell (p := ⟨p.block, p.off + 2, none⟩) hp).trans h.c2, (hb.cell (p := ⟨p.block, p.off + 3, none⟩) hp).trans h.c3, (hb.cell (p := ⟨p.block, p.off + 4, none⟩) hp).trans h.c4⟩
theorem At5.list {w : World} {p : Addr} {t : LT} (h : At5 w p t) : ∀ j v, [Value.int .i64 t.k, .int .i64 t.n, .int .i64 t.e, .string t.s, t.row][j]? = some v → w.cell? (p.add j) = some v := by
  intro j v hv
  have hj : j < 5 := by
    have := (List.getElem?_eq_some_iff.1 hv).1
    simpa using this
  have hc : j = 0 ∨ j = 1 ∨ j = 2 ∨ j = 3 ∨ j = 4 := by omega
  rcases hc with rfl | rfl | rfl | rfl | rfl <;> simp at hv <;> subst hv
  · exact h.c0
  · exact h.c1
  · exact h.c2
  · exact h.c3
  · exact h.c4
/-- Such a value is loaded whole. -/
theorem run_load5 {P : Program} {w : World} {p : Addr} {t : LT} (h : At5 w p t) (ty : TypeId) (d : TypeDesc) (hu : P.underlying ty = some d) (hd : d.isRow = true) (hi : (P.info? ty).map (·.size) = some 5) :
    (Instr.loadAt ty (.pointer (some p))).run P w = .ok t.val w := by
  have hl := run_loadCells_list (P := P) w p [Value.int .i64 t.k, .int .i64 t.n, .int .i64 t.e, .string t.s, t.row] h.list
  cases hq : P.info? ty with
  | none => simp [hq] at hi
  | some i =>
    have hs : i.size = 5 := by simpa [hq] using hi
    have hagg : (isAgg ty).run P w = .ok true w := by
      unfold isAgg
      rw [Sem.run_bind, run_underlying hu w]
      cases d <;> simp_all
    simp only [List.length_cons, List.length_nil, Nat.reduceAdd] at hl
    simp [Instr.loadAt, Instr.sureAddr, loadVar, Sem.run_bind, hagg, sizeOf, typeInfo, hq, hs, hl, LT.val]
theorem sz_mk (t : LT) : t.sz = t.s.size + LT.szL t.kids := by cases t; simp [LT.sz, LT.s, LT.kids]
theorem szL_take (l : List LT) : ∀ j (h : j < l.length), LT.szL (l.take (j + 1)) = LT.szL (l.take j) + 1 + l[j].sz := by
  induction l with
  | nil => intro j h; simp at h
  | cons t ts ih =>
    intro j h
    cases j with
    | zero => simp [LT.szL]
    | succ j =>
      have := ih j (by simpa using h)
      simp only [List.take_succ_cons, LT.szL, List.getElem_cons_succ]
      omega
theorem szL_le (l : List LT) (j : Nat) : LT.szL (l.take j) ≤ LT.szL l := by
  induction l generalizing j with
  | nil => simp
  | cons t ts ih =>
    cases j with
    | zero => simp [LT.szL]
    | succ j => have := ih j; simp only [List.take_succ_cons, LT.szL]; omega
theorem szL_rest (l : List LT) : ∀ j, j ≤ l.length → LT.szL (l.take j) + (l.length - j) ≤ LT.szL l := by
  induction l with
  | nil => intro j h; simp at h; simp [h]
  | cons t ts ih =>
    intro j h
    cases j with
    | zero =>
      have := ih 0 (by omega)
      simp [LT.szL] at *
      omega
    | succ j =>
      have := ih j (by simpa using h)
      simp only [List.take_succ_cons, LT.szL, List.length_cons] at *
      omega
theorem szL_len (l : List LT) : l.length ≤ LT.szL l := by
  induction l with
  | nil => simp
  | cons t ts ih => simp only [List.length_cons, LT.szL]; omega

end Go.Proofs.Ythjholhjkahdkaa.val
