/-
  What spec.Keys and impl.Keys return: the texts of a map's text keys, in order.
-/
import Derived.Test.YtdbkifndhkmfgaaValOwn
import Derived.Test.YtdbkifndhkmfgaaStrRead
import Derived.Test.YtdbkifndhkmfgaaShelfClone
namespace Go.Proofs.Ytdbkifndhkmfgaa.val
open Go.ChangeShapes Go.WideShapes Go.ChangeAt Go.RowKit
open Go.Proofs.Ytdbkifndhkmfgaa.strs (encS oneS)
set_option maxRecDepth 100000

def VT.k : VT → Int | .mk k _ _ _ _ => k
def VT.s : VT → ByteArray | .mk _ _ _ s _ => s
def VT.kids : VT → List VT | .mk _ _ _ _ l => l
theorem er_k (t : LT) : (er t).k = t.k := by rw [er_mk]; rfl
theorem er_s (t : LT) : (er t).s = t.s := by rw [er_mk]; rfl
/-- The text keys among the first m keys. -/
def keyAt (l : List VT) (m : Nat) : List ByteArray := match l[2 * m]? with | some v => if v.k = 5 then [v.s] else [] | none => []
def keysTo (l : List VT) : Nat → List ByteArray
  | 0 => []
  | m + 1 => keysTo l m ++ keyAt l m
def keysOf (v : VT) : List ByteArray := if v.k = 8 then keysTo v.kids ((v.kids.length + 1) / 2) else []
theorem keyAt_len (l : List VT) (m : Nat) : (keyAt l m).length ≤ 1 := by unfold keyAt; (repeat' split) <;> simp
theorem keysTo_len (l : List VT) : ∀ m, (keysTo l m).length ≤ m
  | 0 => by simp [keysTo]
  | m + 1 => by have := keysTo_len l m; have := keyAt_len l m; simp only [keysTo, List.length_append]; omega
theorem keyAt_yes (kids : List LT) (m i : Nat) (hi : i = 2 * m) (h : i < kids.length) (h5 : kids[i].k = 5) : keyAt (kids.map er) m = [kids[i].s] := by
  subst hi
  unfold keyAt
  rw [List.getElem?_map, List.getElem?_eq_getElem h]
  simp only [Option.map_some, er_k, er_s, h5, if_true]
theorem keyAt_no (kids : List LT) (m i : Nat) (hi : i = 2 * m) (h : i < kids.length) (h5 : kids[i].k ≠ 5) : keyAt (kids.map er) m = [] := by
  subst hi
  unfold keyAt
  rw [List.getElem?_map, List.getElem?_eq_getElem h]
  simp only [Option.map_some, er_k, if_neg h5]
theorem info9 : (Try.prog.info? 9).map (fun i => (i.zero, i.size, i.bytes)) = some (some (.string ⟨#[]⟩), 1, 16) := by kernel_rfl

def KeysC (F : FuncId) (w' : World) (t : LT) : Prop := Calls Try.prog F #[t.val] w' fun e w'' => ∃ v, e = .returned v ∧ OwnL w'' w'.heap.size 9 encS v (keysOf (er t)) ∧ Below w'.heap.size w' w''
/-- The boxed parameter's cells. -/
structure Boxed (wr : World) (N : Nat) (k : Int) (row : Value) : Prop where
  c0 : wr.cell? ⟨N, 0, none⟩ = some (.int .i64 k)
  c4 : wr.cell? ⟨N, 4, none⟩ = some row
theorem boxed_of {w' wr : World} {k n e : Int} {s : ByteArray} {row : Value} {T : TypeId} (h : Below (w'.heap.size + 1) (w'.alloc (.cells #[.int .i64 k, .int .i64 n, .int .i64 e, .string s, row] T)) wr) : Boxed wr w'.heap.size k row := by
  have hb := heap_alloc_new w' (.cells #[.int .i64 k, .int .i64 n, .int .i64 e, .string s, row] T)
  have hb2 := (h.block w'.heap.size (by omega)).trans hb
  exact ⟨cell_of_row wr _ 0 _ _ (0, 0) hb2, cell_of_row wr _ 4 _ _ (0, 0) hb2⟩

theorem clone_any (s : ByteArray) (w : World) (hs : s.size ≤ 281474976710656) :
    Calls Try.prog 36 #[.string s] w fun e w' => e = .returned (.string s) ∧ Below w.heap.size w w' := by
  have C := Lib.hid (Try.stringslite_Clone s w hs)
  go_enter Try.func36, Try.ntmps36
  go_wp2_with fail
  with_reducible refine C.out.mono ?_
  rintro e w1 ⟨rfl, hb⟩
  go_wp2
  go_ret
  exact ⟨rfl, hb⟩

end Go.Proofs.Ytdbkifndhkmfgaa.val
