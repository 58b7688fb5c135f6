/-
  What the laws' helpers eqStringS, markStringS, heldStringS and markText do to slices of strings that a call has made: equal lists are equal; a mark in each place; the marks are held.
-/
import Derived.Test.YthjholhjkahdkaaRows
import Derived.Test.YthjholhjkahdkaaOwn
import Derived.Test.YthjholhjkahdkaaStrRead
import Derived.Test.YthjholhjkahdkaaDecTextWalk
import Derived.Test.YthjholhjkahdkaaPutSignWalk
import Derived.Deep.QuietTactic
import Derived.BigQuiet
import Derived.Deep.RegionWith
import Derived.Lib.Hide
namespace Go.Proofs.Ythjholhjkahdkaa.strs
open Go.ChangeShapes Go.WideShapes Go.ChangeAt Go.RowKit
set_option maxRecDepth 100000

/-- The mark of a number: an m and its digits. -/
def markB (k : Nat) : ByteArray := ⟨((109 : UInt8) :: decText.digs k).toArray⟩
theorem glue (d : Nat) (h : d < 10) (out : List UInt8) : strOfNums [(48 + (d : Int))] ++ (⟨out.toArray⟩ : ByteArray) = ⟨(UInt8.ofNat (48 + d) :: out).toArray⟩ := by
  apply ByteArray.ext
  apply Array.toList_inj.1
  rw [ByteArray.data_append]
  simp [strOfNums]
  rw [show ((48 : Int) + (d : Int)).toNat = 48 + d by omega]
  simp
theorem em (out : List UInt8) : (ByteArray.mk #[109]) ++ (⟨out.toArray⟩ : ByteArray) = ⟨((109 : UInt8) :: out).toArray⟩ := by
  apply ByteArray.ext
  apply Array.toList_inj.1
  rw [ByteArray.data_append]
  simp

/-- The marks of k0, k0+1, .. in n places. -/
def marks (k0 n : Nat) : List ByteArray := (List.range n).map fun j => markB (k0 + j)
theorem marks_length (k0 n : Nat) : (marks k0 n).length = n := by simp [marks]
theorem marks_get (k0 n j : Nat) (h : j < (marks k0 n).length) : (marks k0 n)[j] = markB (k0 + j) := by simp [marks]
theorem marks_succ (k0 n : Nat) : marks k0 (n + 1) = marks k0 n ++ [markB (k0 + n)] := by simp [marks, List.range_succ]
def mixed (k0 k : Nat) (l : List ByteArray) : List ByteArray := marks k0 k ++ l.drop k
theorem mixed_length (k0 k : Nat) (l : List ByteArray) (h : k ≤ l.length) : (mixed k0 k l).length = l.length := by simp [mixed, marks_length]; omega
theorem mixed_set (k0 k : Nat) (l : List ByteArray) (h : k < l.length) : (mixed k0 k l).set k (markB (k0 + k)) = mixed k0 (k + 1) l := by
  unfold mixed
  rw [marks_succ, List.set_append_right _ _ (by rw [marks_length]; exact Nat.le_refl _), marks_length, Nat.sub_self, List.append_assoc]
  congr 1
  rw [List.drop_eq_getElem_cons h]
  rfl
theorem mixed_all (k0 : Nat) (l : List ByteArray) : mixed k0 l.length l = marks k0 l.length := by simp [mixed]

end Go.Proofs.Ythjholhjkahdkaa.strs
