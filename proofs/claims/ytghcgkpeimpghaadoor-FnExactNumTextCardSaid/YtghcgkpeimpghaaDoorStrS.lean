/-
  What the laws' helpers eqStringS, markStringS, heldStringS and markText do to slices of strings that a call has made: equal lists are equal; a mark in each place; the marks are held.
-/
import Derived.Test.YtghcgkpeimpghaaDoorRows
import Derived.Test.YtghcgkpeimpghaaDoorOwn
import Derived.Test.YtghcgkpeimpghaaDoorStrRead
import Derived.Test.YtghcgkpeimpghaaDoorDecTextWalk
import Derived.Test.YtghcgkpeimpghaaDoorPutSignWalk
import Derived.Deep.QuietTactic
import Derived.BigQuiet
import Derived.Deep.RegionWith
import Derived.Lib.Hide
namespace Go.Proofs.YtghcgkpeimpghaaDoor.strs
open Go.ChangeShapes Go.WideShapes Go.ChangeAt Go.RowKit
set_option maxRecDepth 100000

/-- The mark of a number: an m and its digits. -/
def markB (k : Nat) : ByteArray := ⟨((109 : UInt8) :: decText.digs k).toArray⟩
theorem glue (d : Nat) (h : d < 10) (out : List UInt8) : strOfNums [(48 + (d : Int))] ++ (⟨out.toArray⟩ : ByteArray) = ⟨(UInt8.ofNat (48 + d) :: out).toArray⟩ := by
  apply ByteArray.ext
  apply Array.toList_inj.1
  rw [ByteArray.data_append]
  simp [strOfNums]
  rw [show ((48 : Int) + (d : Int)).toNat = 48 + d by omega]
  simp
theorem em (out : List UInt8) : (ByteArray.mk #[109]) ++ (⟨out.toArray⟩ : ByteArray) = ⟨((109 : UInt8) :: out).toArray⟩ := by
  apply ByteArray.ext
  apply Array.toList_inj.1
  rw [ByteArray.data_append]
  simp

set_option maxHeartbeats 1000000 in
theorem text_any (k : Nat) (h0 : 0 < k) (h1 : k ≤ 1000000000000) (w : World) :
    Calls Tryd.prog 64 #[.int .i64 k] w fun e w' => e = .returned (.string (markB k)) ∧ Below w.heap.size w w' := by
  have c1 := putSign.conv1
  have hz1 : ∀ x : Int, (strOfNums [x]).size = 1 := fun x => strOfNums_size [x]
  have hk00 : decide (k = 0) = false := by simp; omega
  go_enter Tryd.func64, Tryd.ntmps64
  go_wp2
  go_loopw [0, 3] (fun m o wr => ∃ (v : Nat) (out : List UInt8), v ≤ k ∧ m = .int .i64 v ∧ o = .string ⟨out.toArray⟩ ∧ decText.Left k v out ∧ Below w.heap.size w wr) (fun m _ _ => (intOf m).toNat)
  case atStart => exact ⟨k, [], Nat.le_refl _, rfl, rfl, ⟨by simp, by simp⟩, Below.refl _ _⟩
  case round =>
    obtain ⟨v, out, hv, rfl, rfl, HD, hb⟩ := hrel
    have hsz := hb.size
    by_cases hlt : 0 < v
    · have hlen := HD.len hlt (by omega)
      have R1 := HD.step hlt
      clear HD
      obtain ⟨d, hd, hd10, HDD⟩ : ∃ d : Nat, (48 + (v : Int) % 10) = ((48 + d : Nat) : Int) ∧ d < 10 ∧ Hid (d = v % 10) := ⟨v % 10, by omega, by omega, rfl⟩
      go_wp2
      refine ⟨⟨v / 10, _, by omega, by congr 1, ?_, R1, hb.alloc hsz _⟩, by simp [intOf]; omega⟩
      rw [glue d hd10, HDD.out]
    · have e : v = 0 := by omega
      subst e
      have E : Hid (out = decText.digs k) := by have := HD.digits; rw [decText.digs_zero] at this; exact this.symm
      have hlen : out.length ≤ 20 := by rw [E.out, decText.digs_eq k h0, Lib.decDigits_length]; exact Lib.nDigits_le20 k (by omega)
      clear HD
      go_wp2
      go_ret
      exact ⟨by rw [markB, ← E.out]; exact decText.ret_str (em out), hb⟩

/-- The marks of k0, k0+1, .. in n places. -/
def marks (k0 n : Nat) : List ByteArray := (List.range n).map fun j => markB (k0 + j)
theorem marks_length (k0 n : Nat) : (marks k0 n).length = n := by simp [marks]
theorem marks_get (k0 n j : Nat) (h : j < (marks k0 n).length) : (marks k0 n)[j] = markB (k0 + j) := by simp [marks]
theorem marks_succ (k0 n : Nat) : marks k0 (n + 1) = marks k0 n ++ [markB (k0 + n)] := by simp [marks, List.range_succ]
def mixed (k0 k : Nat) (l : List ByteArray) : List ByteArray := marks k0 k ++ l.drop k
theorem mixed_length (k0 k : Nat) (l : List ByteArray) (h : k ≤ l.length) : (mixed k0 k l).length = l.length := by simp [mixed, marks_length]; omega
theorem mixed_set (k0 k : Nat) (l : List ByteArray) (h : k < l.length) : (mixed k0 k l).set k (markB (k0 + k)) = mixed k0 (k + 1) l := by
  unfold mixed
  rw [marks_succ, List.set_append_right _ _ (by rw [marks_length]; exact Nat.le_refl _), marks_length, Nat.sub_self, List.append_assoc]
  congr 1
  rw [List.drop_eq_getElem_cons h]
  rfl
theorem mixed_all (k0 : Nat) (l : List ByteArray) : mixed k0 l.length l = marks k0 l.length := by simp [mixed]

end Go.Proofs.YtghcgkpeimpghaaDoor.strs
