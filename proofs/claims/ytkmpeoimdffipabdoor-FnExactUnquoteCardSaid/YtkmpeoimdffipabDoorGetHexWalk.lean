/-
  What spec.GetHex and impl.GetHex return: the bytes that pairs of lower-case digits denote, and whether they are such pairs. For texts of at most 1048576 bytes.
-/
import Derived.Test.YtkmpeoimdffipabDoorRows
import Derived.Test.YtkmpeoimdffipabDoorOwn
import Derived.WalkKit
import Derived.ProofKit
import Derived.OpenShut
import Derived.WalkLawsBesides
import Derived.Laws.MakeOwn
import Derived.Deep.QuietTactic
import Derived.BigQuiet
import Derived.Lib.Hide
import Derived.Outline
namespace Go.Proofs.YtkmpeoimdffipabDoor.getHex
open Go.ChangeShapes Go.WideShapes Go.ChangeAt Go.RowKit

/-- The number of a lower-case hexadecimal digit, or -1. -/
def digitVal (b : UInt8) : Int := if 48 ≤ b.toNat ∧ b.toNat ≤ 57 then b.toNat - 48 else if 97 ≤ b.toNat ∧ b.toNat ≤ 102 then b.toNat - 87 else -1
theorem digitVal_range (b : UInt8) : -1 ≤ digitVal b ∧ digitVal b ≤ 15 := by unfold digitVal; split <;> (try split) <;> omega

theorem firstIdx_hex (b : UInt8) : firstIdx (ByteArray.mk #[48, 49, 50, 51, 52, 53, 54, 55, 56, 57, 97, 98, 99, 100, 101, 102]) b = digitVal b := by
  have : ∀ m : Fin 256, firstIdx (ByteArray.mk #[48, 49, 50, 51, 52, 53, 54, 55, 56, 57, 97, 98, 99, 100, 101, 102]) (UInt8.ofNat m.val) = digitVal (UInt8.ofNat m.val) := by decide +kernel
  have h := this ⟨b.toNat, b.toNat_lt⟩
  simpa using h

theorem info5 : (Tryd.prog.info? 5).map (fun i => (i.zero, i.size, i.bytes)) = some (some (.int .u8 0), 1, 1) := by kernel_rfl
theorem oneB (x : UInt8) : (encB x).oneCell' = true := rfl

theorem digit_any (b : UInt8) (w : World) :
    Calls Tryd.prog 18 #[.int .u8 b.toNat] w fun e w' => e = .returned (.int .i64 (digitVal b)) ∧ w' = w := by
  have hb := b.toNat_lt
  by_cases h1 : 48 ≤ b.toNat
  · by_cases h2 : b.toNat ≤ 57
    · have e : digitVal b = b.toNat - 48 := by unfold digitVal; rw [if_pos ⟨h1, h2⟩]
      rw [e]
      go_enter Tryd.func18, Tryd.ntmps18
      go_wp2
      all_goals go_ret
      all_goals exact ⟨rfl, rfl⟩
    · by_cases h3 : 97 ≤ b.toNat
      · by_cases h4 : b.toNat ≤ 102
        · have e : digitVal b = b.toNat - 87 := by unfold digitVal; rw [if_neg (by omega), if_pos ⟨h3, h4⟩]
          rw [e]
          go_enter Tryd.func18, Tryd.ntmps18
          go_wp2
          all_goals go_ret
          all_goals exact ⟨rfl, rfl⟩
        · have e : digitVal b = -1 := by unfold digitVal; rw [if_neg (by omega), if_neg (by omega)]
          rw [e]
          go_enter Tryd.func18, Tryd.ntmps18
          go_wp2
          all_goals go_ret
          all_goals exact ⟨rfl, rfl⟩
      · have e : digitVal b = -1 := by unfold digitVal; rw [if_neg (by omega), if_neg (by omega)]
        rw [e]
        go_enter Tryd.func18, Tryd.ntmps18
        go_wp2
        all_goals go_ret
        all_goals exact ⟨rfl, rfl⟩
  · have e : digitVal b = -1 := by unfold digitVal; rw [if_neg (by omega), if_neg (by omega)]
    rw [e]
    go_enter Tryd.func18, Tryd.ntmps18
    go_wp2
    all_goals go_ret
    all_goals exact ⟨rfl, rfl⟩

theorem index_any (b : UInt8) (w : World) :
    Calls Tryd.prog 27 #[.string (ByteArray.mk #[48, 49, 50, 51, 52, 53, 54, 55, 56, 57, 97, 98, 99, 100, 101, 102]), .int .u8 b.toNat] w fun e w' => e = .returned (.int .i64 (digitVal b)) ∧ w = w' := by
  have hx : (callFunc 29 #[.string (ByteArray.mk #[48, 49, 50, 51, 52, 53, 54, 55, 56, 57, 97, 98, 99, 100, 101, 102]), .int .u8 b.toNat]).run Tryd.prog w = .ok (.value (.int .i64 (digitVal b))) w := by
    rw [run_callFunc_extern Tryd.func29 (by kernel_rfl) (by kernel_rfl) (by kernel_rfl) (e := Extern.BytealgIndexByte.indexByte) (by kernel_rfl), run_indexByte_string, ← firstIdx_hex b]
    simp [Result.andThen]
  go_enter Tryd.func27, Tryd.ntmps27
  go_wp2
  go_ret
  exact ⟨rfl, rfl⟩

/-! The plain function. -/
def at_ (s : ByteArray) (j : Nat) : UInt8 := s.data.toList.getD j 0
def hexBad (s : ByteArray) (j : Nat) : Bool := decide (digitVal (at_ s (2 * j)) < 0) || decide (digitVal (at_ s (2 * j + 1)) < 0)
def dec (s : ByteArray) (k : Nat) : List UInt8 := (List.range k).map fun j => UInt8.ofNat (16 * digitVal (at_ s (2 * j)) + digitVal (at_ s (2 * j + 1))).toNat
def hexOk (s : ByteArray) : Bool := s.size % 2 == 0 && (List.range (s.size / 2)).all fun j => !hexBad s j
def getHex (s : ByteArray) : ByteArray := if hexOk s then ⟨(dec s (s.size / 2)).toArray⟩ else ⟨#[]⟩

theorem at_eq (s : ByteArray) (j : Nat) (h : j < s.size) : s[j] = at_ s j := by
  unfold at_
  have h' : j < s.data.toList.length := by simpa using h
  rw [List.getD_eq_getElem?_getD, List.getElem?_eq_getElem h']
  rfl
theorem dec_succ (s : ByteArray) (k : Nat) : dec s (k + 1) = dec s k ++ [UInt8.ofNat (16 * digitVal (at_ s (2 * k)) + digitVal (at_ s (2 * k + 1))).toNat] := by
  simp [dec, List.range_succ]
theorem dec_length (s : ByteArray) (k : Nat) : (dec s k).length = k := by simp [dec]
theorem bad_at (s : ByteArray) (k : Nat) (h : 2 * k + 1 < s.size) (hb : hexBad s k = true) : hexOk s = false := by
  unfold hexOk
  rw [Bool.and_eq_false_iff]
  right
  rw [List.all_eq_false]
  exact ⟨k, List.mem_range.2 (by omega), by simp [hb]⟩
theorem odd_at (s : ByteArray) (h : s.size % 2 = 1) : hexOk s = false := by
  unfold hexOk; simp [h]
theorem ok_at (s : ByteArray) (h : s.size % 2 = 0) (hg : ∀ j, j < s.size / 2 → hexBad s j = false) : hexOk s = true := by
  unfold hexOk
  simp only [h, Bool.and_eq_true, List.all_eq_true, List.mem_range]
  exact ⟨rfl, fun j hj => by simp [hg j hj]⟩
theorem getHex_bad {s : ByteArray} (h : hexOk s = false) : getHex s = ⟨#[]⟩ := by unfold getHex; simp [h]
theorem getHex_ok {s : ByteArray} (h : hexOk s = true) : getHex s = ⟨(dec s (s.size / 2)).toArray⟩ := by unfold getHex; simp [h]
theorem ret2 {a b : ByteArray} {c d : Bool} (h : a = b) (h' : c = d) : Ending.returned (.tuple #[.string a, .bool c]) = .returned (.tuple #[.string b, .bool d]) := by rw [h, h']

theorem at_eq' (s : ByteArray) (m k : Nat) (hk : m = 2 * k) (h : m + 1 < s.size) : (s[m]'(by omega)) = at_ s (2 * k) ∧ s[m + 1] = at_ s (2 * k + 1) := by
  subst hk
  exact ⟨at_eq s _ (by omega), at_eq s _ h⟩
theorem quiet_same {f : FuncId} {args : Array Value} {v : Value} (h : ∀ w, Calls Tryd.prog f args w fun e w' => e = .returned v ∧ w' = w) (w : World) (n : Nat) :
    Calls Tryd.prog f args (w.drewN n) fun e w'' => e = .returned v ∧ ∃ m, w'' = w.drewN m := (h _).mono fun _ _ ⟨he, hm⟩ => ⟨he, n, hm⟩

end Go.Proofs.YtkmpeoimdffipabDoor.getHex
