/-
  What spec.DecText and impl.DecText return: the decimal numeral of any int.
-/
import Derived.Test.YtnfbjcpoealkoaaRows
import Derived.Lib.ItoaNum
import Derived.Lib.ItoaLen
import Derived.Lib.Strings
import Derived.Lib.Hide
import Derived.WalkKit
import Derived.ProofKit
import Derived.OpenShut
import Derived.WalkLawsBesides
import Derived.WalkSpells
namespace Go.Proofs.Ytnfbjcpoealkoaa.decText
open Go.ChangeShapes Go.WideShapes Go.ChangeAt Go.RowKit
set_option maxRecDepth 100000

/-- The digits of a number, none for 0. -/
def digs (u : Nat) : List UInt8 := if u = 0 then [] else digs (u / 10) ++ [UInt8.ofNat (48 + u % 10)]
theorem digs_zero : digs 0 = [] := by unfold digs; rfl
theorem digs_step {u : Nat} (h : 0 < u) : digs u = digs (u / 10) ++ [UInt8.ofNat (48 + u % 10)] := by
  rw [digs, if_neg (by omega)]
theorem digs_eq : ∀ u : Nat, 0 < u → digs u = Lib.decDigits u := by
  intro u
  induction u using Nat.strongRecOn with
  | ind u ih =>
    intro h
    rw [digs_step h, Lib.decDigits]
    by_cases hs : u < 10
    · rw [dif_pos hs, show u / 10 = 0 by omega, digs_zero, show u % 10 = u by omega]; rfl
    · rw [dif_neg hs, ih (u / 10) (by omega) (by omega)]

theorem piece_fin : ∀ d : Fin 10, (ByteArray.mk #[48, 49, 50, 51, 52, 53, 54, 55, 56, 57]).extract d.val (d.val + 1) = ⟨#[UInt8.ofNat (48 + d.val)]⟩ := by decide +kernel
theorem piece (d : Nat) (h : d < 10) (out : List UInt8) : (ByteArray.mk #[48, 49, 50, 51, 52, 53, 54, 55, 56, 57]).extract d (d + 1) ++ (⟨out.toArray⟩ : ByteArray) = ⟨(UInt8.ofNat (48 + d) :: out).toArray⟩ := by
  rw [piece_fin ⟨d, h⟩]
  apply ByteArray.ext
  apply Array.toList_inj.1
  rw [ByteArray.data_append]
  simp
theorem minus (out : List UInt8) : (ByteArray.mk #[45]) ++ (⟨out.toArray⟩ : ByteArray) = ⟨((45 : UInt8) :: out).toArray⟩ := by
  apply ByteArray.ext
  apply Array.toList_inj.1
  rw [ByteArray.data_append]
  simp
/-- How much has been written when v is left of u. -/
structure Left (u v : Nat) (out : List UInt8) : Prop where
  digits : digs u = digs v ++ out
  small : v * 10 ^ out.length ≤ u
theorem Left.step {u v : Nat} {out : List UInt8} (h : Left u v out) (hv : 0 < v) : Left u (v / 10) (UInt8.ofNat (48 + v % 10) :: out) := by
  refine ⟨?_, ?_⟩
  · rw [h.digits, digs_step hv]; simp
  · rw [List.length_cons, Nat.pow_succ, Nat.mul_comm (10 ^ out.length), ← Nat.mul_assoc]
    exact Nat.le_trans (Nat.mul_le_mul_right _ (by omega)) h.small
theorem Left.len {u v : Nat} {out : List UInt8} (h : Left u v out) (hv : 0 < v) (hu : u < 10 ^ 19) : out.length < 19 := by
  have h1 := h.small
  have h2 : 10 ^ out.length ≤ v * 10 ^ out.length := Nat.le_mul_of_pos_left _ hv
  exact (Nat.pow_lt_pow_iff_right (by omega)).1 (Nat.lt_of_le_of_lt (Nat.le_trans h2 h1) hu)
theorem ret_str {a b : ByteArray} (h : a = b) : Ending.returned (.string a) = .returned (.string b) := by rw [h]

end Go.Proofs.Ytnfbjcpoealkoaa.decText
