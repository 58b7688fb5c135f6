/-
  What spec.DecText and impl.DecText return: the decimal numeral of any int.
-/
import Derived.Test.YthjholhjkahdkaaRows
import Derived.Lib.ItoaNum
import Derived.Lib.ItoaLen
import Derived.Lib.Strings
import Derived.Lib.Hide
import Derived.WalkKit
import Derived.ProofKit
import Derived.OpenShut
import Derived.WalkLawsBesides
import Derived.WalkSpells
namespace Go.Proofs.Ythjholhjkahdkaa.decText
open Go.ChangeShapes Go.WideShapes Go.ChangeAt Go.RowKit
set_option maxRecDepth 100000

/-- The digits of a number, none for 0. -/
def digs (u : Nat) : List UInt8 := if u = 0 then [] else digs (u / 10) ++ [UInt8.ofNat (48 + u % 10)]
theorem digs_zero : digs 0 = [] := by unfold digs; rfl
theorem digs_step {u : Nat} (h : 0 < u) : digs u = digs (u / 10) ++ [UInt8.ofNat (48 + u % 10)] := by
  rw [digs, if_neg (by omega)]
theorem digs_eq : ∀ u : Nat, 0 < u → digs u = Lib.decDigits u := by
  intro u
  induction u using Nat.strongRecOn with
  | ind u ih =>
    intro h
    rw [digs_step h, Lib.decDigits]
    by_cases hs : u < 10
    · rw [dif_pos hs, show u / 10 = 0 by omega, digs_zero, show u % 10 = u by omega]; rfl
    · rw [dif_neg hs, ih (u / 10) (by omega) (by omega)]

theorem piece_fin : ∀ d : Fin 10, (ByteArray.mk #[48, 49, 50, 51, 52, 53, 54, 55, 56, 57]).extract d.val (d.val + 1) = ⟨#[UInt8.ofNat (48 + d.val)]⟩ := by decide +kernel
theorem piece (d : Nat) (h : d < 10) (out : List UInt8) : (ByteArray.mk #[48, 49, 50, 51, 52, 53, 54, 55, 56, 57]).extract d (d + 1) ++ (⟨out.toArray⟩ : ByteArray) = ⟨(UInt8.ofNat (48 + d) :: out).toArray⟩ := by
  rw [piece_fin ⟨d, h⟩]
  apply ByteArray.ext
  apply Array.toList_inj.1
  rw [ByteArray.data_append]
  simp
theorem minus (out : List UInt8) : (ByteArray.mk #[45]) ++ (⟨out.toArray⟩ : ByteArray) = ⟨((45 : UInt8) :: out).toArray⟩ := by
  apply ByteArray.ext
  apply Array.toList_inj.1
  rw [ByteArray.data_append]
  simp
/-- How much has been written when v is left of u. -/
structure Left (u v : Nat) (out : List UInt8) : Prop where
  digits : digs u = digs v ++ out
  small : v * 10 ^ out.length ≤ u
theorem Left.step {u v : Nat} {out : List UInt8} (h : Left u v out) (hv : 0 < v) : Left u (v / 10) (UInt8.ofNat (48 + v % 10) :: out) := by
  refine ⟨?_, ?_⟩
  · rw [h.digits, digs_step hv]; simp
  · rw [List.length_cons, Nat.pow_succ, Nat.mul_comm (10 ^ out.length), ← Nat.mul_assoc]
    exact Nat.le_trans (Nat.mul_le_mul_right _ (by omega)) h.small
theorem Left.len {u v : Nat} {out : List UInt8} (h : Left u v out) (hv : 0 < v) (hu : u < 10 ^ 19) : out.length < 19 := by
  have h1 := h.small
  have h2 : 10 ^ out.length ≤ v * 10 ^ out.length := Nat.le_mul_of_pos_left _ hv
  exact (Nat.pow_lt_pow_iff_right (by omega)).1 (Nat.lt_of_le_of_lt (Nat.le_trans h2 h1) hu)
theorem ret_str {a b : ByteArray} (h : a = b) : Ending.returned (.string a) = .returned (.string b) := by rw [h]

theorem spec_zero (w : World) : Calls Try.prog 47 #[.int .i64 0] w fun e w' => e = .returned (.string ⟨#[48]⟩) ∧ w = w' := by
  go_enter Try.func47, Try.ntmps47
  go_wp2
  go_ret
  exact ⟨rfl, rfl⟩

set_option maxHeartbeats 1000000 in
theorem spec_pos (u : Nat) (h0 : 0 < u) (h1 : u ≤ 9223372036854775807) (w : World) :
    Calls Try.prog 47 #[.int .i64 u] w fun e w' => e = .returned (.string ⟨(Lib.decDigits u).toArray⟩) ∧ w = w' := by
  have hz : ((u : Int) == 0) = false := by simp; omega
  go_enter Try.func47, Try.ntmps47
  go_wp2
  go_loop [3, 4, 5] (fun o m _ => ∃ (v : Nat) (out : List UInt8), v ≤ u ∧ m = .int .i64 v ∧ o = .string ⟨out.toArray⟩ ∧ Left u v out) (fun _ m _ => (intOf m).toNat)
  case atStart => exact ⟨u, [], Nat.le_refl _, rfl, rfl, by simp, by simp⟩
  case round =>
    obtain ⟨v, out, hv, rfl, rfl, HD⟩ := hrel
    by_cases hlt : 0 < v
    · have hne : ((v : Int) != 0) = true := by simp; omega
      have hlen := HD.len hlt (by omega)
      have R1 := HD.step hlt
      clear HD
      go_wp2
      refine ⟨⟨v / 10, _, by omega, by congr 1, ?_, R1⟩, by simp [intOf]; omega⟩
      rw [piece (v % 10) (by omega)]
    · have e : v = 0 := by omega
      subst e
      have E : Hid (out = Lib.decDigits u) := by have := HD.digits; rw [digs_zero, digs_eq u h0] at this; exact this.symm
      clear HD
      go_wp2
      go_ret
      exact ⟨by rw [← E.out]; rfl, rfl⟩

set_option maxHeartbeats 1000000 in
theorem spec_neg (u : Nat) (h0 : 0 < u) (h1 : u ≤ 9223372036854775808) (w : World) :
    Calls Try.prog 47 #[.int .i64 (-(u : Int))] w fun e w' => e = .returned (.string ⟨((45 : UInt8) :: Lib.decDigits u).toArray⟩) ∧ w = w' := by
  have hz : ((-(u : Int)) == 0) = false := by simp; omega
  go_enter Try.func47, Try.ntmps47
  go_wp2
  go_loop [3, 4, 5] (fun o m _ => ∃ (v : Nat) (out : List UInt8), v ≤ u ∧ m = .int .i64 (-(v : Int)) ∧ o = .string ⟨out.toArray⟩ ∧ Left u v out) (fun _ m _ => (-(intOf m)).toNat)
  case atStart => exact ⟨u, [], Nat.le_refl _, rfl, rfl, by simp, by simp⟩
  case round =>
    obtain ⟨v, out, hv, rfl, rfl, HD⟩ := hrel
    by_cases hlt : 0 < v
    · have hne : ((-(v : Int)) != 0) = true := by simp; omega
      have hlen := HD.len hlt (by omega)
      have R1 := HD.step hlt
      clear HD
      go_wp2
      · refine ⟨⟨v / 10, _, by omega, by congr 1, ?_, R1⟩, by simp [intOf]; omega⟩
        rw [piece (v % 10) (by omega)]
      · have hz0 : (v : Int) % 10 ≤ 0 := by assumption
        refine ⟨⟨v / 10, _, by omega, by congr 1, ?_, R1⟩, by simp [intOf]; omega⟩
        rw [show (-((v : Int) % 10)).toNat = v % 10 by omega, show (-((v : Int) % 10) + 1).toNat = v % 10 + 1 by omega, piece (v % 10) (by omega)]
    · have e : v = 0 := by omega
      subst e
      have E : Hid (out = Lib.decDigits u) := by have := HD.digits; rw [digs_zero, digs_eq u h0] at this; exact this.symm
      have hlen : out.length ≤ 20 := by rw [E.out, Lib.decDigits_length]; exact Lib.nDigits_le20 u (by omega)
      clear HD
      go_wp2
      go_ret
      exact ⟨by rw [← E.out]; exact ret_str (minus out), rfl⟩

theorem spec_any (n : Int) (h0 : -9223372036854775808 ≤ n) (h1 : n ≤ 9223372036854775807) (w : World) :
    Calls Try.prog 47 #[.int .i64 n] w fun e w' => e = .returned (.string ⟨(Lib.itoa n).toArray⟩) ∧ w = w' := by
  unfold Lib.itoa
  by_cases hn : n < 0
  · rw [if_pos hn]
    have := spec_neg n.natAbs (by omega) (by omega) w
    rw [show (-(n.natAbs : Int)) = n by omega] at this
    exact this
  · rw [if_neg hn]
    by_cases hz : n = 0
    · subst hz
      rw [show Int.toNat 0 = 0 from rfl, Lib.decDigits_one (by omega)]
      exact spec_zero w
    · have := spec_pos n.toNat (by omega) (by omega) w
      rw [show ((n.toNat : Nat) : Int) = n by omega] at this
      exact this
end Go.Proofs.Ythjholhjkahdkaa.decText
