/-
  Plain facts (no Go text): the notation of a number.
-/
import Derived.Lib.ItoaNum
import Derived.Lib.ItoaLen
import Derived.WalkKit
import Derived.Test.YtghcgkpeimpghaaDoorRows
import Derived.Lib.Strings
import Derived.Lib.Repeat
namespace Go.Proofs.YtghcgkpeimpghaaDoor.numtext

/-- Digits with noughts ahead: more than K of them. -/
def padL (l : List UInt8) (K : Nat) : List UInt8 := List.replicate (K + 1 - l.length) 48 ++ l
def headL (l : List UInt8) (K : Nat) : List UInt8 := (padL l K).take ((padL l K).length - K)
def tailL (l : List UInt8) (K : Nat) : List UInt8 := (padL l K).drop ((padL l K).length - K)
def pointL (l : List UInt8) (K : Nat) : List UInt8 := headL l K ++ 46 :: tailL l K
def textL (n e : Int) : List UInt8 :=
  if 0 < e then Lib.itoa n ++ 101 :: Lib.itoa e else
  if e = 0 then Lib.itoa n else
  (if n < 0 then [45] else []) ++ pointL (Lib.decDigits n.natAbs) (-e).toNat
theorem padL_len (l : List UInt8) (K : Nat) : (padL l K).length = max (K + 1) l.length := by
  unfold padL
  rw [List.length_append, List.length_replicate]
  omega
theorem pad_step (l : List UInt8) (K : Nat) (h : l.length ≤ K) : padL (48 :: l) K = padL l K := by
  unfold padL
  rw [List.length_cons, show K + 1 - l.length = (K + 1 - (l.length + 1)) + 1 by omega, List.replicate_succ', List.append_assoc]
  rfl
theorem pad_end (l : List UInt8) (K : Nat) (h : ¬ l.length ≤ K) : padL l K = l := by
  unfold padL
  rw [show K + 1 - l.length = 0 by omega]
  rfl
theorem itoa_neg {n : Int} (h : n < 0) : Lib.itoa n = 45 :: Lib.decDigits n.natAbs := if_pos h
theorem itoa_pos {n : Int} (h : ¬ n < 0) : Lib.itoa n = Lib.decDigits n.natAbs := by unfold Lib.itoa; rw [if_neg h]; congr 1; omega
theorem dig_len (u : Nat) (h : u < 18446744073709551616) : 1 ≤ (Lib.decDigits u).length ∧ (Lib.decDigits u).length ≤ 20 := by
  rw [Lib.decDigits_length]
  exact ⟨Lib.nDigits_pos u, Lib.nDigits_le20 u h⟩
theorem digit_byte (d : Nat) (h : d < 10) : (UInt8.ofNat (48 + d)).toNat = 48 + d := by simp; omega
theorem dig_all : ∀ u : Nat, ∀ b ∈ Lib.decDigits u, 48 ≤ b.toNat ∧ b.toNat ≤ 57 := by
  intro u
  induction u using Nat.strongRecOn with
  | ind u ih =>
    rw [Lib.decDigits]
    by_cases h : u < 10
    · rw [dif_pos h]
      intro b hb
      simp only [List.mem_singleton] at hb
      rw [hb, digit_byte u h]
      omega
    · rw [dif_neg h]
      intro b hb
      rcases List.mem_append.1 hb with hb | hb
      · exact ih (u / 10) (by omega) b hb
      · simp only [List.mem_singleton] at hb
        rw [hb, digit_byte (u % 10) (by omega)]
        omega
theorem dig_head (u : Nat) : Lib.hasPrefix (Lib.decDigits u) [45] = false := by
  have h1 := dig_all u
  cases h : Lib.decDigits u with
  | nil => rfl
  | cons x l =>
    rw [h] at h1
    have h2 := h1 x (by simp)
    unfold Lib.hasPrefix
    rw [List.isPrefixOf_cons_cons]
    have : (45 : UInt8) ≠ x := by
      rintro rfl
      revert h2
      decide
    simp [this]
theorem cut_neg {n : Int} (h : n < 0) : Lib.trimPrefix (Lib.itoa n) [45] = Lib.decDigits n.natAbs ∧ Lib.hasPrefix (Lib.itoa n) [45] = true := by
  have e : Lib.hasPrefix (45 :: Lib.decDigits n.natAbs) [45] = true := by simp [Lib.hasPrefix]
  rw [itoa_neg h]
  unfold Lib.trimPrefix
  rw [if_pos e]
  exact ⟨rfl, e⟩
theorem cut_pos {n : Int} (h : ¬ n < 0) : Lib.trimPrefix (Lib.itoa n) [45] = Lib.decDigits n.natAbs ∧ Lib.hasPrefix (Lib.itoa n) [45] = false := by
  rw [itoa_pos h]
  unfold Lib.trimPrefix
  rw [dig_head]
  exact ⟨rfl, rfl⟩
theorem rep_zero (c : Nat) : Lib.repeatL [48] c = List.replicate c 48 := by
  have := Lib.repeatL_replicate 48 1 c
  rw [Nat.mul_one] at this
  exact this
theorem join_bytes (a b : List UInt8) : (⟨a.toArray⟩ : ByteArray) ++ ⟨b.toArray⟩ = ⟨(a ++ b).toArray⟩ := by
  apply ByteArray.ext
  simp
theorem cut_list (l : List UInt8) (i j : Nat) (h : j ≤ l.length) : (⟨l.toArray⟩ : ByteArray).extract i j = ⟨((l.drop i).take (j - i)).toArray⟩ := by
  apply ByteArray.ext
  apply Array.toList_inj.1
  rw [ByteArray.data_extract, Array.toList_extract, List.extract_eq_take_drop]
theorem cut_one (x : UInt8) (l : List UInt8) : (⟨(x :: l).toArray⟩ : ByteArray).extract 1 (l.length + 1) = ⟨l.toArray⟩ := by
  rw [cut_list _ _ _ (by simp)]
  simp
theorem point_cut (p l : List UInt8) (K : Nat) : (⟨p.toArray⟩ : ByteArray) ++ (⟨(padL l K).toArray⟩ : ByteArray).extract 0 ((padL l K).length - K) ++ ⟨[46].toArray⟩ ++ (⟨(padL l K).toArray⟩ : ByteArray).extract ((padL l K).length - K) (padL l K).length = ⟨(p ++ pointL l K).toArray⟩ := by
  rw [cut_list _ _ _ (by omega), cut_list _ _ _ (Nat.le_refl _), join_bytes, join_bytes, join_bytes]
  unfold pointL headL tailL
  rw [List.drop_zero, Nat.sub_zero, List.take_of_length_le (l := (padL l K).drop _) (by rw [List.length_drop]; exact Nat.le_refl _)]
  simp
theorem point_cut0 (l : List UInt8) (K : Nat) : (⟨(padL l K).toArray⟩ : ByteArray).extract 0 ((padL l K).length - K) ++ ⟨[46].toArray⟩ ++ (⟨(padL l K).toArray⟩ : ByteArray).extract ((padL l K).length - K) (padL l K).length = ⟨(pointL l K).toArray⟩ := by
  rw [cut_list _ _ _ (by omega), cut_list _ _ _ (Nat.le_refl _), join_bytes, join_bytes]
  unfold pointL headL tailL
  rw [List.drop_zero, Nat.sub_zero, List.take_of_length_le (l := (padL l K).drop _) (by rw [List.length_drop]; exact Nat.le_refl _)]
  simp
end Go.Proofs.YtghcgkpeimpghaaDoor.numtext
