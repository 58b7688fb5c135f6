/-
  The lowest bytes of a number, with and without its sign, as plain numbers.
-/
import Derived.Test.YtghcgkpeimpghaaHeadPlain
import Derived.Laws.BitsLemmas
namespace Go.Proofs.Ytghcgkpeimpghaa.wide
open Go.RowKit Go.Proofs.Ytghcgkpeimpghaa.head

/-- 'n & (2^i - 1)' of any number. -/
theorem i64_mask (n : Int) (A i : Nat) (hi : i < 63) (hA : A = 2 ^ i) : bits .and .i64 n ((A : Int) - 1) = n % (A : Int) := by
  have hp : 0 < 2 ^ i := Nat.two_pow_pos i
  have hle : 2 ^ i ≤ 2 ^ 62 := Nat.pow_le_pow_right (by omega) (by omega)
  have hm : (BitVec.ofInt 64 ((A : Int) - 1)).toNat = 2 ^ i - 1 := by
    rw [BitVec.toNat_ofInt, hA]
    have e : ((2 ^ i : Nat) : Int) - 1 = ((2 ^ i - 1 : Nat) : Int) := by omega
    rw [e]
    generalize 2 ^ i = Q at *
    omega
  have key : (BitVec.ofInt 64 n &&& BitVec.ofInt 64 ((A : Int) - 1)).toNat = (n % ((2 ^ 64 : Nat) : Int)).toNat % 2 ^ i := by
    rw [BitVec.toNat_and, BitVec.toNat_ofInt, hm, Nat.and_two_pow_sub_one_eq_mod]
  show IntKind.i64.wrap ((BitVec.ofInt 64 n &&& BitVec.ofInt 64 ((A : Int) - 1)).toNat : Nat) = n % (A : Int)
  rw [key, IntKind.wrap_i64]
  have h0 : 0 ≤ n % ((2 ^ 64 : Nat) : Int) := Int.emod_nonneg _ (by decide)
  have h1 : (((n % ((2 ^ 64 : Nat) : Int)).toNat % 2 ^ i : Nat) : Int) = n % (A : Int) := by
    rw [Int.natCast_emod, Int.toNat_of_nonneg h0, ← hA]
    apply Int.emod_emod_of_dvd
    rw [hA]
    exact Int.natCast_dvd_natCast.2 (Nat.pow_dvd_pow 2 (by omega))
  rw [h1]
  have h2 : 0 ≤ n % (A : Int) := Int.emod_nonneg _ (by omega)
  have h3 : n % (A : Int) < A := Int.emod_lt_of_pos _ (by omega)
  generalize 2 ^ i = Q at *
  omega

/-- The number that the lowest k bytes tell with their sign. -/
def sg (n : Int) (A : Nat) : Int := if n % (A : Int) < ((A / 2 : Nat) : Int) then n % (A : Int) else n % (A : Int) - (A : Int)
def signOf (n many : Int) : Int := if 1 ≤ many ∧ many ≤ 7 then sg n (256 ^ many.toNat) else n
theorem pow256 (k : Nat) : 256 ^ k = 2 ^ (8 * k) := by rw [Nat.pow_mul]
/-- Shifted up and down again: the sign is that of the lowest bytes. -/
theorem shift_1 (n : Int) : wrap64 (n * 72057594037927936) / 72057594037927936 = sg n 256 := by
  unfold sg wrap64; split <;> omega
theorem shift_2 (n : Int) : wrap64 (n * 281474976710656) / 281474976710656 = sg n 65536 := by
  unfold sg wrap64; split <;> omega
theorem shift_3 (n : Int) : wrap64 (n * 1099511627776) / 1099511627776 = sg n 16777216 := by
  unfold sg wrap64; split <;> omega
theorem shift_4 (n : Int) : wrap64 (n * 4294967296) / 4294967296 = sg n 4294967296 := by
  unfold sg wrap64; split <;> omega
theorem shift_5 (n : Int) : wrap64 (n * 16777216) / 16777216 = sg n 1099511627776 := by
  unfold sg wrap64; split <;> omega
theorem shift_6 (n : Int) : wrap64 (n * 65536) / 65536 = sg n 281474976710656 := by
  unfold sg wrap64; split <;> omega
theorem shift_7 (n : Int) : wrap64 (n * 256) / 256 = sg n 72057594037927936 := by
  unfold sg wrap64; split <;> omega

/-- The bytes of an int. -/
def wideL (n : Int) (m : Nat) : List UInt8 := bigL (n % 18446744073709551616).toNat m
def putWide (n m : Int) : ByteArray := if 1 ≤ m ∧ m ≤ 8 then ⟨(wideL n m.toNat).toArray⟩ else ⟨#[]⟩
theorem zeros_step (l : List UInt8) (N m i : Nat) (h : i < m) : (l ++ List.replicate (m - i) 0 ++ bigL N i).set (l.length + (m - 1 - i)) (UInt8.ofNat (N / 256 ^ i)) = l ++ List.replicate (m - (i + 1)) 0 ++ bigL N (i + 1) := by
  rw [bigL_cons, show m - i = (m - (i + 1)) + 1 by omega, List.replicate_succ', List.append_assoc, List.append_assoc, List.set_append_right _ _ (by omega), show l.length + (m - 1 - i) - l.length = m - (i + 1) by omega]
  rw [List.append_assoc, List.set_append_right _ _ (by simp)]
  simp
/-- The byte at a place of a number: shifted down, or by division. -/
theorem byte_at (n : Int) (k : Nat) (hk : k < 8) (D : Nat) (hD : D = 8 * k) : encB (UInt8.ofNat ((n % 18446744073709551616).toNat / 256 ^ k)) = .int .u8 ((n / 2 ^ D) % 256) := by
  have e : ∀ N : Nat, encB (UInt8.ofNat N) = .int .u8 ((N : Int) % 256) := fun N => by
    unfold encB
    rw [UInt8.toNat_ofNat']
    congr 1
  rw [e, hD]
  congr 1
  rcases (show k = 0 ∨ k = 1 ∨ k = 2 ∨ k = 3 ∨ k = 4 ∨ k = 5 ∨ k = 6 ∨ k = 7 by omega) with rfl | rfl | rfl | rfl | rfl | rfl | rfl | rfl <;> simp only [Nat.reducePow, Nat.reduceMul, Int.reducePow] <;> omega
end Go.Proofs.Ytghcgkpeimpghaa.wide
