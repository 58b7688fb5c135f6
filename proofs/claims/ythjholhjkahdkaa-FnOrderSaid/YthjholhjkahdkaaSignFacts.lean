/-
  Plain facts on UTF-8 encodings (no Go text): the bytes of a code point as numbers, by its size.
-/
import Derived.Laws.BytesArg
import Derived.Laws.BitsLemmas
import Derived.Laws.Runes
namespace Go.Proofs.Ythjholhjkahdkaa.sign

theorem i64_and63 (n : Int) : bits .and .i64 n 63 = n % 64 := by
  have h63 : (BitVec.ofInt 64 63).toNat = 2 ^ 6 - 1 := by decide
  have key : (BitVec.ofInt 64 n &&& BitVec.ofInt 64 63).toNat = (n % ((2 ^ 64 : Nat) : Int)).toNat % 2 ^ 6 := by
    rw [BitVec.toNat_and, BitVec.toNat_ofInt, h63, Nat.and_two_pow_sub_one_eq_mod]
  show IntKind.i64.wrap ((BitVec.ofInt 64 n &&& BitVec.ofInt 64 63).toNat : Nat) = n % 64
  rw [key, IntKind.wrap_i64]
  omega

/-- The bytes of a code point; nothing where n is none. -/
def putSign (n : Int) : ByteArray := if Utf8.valid n then Utf8.encode n else ⟨#[]⟩

theorem valid_of {n : Int} (h : (0 ≤ n ∧ n < 55296) ∨ (57343 < n ∧ n ≤ 1114111)) : Utf8.valid n = true := by
  rw [validRune_eq]; simp [validRune, h]
theorem invalid_of {n : Int} (h : n < 0 ∨ (55296 ≤ n ∧ n ≤ 57343) ∨ 1114111 < n) : Utf8.valid n = false := by
  rw [validRune_eq]; simp [validRune]; omega

theorem enc1 {n : Int} (h0 : 0 ≤ n) (h1 : n < 128) : strOfNums [n] = Utf8.encode n := by
  have hv := valid_of (n := n) (by omega)
  unfold Utf8.encode strOfNums
  simp only [hv, if_true]
  rw [if_pos (by omega)]
  rfl
theorem enc2 {n : Int} (h0 : 128 ≤ n) (h1 : n < 2048) : strOfNums [192 + n / 64, 128 + n % 64] = Utf8.encode n := by
  have hv := valid_of (n := n) (by omega)
  unfold Utf8.encode strOfNums
  simp only [hv, if_true]
  rw [if_neg (by omega), if_pos (by omega)]
  simp only [List.map]
  rw [show (192 + n / 64).toNat = 192 + n.toNat / 64 by omega, show (128 + n % 64).toNat = 128 + n.toNat % 64 by omega]
theorem enc3 {n : Int} (h0 : 2048 ≤ n) (h1 : n < 65536) (hv : Utf8.valid n = true) : strOfNums [224 + n / 4096, 128 + n / 64 % 64, 128 + n % 64] = Utf8.encode n := by
  unfold Utf8.encode strOfNums
  simp only [hv, if_true]
  rw [if_neg (by omega), if_neg (by omega), if_pos (by omega)]
  simp only [List.map]
  rw [show (224 + n / 4096).toNat = 224 + n.toNat / 4096 by omega, show (128 + n / 64 % 64).toNat = 128 + n.toNat / 64 % 64 by omega, show (128 + n % 64).toNat = 128 + n.toNat % 64 by omega]
theorem enc4 {n : Int} (h0 : 65536 ≤ n) (h1 : n ≤ 1114111) : strOfNums [240 + n / 262144, 128 + n / 4096 % 64, 128 + n / 64 % 64, 128 + n % 64] = Utf8.encode n := by
  have hv := valid_of (n := n) (by omega)
  unfold Utf8.encode strOfNums
  simp only [hv, if_true]
  rw [if_neg (by omega), if_neg (by omega), if_neg (by omega)]
  simp only [List.map]
  rw [show (240 + n / 262144).toNat = 240 + n.toNat / 262144 by omega, show (128 + n / 4096 % 64).toNat = 128 + n.toNat / 4096 % 64 by omega, show (128 + n / 64 % 64).toNat = 128 + n.toNat / 64 % 64 by omega, show (128 + n % 64).toNat = 128 + n.toNat % 64 by omega]

end Go.Proofs.Ythjholhjkahdkaa.sign
