/-
  Plain facts (no Go text): the decoder reads a code point's bytes back.
-/
import Derived.Test.YtlnhfgkecifhdaaGreatDoorSignDec
namespace Go.Proofs.YtlnhfgkecifhdaaGreatDoor.sign

theorem nums_size (xs : List Int) : (strOfNums xs).size = xs.length := by
  have h := congrArg List.length (strOfNums_data xs)
  rw [List.length_map] at h
  rw [← h]
  simp
theorem byteN_nums (xs : List Int) (j : Nat) (h : j < xs.length) : byteN (strOfNums xs) j = xs[j].toNat % 256 := by
  have hz := nums_size xs
  rw [← byteN_eq _ j (by omega)]
  have hd := strOfNums_data xs
  have e : (strOfNums xs)[j]'(by omega) = (strOfNums xs).data.toList[j]'(by rw [hd]; simpa using h) := rfl
  rw [e]
  simp only [hd, List.getElem_map]
  simp

/-- What a code point's bytes are read as. -/
theorem decode_put (n : Nat) (hv : Utf8.valid (n : Int) = true) : Utf8.decode (putSign n) 0 = (n, (putSign n).size) := by
  have hr : ((0 : Int) ≤ n ∧ (n : Int) < 55296) ∨ (57343 < (n : Int) ∧ (n : Int) ≤ 1114111) := by
    rw [validRune_eq] at hv
    simpa [validRune] using hv
  have hp := putSign_valid hv
  rw [decode_num]
  by_cases h1 : n < 128
  · have e : putSign n = strOfNums [(n : Int)] := by rw [hp, enc1 (by omega) (by omega)]
    have b0 : byteN (putSign n) 0 = n := by rw [e, byteN_nums _ 0 (by simp)]; simp; omega
    rw [b0, (one_ok h1).1, e, nums_size]
    rfl
  by_cases h2 : n < 2048
  · have e : putSign n = strOfNums [192 + (n : Int) / 64, 128 + (n : Int) % 64] := by rw [hp, enc2 (by omega) (by omega)]
    have b0 : byteN (putSign n) 0 = 192 + n / 64 := by rw [e, byteN_nums _ 0 (by simp)]; simp; omega
    have b1 : byteN (putSign n) (0 + 1) = 128 + n % 64 := by rw [e, byteN_nums _ 1 (by simp)]; simp; omega
    have hz : (putSign n).size = 2 := by rw [e, nums_size]; rfl
    rw [b0, b1, hz]
    rcases two_ok (n := 2 - 0) (b0 := 192 + n / 64) (b1 := 128 + n % 64) (b2 := byteN (putSign n) (0 + 2)) (b3 := byteN (putSign n) (0 + 3)) (N := n) (by omega) (by omega) (by omega) (by omega) with ⟨e1, _⟩ | ⟨_, e2⟩
    · exact e1
    · exact absurd (by rw [e]; congr 1 <;> simp) e2
  by_cases h3 : n < 65536
  · have e : putSign n = strOfNums [224 + (n : Int) / 4096, 128 + (n : Int) / 64 % 64, 128 + (n : Int) % 64] := by rw [hp, enc3 (by omega) (by omega) hv]
    have b0 : byteN (putSign n) 0 = 224 + n / 4096 := by rw [e, byteN_nums _ 0 (by simp)]; simp; omega
    have b1 : byteN (putSign n) (0 + 1) = 128 + n / 64 % 64 := by rw [e, byteN_nums _ 1 (by simp)]; simp; omega
    have b2 : byteN (putSign n) (0 + 2) = 128 + n % 64 := by rw [e, byteN_nums _ 2 (by simp)]; simp; omega
    have hz : (putSign n).size = 3 := by rw [e, nums_size]; rfl
    rw [b0, b1, b2, hz]
    rcases three_ok (n := 3 - 0) (b0 := 224 + n / 4096) (b1 := 128 + n / 64 % 64) (b2 := 128 + n % 64) (b3 := byteN (putSign n) (0 + 3)) (N := n) (by omega) (by omega) (by omega) (by omega) (by omega) with ⟨e1, _⟩ | ⟨_, e2⟩
    · exact e1
    · exact absurd (by rw [e]; congr 1 <;> simp) e2
  · have e : putSign n = strOfNums [240 + (n : Int) / 262144, 128 + (n : Int) / 4096 % 64, 128 + (n : Int) / 64 % 64, 128 + (n : Int) % 64] := by rw [hp, enc4 (by omega) (by omega)]
    have b0 : byteN (putSign n) 0 = 240 + n / 262144 := by rw [e, byteN_nums _ 0 (by simp)]; simp; omega
    have b1 : byteN (putSign n) (0 + 1) = 128 + n / 4096 % 64 := by rw [e, byteN_nums _ 1 (by simp)]; simp; omega
    have b2 : byteN (putSign n) (0 + 2) = 128 + n / 64 % 64 := by rw [e, byteN_nums _ 2 (by simp)]; simp; omega
    have b3 : byteN (putSign n) (0 + 3) = 128 + n % 64 := by rw [e, byteN_nums _ 3 (by simp)]; simp; omega
    have hz : (putSign n).size = 4 := by rw [e, nums_size]; rfl
    rw [b0, b1, b2, b3, hz]
    rcases four_ok (n := 4 - 0) (b0 := 240 + n / 262144) (b1 := 128 + n / 4096 % 64) (b2 := 128 + n / 64 % 64) (b3 := 128 + n % 64) (N := n) (by omega) (by omega) (by omega) (by omega) (by omega) (by omega) with ⟨e1, _⟩ | ⟨_, e2⟩
    · exact e1
    · exact absurd (by rw [e]; congr 1 <;> simp) e2

end Go.Proofs.YtlnhfgkecifhdaaGreatDoor.sign
