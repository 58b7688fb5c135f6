/-
  Heads of CBOR as lists of bytes: the shortest form, and what the bytes of a head of any length tell.
-/
import Derived.Test.YtnaghafmpncdkaaDoorOwn
namespace Go.Proofs.YtnaghafmpncdkaaDoor.head
open Go.RowKit

/-- The lowest k bytes of a number, the highest first. -/
def bigL : Nat → Nat → List UInt8
  | _, 0 => []
  | n, k + 1 => bigL (n / 256) k ++ [UInt8.ofNat n]
theorem bigL_len (n k : Nat) : (bigL n k).length = k := by
  induction k generalizing n with
  | zero => rfl
  | succ k ih => rw [bigL, List.length_append, ih]; rfl
theorem bigL_cons (n k : Nat) : bigL n (k + 1) = UInt8.ofNat (n / 256 ^ k) :: bigL n k := by
  induction k generalizing n with
  | zero => simp [bigL]
  | succ k ih =>
    rw [bigL, ih (n / 256), Nat.div_div_eq_div_mul, ← Nat.pow_succ', bigL]
    rfl
/-- The first j of the m bytes of a number. -/
theorem bigL_step (n m j : Nat) (h : j < m) : bigL (n / 256 ^ (m - (j + 1))) (j + 1) = bigL (n / 256 ^ (m - j)) j ++ [UInt8.ofNat (n / 256 ^ (m - (j + 1)))] := by
  rw [bigL, Nat.div_div_eq_div_mul, ← Nat.pow_succ]
  congr 4
  omega
/-- How many bytes a number of a head has: 2 to this. -/
def wid (n : Nat) : Nat := if n < 256 then 0 else if n < 65536 then 1 else if n < 4294967296 then 2 else 3
def headL (m n : Nat) : List UInt8 := if n < 24 then [UInt8.ofNat (32 * m + n)] else UInt8.ofNat (32 * m + 24 + wid n) :: bigL n (2 ^ wid n)
theorem wid_le (n : Nat) : wid n ≤ 3 := by unfold wid; (repeat' split) <;> omega
theorem two_pow_inj {a b : Nat} (h : 2 ^ a = 2 ^ b) : a = b := (Nat.pow_right_inj (by omega)).1 h
theorem headL_len (m n : Nat) : (headL m n).length = if n < 24 then 1 else 1 + 2 ^ wid n := by
  unfold headL
  split
  · rfl
  · rw [List.length_cons, bigL_len]; omega
theorem headL_small {m n : Nat} (h : n < 24) : headL m n = [UInt8.ofNat (32 * m + n)] := if_pos h
theorem headL_big {m n : Nat} (h : ¬ n < 24) : headL m n = UInt8.ofNat (32 * m + 24 + wid n) :: bigL n (2 ^ wid n) := if_neg h
theorem headL_le (m n : Nat) : (headL m n).length ≤ 9 := by
  rw [headL_len]
  split
  · omega
  · have h := wid_le n
    have : 2 ^ wid n ≤ 2 ^ 3 := Nat.pow_le_pow_right (by omega) h
    omega
def putHead (m : Int) (n : Nat) : ByteArray := if 0 ≤ m ∧ m ≤ 7 then ⟨(headL m.toNat n).toArray⟩ else ⟨#[]⟩

/-- The number that bytes tell, the highest first. -/
def beN (l : List UInt8) : Nat := l.foldl (fun a b => 256 * a + b.toNat) 0
theorem beN_snoc (l : List UInt8) (b : UInt8) : beN (l ++ [b]) = 256 * beN l + b.toNat := by simp [beN]
theorem bigL_beN (l : List UInt8) : bigL (beN l) l.length = l := by
  generalize hn : l.length = n
  induction n generalizing l with
  | zero => rw [List.length_eq_zero_iff.1 hn]; rfl
  | succ n ih =>
    obtain ⟨l', b, rfl⟩ : ∃ l' b, l = l' ++ [b] := ⟨l.dropLast, l.getLast (by intro h; rw [h] at hn; simp at hn), (List.dropLast_concat_getLast _).symm⟩
    have hl : l'.length = n := by simp at hn; omega
    have hb := b.toNat_lt
    rw [beN_snoc, bigL, show (256 * beN l' + b.toNat) / 256 = beN l' by omega, ih l' hl]
    congr 2
    apply UInt8.toNat.inj
    simp [UInt8.toNat_ofNat']
theorem beN_lt (l : List UInt8) : beN l < 256 ^ l.length := by
  generalize hn : l.length = n
  induction n generalizing l with
  | zero => rw [List.length_eq_zero_iff.1 hn]; simp [beN]
  | succ n ih =>
    obtain ⟨l', b, rfl⟩ : ∃ l' b, l = l' ++ [b] := ⟨l.dropLast, l.getLast (by intro h; rw [h] at hn; simp at hn), (List.dropLast_concat_getLast _).symm⟩
    have hl : l'.length = n := by simp at hn; omega
    have hb := b.toNat_lt
    have := ih l' hl
    rw [beN_snoc, Nat.pow_succ]
    omega

/-! A head at a place of a text. -/
def at_ (s : ByteArray) (j : Nat) : UInt8 := s.data.toList.getD j 0
theorem at_eq (s : ByteArray) (j : Nat) (h : j < s.size) : s[j] = at_ s j := by
  unfold at_
  have h' : j < s.data.toList.length := by simpa using h
  rw [List.getD_eq_getElem?_getD, List.getElem?_eq_getElem h']
  rfl
def low (s : ByteArray) (i : Nat) : Nat := (at_ s i).toNat % 32
def maj (s : ByteArray) (i : Nat) : Nat := (at_ s i).toNat / 32
def many (s : ByteArray) (i : Nat) : Nat := if low s i < 24 then 0 else 2 ^ (low s i - 24)
/-- The bytes of the number. -/
def tail (s : ByteArray) (i : Nat) : List UInt8 := (s.data.toList.drop (i + 1)).take (many s i)
def num (s : ByteArray) (i : Nat) : Nat := if low s i < 24 then low s i else beN (tail s i)
/-- There is a head of any length. -/
def anyOk (s : ByteArray) (i : Nat) : Prop := i < s.size ∧ low s i < 28 ∧ i + 1 + many s i ≤ s.size
instance (s : ByteArray) (i : Nat) : Decidable (anyOk s i) := by unfold anyOk; exact inferInstance
def short (s : ByteArray) (i : Nat) : Prop := (headL (maj s i) (num s i)).length = 1 + many s i
instance (s : ByteArray) (i : Nat) : Decidable (short s i) := by unfold short; exact inferInstance
def getHead (s : ByteArray) (i : Int) : Int × Nat × Int :=
  if 0 ≤ i ∧ anyOk s i.toNat ∧ short s i.toNat then ((maj s i.toNat : Int), num s i.toNat, i + 1 + many s i.toNat) else (-1, 0, -1)
theorem tail_len {s : ByteArray} {i : Nat} (h : anyOk s i) : (tail s i).length = many s i := by
  unfold tail
  have := h.2.2
  rw [List.length_take, List.length_drop]
  have e : s.data.toList.length = s.size := by simp
  omega
theorem cut_eq {s : ByteArray} {i : Nat} (h : anyOk s i) : (s.data.toList.drop i).take (1 + many s i) = at_ s i :: tail s i := by
  have e : s.data.toList.length = s.size := by simp
  have hi : i < s.data.toList.length := by rw [e]; exact h.1
  rw [List.drop_eq_getElem_cons hi, Nat.add_comm, List.take_succ_cons]
  unfold tail at_
  rw [List.getD_eq_getElem?_getD, List.getElem?_eq_getElem hi]
  rfl
theorem maj_lt (s : ByteArray) (i : Nat) : maj s i < 8 := by have := (at_ s i).toNat_lt; unfold maj; omega
theorem maj_low (s : ByteArray) (i : Nat) : UInt8.ofNat (32 * maj s i + low s i) = at_ s i := by
  apply UInt8.toNat.inj
  have := (at_ s i).toNat_lt
  simp only [UInt8.toNat_ofNat', maj, low]
  omega
/-- The shortest form is the one that stands there exactly if it has its length. -/
theorem short_iff {s : ByteArray} {i : Nat} (h : anyOk s i) : headL (maj s i) (num s i) = (s.data.toList.drop i).take (1 + many s i) ↔ short s i := by
  constructor
  · intro e
    unfold short
    rw [e, cut_eq h, List.length_cons, tail_len h]
    omega
  · intro hs
    rw [cut_eq h]
    unfold short at hs
    by_cases hl : low s i < 24
    · have e1 : num s i = low s i := if_pos hl
      have e2 : tail s i = [] := by unfold tail many; rw [if_pos hl]; rfl
      rw [e1, headL_small hl, maj_low, e2]
    · have e1 : num s i = beN (tail s i) := if_neg hl
      have e3 : many s i = 2 ^ (low s i - 24) := if_neg hl
      rw [headL_len] at hs
      have hp : 0 < 2 ^ (low s i - 24) := Nat.two_pow_pos _
      by_cases hn : num s i < 24
      · rw [if_pos hn] at hs
        omega
      · rw [if_neg hn, e3] at hs
        have hw : wid (num s i) = low s i - 24 := two_pow_inj (by omega)
        rw [headL_big hn, hw, show 32 * maj s i + 24 + (low s i - 24) = 32 * maj s i + low s i by omega, maj_low]
        congr 1
        rw [e1, ← e3, ← tail_len h, bigL_beN]

end Go.Proofs.YtnaghafmpncdkaaDoor.head
