/-
  Plain facts (no Go text but the decoder's): what a text in JSON's quotes denotes.
-/
import Derived.Test.YtlnhfgkecifhdaaGreatDoorGetHexWalk
import Derived.Test.YtlnhfgkecifhdaaGreatDoorQuotePlain
namespace Go.Proofs.YtlnhfgkecifhdaaGreatDoor.unquote
open Go.Proofs.YtlnhfgkecifhdaaGreatDoor.sign Go.Proofs.YtlnhfgkecifhdaaGreatDoor.getHex
open Go.RowKit (Hid)

/-- The number of a hexadecimal digit of either case, or -1. -/
def hexV (b : UInt8) : Int := if 65 ≤ b.toNat ∧ b.toNat ≤ 70 then b.toNat - 55 else digitVal b
theorem hexV_range (b : UInt8) : -1 ≤ hexV b ∧ hexV b ≤ 15 := by
  have := digitVal_range b
  unfold hexV; split <;> omega
theorem hexV_up (b : UInt8) (h0 : 65 ≤ b.toNat) (h1 : b.toNat ≤ 70) : hexV b = digitVal (b + 32) ∧ ((b + 32).toNat : Int) = (b.toNat : Int) + 32 := by
  have e : (b + 32).toNat = b.toNat + 32 := by simp; omega
  refine ⟨?_, by omega⟩
  unfold hexV digitVal
  rw [e, if_pos ⟨h0, h1⟩, if_neg (by omega), if_pos (by omega)]
  omega
theorem hexV_else (b : UInt8) (h : ¬ (65 ≤ b.toNat ∧ b.toNat ≤ 70)) : hexV b = digitVal b := by unfold hexV; rw [if_neg h]

/-- k digits from i on, behind a number; -1 where one is none. -/
def unitFrom (s : ByteArray) : Nat → Nat → Int → Int
  | 0, _, n => n
  | k + 1, i, n => if hexV (at_ s i) < 0 then -1 else unitFrom s k (i + 1) (16 * n + hexV (at_ s i))
def unit (s : ByteArray) (i : Nat) : Int := if i + 4 ≤ s.size then unitFrom s 4 i 0 else -1
theorem unitFrom_range (s : ByteArray) : ∀ (k i : Nat) (n : Int), 0 ≤ n → -1 ≤ unitFrom s k i n ∧ unitFrom s k i n < (n + 1) * 16 ^ k
  | 0, i, n, h => by simp [unitFrom]; omega
  | k + 1, i, n, h => by
    have hr := hexV_range (at_ s i)
    have hp : (0 : Int) < 16 ^ k := Int.pow_pos (by omega)
    unfold unitFrom
    split
    · refine ⟨by omega, ?_⟩
      have : 0 ≤ (n + 1) * 16 ^ (k + 1) := Int.mul_nonneg (by omega) (Int.le_of_lt (Int.pow_pos (by omega)))
      omega
    · have ih := unitFrom_range s k (i + 1) (16 * n + hexV (at_ s i)) (by omega)
      refine ⟨ih.1, Int.lt_of_lt_of_le ih.2 ?_⟩
      rw [Int.pow_succ, Int.mul_comm (16 ^ k) 16, ← Int.mul_assoc]
      exact Int.mul_le_mul_of_nonneg_right (by omega) (Int.le_of_lt hp)
theorem unit_range (s : ByteArray) (i : Nat) : -1 ≤ unit s i ∧ unit s i ≤ 65535 := by
  unfold unit
  split
  · have := unitFrom_range s 4 i 0 (by omega)
    omega
  · omega

structure UnitRel (s : ByteArray) (i j : Nat) (n : Int) : Prop where
  eq : unitFrom s (4 - j) (i + j) n = unit s i
  lo : 0 ≤ n
  hi : n < 16 ^ j
theorem UnitRel.start {s : ByteArray} {i : Nat} (h : i + 4 ≤ s.size) : UnitRel s i 0 0 := ⟨by unfold unit; rw [if_pos h]; rfl, by omega, by simp⟩
theorem UnitRel.lt {s : ByteArray} {i j : Nat} {n : Int} (h : UnitRel s i j n) (hj : j ≤ 4) : n < 65536 := by
  have h1 : (16 : Int) ^ j ≤ 16 ^ 4 := by
    have := Nat.pow_le_pow_right (n := 16) (by omega) hj
    exact_mod_cast this
  have := h.hi
  omega
theorem UnitRel.bad {s : ByteArray} {i j : Nat} {n : Int} (h : UnitRel s i j n) (hj : j < 4) (hb : hexV (at_ s (i + j)) < 0) : unit s i = -1 := by
  rw [← h.eq, show 4 - j = (3 - j) + 1 by omega, unitFrom, if_pos hb]
theorem UnitRel.step {s : ByteArray} {i j : Nat} {n : Int} (h : UnitRel s i j n) (hj : j < 4) (hb : ¬ hexV (at_ s (i + j)) < 0) : UnitRel s i (j + 1) (16 * n + hexV (at_ s (i + j))) := by
  have hr := hexV_range (at_ s (i + j))
  have hl := h.lo
  have hh := h.hi
  refine ⟨?_, by omega, ?_⟩
  · rw [← h.eq, show 4 - j = (3 - j) + 1 by omega, unitFrom, if_neg hb, show 4 - (j + 1) = 3 - j by omega, show i + j + 1 = i + (j + 1) by omega]
  · rw [Int.pow_succ]; omega
theorem UnitRel.done {s : ByteArray} {i j : Nat} {n : Int} (h : UnitRel s i j n) (hj : j = 4) : unit s i = n := by subst hj; exact h.eq.symm
theorem unit_short {s : ByteArray} {i : Nat} (h : ¬ i + 4 ≤ s.size) : unit s i = -1 := by unfold unit; rw [if_neg h]

/-- Whether a backslash and 'u' stand at i. -/
def isU (s : ByteArray) (i : Nat) : Bool := decide (i + 2 ≤ s.size) && (decide ((at_ s i).toNat = 92) && decide ((at_ s (i + 1)).toNat = 117))
/-- What stands behind a backslash and 'u'. -/
def numbered (s : ByteArray) (i : Nat) : Int × Int :=
  if 55296 ≤ unit s i ∧ unit s i ≤ 57343 then
    (if 56320 ≤ unit s i ∨ isU s (i + 4) = false then (-1, -1)
     else if 56320 ≤ unit s (i + 6) ∧ unit s (i + 6) ≤ 57343 then (65536 + 1024 * (unit s i - 55296) + (unit s (i + 6) - 56320), (i : Int) + 10) else (-1, -1))
  else if unit s i < 0 then (-1, -1) else (unit s i, (i : Int) + 4)
def letterOf (n : Nat) : Int := if n = 34 then 34 else if n = 92 then 92 else if n = 98 then 8 else if n = 102 then 12 else if n = 110 then 10 else if n = 114 then 13 else if n = 116 then 9 else -1
/-- What stands behind a backslash. -/
def escOf (s : ByteArray) (i : Nat) : Int × Int :=
  if s.size ≤ i then (-1, -1)
  else if (at_ s i).toNat = 117 then numbered s (i + 1)
  else if (at_ s i).toNat = 47 then (47, (i : Int) + 1)
  else if letterOf (at_ s i).toNat < 0 then (-1, -1) else (letterOf (at_ s i).toNat, (i : Int) + 1)
/-- What stands at a place within quotes. -/
def stepOf (s : ByteArray) (i : Nat) : Int × Int :=
  if (at_ s i).toNat = 92 then escOf s (i + 1)
  else if (at_ s i).toNat < 32 ∨ Utf8.decode s i = (65533, 1) then (-1, -1)
  else ((Utf8.decode s i).1, (i : Int) + (Utf8.decode s i).2)

/-- A sign that is, and the place behind it; or none. -/
structure Good (s : ByteArray) (i : Nat) (p : Int × Int) : Prop where
  sign : (0 ≤ p.1 ∧ p.1 < 55296) ∨ (57343 < p.1 ∧ p.1 ≤ 1114111)
  lt : (i : Int) < p.2
  le : p.2 ≤ s.size
def Sane (s : ByteArray) (i : Nat) (p : Int × Int) : Prop := p = (-1, -1) ∨ Good s i p
theorem unit_fits {s : ByteArray} {i : Nat} (h : 0 ≤ unit s i) : i + 4 ≤ s.size := by
  by_cases h' : i + 4 ≤ s.size
  · exact h'
  · rw [unit_short h'] at h; omega
theorem numbered_sane (s : ByteArray) (i : Nat) : Sane s i (numbered s i) := by
  have hr := unit_range s i
  have hr2 := unit_range s (i + 6)
  unfold numbered
  split
  · split
    · exact .inl rfl
    · split
      · have := unit_fits (s := s) (i := i + 6) (by omega)
        exact .inr ⟨by simp only; omega, by simp only; omega, by simp only; omega⟩
      · exact .inl rfl
  · split
    · exact .inl rfl
    · have := unit_fits (s := s) (i := i) (by omega)
      exact .inr ⟨by simp only; omega, by simp only; omega, by simp only; omega⟩
theorem letterOf_range (n : Nat) : letterOf n ≤ 92 := by unfold letterOf; (repeat' split) <;> omega
theorem letterOf_lo (n : Nat) : letterOf n = -1 ∨ 0 ≤ letterOf n := by unfold letterOf; (repeat' split) <;> omega
theorem escOf_sane (s : ByteArray) (i : Nat) : Sane s i (escOf s i) := by
  have hl := letterOf_range (at_ s i).toNat
  unfold escOf
  split
  · exact .inl rfl
  · split
    · rcases numbered_sane s (i + 1) with h | h
      · exact .inl h
      · exact .inr ⟨h.sign, by have := h.lt; omega, h.le⟩
    · split
      · exact .inr ⟨by simp only; omega, by simp only; omega, by simp only; omega⟩
      · split
        · exact .inl rfl
        · exact .inr ⟨by simp only; omega, by simp only; omega, by simp only; omega⟩
theorem stepOf_sane (s : ByteArray) (i : Nat) (hi : i < s.size) : Sane s i (stepOf s i) := by
  unfold stepOf
  split
  · rcases escOf_sane s (i + 1) with h | h
    · exact .inl h
    · exact .inr ⟨h.sign, by have := h.lt; omega, h.le⟩
  · split
    · exact .inl rfl
    · next h =>
      have hd := decode_bound s i
      have hf := decode_fits s i hi
      have hv := quote.decode_valid s i (Utf8.decode s i).1 (Utf8.decode s i).2 hi rfl (by simpa using fun e => h (.inr e))
      rw [validRune_eq] at hv
      have hv' : (0 ≤ ((Utf8.decode s i).1 : Int) ∧ ((Utf8.decode s i).1 : Int) < 55296) ∨ (57343 < ((Utf8.decode s i).1 : Int) ∧ ((Utf8.decode s i).1 : Int) ≤ 1114111) := by simpa [validRune] using hv
      exact .inr ⟨hv', by simp only; omega, by simp only; omega⟩

/-- From a place within quotes on: what was read, and the place behind the quotes. -/
def run (s : ByteArray) : Nat → Nat → List UInt8 → ByteArray × Int
  | 0, _, _ => (⟨#[]⟩, -1)
  | f + 1, i, acc =>
    if s.size ≤ i then (⟨#[]⟩, -1) else if (at_ s i).toNat = 34 then (⟨acc.toArray⟩, (i : Int) + 1)
    else if (stepOf s i).2 < 0 then (⟨#[]⟩, -1) else run s f (stepOf s i).2.toNat (acc ++ Lib.encodeRune (stepOf s i).1)
def unq (s : ByteArray) (i : Int) : ByteArray × Int := if 0 ≤ i ∧ i < s.size ∧ (at_ s i.toNat).toNat = 34 then run s (s.size + 1) (i.toNat + 1) [] else (⟨#[]⟩, -1)
structure Rel (s : ByteArray) (pos f : Nat) (acc : List UInt8) (R : ByteArray × Int) : Prop where
  eq : run s f pos acc = R
  fuel : s.size < pos + f
  le : pos ≤ s.size
  len : acc.length ≤ 4 * pos
theorem Rel.succ {s : ByteArray} {pos f : Nat} {acc : List UInt8} {R : ByteArray × Int} (h : Rel s pos f acc R) : ∃ g, f = g + 1 := ⟨f - 1, by have := h.fuel; have := h.le; omega⟩
theorem Rel.last {s : ByteArray} {pos f : Nat} {acc : List UInt8} {R : ByteArray × Int} (h : Rel s pos f acc R) (hp : ¬ pos < s.size) : R = (⟨#[]⟩, -1) := by
  obtain ⟨g, rfl⟩ := h.succ
  rw [← h.eq, run, if_pos (by omega)]
theorem Rel.close {s : ByteArray} {pos f : Nat} {acc : List UInt8} {R : ByteArray × Int} (h : Rel s pos f acc R) (hp : pos < s.size) (hq : (at_ s pos).toNat = 34) : R = (⟨acc.toArray⟩, (pos : Int) + 1) := by
  obtain ⟨g, rfl⟩ := h.succ
  rw [← h.eq, run, if_neg (by omega), if_pos hq]
theorem Rel.bad {s : ByteArray} {pos f : Nat} {acc : List UInt8} {R : ByteArray × Int} (h : Rel s pos f acc R) (hp : pos < s.size) (hq : (at_ s pos).toNat ≠ 34) (hs : stepOf s pos = (-1, -1)) : R = (⟨#[]⟩, -1) := by
  obtain ⟨g, rfl⟩ := h.succ
  rw [← h.eq, run, if_neg (by omega), if_neg hq, hs, if_pos (by simp)]
theorem enc_len (r : Int) : (Lib.encodeRune r).length ≤ 4 := by
  unfold Lib.encodeRune
  rw [List.length_map]
  exact (Lib.encodeRuneZ_length r).2
theorem Rel.step {s : ByteArray} {pos f : Nat} {acc : List UInt8} {R : ByteArray × Int} (h : Rel s pos f acc R) (hp : pos < s.size) (hq : (at_ s pos).toNat ≠ 34) {sg : Int} {nx : Nat} (hs : stepOf s pos = (sg, (nx : Int))) : Rel s nx (f - 1) (acc ++ Lib.encodeRune sg) R := by
  have hg : Good s pos (stepOf s pos) := by
    rcases stepOf_sane s pos hp with h' | h'
    · rw [h'] at hs
      have := (Prod.mk.inj hs).2
      omega
    · exact h'
  have hlt := hg.lt
  have hle := hg.le
  rw [hs] at hlt hle
  simp only at hlt hle
  obtain ⟨g, rfl⟩ := h.succ
  have hf := h.fuel
  have hl := h.len
  have he := enc_len sg
  refine ⟨?_, by omega, by omega, by rw [List.length_append]; omega⟩
  rw [← h.eq]
  conv => rhs; rw [run, if_neg (by omega), if_neg hq, hs, if_neg (by simp only; omega)]
  simp
theorem step_cases (s : ByteArray) (pos : Nat) (hp : pos < s.size) : stepOf s pos = (-1, -1) ∨ ∃ (sg : Int) (nx : Nat), stepOf s pos = (sg, (nx : Int)) ∧ 0 ≤ sg ∧ sg ≤ 1114111 ∧ pos < nx ∧ nx ≤ s.size ∧ Hid ((0 ≤ sg ∧ sg < 55296) ∨ (57343 < sg ∧ sg ≤ 1114111)) := by
  rcases stepOf_sane s pos hp with h | h
  · exact .inl h
  · have h1 := h.sign
    have h2 := h.lt
    have h3 := h.le
    refine .inr ⟨(stepOf s pos).1, (stepOf s pos).2.toNat, ?_, by omega, by omega, by omega, by omega, h1⟩
    exact Prod.ext rfl (by simp only; omega)

end Go.Proofs.YtlnhfgkecifhdaaGreatDoor.unquote
