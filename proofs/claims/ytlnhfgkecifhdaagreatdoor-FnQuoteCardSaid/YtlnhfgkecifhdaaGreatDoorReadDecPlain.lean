/-
  Plain facts (no Go text): the number that decimal digits spell; which texts are numerals of ints.
-/
import Derived.Lib.ItoaNum
import Derived.Lib.ItoaLen
import Derived.Lib.AtoiAll
import Derived.WalkKit
namespace Go.Proofs.YtlnhfgkecifhdaaGreatDoor.readDec
open Go.RowKit

def stepN (a : Nat) (b : UInt8) : Nat := 10 * a + (b.toNat - 48)
def valFrom (a : Nat) (l : List UInt8) : Nat := l.foldl stepN a
def AllDig (l : List UInt8) : Prop := ∀ b ∈ l, 48 ≤ b.toNat ∧ b.toNat ≤ 57

theorem digit_byte (d : Nat) (h : d < 10) : (UInt8.ofNat (48 + d)).toNat = 48 + d := by simp; omega
theorem decDigits_dig : ∀ u : Nat, AllDig (Lib.decDigits u) := by
  intro u
  induction u using Nat.strongRecOn with
  | ind u ih =>
    rw [Lib.decDigits]
    by_cases h : u < 10
    · rw [dif_pos h]
      intro b hb
      simp only [List.mem_singleton] at hb
      rw [hb, digit_byte u h]
      omega
    · rw [dif_neg h]
      intro b hb
      rcases List.mem_append.1 hb with hb | hb
      · exact ih (u / 10) (by omega) b hb
      · simp only [List.mem_singleton] at hb
        rw [hb, digit_byte (u % 10) (by omega)]
        omega
theorem decDigits_val : ∀ u : Nat, valFrom 0 (Lib.decDigits u) = u := by
  intro u
  induction u using Nat.strongRecOn with
  | ind u ih =>
    rw [Lib.decDigits]
    by_cases h : u < 10
    · rw [dif_pos h]
      show stepN 0 _ = u
      unfold stepN
      rw [digit_byte u h]
      omega
    · rw [dif_neg h]
      unfold valFrom
      rw [List.foldl_append]
      have e := ih (u / 10) (by omega)
      unfold valFrom at e
      rw [e]
      show stepN (u / 10) _ = u
      unfold stepN
      rw [digit_byte (u % 10) (by omega)]
      omega
theorem decDigits_ne (u : Nat) : Lib.decDigits u ≠ [] := by
  intro e
  have h1 := Lib.decDigits_length u
  have h2 := Lib.nDigits_pos u
  rw [e] at h1
  simp at h1
  omega
theorem decDigits_len (u : Nat) (h : u ≤ 9223372036854775808) : (Lib.decDigits u).length ≤ 19 := by
  rw [Lib.decDigits_length]
  rcases Nat.lt_or_ge (Lib.nDigits u) 20 with hl | hl
  · omega
  · exfalso
    have h3 := Lib.nDigits_le20 u (by omega)
    have e : Lib.nDigits u = 19 + 1 := by omega
    have h4 : 10 ^ 19 ≤ u := by
      rcases Nat.lt_or_ge u (10 ^ 19) with hh | hh
      · exfalso
        -- a number below 10^19 has at most 19 digits
        have : ∀ k u : Nat, u < 10 ^ (k + 1) → Lib.nDigits u ≤ k + 1 := by
          intro k
          induction k with
          | zero => intro u hu; rw [Lib.nDigits_small (by simpa using hu)]; omega
          | succ k ih =>
            intro u hu
            by_cases h9 : u < 10
            · rw [Lib.nDigits_small h9]; omega
            · rw [Lib.nDigits_big h9]
              have := ih (u / 10) (by rw [Nat.pow_succ] at hu; omega)
              omega
        have := this 18 u hh
        omega
      · exact hh
    have h5 : (10 : Nat) ^ 19 = 10000000000000000000 := by decide
    omega

theorem valFrom_ge (l : List UInt8) : ∀ a : Nat, a ≤ valFrom a l := by
  induction l with
  | nil => intro a; exact Nat.le_refl _
  | cons b r ih =>
    intro a
    have := ih (stepN a b)
    show a ≤ valFrom (stepN a b) r
    unfold stepN at *
    omega
theorem parse_digits : ∀ (l : List UInt8) (a : Nat), AllDig l → valFrom a l < 18446744073709551616 → Lib.parseUint10 a l = .ok (valFrom a l)
  | [], a, _, _ => rfl
  | b :: r, a, hd, hv => by
    have hb := hd b (by simp)
    have h1 : stepN a b ≤ valFrom (stepN a b) r := valFrom_ge r _
    have hv' : valFrom (stepN a b) r < 18446744073709551616 := hv
    have e : a * 10 + (b.toNat - 48) = stepN a b := by unfold stepN; omega
    unfold Lib.parseUint10
    have h2 : 10 * a ≤ stepN a b := by unfold stepN; omega
    rw [if_pos hb, if_neg (by omega), if_neg (by rw [e]; omega), e]
    exact parse_digits r _ (fun x hx => hd x (by simp [hx])) hv'

/-- Atoi reads what Itoa writes. -/
theorem atoi_itoa (n : Int) (h0 : -9223372036854775808 ≤ n) (h1 : n ≤ 9223372036854775807) : Lib.atoiAll (Lib.itoa n) = .ok n := by
  unfold Lib.itoa
  by_cases hn : n < 0
  · rw [if_pos hn]
    have hv : valFrom 0 (Lib.decDigits n.natAbs) < 18446744073709551616 := by rw [decDigits_val]; omega
    have hp := parse_digits _ 0 (decDigits_dig n.natAbs) hv
    rw [decDigits_val] at hp
    unfold Lib.atoiAll
    simp only [show (45 : UInt8).toNat = 45 from rfl, or_true, if_true]
    unfold Lib.parseMag
    rw [if_neg (decDigits_ne _), hp]
    simp only [not_true_eq_false, false_and, if_false, true_and]
    rw [if_neg (by omega)]
    congr 1
    omega
  · rw [if_neg hn]
    have hv : valFrom 0 (Lib.decDigits n.toNat) < 18446744073709551616 := by rw [decDigits_val]; omega
    have hp := parse_digits _ 0 (decDigits_dig n.toNat) hv
    rw [decDigits_val] at hp
    cases hl : Lib.decDigits n.toNat with
    | nil => exact absurd hl (decDigits_ne _)
    | cons c r =>
      have hc := decDigits_dig n.toNat c (by rw [hl]; simp)
      rw [hl] at hp
      unfold Lib.atoiAll
      simp only []
      rw [if_neg (by omega)]
      unfold Lib.parseMag
      rw [if_neg (by simp), hp]
      simp only []
      rw [if_neg (by omega), if_neg (by omega), if_neg (by omega)]
      congr 1
      omega
theorem itoa_inj {m n : Int} (hm0 : -9223372036854775808 ≤ m) (hm1 : m ≤ 9223372036854775807) (hn0 : -9223372036854775808 ≤ n) (hn1 : n ≤ 9223372036854775807) (h : Lib.itoa m = Lib.itoa n) : m = n := by
  have a := atoi_itoa m hm0 hm1
  have b := atoi_itoa n hn0 hn1
  rw [h, b] at a
  injection a with a
  exact a.symm

/-- What ReadDec returns: the number whose numeral l is, and true; or 0 and false. -/
structure Reads (l : List UInt8) (r : Int) (ok : Bool) : Prop where
  yes : ok = true → Lib.itoa r = l ∧ -9223372036854775808 ≤ r ∧ r ≤ 9223372036854775807
  no : ok = false → r = 0 ∧ ∀ n : Int, -9223372036854775808 ≤ n → n ≤ 9223372036854775807 → Lib.itoa n ≠ l
theorem Reads.unique {l : List UInt8} {r r' : Int} {ok ok' : Bool} (h : Reads l r ok) (h' : Reads l r' ok') : r = r' ∧ ok = ok' := by
  cases ok <;> cases ok'
  · exact ⟨by rw [(h.no rfl).1, (h'.no rfl).1], rfl⟩
  · obtain ⟨e, h0, h1⟩ := h'.yes rfl
    exact absurd e ((h.no rfl).2 _ h0 h1)
  · obtain ⟨e, h0, h1⟩ := h.yes rfl
    exact absurd e ((h'.no rfl).2 _ h0 h1)
  · obtain ⟨e, h0, h1⟩ := h.yes rfl
    obtain ⟨e', h0', h1'⟩ := h'.yes rfl
    exact ⟨itoa_inj h0 h1 h0' h1' (e.trans e'.symm), rfl⟩

/-- The digits behind a minus. -/
def tailOf (l : List UInt8) : List UInt8 := match l with | 45 :: r => r | _ => l
/-- The number that spec.ReadDec reckons, round the ints' edge. -/
def rough (l : List UInt8) : Int := if tailOf l = l then wrap64 (valFrom 0 (tailOf l)) else wrap64 (-(wrap64 (valFrom 0 (tailOf l))))
theorem tail_pos {c : UInt8} {r : List UInt8} (h : c ≠ 45) : tailOf (c :: r) = c :: r := by
  unfold tailOf
  split
  · rename_i heq; injection heq with h1 h2; exact absurd h1 h
  · rfl
theorem tail_itoa (n : Int) (h0 : -9223372036854775808 ≤ n) (h1 : n ≤ 9223372036854775807) : AllDig (tailOf (Lib.itoa n)) ∧ (tailOf (Lib.itoa n)).length ≤ 19 ∧ tailOf (Lib.itoa n) ≠ [] ∧ rough (Lib.itoa n) = n := by
  unfold Lib.itoa
  by_cases hn : n < 0
  · rw [if_pos hn]
    have e : tailOf (45 :: Lib.decDigits n.natAbs) = Lib.decDigits n.natAbs := rfl
    refine ⟨by rw [e]; exact decDigits_dig _, by rw [e]; exact decDigits_len _ (by omega), by rw [e]; exact decDigits_ne _, ?_⟩
    unfold rough
    rw [if_neg, e, decDigits_val]
    · unfold wrap64; omega
    · rw [e]
      intro he
      have := congrArg List.length he
      simp at this
  · rw [if_neg hn]
    have hd := decDigits_dig n.toNat
    have hv := decDigits_val n.toNat
    have hl := decDigits_len n.toNat (by omega)
    have hne := decDigits_ne n.toNat
    generalize Lib.decDigits n.toNat = l at *
    cases l with
    | nil => exact absurd rfl hne
    | cons c r =>
      have hc : c ≠ 45 := by
        intro e
        have := hd c (by simp)
        rw [e] at this
        have : (45 : UInt8).toNat = 45 := rfl
        omega
      have e := tail_pos (r := r) hc
      refine ⟨by rw [e]; exact hd, by rw [e]; exact hl, by rw [e]; exact hne, ?_⟩
      unfold rough
      rw [if_pos e, e, hv]
      unfold wrap64
      omega
theorem rough_range (l : List UInt8) : -9223372036854775808 ≤ rough l ∧ rough l ≤ 9223372036854775807 := by
  unfold rough
  split <;> (unfold wrap64; omega)

end Go.Proofs.YtlnhfgkecifhdaaGreatDoor.readDec
