/-
  Decimal numerals held against each other as texts: plain. Two numerals without noughts at their ends, the same place of the first digit: the texts' order is the numbers'.
-/
import Derived.Test.YtlkfaehfkapfnaaNumPlain
import Derived.Lib.ItoaNum
namespace Go.Proofs.Ytlkfaehfkapfnaa.num
open Go.ChangeShapes Go.WideShapes Go.ChangeAt Go.RowKit
open Go.Proofs.Ytlkfaehfkapfnaa.val
set_option maxRecDepth 100000

def dg (n : Nat) : List UInt8 := Lib.decDigits n
def dig (d : Nat) : UInt8 := UInt8.ofNat (48 + d)
theorem dg_small {n : Nat} (h : n < 10) : dg n = [dig n] := by unfold dg; rw [Lib.decDigits, dif_pos h]; rfl
theorem dg_big {n : Nat} (h : ¬ n < 10) : dg n = dg (n / 10) ++ [dig (n % 10)] := by unfold dg; rw [Lib.decDigits, dif_neg h]; rfl
theorem dig_nat {d : Nat} (h : d < 10) : (dig d).toNat = 48 + d := by unfold dig; simp; omega
theorem dig_lt {a b : Nat} (ha : a < 10) (hb : b < 10) : (dig a < dig b) ↔ a < b := by
  rw [UInt8.lt_iff_toNat_lt, dig_nat ha, dig_nat hb]; omega
theorem dig_eq {a b : Nat} (ha : a < 10) (hb : b < 10) : (dig a = dig b) ↔ a = b := by
  rw [← UInt8.toNat_inj, dig_nat ha, dig_nat hb]; omega
theorem dg_len_pos (n : Nat) : 0 < (dg n).length := by
  by_cases h : n < 10
  · rw [dg_small h]; simp
  · rw [dg_big h]; simp
/-- As many digits as its size tells. -/
theorem dg_bounds (n : Nat) : n < 10 ^ (dg n).length ∧ (0 < n → 10 ^ ((dg n).length - 1) ≤ n) := by
  induction n using Nat.strongRecOn with
  | ind n ih =>
    by_cases h : n < 10
    · rw [dg_small h]; simp; omega
    · have hl := dg_len_pos (n / 10)
      obtain ⟨h1, h2⟩ := ih (n / 10) (by omega)
      have h3 := h2 (by omega)
      rw [dg_big h, List.length_append]
      simp only [List.length_cons, List.length_nil, Nat.add_sub_cancel]
      generalize (dg (n / 10)).length = L at *
      obtain ⟨q, rfl⟩ : ∃ q, L = q + 1 := ⟨L - 1, by omega⟩
      rw [Nat.add_sub_cancel] at h3
      have e1 : 10 ^ (q + 1 + 1) = 10 * 10 ^ (q + 1) := by rw [Nat.pow_succ, Nat.mul_comm]
      have e2 : 10 ^ (q + 1) = 10 * 10 ^ q := by rw [Nat.pow_succ, Nat.mul_comm]
      rw [show q + 1 + (0 + 1) = q + 1 + 1 from rfl]
      refine ⟨by omega, fun _ => by omega⟩

theorem less_snoc (a b : UInt8) : ∀ (x y : List UInt8), x.length = y.length → Op.bytesLess (x ++ [a]) (y ++ [b]) = (Op.bytesLess x y || (x == y && decide (a < b)))
  | [], [], _ => by simp [Op.bytesLess]
  | [], _ :: _, h => by simp at h
  | _ :: _, [], h => by simp at h
  | c :: x, d :: y, h => by
    have ih := less_snoc a b x y (by simpa using h)
    simp only [List.cons_append, Op.bytesLess, ih, List.cons_beq_cons]
    cases (decide (c < d)) <;> cases (c == d) <;> simp
theorem dg_inj : ∀ (m n : Nat), dg m = dg n → m = n := by
  intro m
  induction m using Nat.strongRecOn with
  | ind m ih =>
    intro n h
    by_cases hm : m < 10
    · by_cases hn : n < 10
      · rw [dg_small hm, dg_small hn] at h
        exact (dig_eq hm hn).1 (by simpa using h)
      · rw [dg_small hm, dg_big hn] at h
        have := congrArg List.length h
        have hl := dg_len_pos (n / 10)
        simp only [List.length_append, List.length_cons, List.length_nil] at this
        omega
    · by_cases hn : n < 10
      · rw [dg_big hm, dg_small hn] at h
        have := congrArg List.length h
        have hl := dg_len_pos (m / 10)
        simp only [List.length_append, List.length_cons, List.length_nil] at this
        omega
      · rw [dg_big hm, dg_big hn] at h
        have h1 := List.append_inj' h rfl
        have h2 := ih (m / 10) (by omega) (n / 10) h1.1
        have h3 := (dig_eq (a := m % 10) (b := n % 10) (by omega) (by omega)).1 (by simpa using h1.2)
        omega
theorem less_num : ∀ (m n : Nat), (dg m).length = (dg n).length → Op.bytesLess (dg m) (dg n) = decide (m < n) := by
  intro m
  induction m using Nat.strongRecOn with
  | ind m ih =>
    intro n h
    by_cases hm : m < 10
    · by_cases hn : n < 10
      · rw [dg_small hm, dg_small hn]
        simp only [Op.bytesLess, Bool.and_false, Bool.or_false]
        exact decide_eq_decide.2 (dig_lt hm hn)
      · rw [dg_small hm, dg_big hn] at h
        have hl := dg_len_pos (n / 10)
        simp only [List.length_append, List.length_cons, List.length_nil] at h
        omega
    · by_cases hn : n < 10
      · rw [dg_big hm, dg_small hn] at h
        have hl := dg_len_pos (m / 10)
        simp only [List.length_append, List.length_cons, List.length_nil] at h
        omega
      · rw [dg_big hm, dg_big hn, List.length_append, List.length_append] at h
        have hl : (dg (m / 10)).length = (dg (n / 10)).length := by simpa using h
        rw [dg_big hm, dg_big hn, less_snoc _ _ _ _ hl, ih (m / 10) (by omega) (n / 10) hl]
        have hd : decide (dig (m % 10) < dig (n % 10)) = decide (m % 10 < n % 10) := decide_eq_decide.2 (dig_lt (by omega) (by omega))
        have he : (dg (m / 10) == dg (n / 10)) = decide (m / 10 = n / 10) := by
          by_cases e : m / 10 = n / 10
          · rw [decide_eq_true e, e]; simp
          · rw [decide_eq_false e, beq_eq_false_iff_ne]
            exact fun h => e (dg_inj _ _ h)
        rw [hd, he, Bool.eq_iff_iff]
        simp only [Bool.or_eq_true, Bool.and_eq_true, decide_eq_true_eq]
        omega
/-- Noughts behind a numeral. -/
theorem dg_shift {m : Nat} (h : 0 < m) : ∀ d, dg (m * 10 ^ d) = dg m ++ List.replicate d 48
  | 0 => by simp
  | d + 1 => by
    have hp : 0 < m * 10 ^ d := Nat.mul_pos h (Nat.pow_pos (by omega))
    have e : m * 10 ^ (d + 1) = 10 * (m * 10 ^ d) := by rw [Nat.pow_succ, Nat.mul_comm 10, Nat.mul_assoc]
    have h1 : ¬ 10 * (m * 10 ^ d) < 10 := by omega
    rw [e, dg_big h1, show 10 * (m * 10 ^ d) / 10 = m * 10 ^ d by omega, show 10 * (m * 10 ^ d) % 10 = 0 by omega, dg_shift h d, List.append_assoc]
    congr 1
    rw [List.replicate_succ']
    rfl
theorem dg_ge (n : Nat) : ∀ b ∈ dg n, 48 ≤ b.toNat := by
  induction n using Nat.strongRecOn with
  | ind n ih =>
    intro b hb
    by_cases h : n < 10
    · rw [dg_small h] at hb
      obtain rfl := List.mem_singleton.1 hb
      rw [dig_nat h]; omega
    · rw [dg_big h] at hb
      rcases List.mem_append.1 hb with hb | hb
      · exact ih _ (by omega) b hb
      · obtain rfl := List.mem_singleton.1 hb
        rw [dig_nat (by omega)]; omega
theorem dg_last {n : Nat} (h : n % 10 ≠ 0) : ∃ x b, dg n = x ++ [b] ∧ 48 < b.toNat := by
  by_cases hn : n < 10
  · exact ⟨[], _, by rw [dg_small hn]; rfl, by rw [dig_nat hn]; omega⟩
  · exact ⟨_, _, dg_big hn, by rw [dig_nat (by omega)]; omega⟩
/-- Noughts against digits that do not end in one. -/
theorem zeros_less : ∀ (x : List UInt8) (b : UInt8), (∀ c ∈ x, 48 ≤ c.toNat) → 48 < b.toNat → Op.bytesLess (List.replicate (x.length + 1) 48) (x ++ [b]) = true ∧ Op.bytesLess (x ++ [b]) (List.replicate (x.length + 1) 48) = false
  | [], b, _, hb => by
    have h1 : (48 : UInt8) < b := by rw [UInt8.lt_iff_toNat_lt]; exact hb
    have h2 : ¬ b < (48 : UInt8) := by rw [UInt8.lt_iff_toNat_lt]; show ¬ b.toNat < 48; omega
    have h3 : b ≠ (48 : UInt8) := by intro e; subst e; exact absurd hb (by decide)
    simp [Op.bytesLess, h1, h2, h3]
  | c :: x, b, hx, hb => by
    obtain ⟨i1, i2⟩ := zeros_less x b (fun d hd => hx d (List.mem_cons_of_mem _ hd)) hb
    have hc := hx c (List.mem_cons_self ..)
    have h2 : ¬ c < (48 : UInt8) := by rw [UInt8.lt_iff_toNat_lt]; show ¬ c.toNat < 48; omega
    rw [List.length_cons, List.replicate_succ, List.cons_append]
    simp only [Op.bytesLess, i1, i2]
    by_cases e : c = 48
    · subst e; simp
    · have h1 : (48 : UInt8) < c := by
        rw [UInt8.lt_iff_toNat_lt]
        have : c.toNat ≠ 48 := fun h => e (UInt8.toNat_inj.1 h)
        show 48 < c.toNat
        omega
      simp [h1, h2, e]
/-- A numeral against a longer one that does not end in a nought: noughts may be put behind the first. -/
theorem less_pad (x : List UInt8) (b : UInt8) (hb : 48 < b.toNat) : ∀ (p : List UInt8) (d : Nat), p.length + d = x.length + 1 → 0 < d → (∀ c ∈ x, 48 ≤ c.toNat) →
    Op.bytesLess p (x ++ [b]) = Op.bytesLess (p ++ List.replicate d 48) (x ++ [b]) ∧ Op.bytesLess (x ++ [b]) p = Op.bytesLess (x ++ [b]) (p ++ List.replicate d 48)
  | [], d, hd, _, hx => by
    obtain ⟨h1, h2⟩ := zeros_less x b hx hb
    have e : d = x.length + 1 := by simpa using hd
    subst e
    rw [List.nil_append, h1, h2]
    cases x <;> simp [Op.bytesLess]
  | a :: p, d, hd, h0, hx => by
    cases x with
    | nil => simp at hd; omega
    | cons c x =>
      obtain ⟨h1, h2⟩ := less_pad x b hb p d (by simp at hd; omega) h0 (fun z hz => hx z (List.mem_cons_of_mem _ hz))
      simp only [List.cons_append, Op.bytesLess, h1, h2]
      exact ⟨trivial, trivial⟩

end Go.Proofs.Ytlkfaehfkapfnaa.num
