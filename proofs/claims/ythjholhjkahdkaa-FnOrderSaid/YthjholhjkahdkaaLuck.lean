/-
  Plain facts (no Go text) on the drawing cursor's numbers: from every number the one that follows comes, after fewer than 2^64 + 3 steps, to three in a row that let a text grow.
-/
import Derived.RowKit
import Derived.Laws.BitsLemmas
namespace Go.Proofs.Ythjholhjkahdkaa.draw
open Go.RowKit

/-- The number that follows. -/
def next (h : Int) : Int := wrap64 (wrap64 (h * 6364136223846793005) + 1442695040888963407)
/-- The byte of a number. -/
def outB (h : Int) : Int := bits BinOp.xor IntKind.i64 (h / 8589934592) (h / 35184372088832) % 256
def it : Nat → Int → Int
  | 0, h => h
  | k + 1, h => it k (next h)
theorem it_add : ∀ (a b : Nat) (h : Int), it (a + b) h = it b (it a h)
  | 0, b, h => by simp [it]
  | a + 1, b, h => by rw [Nat.succ_add, it, it, it_add a b]
theorem wrap_q (x : Int) : ∃ q, wrap64 x = x + 18446744073709551616 * q := ⟨-((x + 9223372036854775808) / 18446744073709551616), by unfold wrap64; omega⟩
theorem wrap_in (x : Int) : -9223372036854775808 ≤ wrap64 x ∧ wrap64 x ≤ 9223372036854775807 := by unfold wrap64; omega
theorem next_in (h : Int) : -9223372036854775808 ≤ next h ∧ next h ≤ 9223372036854775807 := wrap_in _
theorem it_in : ∀ (k : Nat) (h : Int), (-9223372036854775808 ≤ h ∧ h ≤ 9223372036854775807) → -9223372036854775808 ≤ it k h ∧ it k h ≤ 9223372036854775807
  | 0, _, hh => hh
  | k + 1, h, _ => it_in k (next h) (next_in h)

theorem jump : ∀ k : Nat, ∃ α γ : Int, ∀ h : Int, ∃ q : Int, it (2 ^ k) h = (1 + 4 * 2 ^ k * α) * h + 2 ^ k * (1 + 2 * γ) + 18446744073709551616 * q
  | 0 => by
    refine ⟨1591034055961698251, 721347520444481703, fun h => ?_⟩
    obtain ⟨q1, e1⟩ := wrap_q (h * 6364136223846793005)
    obtain ⟨q2, e2⟩ := wrap_q (wrap64 (h * 6364136223846793005) + 1442695040888963407)
    refine ⟨q1 + q2, ?_⟩
    show wrap64 (wrap64 (h * 6364136223846793005) + 1442695040888963407) = _
    rw [e2, e1]
    simp only [Int.pow_zero]
    omega
  | k + 1 => by
    obtain ⟨α, γ, ih⟩ := jump k
    refine ⟨α + 2 * 2 ^ k * α * α, γ + 2 ^ k * α + 2 * γ * 2 ^ k * α, fun h => ?_⟩
    obtain ⟨q1, e1⟩ := ih h
    obtain ⟨q2, e2⟩ := ih (it (2 ^ k) h)
    refine ⟨(1 + 4 * 2 ^ k * α) * q1 + q2, ?_⟩
    rw [show (2 : Nat) ^ (k + 1) = 2 ^ k + 2 ^ k by omega, it_add, e2, e1]
    have e3 : (2 : Int) ^ (k + 1) = 2 * 2 ^ k := by rw [Int.pow_succ]; omega
    rw [e3]
    generalize (2 : Int) ^ k = p
    grind

theorem reach (t : Int) : ∀ (k : Nat), k ≤ 64 → ∀ h : Int, ∃ n : Nat, n < 2 ^ k ∧ ∃ q : Int, it n h = t + 2 ^ k * q
  | 0, _, h => ⟨0, by simp, h - t, by simp [it]; omega⟩
  | k + 1, hk, h => by
    obtain ⟨n, hn, q, e⟩ := reach t k (by omega) h
    have e3 : (2 : Int) ^ (k + 1) = 2 * 2 ^ k := by rw [Int.pow_succ]; omega
    have n3 : (2 : Nat) ^ (k + 1) = 2 ^ k + 2 ^ k := by omega
    rcases (show q % 2 = 0 ∨ q % 2 = 1 by omega) with hq | hq
    · refine ⟨n, by omega, q / 2, ?_⟩
      rw [e, e3]
      have : q = 2 * (q / 2) := by omega
      generalize q / 2 = r at *
      subst this
      grind
    · obtain ⟨α, γ, hj⟩ := jump k
      obtain ⟨q2, e2⟩ := hj (it n h)
      have h64 : (18446744073709551616 : Int) = 2 ^ (k + 1) * 2 ^ (63 - k) := by
        rw [← Int.pow_add, show k + 1 + (63 - k) = 64 by omega]; rfl
      refine ⟨n + 2 ^ k, by omega, (q + 1) / 2 + 2 * α * it n h + γ + 2 ^ (63 - k) * q2, ?_⟩
      rw [it_add, e2, h64, e3]
      have hr : q = 2 * ((q + 1) / 2) - 1 := by omega
      generalize (q + 1) / 2 = r at *
      generalize (2 : Int) ^ (63 - k) = s
      rw [e]
      generalize (2 : Int) ^ k = p at *
      subst hr
      grind

/-- A number whose byte lets a text grow. -/
def Good (h : Int) : Prop := outB h % 5 = 0 ∨ outB h % 5 = 3 ∨ outB h % 5 = 4
/-- After m steps at most a text grows: the three steps up to there all let it grow. -/
def Lucky (h : Int) (m : Nat) : Prop := ∀ j, j ≤ m → m ≤ j + 2 → Good (it (j + 1) h)
theorem Lucky.now {h : Int} {m : Nat} (hl : Lucky h m) (hm : m ≤ 2) : Good (next h) := hl 0 (by omega) (by omega)
theorem it_snoc : ∀ (k : Nat) (h : Int), it (k + 1) h = next (it k h)
  | 0, _ => rfl
  | k + 1, h => by rw [it, it_snoc k (next h), it]
theorem Lucky.step {h : Int} {m : Nat} (hl : Lucky h (m + 1)) : Lucky (next h) m := fun j h1 h2 => hl (j + 1) (by omega) (by omega)
theorem Lucky.step3 {h : Int} {m : Nat} (hl : Lucky h (m + 3)) : Lucky (next (next (next h))) m := hl.step.step.step
theorem good0 : Good 0 := .inl (by decide +kernel)
theorem good1 : Good (next 0) := .inr (.inl (by decide +kernel))
theorem good2 : Good (next (next 0)) := .inr (.inr (by decide +kernel))
theorem lucky (h : Int) : ∃ m, m < 18446744073709551619 ∧ Lucky h m := by
  obtain ⟨n, hn, q, e⟩ := reach 0 64 (by omega) (next h)
  have hi := it_in n (next h) (next_in h)
  have e0 : it (n + 1) h = 0 := by
    rw [it]
    have h64 : (2 : Int) ^ 64 = 18446744073709551616 := rfl
    rw [h64] at e
    omega
  have hn' : n < 18446744073709551616 := hn
  refine ⟨n + 2, by omega, fun j h1 h2 => ?_⟩
  have hc : j = n ∨ j = n + 1 ∨ j = n + 2 := by omega
  rcases hc with rfl | rfl | rfl
  · rw [e0]; exact good0
  · rw [it_snoc, e0]; exact good1
  · rw [it_snoc, it_snoc, e0]; exact good2

end Go.Proofs.Ythjholhjkahdkaa.draw
