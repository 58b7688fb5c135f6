/-
  Numbers held against each other: by their digits without noughts at the end and the place of the first (as the specification does), and by their size: the same. Plain.
-/
import Derived.Test.YtlkfaehfkapfnaaDigitsCmp
import Derived.Test.YtlkfaehfkapfnaaCmpFields
namespace Go.Proofs.Ytlkfaehfkapfnaa.num
open Go.ChangeShapes Go.WideShapes Go.ChangeAt Go.RowKit
open Go.Proofs.Ytlkfaehfkapfnaa.val
set_option maxRecDepth 100000

theorem cmpI_lt {a b : Int} (h : a < b) : cmpI a b = -1 := if_pos h
theorem cmpI_gt {a b : Int} (h : b < a) : cmpI a b = 1 := by unfold cmpI; rw [if_neg (by omega), if_pos h]
theorem cmpI_eq {a b : Int} (h : a = b) : cmpI a b = 0 := by unfold cmpI; rw [if_neg (by omega), if_neg (by omega)]
theorem cmpI_mul (a b : Int) {k : Int} (hk : 0 < k) : cmpI (a * k) (b * k) = cmpI a b := by
  rcases Int.lt_trichotomy a b with h | h | h
  · rw [cmpI_lt h, cmpI_lt (Int.mul_lt_mul_of_pos_right h hk)]
  · rw [cmpI_eq h, cmpI_eq (by rw [h])]
  · rw [cmpI_gt h, cmpI_gt (Int.mul_lt_mul_of_pos_right h hk)]
theorem cmpI_nat (a b : Nat) {k : Nat} (hk : 0 < k) : cmpI ((a * k : Nat) : Int) ((b * k : Nat) : Int) = cmpI a b := by
  rw [Int.natCast_mul, Int.natCast_mul]
  exact cmpI_mul _ _ (by omega)
def str (l : List UInt8) : ByteArray := ⟨l.toArray⟩
theorem str_list (l : List UInt8) : (str l).toList = l := by unfold str; rw [Lib.toList_data]
theorem cmpS_str (x y : List UInt8) : cmpS (str x) (str y) = if Op.bytesLess x y then -1 else if x == y then 0 else 1 := by unfold cmpS; rw [str_list, str_list]

theorem less_eq {m n d : Nat} (hm : 0 < m) (hn : n % 10 ≠ 0) (hl : (dg n).length = (dg m).length + d) :
    Op.bytesLess (dg m) (dg n) = decide (m * 10 ^ d < n) ∧ Op.bytesLess (dg n) (dg m) = decide (n < m * 10 ^ d) ∧ (dg m == dg n) = decide (m * 10 ^ d = n) := by
  have hs : (dg (m * 10 ^ d)).length = (dg n).length := by rw [dg_shift hm, List.length_append, List.length_replicate, hl]
  have key : Op.bytesLess (dg m) (dg n) = Op.bytesLess (dg (m * 10 ^ d)) (dg n) ∧ Op.bytesLess (dg n) (dg m) = Op.bytesLess (dg n) (dg (m * 10 ^ d)) := by
    by_cases hd : d = 0
    · subst hd; simp
    · obtain ⟨x, b, hx, hb⟩ := dg_last hn
      rw [dg_shift hm, hx]
      have hl2 : (dg m).length + d = x.length + 1 := by rw [← hl, hx]; simp
      exact less_pad x b hb (dg m) d hl2 (by omega) (fun c hc => dg_ge n c (by rw [hx]; simp [hc]))
  refine ⟨by rw [key.1, less_num _ _ hs], by rw [key.2, less_num _ _ hs.symm], ?_⟩
  by_cases e : m * 10 ^ d = n
  · rw [decide_eq_true e]
    have hd : d = 0 := by
      rcases Nat.eq_zero_or_pos d with h | h
      · exact h
      · exfalso
        obtain ⟨q, rfl⟩ : ∃ q, d = q + 1 := ⟨d - 1, by omega⟩
        rw [Nat.pow_succ, ← Nat.mul_assoc] at e
        omega
    subst hd
    rw [Nat.pow_zero, Nat.mul_one] at e
    rw [e]; simp
  · rw [decide_eq_false e, beq_eq_false_iff_ne]
    intro h
    have h1 := dg_inj _ _ h
    rw [h] at hl
    have hd : d = 0 := by omega
    subst hd
    rw [Nat.pow_zero, Nat.mul_one] at e
    exact e h1
theorem cmp_lists {a c : Bool} {x y : Int} (h1 : a = decide (x < y)) (h3 : c = decide (x = y)) : (if a = true then -1 else if c = true then (0 : Int) else 1) = cmpI x y := by
  rcases Int.lt_trichotomy x y with h | h | h
  · rw [h1, decide_eq_true h, if_pos rfl, cmpI_lt h]
  · rw [h1, h3, decide_eq_false (by omega), decide_eq_true h, if_neg (by decide), if_pos rfl, cmpI_eq h]
  · rw [h1, h3, decide_eq_false (by omega), decide_eq_false (by omega), if_neg (by decide), if_neg (by decide), cmpI_gt h]
theorem pow_pos10 (k : Nat) : 0 < 10 ^ k := Nat.pow_pos (by omega)
/-- The first digit farther left: the greater number. -/
theorem far_less {m n E F : Nat} (hn : 0 < n) (h : (dg m).length + E < (dg n).length + F) : m * 10 ^ E < n * 10 ^ F := by
  have h1 := (dg_bounds m).1
  have h2 := (dg_bounds n).2 hn
  have hl := dg_len_pos n
  have a1 : m * 10 ^ E < 10 ^ ((dg m).length + E) := by rw [Nat.pow_add]; exact Nat.mul_lt_mul_of_pos_right h1 (pow_pos10 E)
  have a2 : 10 ^ ((dg n).length - 1 + F) ≤ n * 10 ^ F := by rw [Nat.pow_add]; exact Nat.mul_le_mul_right _ h2
  have a3 : 10 ^ ((dg m).length + E) ≤ 10 ^ ((dg n).length - 1 + F) := Nat.pow_le_pow_right (by omega) (by omega)
  omega
/-- As the specification does it. -/
def sizeC (m : Nat) (e : Int) (n : Nat) (f : Int) : Int := if cmpI ((dg m).length + e) ((dg n).length + f) ≠ 0 then cmpI ((dg m).length + e) ((dg n).length + f) else cmpS (str (dg m)) (str (dg n))
theorem size_eq {m n : Nat} {e f : Int} (hm : m % 10 ≠ 0) (hn : n % 10 ≠ 0) (he : -60 ≤ e) (hf : -60 ≤ f) : sizeC m e n f = cmpI ((m * 10 ^ (e + 60).toNat : Nat) : Int) ((n * 10 ^ (f + 60).toNat : Nat) : Int) := by
  obtain ⟨E, hE⟩ : ∃ E : Nat, (e + 60).toNat = E := ⟨_, rfl⟩
  obtain ⟨F, hF⟩ : ∃ F : Nat, (f + 60).toNat = F := ⟨_, rfl⟩
  have he' : e = (E : Int) - 60 := by omega
  have hf' : f = (F : Int) - 60 := by omega
  rw [hE, hF]
  have hm0 : 0 < m := by omega
  have hn0 : 0 < n := by omega
  unfold sizeC
  rcases Nat.lt_trichotomy ((dg m).length + E) ((dg n).length + F) with h | h | h
  · have h1 := far_less (m := m) hn0 h
    rw [cmpI_lt (a := (dg m).length + e) (by omega), if_pos (by decide), cmpI_lt (by omega)]
  · rw [cmpI_eq (a := (dg m).length + e) (by omega), if_neg (by decide), cmpS_str]
    rcases Nat.le_total F E with hFE | hFE
    · obtain ⟨d, rfl⟩ : ∃ d, E = F + d := ⟨E - F, by omega⟩
      obtain ⟨k1, k2, k3⟩ := less_eq (m := m) (n := n) (d := d) hm0 hn (by omega)
      have e1 : m * 10 ^ (F + d) = (m * 10 ^ d) * 10 ^ F := by rw [Nat.pow_add, Nat.mul_comm (10 ^ F), Nat.mul_assoc]
      rw [e1, cmpI_nat _ _ (pow_pos10 F)]
      exact cmp_lists (by rw [k1]; exact decide_eq_decide.2 (by omega)) (by rw [k3]; exact decide_eq_decide.2 (by omega))
    · obtain ⟨d, rfl⟩ : ∃ d, F = E + d := ⟨F - E, by omega⟩
      obtain ⟨k1, k2, k3⟩ := less_eq (m := n) (n := m) (d := d) hn0 hm (by omega)
      have e1 : n * 10 ^ (E + d) = (n * 10 ^ d) * 10 ^ E := by rw [Nat.pow_add, Nat.mul_comm (10 ^ E), Nat.mul_assoc]
      have k3' : (dg m == dg n) = decide (n * 10 ^ d = m) := by rw [← k3]; exact BEq.comm
      rw [e1, cmpI_nat _ _ (pow_pos10 E)]
      exact cmp_lists (by rw [k2]; exact decide_eq_decide.2 (by omega)) (by rw [k3']; exact decide_eq_decide.2 (by omega))
  · have h1 := far_less (m := n) hm0 h
    rw [cmpI_gt (a := (dg m).length + e) (by omega), if_pos (by decide), cmpI_gt (by omega)]

/-- n * 10^e, from the sixtieth place behind the point on. -/
def sixty (n e : Int) : Int := n * ((10 ^ (e + 60).toNat : Nat) : Int)
/-- impl: the one with the greater exponent brought to the other's. -/
theorem scal_yes_in : ∀ (d : Nat) (n : Int), InI (n * 10 ^ d) → InI n → scal n d = some (n * 10 ^ d)
  | 0, n, _, _ => by rw [scal]; simp
  | d + 1, n, h, hn => by
    have hp : (1 : Int) ≤ 10 ^ d := by
      have := pow_pos10 d
      have e : ((10 ^ d : Nat) : Int) = (10 : Int) ^ d := by simp
      omega
    have e1 : n * 10 ^ (d + 1) = (n * 10) * 10 ^ d := by rw [Int.pow_succ, Int.mul_comm (10 ^ d), Int.mul_assoc]
    have h10 : InI (n * 10) := by
      rw [e1] at h
      unfold InI at *
      generalize (10 : Int) ^ d = P at *
      rcases Int.le_total 0 n with h0 | h0
      · have h2 : n * 10 * 1 ≤ n * 10 * P := Int.mul_le_mul_of_nonneg_left hp (by omega)
        omega
      · have h2 : -(n * 10) * 1 ≤ -(n * 10) * P := Int.mul_le_mul_of_nonneg_left hp (by omega)
        rw [Int.neg_mul (n * 10) P] at h2
        omega
    have ht : tenOf n = n * 10 := wrap_in h10
    have hf : tenFits n = true := by
      unfold tenFits
      rw [ht]
      exact decide_eq_true (Int.mul_tdiv_cancel n (by decide))
    rw [scal, if_pos hf, ht, scal_yes_in d (n * 10) (by rw [← e1]; exact h) h10, e1]

end Go.Proofs.Ytlkfaehfkapfnaa.num
