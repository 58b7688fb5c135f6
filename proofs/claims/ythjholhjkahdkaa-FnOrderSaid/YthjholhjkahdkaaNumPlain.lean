/-
  Decimal numbers, plain: n * 10^e where it fits into 64 bits, noughts taken off, which numbers are valid, and what Norm is.
-/
import Derived.Test.YthjholhjkahdkaaValT
namespace Go.Proofs.Ythjholhjkahdkaa.num
open Go.ChangeShapes Go.WideShapes Go.ChangeAt Go.RowKit
open Go.Proofs.Ythjholhjkahdkaa.val
set_option maxRecDepth 100000

theorem td (n : Int) : (0 ≤ n ∧ n.tdiv 10 = n / 10) ∨ (n < 0 ∧ n.tdiv 10 = -((-n) / 10)) := by
  rcases Int.lt_or_le n 0 with h | h
  · right
    refine ⟨h, ?_⟩
    have h1 := Int.neg_tdiv (-n) 10
    rw [Int.neg_neg] at h1
    rw [h1, Int.tdiv_eq_ediv_of_nonneg (by omega)]
  · left
    exact ⟨h, Int.tdiv_eq_ediv_of_nonneg h⟩
theorem tm (n : Int) : n.tmod 10 = n - 10 * n.tdiv 10 := Int.tmod_def n 10

def tenOf (n : Int) : Int := wrap64 (n * 10)
def tenFits (n : Int) : Bool := decide ((tenOf n).tdiv 10 = n)
/-- n * 10^e, if no step of it is wrapped round. -/
def scal : Int → Nat → Option Int
  | n, 0 => some n
  | n, e + 1 => if tenFits n = true then scal (tenOf n) e else none
theorem inI_wrap (n : Int) : InI (wrap64 n) := by unfold InI wrap64; omega
theorem wrap_in {n : Int} (h : InI n) : wrap64 n = n := by unfold InI at h; unfold wrap64; omega
theorem ten_ok {n : Int} (hn : InI n) (h : tenFits n = true) : tenOf n = n * 10 := by
  unfold tenFits at h
  replace h := of_decide_eq_true h
  unfold tenOf at *
  have := td (wrap64 (n * 10))
  unfold InI at hn
  generalize hq : (wrap64 (n * 10)).tdiv 10 = q at *
  unfold wrap64 at *
  omega
theorem scal_some : ∀ (e : Nat) (n m : Int), InI n → scal n e = some m → m = n * 10 ^ e ∧ InI m
  | 0, n, m, hn, h => by rw [scal] at h; injection h with h; subst h; simp [hn]
  | e + 1, n, m, hn, h => by
    rw [scal] at h
    split at h
    · rename_i h1
      obtain ⟨h2, h3⟩ := scal_some e (tenOf n) m (show InI (tenOf n) from inI_wrap _) h
      rw [ten_ok hn h1] at h2
      exact ⟨by rw [h2, Int.pow_succ, Int.mul_assoc, Int.mul_comm 10], h3⟩
    · cases h
theorem ten20 (e : Nat) (h : 20 ≤ e) : (100000000000000000000 : Nat) ≤ 10 ^ e := by
  have : 10 ^ 20 ≤ 10 ^ e := Nat.pow_le_pow_right (by omega) h
  simpa using this
theorem scal_far {n : Int} {e : Nat} (hn : InI n) (h0 : n ≠ 0) (he : 20 ≤ e) : scal n e = none := by
  cases h : scal n e with
  | none => rfl
  | some m =>
    obtain ⟨h1, h2⟩ := scal_some e n m hn h
    have h3 : m.natAbs = n.natAbs * 10 ^ e := by rw [h1, Int.natAbs_mul, Int.natAbs_pow]; rfl
    have h4 := ten20 e he
    have h5 : 10 ^ e ≤ n.natAbs * 10 ^ e := Nat.le_mul_of_pos_left _ (by omega)
    unfold InI at h2
    generalize n.natAbs * 10 ^ e = z at *
    omega

/-- The noughts at the end taken off. -/
def strip (n e : Int) : Int × Int := if h : n ≠ 0 ∧ n.tmod 10 = 0 then strip (n.tdiv 10) (e + 1) else (n, e)
termination_by n.natAbs
decreasing_by
  have := td n
  have := tm n
  omega
theorem strip_yes {n e : Int} (h0 : n ≠ 0) (h : n.tmod 10 = 0) : strip n e = strip (n.tdiv 10) (e + 1) := by rw [strip, dif_pos ⟨h0, h⟩]
theorem strip_no {n e : Int} (h : n.tmod 10 ≠ 0) : strip n e = (n, e) := by rw [strip, dif_neg (fun hh => h hh.2)]
theorem div_ne {n : Int} (h0 : n ≠ 0) (h : n.tmod 10 = 0) : n.tdiv 10 ≠ 0 := by
  have := tm n
  omega
theorem div_in {n : Int} (hn : InI n) : InI (n.tdiv 10) := by
  have := td n
  unfold InI at *
  omega
theorem div_less {n : Int} (h0 : n ≠ 0) : (n.tdiv 10).natAbs < n.natAbs := by
  have := td n
  omega
/-- Room for the exponent: as many noughts as there are digits at most. -/
def Room (n e : Int) : Prop := -1000 ≤ e ∧ ∃ k : Nat, e ≤ 1000 + k ∧ k ≤ 40 ∧ n.natAbs * 10 ^ k ≤ 9223372036854775808
theorem room_start {n e : Int} (hn : InI n) (h1 : -1000 ≤ e) (h2 : e ≤ 1000) : Room n e := ⟨h1, 0, by omega, by omega, by unfold InI at hn; simp; omega⟩
theorem room_step {n e : Int} (h : Room n e) (h0 : n ≠ 0) (hm : n.tmod 10 = 0) : Room (n.tdiv 10) (e + 1) := by
  obtain ⟨h1, k, h2, h3, h4⟩ := h
  have e1 : n.natAbs = (n.tdiv 10).natAbs * 10 := by
    have := td n
    have := tm n
    omega
  have e2 : (n.tdiv 10).natAbs * 10 ^ (k + 1) ≤ 9223372036854775808 := by rw [Nat.pow_succ, Nat.mul_comm (10 ^ k), ← Nat.mul_assoc, ← e1]; exact h4
  refine ⟨by omega, k + 1, by omega, ?_, e2⟩
  have hp : 1 ≤ (n.tdiv 10).natAbs := by have := div_ne h0 hm; omega
  have h5 : 10 ^ (k + 1) ≤ 9223372036854775808 := Nat.le_trans (Nat.le_mul_of_pos_left _ hp) e2
  rcases Nat.lt_or_ge k 40 with hk | hk
  · omega
  · have := ten20 (k + 1) (by omega)
    generalize 10 ^ (k + 1) = z at *
    omega
theorem Room.le {n e : Int} (h : Room n e) : -1000 ≤ e ∧ e ≤ 1040 := by obtain ⟨h1, k, h2, h3, _⟩ := h; omega

/-- A VDec's two numbers are valid. -/
def decOk (n e : Int) : Bool := decide (-20 ≤ e ∧ e ≤ 20 ∧ e ≠ 0 ∧ -999999999999999999 ≤ n ∧ n ≤ 999999999999999999 ∧ n.tmod 10 ≠ 0) && (decide (e < 0) || (scal n e.toNat).isNone)
theorem dec_no {n e : Int} (h : ¬ (-20 ≤ e ∧ e ≤ 20 ∧ e ≠ 0 ∧ -999999999999999999 ≤ n ∧ n ≤ 999999999999999999 ∧ n.tmod 10 ≠ 0)) : decOk n e = false := by unfold decOk; rw [decide_eq_false h]; rfl
theorem dec_is {n e : Int} (h : -20 ≤ e ∧ e ≤ 20 ∧ e ≠ 0 ∧ -999999999999999999 ≤ n ∧ n ≤ 999999999999999999 ∧ n.tmod 10 ≠ 0) : decOk n e = (decide (e < 0) || (scal n e.toNat).isNone) := by unfold decOk; rw [decide_eq_true h, Bool.true_and]
/-- A number is valid: of a kind VInt (3) or VDec (4). -/
def numOk (t : LT) : Bool := decide (t.s.size = 0 ∧ t.kids.length = 0) && (if t.k = 3 then decide (t.e = 0) else decOk t.n t.e)

/-- What Norm tells: the kind, the two numbers, whether there is such a number. -/
def normAt (n e : Int) : Int × Int × Int × Bool :=
  if 0 ≤ e ∧ (scal n e.toNat).isSome then (3, (scal n e.toNat).getD 0, 0, true) else if decOk n e then (4, n, e, true) else (0, 0, 0, false)
def norm (n e : Int) : Int × Int × Int × Bool :=
  if e < -1000 ∨ 1000 < e then (0, 0, 0, false) else if n = 0 then (3, 0, 0, true) else normAt (strip n e).1 (strip n e).2

end Go.Proofs.Ythjholhjkahdkaa.num
