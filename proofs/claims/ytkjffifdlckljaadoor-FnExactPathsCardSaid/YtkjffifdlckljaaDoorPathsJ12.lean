/-
  Decimal numbers, plain: n * 10^e where it fits into 64 bits, noughts taken off, which numbers are valid, and what Norm is.
-/
import Derived.Test.YtkjffifdlckljaaDoorPathsJ0
import Derived.Test.YtkjffifdlckljaaDoorRows
import Derived.Test.YtkjffifdlckljaaDoorPathsJ5
namespace Go.Proofs.YtkjffifdlckljaaDoor.num
open Go.ChangeShapes Go.WideShapes Go.ChangeAt Go.RowKit
open Go.Proofs.YtkjffifdlckljaaDoor.val
set_option maxRecDepth 100000

theorem td (n : Int) : (0 ≤ n ∧ n.tdiv 10 = n / 10) ∨ (n < 0 ∧ n.tdiv 10 = -((-n) / 10)) := by
  rcases Int.lt_or_le n 0 with h | h
  · right
    refine ⟨h, ?_⟩
    have h1 := Int.neg_tdiv (-n) 10
    rw [Int.neg_neg] at h1
    rw [h1, Int.tdiv_eq_ediv_of_nonneg (by omega)]
  · left
    exact ⟨h, Int.tdiv_eq_ediv_of_nonneg h⟩
theorem tm (n : Int) : n.tmod 10 = n - 10 * n.tdiv 10 := Int.tmod_def n 10

def tenOf (n : Int) : Int := wrap64 (n * 10)
def tenFits (n : Int) : Bool := decide ((tenOf n).tdiv 10 = n)
/-- n * 10^e, if no step of it is wrapped round. -/
def scal : Int → Nat → Option Int
  | n, 0 => some n
  | n, e + 1 => if tenFits n = true then scal (tenOf n) e else none
theorem inI_wrap (n : Int) : InI (wrap64 n) := by unfold InI wrap64; omega
theorem wrap_in {n : Int} (h : InI n) : wrap64 n = n := by unfold InI at h; unfold wrap64; omega
theorem ten_ok {n : Int} (hn : InI n) (h : tenFits n = true) : tenOf n = n * 10 := by
  unfold tenFits at h
  replace h := of_decide_eq_true h
  unfold tenOf at *
  have := td (wrap64 (n * 10))
  unfold InI at hn
  generalize hq : (wrap64 (n * 10)).tdiv 10 = q at *
  unfold wrap64 at *
  omega
theorem scal_some : ∀ (e : Nat) (n m : Int), InI n → scal n e = some m → m = n * 10 ^ e ∧ InI m
  | 0, n, m, hn, h => by rw [scal] at h; injection h with h; subst h; simp [hn]
  | e + 1, n, m, hn, h => by
    rw [scal] at h
    split at h
    · rename_i h1
      obtain ⟨h2, h3⟩ := scal_some e (tenOf n) m (show InI (tenOf n) from inI_wrap _) h
      rw [ten_ok hn h1] at h2
      exact ⟨by rw [h2, Int.pow_succ, Int.mul_assoc, Int.mul_comm 10], h3⟩
    · cases h
theorem ten20 (e : Nat) (h : 20 ≤ e) : (100000000000000000000 : Nat) ≤ 10 ^ e := by
  have : 10 ^ 20 ≤ 10 ^ e := Nat.pow_le_pow_right (by omega) h
  simpa using this
theorem scal_far {n : Int} {e : Nat} (hn : InI n) (h0 : n ≠ 0) (he : 20 ≤ e) : scal n e = none := by
  cases h : scal n e with
  | none => rfl
  | some m =>
    obtain ⟨h1, h2⟩ := scal_some e n m hn h
    have h3 : m.natAbs = n.natAbs * 10 ^ e := by rw [h1, Int.natAbs_mul, Int.natAbs_pow]; rfl
    have h4 := ten20 e he
    have h5 : 10 ^ e ≤ n.natAbs * 10 ^ e := Nat.le_mul_of_pos_left _ (by omega)
    unfold InI at h2
    generalize n.natAbs * 10 ^ e = z at *
    omega

/-- The noughts at the end taken off. -/
def strip (n e : Int) : Int × Int := if h : n ≠ 0 ∧ n.tmod 10 = 0 then strip (n.tdiv 10) (e + 1) else (n, e)
termination_by n.natAbs
decreasing_by
  have := td n
  have := tm n
  omega
theorem strip_yes {n e : Int} (h0 : n ≠ 0) (h : n.tmod 10 = 0) : strip n e = strip (n.tdiv 10) (e + 1) := by rw [strip, dif_pos ⟨h0, h⟩]
theorem strip_no {n e : Int} (h : n.tmod 10 ≠ 0) : strip n e = (n, e) := by rw [strip, dif_neg (fun hh => h hh.2)]
theorem div_ne {n : Int} (h0 : n ≠ 0) (h : n.tmod 10 = 0) : n.tdiv 10 ≠ 0 := by
  have := tm n
  omega
theorem div_in {n : Int} (hn : InI n) : InI (n.tdiv 10) := by
  have := td n
  unfold InI at *
  omega
theorem div_less {n : Int} (h0 : n ≠ 0) : (n.tdiv 10).natAbs < n.natAbs := by
  have := td n
  omega
/-- Room for the exponent: as many noughts as there are digits at most. -/
def Room (n e : Int) : Prop := -1000 ≤ e ∧ ∃ k : Nat, e ≤ 1000 + k ∧ k ≤ 40 ∧ n.natAbs * 10 ^ k ≤ 9223372036854775808
theorem room_start {n e : Int} (hn : InI n) (h1 : -1000 ≤ e) (h2 : e ≤ 1000) : Room n e := ⟨h1, 0, by omega, by omega, by unfold InI at hn; simp; omega⟩
theorem room_step {n e : Int} (h : Room n e) (h0 : n ≠ 0) (hm : n.tmod 10 = 0) : Room (n.tdiv 10) (e + 1) := by
  obtain ⟨h1, k, h2, h3, h4⟩ := h
  have e1 : n.natAbs = (n.tdiv 10).natAbs * 10 := by
    have := td n
    have := tm n
    omega
  have e2 : (n.tdiv 10).natAbs * 10 ^ (k + 1) ≤ 9223372036854775808 := by rw [Nat.pow_succ, Nat.mul_comm (10 ^ k), ← Nat.mul_assoc, ← e1]; exact h4
  refine ⟨by omega, k + 1, by omega, ?_, e2⟩
  have hp : 1 ≤ (n.tdiv 10).natAbs := by have := div_ne h0 hm; omega
  have h5 : 10 ^ (k + 1) ≤ 9223372036854775808 := Nat.le_trans (Nat.le_mul_of_pos_left _ hp) e2
  rcases Nat.lt_or_ge k 40 with hk | hk
  · omega
  · have := ten20 (k + 1) (by omega)
    generalize 10 ^ (k + 1) = z at *
    omega
theorem Room.le {n e : Int} (h : Room n e) : -1000 ≤ e ∧ e ≤ 1040 := by obtain ⟨h1, k, h2, h3, _⟩ := h; omega

/-- A VDec's two numbers are valid. -/
def decOk (n e : Int) : Bool := decide (-20 ≤ e ∧ e ≤ 20 ∧ e ≠ 0 ∧ -999999999999999999 ≤ n ∧ n ≤ 999999999999999999 ∧ n.tmod 10 ≠ 0) && (decide (e < 0) || (scal n e.toNat).isNone)
theorem dec_no {n e : Int} (h : ¬ (-20 ≤ e ∧ e ≤ 20 ∧ e ≠ 0 ∧ -999999999999999999 ≤ n ∧ n ≤ 999999999999999999 ∧ n.tmod 10 ≠ 0)) : decOk n e = false := by unfold decOk; rw [decide_eq_false h]; rfl
theorem dec_is {n e : Int} (h : -20 ≤ e ∧ e ≤ 20 ∧ e ≠ 0 ∧ -999999999999999999 ≤ n ∧ n ≤ 999999999999999999 ∧ n.tmod 10 ≠ 0) : decOk n e = (decide (e < 0) || (scal n e.toNat).isNone) := by unfold decOk; rw [decide_eq_true h, Bool.true_and]
/-- A number is valid: of a kind VInt (3) or VDec (4). -/
def numOk (t : LT) : Bool := decide (t.s.size = 0 ∧ t.kids.length = 0) && (if t.k = 3 then decide (t.e = 0) else decOk t.n t.e)

/-- What Norm tells: the kind, the two numbers, whether there is such a number. -/
def normAt (n e : Int) : Int × Int × Int × Bool :=
  if 0 ≤ e ∧ (scal n e.toNat).isSome then (3, (scal n e.toNat).getD 0, 0, true) else if decOk n e then (4, n, e, true) else (0, 0, 0, false)
def norm (n e : Int) : Int × Int × Int × Bool :=
  if e < -1000 ∨ 1000 < e then (0, 0, 0, false) else if n = 0 then (3, 0, 0, true) else normAt (strip n e).1 (strip n e).2

end Go.Proofs.YtkjffifdlckljaaDoor.num
/-
  impl.scaled, spec.l02Whole: n * 10^e, and whether it fits into 64 bits.
-/
namespace Go.Proofs.YtkjffifdlckljaaDoor.num
open Go.ChangeShapes Go.WideShapes Go.ChangeAt Go.RowKit
open Go.Proofs.YtkjffifdlckljaaDoor.val
set_option maxRecDepth 100000

theorem ret_ib {a b : Int} {c d : Bool} (h : a = b) (h' : c = d) : Ending.returned (.tuple #[.int .i64 a, .bool c]) = .returned (.tuple #[.int .i64 b, .bool d]) := by rw [h, h']
theorem mul_ten (n : Int) : wrap64 (wrap64 (10 * n)) = tenOf n := by unfold tenOf wrap64; omega
theorem div_ten (n : Int) : (wrap64 ((tenOf n).tdiv 10) == n) = tenFits n := by
  have h : InI (tenOf n) := inI_wrap _
  rw [wrap_in (div_in h)]
  unfold tenFits
  by_cases e : (tenOf n).tdiv 10 = n
  · rw [decide_eq_true e, beq_iff_eq.2 e]
  · rw [decide_eq_false e, beq_eq_false_iff_ne.2 e]
theorem digit_any (n : Int) (w : World) : Calls Tryd.prog 209 #[.int .i64 n, .int .i64 0] w fun e w' => e = .returned (.tuple #[.int .i64 (tenOf n), .bool (tenFits n)]) ∧ w = w' := by
  have h1 := mul_ten n
  have h2 := div_ten n
  go_enter Tryd.func209, Tryd.ntmps209
  go_wp2
  go_ret2
  exact ⟨ret_ib (by first | rfl | exact h1) (by first | rfl | (rw [h1]; exact h2)), rfl⟩

theorem scal_yes {n : Int} {e : Nat} (h : tenFits n = true) : scal n (e + 1) = scal (tenOf n) e := by rw [scal, if_pos h]
theorem scal_no {n : Int} {e : Nat} (h : tenFits n = false) : scal n (e + 1) = none := by rw [scal, if_neg (by rw [h]; decide)]

/-- What the loop of scaled keeps. -/
structure ScalAt (n : Int) (e : Nat) (m : Int) (k : Nat) : Prop where
  le : k ≤ e
  eq : scal m (e - k) = scal n e
theorem ScalAt.start (n : Int) (e : Nat) : ScalAt n e n 0 := ⟨Nat.zero_le _, rfl⟩
theorem ScalAt.step {n m : Int} {e k : Nat} (h : ScalAt n e m k) (hk : k < e) (hm : tenFits m = true) : ScalAt n e (tenOf m) (k + 1) := by
  refine ⟨hk, ?_⟩
  rw [← h.eq, show e - k = (e - (k + 1)) + 1 by omega, scal_yes hm]
theorem ScalAt.stop {n m : Int} {e k : Nat} (h : ScalAt n e m k) (hk : k < e) (hm : tenFits m = false) : scal n e = none := by
  rw [← h.eq, show e - k = (e - (k + 1)) + 1 by omega, scal_no hm]
theorem ScalAt.fin {n m : Int} {e k : Nat} (h : ScalAt n e m k) (hk : ¬ k < e) : scal n e = some m := by
  have := h.le
  rw [← h.eq, show e - k = 0 by omega, scal]

set_option maxHeartbeats 1000000 in
theorem scaled_any (n : Int) (e : Nat) (he : e ≤ 2000) (w : World) : Calls Tryd.prog 208 #[.int .i64 n, .int .i64 e] w fun r w' => r = .returned (.tuple #[.int .i64 ((scal n e).getD 0), .bool (scal n e).isSome]) ∧ w = w' := by
  have CD := Lib.hid digit_any
  have HS := Lib.hid (ScalAt.start n e)
  obtain ⟨R, HR⟩ : ∃ R, Hid (R = scal n e) := ⟨_, rfl⟩
  rw [← HR.out]
  go_enter Tryd.func208, Tryd.ntmps208
  go_wp2
  go_loop [0, 9] (fun v i => ∃ (k : Nat) (m : Int), i = .int .i64 k ∧ v = .int .i64 m ∧ ScalAt n e m k) (fun _ i => e - (intOf i).toNat)
  case atStart => exact ⟨0, n, rfl, rfl, HS.out⟩
  case round =>
    obtain ⟨k, m, rfl, rfl, HT⟩ := hrel
    have hke := HT.le
    by_cases hlt : k < e
    · have hk1 : (k : Int) < (e : Int) := by omega
      have CM := fun W => CD.out m W
      cases hm : tenFits m with
      | true =>
        rw [hm] at CM
        have HN := Lib.hid (HT.step hlt hm)
        replace CM := Lib.hid CM
        clear hm
        go_wp2_with (go_at_call 209; with_reducible refine (CM.out _).mono ?_; rintro e w2 ⟨rfl, rfl⟩)
        exact ⟨⟨k + 1, _, by first | rfl | simp, rfl, HN.out⟩, by simp [intOf]; omega⟩
      | false =>
        rw [hm] at CM
        have HN := Lib.hid (HT.stop hlt hm)
        replace CM := Lib.hid CM
        clear hm
        go_wp2_with (go_at_call 209; with_reducible refine (CM.out _).mono ?_; rintro e w2 ⟨rfl, rfl⟩)
        go_ret2
        exact ⟨by rw [HR.out, HN.out]; rfl, rfl⟩
    · have hk1 : ¬ (k : Int) < (e : Int) := by omega
      have HN := Lib.hid (HT.fin hlt)
      go_wp2
      go_ret2
      exact ⟨by rw [HR.out, HN.out]; rfl, rfl⟩

theorem fits_iff {m : Int} : tenFits m = true → (tenOf m).tdiv 10 = m := fun h => of_decide_eq_true h
theorem fits_not {m : Int} : tenFits m = false → ¬ (tenOf m).tdiv 10 = m := fun h => of_decide_eq_false h
theorem whole_neg (n e : Int) (he : e ≤ 0) (w : World) : Calls Tryd.prog 140 #[.int .i64 n, .int .i64 e] w fun r w' => r = .returned (.bool false) ∧ w = w' := by
  go_enter Tryd.func140, Tryd.ntmps140
  go_wp2
  go_loop [0, 5] (fun v i => v = .int .i64 n ∧ i = .int .i64 0) (fun _ _ => 0)
  case atStart => exact ⟨rfl, rfl⟩
  case round =>
    obtain ⟨rfl, rfl⟩ := hrel
    have h1 : ¬ (0 : Int) < e := by omega
    go_wp2
    go_ret
    exact ⟨by first | rfl | simp [h1], rfl⟩
set_option maxHeartbeats 1000000 in
theorem whole_pos (n : Int) (e : Nat) (he : e ≤ 2000) (h0 : 0 < e) (w : World) : Calls Tryd.prog 140 #[.int .i64 n, .int .i64 e] w fun r w' => r = .returned (.bool (scal n e).isSome) ∧ w = w' := by
  have HS := Lib.hid (ScalAt.start n e)
  obtain ⟨R, HR⟩ : ∃ R, Hid (R = scal n e) := ⟨_, rfl⟩
  rw [← HR.out]
  go_enter Tryd.func140, Tryd.ntmps140
  go_wp2
  go_loop [0, 5] (fun v i => ∃ (k : Nat) (m : Int), i = .int .i64 k ∧ v = .int .i64 m ∧ ScalAt n e m k) (fun _ i => e - (intOf i).toNat)
  case atStart => exact ⟨0, n, rfl, rfl, HS.out⟩
  case round =>
    obtain ⟨k, m, rfl, rfl, HT⟩ := hrel
    have hke := HT.le
    by_cases hlt : k < e
    · have hk1 : (k : Int) < (e : Int) := by omega
      have hT : wrap64 (m * 10) = tenOf m := rfl
      have hD : wrap64 ((tenOf m).tdiv 10) = (tenOf m).tdiv 10 := wrap_in (div_in (show InI (tenOf m) from inI_wrap _))
      cases hm : tenFits m with
      | true =>
        have HN := Lib.hid (HT.step hlt hm)
        have hq := fits_iff hm
        replace hD := hD.trans hq
        clear hm hq
        go_wp2
        exact ⟨⟨k + 1, _, by first | rfl | simp, rfl, HN.out⟩, by simp [intOf]; omega⟩
      | false =>
        have HN := Lib.hid (HT.stop hlt hm)
        have hq := fits_not hm
        clear hm
        go_wp2
        go_ret
        exact ⟨by rw [HR.out, HN.out]; rfl, rfl⟩
    · have hk1 : ¬ (k : Int) < (e : Int) := by omega
      have h01 : (0 : Int) < (e : Int) := by omega
      have HN := Lib.hid (HT.fin hlt)
      go_wp2
      go_ret
      exact ⟨by rw [HR.out, HN.out]; first | rfl | simp [h01], rfl⟩

end Go.Proofs.YtkjffifdlckljaaDoor.num
