/-
  Decimal numbers, plain: n * 10^e where it fits into 64 bits, noughts taken off, which numbers are valid, and what Norm is.
-/
import Derived.Test.YtnaghafmpncdkaaDoorGetCborJ0
import Derived.Test.YtnaghafmpncdkaaDoorRows
import Derived.Test.YtnaghafmpncdkaaDoorGetCborJ3
import Derived.StillTailTactics
namespace Go.Proofs.YtnaghafmpncdkaaDoor.num
open Go.ChangeShapes Go.WideShapes Go.ChangeAt Go.RowKit
open Go.Proofs.YtnaghafmpncdkaaDoor.val
set_option maxRecDepth 100000

theorem td (n : Int) : (0 ≤ n ∧ n.tdiv 10 = n / 10) ∨ (n < 0 ∧ n.tdiv 10 = -((-n) / 10)) := by
  rcases Int.lt_or_le n 0 with h | h
  · right
    refine ⟨h, ?_⟩
    have h1 := Int.neg_tdiv (-n) 10
    rw [Int.neg_neg] at h1
    rw [h1, Int.tdiv_eq_ediv_of_nonneg (by omega)]
  · left
    exact ⟨h, Int.tdiv_eq_ediv_of_nonneg h⟩
theorem tm (n : Int) : n.tmod 10 = n - 10 * n.tdiv 10 := Int.tmod_def n 10

def tenOf (n : Int) : Int := wrap64 (n * 10)
def tenFits (n : Int) : Bool := decide ((tenOf n).tdiv 10 = n)
/-- n * 10^e, if no step of it is wrapped round. -/
def scal : Int → Nat → Option Int
  | n, 0 => some n
  | n, e + 1 => if tenFits n = true then scal (tenOf n) e else none
theorem inI_wrap (n : Int) : InI (wrap64 n) := by unfold InI wrap64; omega
theorem wrap_in {n : Int} (h : InI n) : wrap64 n = n := by unfold InI at h; unfold wrap64; omega
theorem ten_ok {n : Int} (hn : InI n) (h : tenFits n = true) : tenOf n = n * 10 := by
  unfold tenFits at h
  replace h := of_decide_eq_true h
  unfold tenOf at *
  have := td (wrap64 (n * 10))
  unfold InI at hn
  generalize hq : (wrap64 (n * 10)).tdiv 10 = q at *
  unfold wrap64 at *
  omega
theorem scal_some : ∀ (e : Nat) (n m : Int), InI n → scal n e = some m → m = n * 10 ^ e ∧ InI m
  | 0, n, m, hn, h => by rw [scal] at h; injection h with h; subst h; simp [hn]
  | e + 1, n, m, hn, h => by
    rw [scal] at h
    split at h
    · rename_i h1
      obtain ⟨h2, h3⟩ := scal_some e (tenOf n) m (show InI (tenOf n) from inI_wrap _) h
      rw [ten_ok hn h1] at h2
      exact ⟨by rw [h2, Int.pow_succ, Int.mul_assoc, Int.mul_comm 10], h3⟩
    · cases h
theorem ten20 (e : Nat) (h : 20 ≤ e) : (100000000000000000000 : Nat) ≤ 10 ^ e := by
  have : 10 ^ 20 ≤ 10 ^ e := Nat.pow_le_pow_right (by omega) h
  simpa using this
theorem scal_far {n : Int} {e : Nat} (hn : InI n) (h0 : n ≠ 0) (he : 20 ≤ e) : scal n e = none := by
  cases h : scal n e with
  | none => rfl
  | some m =>
    obtain ⟨h1, h2⟩ := scal_some e n m hn h
    have h3 : m.natAbs = n.natAbs * 10 ^ e := by rw [h1, Int.natAbs_mul, Int.natAbs_pow]; rfl
    have h4 := ten20 e he
    have h5 : 10 ^ e ≤ n.natAbs * 10 ^ e := Nat.le_mul_of_pos_left _ (by omega)
    unfold InI at h2
    generalize n.natAbs * 10 ^ e = z at *
    omega

/-- The noughts at the end taken off. -/
def strip (n e : Int) : Int × Int := if h : n ≠ 0 ∧ n.tmod 10 = 0 then strip (n.tdiv 10) (e + 1) else (n, e)
termination_by n.natAbs
decreasing_by
  have := td n
  have := tm n
  omega
theorem strip_yes {n e : Int} (h0 : n ≠ 0) (h : n.tmod 10 = 0) : strip n e = strip (n.tdiv 10) (e + 1) := by rw [strip, dif_pos ⟨h0, h⟩]
theorem strip_no {n e : Int} (h : n.tmod 10 ≠ 0) : strip n e = (n, e) := by rw [strip, dif_neg (fun hh => h hh.2)]
theorem div_ne {n : Int} (h0 : n ≠ 0) (h : n.tmod 10 = 0) : n.tdiv 10 ≠ 0 := by
  have := tm n
  omega
theorem div_in {n : Int} (hn : InI n) : InI (n.tdiv 10) := by
  have := td n
  unfold InI at *
  omega
theorem div_less {n : Int} (h0 : n ≠ 0) : (n.tdiv 10).natAbs < n.natAbs := by
  have := td n
  omega
/-- Room for the exponent: as many noughts as there are digits at most. -/
def Room (n e : Int) : Prop := -1000 ≤ e ∧ ∃ k : Nat, e ≤ 1000 + k ∧ k ≤ 40 ∧ n.natAbs * 10 ^ k ≤ 9223372036854775808
theorem room_start {n e : Int} (hn : InI n) (h1 : -1000 ≤ e) (h2 : e ≤ 1000) : Room n e := ⟨h1, 0, by omega, by omega, by unfold InI at hn; simp; omega⟩
theorem room_step {n e : Int} (h : Room n e) (h0 : n ≠ 0) (hm : n.tmod 10 = 0) : Room (n.tdiv 10) (e + 1) := by
  obtain ⟨h1, k, h2, h3, h4⟩ := h
  have e1 : n.natAbs = (n.tdiv 10).natAbs * 10 := by
    have := td n
    have := tm n
    omega
  have e2 : (n.tdiv 10).natAbs * 10 ^ (k + 1) ≤ 9223372036854775808 := by rw [Nat.pow_succ, Nat.mul_comm (10 ^ k), ← Nat.mul_assoc, ← e1]; exact h4
  refine ⟨by omega, k + 1, by omega, ?_, e2⟩
  have hp : 1 ≤ (n.tdiv 10).natAbs := by have := div_ne h0 hm; omega
  have h5 : 10 ^ (k + 1) ≤ 9223372036854775808 := Nat.le_trans (Nat.le_mul_of_pos_left _ hp) e2
  rcases Nat.lt_or_ge k 40 with hk | hk
  · omega
  · have := ten20 (k + 1) (by omega)
    generalize 10 ^ (k + 1) = z at *
    omega
theorem Room.le {n e : Int} (h : Room n e) : -1000 ≤ e ∧ e ≤ 1040 := by obtain ⟨h1, k, h2, h3, _⟩ := h; omega

/-- A VDec's two numbers are valid. -/
def decOk (n e : Int) : Bool := decide (-20 ≤ e ∧ e ≤ 20 ∧ e ≠ 0 ∧ -999999999999999999 ≤ n ∧ n ≤ 999999999999999999 ∧ n.tmod 10 ≠ 0) && (decide (e < 0) || (scal n e.toNat).isNone)
theorem dec_no {n e : Int} (h : ¬ (-20 ≤ e ∧ e ≤ 20 ∧ e ≠ 0 ∧ -999999999999999999 ≤ n ∧ n ≤ 999999999999999999 ∧ n.tmod 10 ≠ 0)) : decOk n e = false := by unfold decOk; rw [decide_eq_false h]; rfl
theorem dec_is {n e : Int} (h : -20 ≤ e ∧ e ≤ 20 ∧ e ≠ 0 ∧ -999999999999999999 ≤ n ∧ n ≤ 999999999999999999 ∧ n.tmod 10 ≠ 0) : decOk n e = (decide (e < 0) || (scal n e.toNat).isNone) := by unfold decOk; rw [decide_eq_true h, Bool.true_and]
/-- A number is valid: of a kind VInt (3) or VDec (4). -/
def numOk (t : LT) : Bool := decide (t.s.size = 0 ∧ t.kids.length = 0) && (if t.k = 3 then decide (t.e = 0) else decOk t.n t.e)

/-- What Norm tells: the kind, the two numbers, whether there is such a number. -/
def normAt (n e : Int) : Int × Int × Int × Bool :=
  if 0 ≤ e ∧ (scal n e.toNat).isSome then (3, (scal n e.toNat).getD 0, 0, true) else if decOk n e then (4, n, e, true) else (0, 0, 0, false)
def norm (n e : Int) : Int × Int × Int × Bool :=
  if e < -1000 ∨ 1000 < e then (0, 0, 0, false) else if n = 0 then (3, 0, 0, true) else normAt (strip n e).1 (strip n e).2

end Go.Proofs.YtnaghafmpncdkaaDoor.num
/-
  impl.scaled, spec.l02Whole: n * 10^e, and whether it fits into 64 bits.
-/
namespace Go.Proofs.YtnaghafmpncdkaaDoor.num
open Go.ChangeShapes Go.WideShapes Go.ChangeAt Go.RowKit
open Go.Proofs.YtnaghafmpncdkaaDoor.val
set_option maxRecDepth 100000

theorem ret_ib {a b : Int} {c d : Bool} (h : a = b) (h' : c = d) : Ending.returned (.tuple #[.int .i64 a, .bool c]) = .returned (.tuple #[.int .i64 b, .bool d]) := by rw [h, h']
theorem mul_ten (n : Int) : wrap64 (wrap64 (10 * n)) = tenOf n := by unfold tenOf wrap64; omega
theorem div_ten (n : Int) : (wrap64 ((tenOf n).tdiv 10) == n) = tenFits n := by
  have h : InI (tenOf n) := inI_wrap _
  rw [wrap_in (div_in h)]
  unfold tenFits
  by_cases e : (tenOf n).tdiv 10 = n
  · rw [decide_eq_true e, beq_iff_eq.2 e]
  · rw [decide_eq_false e, beq_eq_false_iff_ne.2 e]
theorem digit_any (n : Int) (w : World) : Calls Tryd.prog 195 #[.int .i64 n, .int .i64 0] w fun e w' => e = .returned (.tuple #[.int .i64 (tenOf n), .bool (tenFits n)]) ∧ w = w' := by
  have h1 := mul_ten n
  have h2 := div_ten n
  go_enter Tryd.func195, Tryd.ntmps195
  go_wp2
  go_ret2
  exact ⟨ret_ib (by first | rfl | exact h1) (by first | rfl | (rw [h1]; exact h2)), rfl⟩

theorem scal_yes {n : Int} {e : Nat} (h : tenFits n = true) : scal n (e + 1) = scal (tenOf n) e := by rw [scal, if_pos h]
theorem scal_no {n : Int} {e : Nat} (h : tenFits n = false) : scal n (e + 1) = none := by rw [scal, if_neg (by rw [h]; decide)]

/-- What the loop of scaled keeps. -/
structure ScalAt (n : Int) (e : Nat) (m : Int) (k : Nat) : Prop where
  le : k ≤ e
  eq : scal m (e - k) = scal n e
theorem ScalAt.start (n : Int) (e : Nat) : ScalAt n e n 0 := ⟨Nat.zero_le _, rfl⟩
theorem ScalAt.step {n m : Int} {e k : Nat} (h : ScalAt n e m k) (hk : k < e) (hm : tenFits m = true) : ScalAt n e (tenOf m) (k + 1) := by
  refine ⟨hk, ?_⟩
  rw [← h.eq, show e - k = (e - (k + 1)) + 1 by omega, scal_yes hm]
theorem ScalAt.stop {n m : Int} {e k : Nat} (h : ScalAt n e m k) (hk : k < e) (hm : tenFits m = false) : scal n e = none := by
  rw [← h.eq, show e - k = (e - (k + 1)) + 1 by omega, scal_no hm]
theorem ScalAt.fin {n m : Int} {e k : Nat} (h : ScalAt n e m k) (hk : ¬ k < e) : scal n e = some m := by
  have := h.le
  rw [← h.eq, show e - k = 0 by omega, scal]

set_option maxHeartbeats 1000000 in
theorem scaled_any (n : Int) (e : Nat) (he : e ≤ 2000) (w : World) : Calls Tryd.prog 194 #[.int .i64 n, .int .i64 e] w fun r w' => r = .returned (.tuple #[.int .i64 ((scal n e).getD 0), .bool (scal n e).isSome]) ∧ w = w' := by
  have CD := Lib.hid digit_any
  have HS := Lib.hid (ScalAt.start n e)
  obtain ⟨R, HR⟩ : ∃ R, Hid (R = scal n e) := ⟨_, rfl⟩
  rw [← HR.out]
  go_enter Tryd.func194, Tryd.ntmps194
  go_wp2
  go_loop [0, 9] (fun v i => ∃ (k : Nat) (m : Int), i = .int .i64 k ∧ v = .int .i64 m ∧ ScalAt n e m k) (fun _ i => e - (intOf i).toNat)
  case atStart => exact ⟨0, n, rfl, rfl, HS.out⟩
  case round =>
    obtain ⟨k, m, rfl, rfl, HT⟩ := hrel
    have hke := HT.le
    by_cases hlt : k < e
    · have hk1 : (k : Int) < (e : Int) := by omega
      have CM := fun W => CD.out m W
      cases hm : tenFits m with
      | true =>
        rw [hm] at CM
        have HN := Lib.hid (HT.step hlt hm)
        replace CM := Lib.hid CM
        clear hm
        go_wp2_with (go_at_call 195; with_reducible refine (CM.out _).mono ?_; rintro e w2 ⟨rfl, rfl⟩)
        exact ⟨⟨k + 1, _, by first | rfl | simp, rfl, HN.out⟩, by simp [intOf]; omega⟩
      | false =>
        rw [hm] at CM
        have HN := Lib.hid (HT.stop hlt hm)
        replace CM := Lib.hid CM
        clear hm
        go_wp2_with (go_at_call 195; with_reducible refine (CM.out _).mono ?_; rintro e w2 ⟨rfl, rfl⟩)
        go_ret2
        exact ⟨by rw [HR.out, HN.out]; rfl, rfl⟩
    · have hk1 : ¬ (k : Int) < (e : Int) := by omega
      have HN := Lib.hid (HT.fin hlt)
      go_wp2
      go_ret2
      exact ⟨by rw [HR.out, HN.out]; rfl, rfl⟩

theorem fits_iff {m : Int} : tenFits m = true → (tenOf m).tdiv 10 = m := fun h => of_decide_eq_true h
theorem fits_not {m : Int} : tenFits m = false → ¬ (tenOf m).tdiv 10 = m := fun h => of_decide_eq_false h
theorem whole_neg (n e : Int) (he : e ≤ 0) (w : World) : Calls Tryd.prog 126 #[.int .i64 n, .int .i64 e] w fun r w' => r = .returned (.bool false) ∧ w = w' := by
  go_enter Tryd.func126, Tryd.ntmps126
  go_wp2
  go_loop [0, 5] (fun v i => v = .int .i64 n ∧ i = .int .i64 0) (fun _ _ => 0)
  case atStart => exact ⟨rfl, rfl⟩
  case round =>
    obtain ⟨rfl, rfl⟩ := hrel
    have h1 : ¬ (0 : Int) < e := by omega
    go_wp2
    go_ret
    exact ⟨by first | rfl | simp [h1], rfl⟩
set_option maxHeartbeats 1000000 in
theorem whole_pos (n : Int) (e : Nat) (he : e ≤ 2000) (h0 : 0 < e) (w : World) : Calls Tryd.prog 126 #[.int .i64 n, .int .i64 e] w fun r w' => r = .returned (.bool (scal n e).isSome) ∧ w = w' := by
  have HS := Lib.hid (ScalAt.start n e)
  obtain ⟨R, HR⟩ : ∃ R, Hid (R = scal n e) := ⟨_, rfl⟩
  rw [← HR.out]
  go_enter Tryd.func126, Tryd.ntmps126
  go_wp2
  go_loop [0, 5] (fun v i => ∃ (k : Nat) (m : Int), i = .int .i64 k ∧ v = .int .i64 m ∧ ScalAt n e m k) (fun _ i => e - (intOf i).toNat)
  case atStart => exact ⟨0, n, rfl, rfl, HS.out⟩
  case round =>
    obtain ⟨k, m, rfl, rfl, HT⟩ := hrel
    have hke := HT.le
    by_cases hlt : k < e
    · have hk1 : (k : Int) < (e : Int) := by omega
      have hT : wrap64 (m * 10) = tenOf m := rfl
      have hD : wrap64 ((tenOf m).tdiv 10) = (tenOf m).tdiv 10 := wrap_in (div_in (show InI (tenOf m) from inI_wrap _))
      cases hm : tenFits m with
      | true =>
        have HN := Lib.hid (HT.step hlt hm)
        have hq := fits_iff hm
        replace hD := hD.trans hq
        clear hm hq
        go_wp2
        exact ⟨⟨k + 1, _, by first | rfl | simp, rfl, HN.out⟩, by simp [intOf]; omega⟩
      | false =>
        have HN := Lib.hid (HT.stop hlt hm)
        have hq := fits_not hm
        clear hm
        go_wp2
        go_ret
        exact ⟨by rw [HR.out, HN.out]; rfl, rfl⟩
    · have hk1 : ¬ (k : Int) < (e : Int) := by omega
      have h01 : (0 : Int) < (e : Int) := by omega
      have HN := Lib.hid (HT.fin hlt)
      go_wp2
      go_ret
      exact ⟨by rw [HR.out, HN.out]; first | rfl | simp [h01], rfl⟩

end Go.Proofs.YtnaghafmpncdkaaDoor.num
/-
  What cmp.Compare, cmp.Or, impl.compareFields and spec's l02Less, l02Texts return.
-/
namespace Go.Proofs.YtnaghafmpncdkaaDoor.val
open Go.ChangeShapes Go.WideShapes Go.ChangeAt Go.RowKit
set_option maxRecDepth 100000

def cmpI (a b : Int) : Int := if a < b then -1 else if b < a then 1 else 0
def cmpS (a b : ByteArray) : Int := if Op.bytesLess a.toList b.toList then -1 else if a.toList == b.toList then 0 else 1
theorem cmpI0 {a b : Int} (h1 : ¬ a < b) (h2 : ¬ b < a) : cmpI a b = 0 := by unfold cmpI; rw [if_neg h1, if_neg h2]
/-- The first that is not 0. -/
def firstOf : List Int → Int
  | [] => 0
  | x :: l => if x = 0 then firstOf l else x

theorem nanI (a : Int) (w : World) : Calls Tryd.prog 136 #[.int .i64 a] w fun e w' => e = .returned (.bool false) ∧ w' = w := by
  go_enter Tryd.func136, Tryd.ntmps136
  go_wp2
  go_ret
  exact ⟨by simp, rfl⟩
theorem nanS (a : ByteArray) (w : World) : Calls Tryd.prog 137 #[.string a] w fun e w' => e = .returned (.bool false) ∧ w' = w := by
  go_enter Tryd.func137, Tryd.ntmps137
  go_wp2
  go_ret
  exact ⟨by simp, rfl⟩
theorem compI (a b : Int) (w : World) : Calls Tryd.prog 124 #[.int .i64 a, .int .i64 b] w fun e w' => e = .returned (.int .i64 (cmpI a b)) ∧ w' = w := by
  have C := Lib.hid (nanI a)
  have D := Lib.hid (nanI b)
  go_enter Tryd.func124, Tryd.ntmps124
  go_wp2_with fail
  with_reducible refine (C.out w).mono ?_
  rintro e w1 ⟨rfl, rfl⟩
  go_wp2_with fail
  with_reducible refine (D.out _).mono ?_
  rintro e w2 ⟨rfl, rfl⟩
  by_cases h1 : a < b
  · go_wp2
    go_ret
    exact ⟨by simp [cmpI, h1], rfl⟩
  · by_cases h2 : b < a
    · go_wp2
      go_ret
      exact ⟨by simp [cmpI, h1, h2], rfl⟩
    · go_wp2
      go_ret
      exact ⟨by rw [cmpI0 (by omega) (by omega)]; rfl, rfl⟩
theorem compS (a b : ByteArray) (w : World) : Calls Tryd.prog 125 #[.string a, .string b] w fun e w' => e = .returned (.int .i64 (cmpS a b)) ∧ w' = w := by
  have C := Lib.hid (nanS a)
  have D := Lib.hid (nanS b)
  go_enter Tryd.func125, Tryd.ntmps125
  go_wp2_with fail
  with_reducible refine (C.out w).mono ?_
  rintro e w1 ⟨rfl, rfl⟩
  go_wp2_with fail
  with_reducible refine (D.out _).mono ?_
  rintro e w2 ⟨rfl, rfl⟩
  cases h1 : Op.bytesLess a.toList b.toList
  · cases h2 : a.toList == b.toList
    · go_wp2
      go_ret
      exact ⟨by simp [cmpS, h1, h2], rfl⟩
    · go_wp2
      go_ret
      exact ⟨by simp [cmpS, h1, h2], rfl⟩
  · go_wp2
    go_ret
    exact ⟨by simp [cmpS, h1], rfl⟩
theorem firstOf_drop (l : List Int) : ∀ j (h : j < l.length), firstOf (l.drop j) = if l[j] = 0 then firstOf (l.drop (j + 1)) else l[j] := by
  intro j h
  rw [List.drop_eq_getElem_cons h, firstOf]
set_option maxHeartbeats 1000000 in
theorem or_any (l : List Int) (g cap : Nat) (w : World) (hl : l.length ≤ 100) (hc : ∀ j (h : j < l.length), w.cell? ⟨g, j, none⟩ = some (.int .i64 l[j])) :
    Calls Tryd.prog 123 #[.slice (some ⟨g, 0, none⟩) l.length cap] w fun e w' => e = .returned (.int .i64 (firstOf l)) ∧ w' = w := by
  have HC := Lib.hid hc
  clear hc
  go_enter Tryd.func123, Tryd.ntmps123
  go_wp2
  go_loopw [8] (fun i wr => ∃ j : Nat, i = .int .i64 j ∧ j ≤ l.length ∧ Hid (firstOf l = firstOf (l.drop j)) ∧ Hid (wr = w)) (fun i _ => l.length - (intOf i).toNat)
  case atStart => exact ⟨0, rfl, by omega, rfl, rfl⟩
  case round =>
    obtain ⟨j, rfl, hj, HF, HW⟩ := hrel
    obtain rfl := HW.out
    by_cases hlt : j < l.length
    · have hj0 : (0 : Int) ≤ (j : Int) := by omega
      have hj1 : (j : Int) < (l.length : Int) := by omega
      have hcell := HC.out j hlt
      have HD := Lib.hid (firstOf_drop l j hlt)
      generalize l[j] = x at *
      by_cases h0 : x = 0
      · subst h0
        have HF1 : Hid (firstOf l = firstOf (l.drop (j + 1))) := by have := HD.out; rw [if_pos rfl] at this; unfold Hid; rw [HF.out, this]
        clear HC HD HF
        go_wp2
        go_roundw
        case rel => exact ⟨j + 1, by go_num, by omega, HF1, by unfold Hid; trivial⟩
        case measure => simp [intOf]; omega
      · have HF1 : Hid (firstOf l = x) := by have := HD.out; rw [if_neg h0] at this; unfold Hid; rw [HF.out, this]
        have h0' : (x != 0) = true := by simp [h0]
        clear HC HD HF
        go_wp2
        go_ret
        exact ⟨by rw [HF1.out]; rfl, rfl⟩
    · have hj1 : ¬ (j : Int) < (l.length : Int) := by omega
      have HF1 : Hid (firstOf l = 0) := by unfold Hid; rw [HF.out, List.drop_of_length_le (by omega)]; rfl
      clear HC HF
      go_wp2
      go_ret
      exact ⟨by rw [HF1.out]; rfl, rfl⟩

def cmpF (x y : LT) : Int := firstOf [cmpI x.k y.k, cmpI x.n y.n, cmpI x.e y.e, cmpS x.s y.s, cmpI x.kids.length y.kids.length]
theorem or5 (x0 x1 x2 x3 x4 : Int) (W : World) :
    Calls Tryd.prog 123 #[.slice (some ⟨W.heap.size, 0, none⟩) 5 5] (W.alloc (.cells #[.int .i64 x0, .int .i64 x1, .int .i64 x2, .int .i64 x3, .int .i64 x4] 3)) fun e w' => e = .returned (.int .i64 (firstOf [x0, x1, x2, x3, x4])) ∧ w' = W.alloc (.cells #[.int .i64 x0, .int .i64 x1, .int .i64 x2, .int .i64 x3, .int .i64 x4] 3) := by
  have hb := heap_alloc_new W (.cells #[.int .i64 x0, .int .i64 x1, .int .i64 x2, .int .i64 x3, .int .i64 x4] 3)
  refine or_any [x0, x1, x2, x3, x4] W.heap.size 5 _ (by simp) fun j h => ?_
  have hj : j = 0 ∨ j = 1 ∨ j = 2 ∨ j = 3 ∨ j = 4 := by simp at h; omega
  rcases hj with rfl | rfl | rfl | rfl | rfl <;> exact cell_of_row _ _ _ _ _ (0, 0) hb

set_option maxHeartbeats 2000000 in
theorem fields_any (x y : LT) (w : World) : Calls Tryd.prog 109 #[.agg #[.int .i64 x.k, .int .i64 x.n, .int .i64 x.e, .string x.s, x.row], .agg #[.int .i64 y.k, .int .i64 y.n, .int .i64 y.e, .string y.s, y.row]] w fun e w' => e = .returned (.int .i64 (cmpF x y)) ∧ Below w.heap.size w w' := by
  have hrx : x.row = .slice x.a x.kids.length x.cap := rfl
  have hry : y.row = .slice y.a y.kids.length y.cap := rfl
  rw [hrx, hry]
  clear hrx hry
  have HB : Hid (Below w.heap.size w ((w.alloc (.cells #[.int .i64 x.k, .int .i64 x.n, .int .i64 x.e, .string x.s, .slice x.a x.kids.length x.cap] 24)).alloc (.cells #[.int .i64 y.k, .int .i64 y.n, .int .i64 y.e, .string y.s, .slice y.a y.kids.length y.cap] 24))) := ((Below.refl _ _).alloc (Nat.le_refl _) _).alloc (by simp) _
  go_enter Tryd.func109, Tryd.ntmps109
  go_wp2_with fail
  refine wp_region_still_tail 27 (by kernel_rfl) (by kernel_rfl) ?_
  obtain ⟨W, hW⟩ : ∃ W, W = ((w.alloc (.cells #[.int .i64 x.k, .int .i64 x.n, .int .i64 x.e, .string x.s, .slice x.a x.kids.length x.cap] 24)).alloc (.cells #[.int .i64 y.k, .int .i64 y.n, .int .i64 y.e, .string y.s, .slice y.a y.kids.length y.cap] 24)).drew := ⟨_, rfl⟩
  have HBW : Hid (Below w.heap.size w W) := by subst hW; exact HB.out.trans ⟨rfl, rfl, rfl, Nat.le_refl _, fun _ _ => rfl⟩
  obtain ⟨p0, p1, p2, p3, p4⟩ : Box W w.heap.size x := by subst hW; exact (Box.new w x 24).of_block (Below.heap_alloc _ _ _ (by simp))
  obtain ⟨q0, q1, q2, q3, q4⟩ : Box W (w.heap.size + 1) y := by subst hW; have := Box.new (w.alloc (.cells #[.int .i64 x.k, .int .i64 x.n, .int .i64 x.e, .string x.s, .slice x.a x.kids.length x.cap] 24)) y 24; simp only [World.size_alloc] at this; exact this.of_block rfl
  have HSZ : Hid (w.heap.size ≤ W.heap.size) := HBW.out.size
  unfold LT.row at p4 q4
  change wpStill _ _ ((w.alloc (.cells #[.int .i64 x.k, .int .i64 x.n, .int .i64 x.e, .string x.s, .slice x.a x.kids.length x.cap] 24)).alloc (.cells #[.int .i64 y.k, .int .i64 y.n, .int .i64 y.e, .string y.s, .slice y.a y.kids.length y.cap] 24)).drew (fun a' => wpList _ _ _ _ a' ((w.alloc (.cells #[.int .i64 x.k, .int .i64 x.n, .int .i64 x.e, .string x.s, .slice x.a x.kids.length x.cap] 24)).alloc (.cells #[.int .i64 y.k, .int .i64 y.n, .int .i64 y.e, .string y.s, .slice y.a y.kids.length y.cap] 24)).drew) _ _
  rw [← hW]
  clear hW HB
  simp only [List.take_succ_cons, List.take_zero, List.drop_succ_cons, List.drop_zero]
  repeat still_step
  still_call (compI _ _ _)
  repeat still_step
  still_call (compI _ _ _)
  repeat still_step
  still_call (compI _ _ _)
  repeat still_step
  still_call (compS _ _ _)
  repeat still_step
  still_call (compI _ _ _)
  refine wpStill_nil ?_
  clear p0 p1 p2 p3 p4 q0 q1 q2 q3 q4
  have CO := Lib.hid (or5 (cmpI x.k y.k) (cmpI x.n y.n) (cmpI x.e y.e) (cmpS x.s y.s) (cmpI x.kids.length y.kids.length) W)
  go_wp2_with fail
  with_reducible refine CO.out.mono ?_
  rintro e w1 ⟨rfl, rfl⟩
  have HBF := Lib.hid (HBW.out.alloc HSZ.out (.cells #[.int .i64 (cmpI x.k y.k), .int .i64 (cmpI x.n y.n), .int .i64 (cmpI x.e y.e), .int .i64 (cmpS x.s y.s), .int .i64 (cmpI x.kids.length y.kids.length)] 3))
  clear CO
  go_wp2
  go_ret
  exact ⟨rfl, HBF.out⟩

end Go.Proofs.YtnaghafmpncdkaaDoor.val
/-
  What spec.Compare returns: the order of two values.
-/
namespace Go.Proofs.YtnaghafmpncdkaaDoor.val
open Go.ChangeShapes Go.WideShapes Go.ChangeAt Go.RowKit
set_option maxRecDepth 100000

def VT.vk : VT → Int | .mk k _ _ _ _ => k
def VT.vn : VT → Int | .mk _ n _ _ _ => n
def VT.ve : VT → Int | .mk _ _ e _ _ => e
def VT.vs : VT → ByteArray | .mk _ _ _ s _ => s
def VT.vl : VT → List VT | .mk _ _ _ _ l => l
mutual
def cmpV : VT → VT → Int
  | .mk k n e s kids, u => firstOf [cmpI k u.vk, cmpI n u.vn, cmpI e u.ve, cmpS s u.vs, cmpI kids.length u.vl.length, cmpVL kids u.vl]
def cmpVL : List VT → List VT → Int
  | [], _ => 0
  | t :: ts, us => match us with
    | [] => 0
    | u :: us' => firstOf [cmpV t u, cmpVL ts us']
end
theorem firstOf_append (l m : List Int) : firstOf (l ++ m) = if firstOf l = 0 then firstOf m else firstOf l := by
  induction l with
  | nil => simp [firstOf]
  | cons x l ih =>
    rw [List.cons_append, firstOf, firstOf, ih]
    by_cases h : x = 0
    · simp [h]
    · simp [h]
theorem firstOf_zero {l : List Int} (h : firstOf l = 0) : ∀ x ∈ l, x = 0 := by
  induction l with
  | nil => intro x hx; cases hx
  | cons y l ih =>
    rw [firstOf] at h
    by_cases hy : y = 0
    · rw [if_pos hy] at h
      intro x hx
      rcases List.mem_cons.1 hx with rfl | hx
      · exact hy
      · exact ih h x hx
    · rw [if_neg hy] at h; exact absurd h hy
theorem cmpI_eq {a b : Int} (h : cmpI a b = 0) : a = b := by
  unfold cmpI at h
  split at h
  · cases h
  · split at h
    · cases h
    · omega
/-- The order of two values is by their own fields, and then by their kids. -/
theorem cmpV_er (x y : LT) : cmpV (er x) (er y) = if cmpF x y = 0 then cmpVL (x.kids.map er) (y.kids.map er) else cmpF x y := by
  rw [er_mk x, er_mk y, cmpV]
  simp only [VT.vk, VT.vn, VT.ve, VT.vs, VT.vl, List.length_map]
  have := firstOf_append [cmpI x.k y.k, cmpI x.n y.n, cmpI x.e y.e, cmpS x.s y.s, cmpI x.kids.length y.kids.length] [cmpVL (x.kids.map er) (y.kids.map er)]
  simp only [List.cons_append, List.nil_append] at this
  rw [this]
  unfold cmpF
  split
  · rw [firstOf, firstOf]; split
    · rename_i h; exact h.symm
    · rfl
  · rfl
theorem cmpF_len {x y : LT} (h : cmpF x y = 0) : x.kids.length = y.kids.length := by
  have := cmpI_eq (firstOf_zero h (cmpI x.kids.length y.kids.length) (by simp))
  omega
theorem cmpVL_drop (l m : List VT) (j : Nat) (h1 : j < l.length) (h2 : j < m.length) : cmpVL (l.drop j) (m.drop j) = if cmpV l[j] m[j] = 0 then cmpVL (l.drop (j + 1)) (m.drop (j + 1)) else cmpV l[j] m[j] := by
  rw [List.drop_eq_getElem_cons h1, List.drop_eq_getElem_cons h2, cmpVL]
  simp only [firstOf]
  split
  · split
    · rename_i h; exact h.symm
    · rfl
  · rfl

/-- Two values in boxes, one behind the other. -/
structure Box2 (W : World) (N : Nat) (x y : LT) : Prop where
  b1 : Box W N x
  b2 : Box W (N + 1) y
theorem Box2.new (w : World) (x y : LT) (T : TypeId) : Box2 ((w.alloc (.cells #[.int .i64 x.k, .int .i64 x.n, .int .i64 x.e, .string x.s, x.row] T)).alloc (.cells #[.int .i64 y.k, .int .i64 y.n, .int .i64 y.e, .string y.s, y.row] T)) w.heap.size x y := by
  refine ⟨(Box.new w x T).of_block (Below.heap_alloc _ _ _ (by simp)), ?_⟩
  have := Box.new (w.alloc (.cells #[.int .i64 x.k, .int .i64 x.n, .int .i64 x.e, .string x.s, x.row] T)) y T
  simp only [World.size_alloc] at this
  exact this
theorem Box2.kept {W W' : World} {N : Nat} {x y : LT} (h : Box2 W N x y) (hb : Below (N + 2) W W') : Box2 W' N x y := ⟨h.b1.of_block (hb.block _ (by omega)), h.b2.of_block (hb.block _ (by omega))⟩
theorem below_drew {B : Nat} {a w : World} (h : Below B a w) : Below B a w.drew := h.trans ⟨rfl, rfl, rfl, Nat.le_refl _, fun _ _ => rfl⟩

end Go.Proofs.YtnaghafmpncdkaaDoor.val
