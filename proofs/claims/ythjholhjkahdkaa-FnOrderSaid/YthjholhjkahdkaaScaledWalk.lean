/-
  impl.scaled, spec.l02Whole: n * 10^e, and whether it fits into 64 bits.
-/
import Derived.Test.YthjholhjkahdkaaRows
import Derived.Test.YthjholhjkahdkaaNumPlain
import Derived.Test.YthjholhjkahdkaaValBox
namespace Go.Proofs.Ythjholhjkahdkaa.num
open Go.ChangeShapes Go.WideShapes Go.ChangeAt Go.RowKit
open Go.Proofs.Ythjholhjkahdkaa.val
set_option maxRecDepth 100000

theorem ret_ib {a b : Int} {c d : Bool} (h : a = b) (h' : c = d) : Ending.returned (.tuple #[.int .i64 a, .bool c]) = .returned (.tuple #[.int .i64 b, .bool d]) := by rw [h, h']
theorem mul_ten (n : Int) : wrap64 (wrap64 (10 * n)) = tenOf n := by unfold tenOf wrap64; omega
theorem div_ten (n : Int) : (wrap64 ((tenOf n).tdiv 10) == n) = tenFits n := by
  have h : InI (tenOf n) := inI_wrap _
  rw [wrap_in (div_in h)]
  unfold tenFits
  by_cases e : (tenOf n).tdiv 10 = n
  · rw [decide_eq_true e, beq_iff_eq.2 e]
  · rw [decide_eq_false e, beq_eq_false_iff_ne.2 e]
theorem digit_any (n : Int) (w : World) : Calls Try.prog 34 #[.int .i64 n, .int .i64 0] w fun e w' => e = .returned (.tuple #[.int .i64 (tenOf n), .bool (tenFits n)]) ∧ w = w' := by
  have h1 := mul_ten n
  have h2 := div_ten n
  go_enter Try.func34, Try.ntmps34
  go_wp2
  go_ret2
  exact ⟨ret_ib (by first | rfl | exact h1) (by first | rfl | (rw [h1]; exact h2)), rfl⟩
theorem ten_any (n : Int) (w : World) : Calls Try.prog 27 #[.int .i64 n] w fun e w' => e = .returned (.tuple #[.int .i64 (tenOf n), .bool (tenFits n)]) ∧ w = w' := by
  have h2 := div_ten n
  go_enter Try.func27, Try.ntmps27
  go_wp2
  go_ret2
  exact ⟨ret_ib rfl (by first | rfl | exact h2), rfl⟩

theorem scal_yes {n : Int} {e : Nat} (h : tenFits n = true) : scal n (e + 1) = scal (tenOf n) e := by rw [scal, if_pos h]
theorem scal_no {n : Int} {e : Nat} (h : tenFits n = false) : scal n (e + 1) = none := by rw [scal, if_neg (by rw [h]; decide)]

/-- What the loop of scaled keeps. -/
structure ScalAt (n : Int) (e : Nat) (m : Int) (k : Nat) : Prop where
  le : k ≤ e
  eq : scal m (e - k) = scal n e
theorem ScalAt.start (n : Int) (e : Nat) : ScalAt n e n 0 := ⟨Nat.zero_le _, rfl⟩
theorem ScalAt.step {n m : Int} {e k : Nat} (h : ScalAt n e m k) (hk : k < e) (hm : tenFits m = true) : ScalAt n e (tenOf m) (k + 1) := by
  refine ⟨hk, ?_⟩
  rw [← h.eq, show e - k = (e - (k + 1)) + 1 by omega, scal_yes hm]
theorem ScalAt.stop {n m : Int} {e k : Nat} (h : ScalAt n e m k) (hk : k < e) (hm : tenFits m = false) : scal n e = none := by
  rw [← h.eq, show e - k = (e - (k + 1)) + 1 by omega, scal_no hm]
theorem ScalAt.fin {n m : Int} {e k : Nat} (h : ScalAt n e m k) (hk : ¬ k < e) : scal n e = some m := by
  have := h.le
  rw [← h.eq, show e - k = 0 by omega, scal]

set_option maxHeartbeats 1000000 in
theorem scaled_any (n : Int) (e : Nat) (he : e ≤ 2000) (w : World) : Calls Try.prog 18 #[.int .i64 n, .int .i64 e] w fun r w' => r = .returned (.tuple #[.int .i64 ((scal n e).getD 0), .bool (scal n e).isSome]) ∧ w = w' := by
  have CD := Lib.hid digit_any
  have HS := Lib.hid (ScalAt.start n e)
  obtain ⟨R, HR⟩ : ∃ R, Hid (R = scal n e) := ⟨_, rfl⟩
  rw [← HR.out]
  go_enter Try.func18, Try.ntmps18
  go_wp2
  go_loop [0, 9] (fun v i => ∃ (k : Nat) (m : Int), i = .int .i64 k ∧ v = .int .i64 m ∧ ScalAt n e m k) (fun _ i => e - (intOf i).toNat)
  case atStart => exact ⟨0, n, rfl, rfl, HS.out⟩
  case round =>
    obtain ⟨k, m, rfl, rfl, HT⟩ := hrel
    have hke := HT.le
    by_cases hlt : k < e
    · have hk1 : (k : Int) < (e : Int) := by omega
      have CM := fun W => CD.out m W
      cases hm : tenFits m with
      | true =>
        rw [hm] at CM
        have HN := Lib.hid (HT.step hlt hm)
        replace CM := Lib.hid CM
        clear hm
        go_wp2_with (go_at_call 34; with_reducible refine (CM.out _).mono ?_; rintro e w2 ⟨rfl, rfl⟩)
        exact ⟨⟨k + 1, _, by first | rfl | simp, rfl, HN.out⟩, by simp [intOf]; omega⟩
      | false =>
        rw [hm] at CM
        have HN := Lib.hid (HT.stop hlt hm)
        replace CM := Lib.hid CM
        clear hm
        go_wp2_with (go_at_call 34; with_reducible refine (CM.out _).mono ?_; rintro e w2 ⟨rfl, rfl⟩)
        go_ret2
        exact ⟨by rw [HR.out, HN.out]; rfl, rfl⟩
    · have hk1 : ¬ (k : Int) < (e : Int) := by omega
      have HN := Lib.hid (HT.fin hlt)
      go_wp2
      go_ret2
      exact ⟨by rw [HR.out, HN.out]; rfl, rfl⟩

theorem fits_iff {m : Int} : tenFits m = true → (tenOf m).tdiv 10 = m := fun h => of_decide_eq_true h
theorem fits_not {m : Int} : tenFits m = false → ¬ (tenOf m).tdiv 10 = m := fun h => of_decide_eq_false h
theorem whole_neg (n e : Int) (he : e ≤ 0) (w : World) : Calls Try.prog 56 #[.int .i64 n, .int .i64 e] w fun r w' => r = .returned (.bool false) ∧ w = w' := by
  go_enter Try.func56, Try.ntmps56
  go_wp2
  go_loop [0, 5] (fun v i => v = .int .i64 n ∧ i = .int .i64 0) (fun _ _ => 0)
  case atStart => exact ⟨rfl, rfl⟩
  case round =>
    obtain ⟨rfl, rfl⟩ := hrel
    have h1 : ¬ (0 : Int) < e := by omega
    go_wp2
    go_ret
    exact ⟨by first | rfl | simp [h1], rfl⟩
set_option maxHeartbeats 1000000 in
theorem whole_pos (n : Int) (e : Nat) (he : e ≤ 2000) (h0 : 0 < e) (w : World) : Calls Try.prog 56 #[.int .i64 n, .int .i64 e] w fun r w' => r = .returned (.bool (scal n e).isSome) ∧ w = w' := by
  have HS := Lib.hid (ScalAt.start n e)
  obtain ⟨R, HR⟩ : ∃ R, Hid (R = scal n e) := ⟨_, rfl⟩
  rw [← HR.out]
  go_enter Try.func56, Try.ntmps56
  go_wp2
  go_loop [0, 5] (fun v i => ∃ (k : Nat) (m : Int), i = .int .i64 k ∧ v = .int .i64 m ∧ ScalAt n e m k) (fun _ i => e - (intOf i).toNat)
  case atStart => exact ⟨0, n, rfl, rfl, HS.out⟩
  case round =>
    obtain ⟨k, m, rfl, rfl, HT⟩ := hrel
    have hke := HT.le
    by_cases hlt : k < e
    · have hk1 : (k : Int) < (e : Int) := by omega
      have hT : wrap64 (m * 10) = tenOf m := rfl
      have hD : wrap64 ((tenOf m).tdiv 10) = (tenOf m).tdiv 10 := wrap_in (div_in (show InI (tenOf m) from inI_wrap _))
      cases hm : tenFits m with
      | true =>
        have HN := Lib.hid (HT.step hlt hm)
        have hq := fits_iff hm
        replace hD := hD.trans hq
        clear hm hq
        go_wp2
        exact ⟨⟨k + 1, _, by first | rfl | simp, rfl, HN.out⟩, by simp [intOf]; omega⟩
      | false =>
        have HN := Lib.hid (HT.stop hlt hm)
        have hq := fits_not hm
        clear hm
        go_wp2
        go_ret
        exact ⟨by rw [HR.out, HN.out]; rfl, rfl⟩
    · have hk1 : ¬ (k : Int) < (e : Int) := by omega
      have h01 : (0 : Int) < (e : Int) := by omega
      have HN := Lib.hid (HT.fin hlt)
      go_wp2
      go_ret
      exact ⟨by rw [HR.out, HN.out]; first | rfl | simp [h01], rfl⟩

end Go.Proofs.Ythjholhjkahdkaa.num
