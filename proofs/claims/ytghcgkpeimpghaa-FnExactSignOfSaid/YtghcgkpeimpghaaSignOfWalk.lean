/-
  What spec.SignOf and impl.SignOf return: the number that the lowest bytes tell with their sign.
-/
import Derived.Test.YtghcgkpeimpghaaHeadWalk
import Derived.Test.YtghcgkpeimpghaaWidePlain
namespace Go.Proofs.Ytghcgkpeimpghaa.wide
open Go.ChangeShapes Go.WideShapes Go.ChangeAt Go.RowKit
set_option maxRecDepth 100000

set_option maxHeartbeats 1000000 in
theorem sign_spec_in (n : Int) (m : Nat) (h1 : 1 ≤ m) (h7 : m ≤ 7) (w : World) :
    Calls Try.prog 34 #[.int .i64 n, .int .i64 m] w fun e w' => e = .returned (.int .i64 (sg n (256 ^ m))) ∧ w = w' := by
  have C := fun W => head.in_any m 1 7 W
  rw [decide_eq_true (by omega)] at C
  replace C := Lib.hid C
  generalize hR : sg n (256 ^ m) = R
  have HR := Lib.hid hR
  clear hR
  go_enter Try.func34, Try.ntmps34
  go_wp2_with (go_at_call 48; with_reducible refine (C.out _).mono ?_; rintro r w2 ⟨rfl, rfl⟩)
  go_loop [5, 6] (fun x y => ∃ k A : Nat, y = .int .i64 k ∧ x = .int .i64 A ∧ k ≤ m ∧ Hid (A = 256 ^ k)) (fun _ y => m - (intOf y).toNat)
  case atStart => exact ⟨0, 1, rfl, rfl, Nat.zero_le _, rfl⟩
  case round =>
    obtain ⟨k, A, rfl, rfl, hk, HA⟩ := hrel
    by_cases hlt : k < m
    · have hb : A * 256 ≤ 72057594037927936 := by
        rw [HA.out, ← Nat.pow_succ]
        exact Nat.le_trans (Nat.pow_le_pow_right (by omega) (show k + 1 ≤ 7 by omega)) (by decide)
      have k1 : (k : Int) < (m : Int) := by omega
      have HA2 : Hid (A * 256 = 256 ^ (k + 1)) := by unfold Hid; rw [HA.out, Nat.pow_succ]
      clear HA
      go_wp2
      exact ⟨⟨k + 1, A * 256, by go_num, by go_num, by omega, HA2⟩, by simp [intOf]; omega⟩
    · have k1 : ¬ (k : Int) < (m : Int) := by omega
      have ek : k = m := by omega
      subst ek
      have hb : A ≤ 72057594037927936 := by
        rw [HA.out]
        exact Nat.le_trans (Nat.pow_le_pow_right (by omega) h7) (by decide)
      have hA0 : 0 < A := by rw [HA.out]; exact Nat.pow_pos (by omega)
      have hM : bits .and .i64 n ((A : Int) - 1) = n % (A : Int) := i64_mask n A (8 * k) (by omega) (by rw [HA.out, pow256])
      replace HR : Hid (R = sg n A) := by unfold Hid; rw [HA.out, HR.out]
      clear HA h1 h7 hk hlt
      by_cases hr : n % (A : Int) < ((A / 2 : Nat) : Int)
      · have HV : Hid (sg n A = n % (A : Int)) := if_pos hr
        have hr' : ¬ (A : Int) / 2 ≤ bits .and .i64 n ((A : Int) - 1) := by rw [hM]; omega
        go_wp2
        go_ret
        exact ⟨by rw [HR.out, HV.out, ← hM]; rfl, rfl⟩
      · have HV : Hid (sg n A = n % (A : Int) - (A : Int)) := if_neg hr
        have hr' : (A : Int) / 2 ≤ bits .and .i64 n ((A : Int) - 1) := by rw [hM]; omega
        have hw : wrap64 (bits .and .i64 n ((A : Int) - 1) - (A : Int)) = bits .and .i64 n ((A : Int) - 1) - (A : Int) := by
          rw [hM]
          have q0 : 0 ≤ n % (A : Int) := Int.emod_nonneg _ (by omega)
          have q1 : n % (A : Int) < A := Int.emod_lt_of_pos _ (by omega)
          generalize n % (A : Int) = X at *
          unfold wrap64
          omega
        have HW := Lib.hid hw
        clear hw
        go_wp2
        go_ret
        exact ⟨by rw [HR.out, HV.out, ← hM]; exact congrArg (fun x => Ending.returned (.int .i64 x)) HW.out, rfl⟩
theorem sign_spec (n m : Int) (w : World) :
    Calls Try.prog 34 #[.int .i64 n, .int .i64 m] w fun e w' => e = .returned (.int .i64 (signOf n m)) ∧ w = w' := by
  unfold signOf
  by_cases h : 1 ≤ m ∧ m ≤ 7
  · obtain ⟨k, rfl⟩ : ∃ k : Nat, m = k := ⟨m.toNat, by omega⟩
    rw [if_pos h, Int.toNat_natCast]
    exact sign_spec_in n k (by omega) (by omega) w
  · rw [if_neg h]
    have C := fun W => head.in_any m 1 7 W
    rw [decide_eq_false h] at C
    replace C := Lib.hid C
    clear h
    go_enter Try.func34, Try.ntmps34
    go_wp2_with (go_at_call 48; with_reducible refine (C.out _).mono ?_; rintro r w2 ⟨rfl, rfl⟩)
    go_ret
    exact ⟨rfl, rfl⟩
theorem sign_impl (n m : Int) (hn : (Lit.int .i64 n).wf = true) (w : World) :
    Calls Try.prog 35 #[.int .i64 n, .int .i64 m] w fun e w' => e = .returned (.int .i64 (signOf n m)) ∧ w = w' := by
  unfold signOf
  by_cases h : 1 ≤ m ∧ m ≤ 8
  · have h8 : m = 1 ∨ m = 2 ∨ m = 3 ∨ m = 4 ∨ m = 5 ∨ m = 6 ∨ m = 7 ∨ m = 8 := by omega
    clear h
    have n0 : -9223372036854775808 ≤ n ∧ n ≤ 9223372036854775807 := by
      simp [Lit.wf, IntKind.min, IntKind.max, IntKind.signed, IntKind.bits] at hn
      omega
    rcases h8 with rfl | rfl | rfl | rfl | rfl | rfl | rfl | rfl
    · rw [if_pos (by omega)]
      go_enter Try.func35, Try.ntmps35
      go_wp2
      go_ret
      exact ⟨congrArg (fun x => Ending.returned (.int .i64 x)) (shift_1 n), rfl⟩
    · rw [if_pos (by omega)]
      go_enter Try.func35, Try.ntmps35
      go_wp2
      go_ret
      exact ⟨congrArg (fun x => Ending.returned (.int .i64 x)) (shift_2 n), rfl⟩
    · rw [if_pos (by omega)]
      go_enter Try.func35, Try.ntmps35
      go_wp2
      go_ret
      exact ⟨congrArg (fun x => Ending.returned (.int .i64 x)) (shift_3 n), rfl⟩
    · rw [if_pos (by omega)]
      go_enter Try.func35, Try.ntmps35
      go_wp2
      go_ret
      exact ⟨congrArg (fun x => Ending.returned (.int .i64 x)) (shift_4 n), rfl⟩
    · rw [if_pos (by omega)]
      go_enter Try.func35, Try.ntmps35
      go_wp2
      go_ret
      exact ⟨congrArg (fun x => Ending.returned (.int .i64 x)) (shift_5 n), rfl⟩
    · rw [if_pos (by omega)]
      go_enter Try.func35, Try.ntmps35
      go_wp2
      go_ret
      exact ⟨congrArg (fun x => Ending.returned (.int .i64 x)) (shift_6 n), rfl⟩
    · rw [if_pos (by omega)]
      go_enter Try.func35, Try.ntmps35
      go_wp2
      go_ret
      exact ⟨congrArg (fun x => Ending.returned (.int .i64 x)) (shift_7 n), rfl⟩
    · rw [if_neg (by omega)]
      go_enter Try.func35, Try.ntmps35
      go_wp2
      go_ret
      exact ⟨rfl, rfl⟩
  · rw [if_neg (by omega)]
    by_cases h1 : m < 1
    · clear h
      go_enter Try.func35, Try.ntmps35
      go_wp2
      go_ret
      exact ⟨rfl, rfl⟩
    · have h2 : (8 : Int) < m := by omega
      clear h
      go_enter Try.func35, Try.ntmps35
      go_wp2
      go_ret
      exact ⟨rfl, rfl⟩

end Go.Proofs.Ytghcgkpeimpghaa.wide
