/-
  What impl.Whole and spec.Whole return.
-/
import Derived.Test.YtlkfaehfkapfnaaValOkNum
import Derived.Test.YtlkfaehfkapfnaaSpecNumOk
namespace Go.Proofs.Ytlkfaehfkapfnaa.num
open Go.ChangeShapes Go.WideShapes Go.ChangeAt Go.RowKit
open Go.Proofs.Ytlkfaehfkapfnaa.val
set_option maxRecDepth 100000

/-- The greatest whole number not above n / 10, as both reckon it. -/
def tenthOf (n : Int) : Int := if n.tmod 10 < 0 then n.tdiv 10 - 1 else n.tdiv 10
def tenths : Int → Nat → Int
  | n, 0 => n
  | n, k + 1 => tenths (tenthOf n) k
theorem tenth_in {n : Int} (h : InI n) : InI (tenthOf n) := by
  have := td n
  unfold InI tenthOf at *
  split <;> omega
def isNum (t : LT) : Bool := (decide (t.k = 3) || decide (t.k = 4)) && numOk t
theorem isNum_e {t : LT} (h : isNum t = true) : -20 ≤ t.e ∧ t.e ≤ 20 := by
  unfold isNum at h
  rw [Bool.and_eq_true] at h
  have h2 := h.2
  unfold numOk at h2
  rw [Bool.and_eq_true] at h2
  have h3 := h2.2
  split at h3
  · have := of_decide_eq_true h3
    omega
  · unfold decOk at h3
    rw [Bool.and_eq_true] at h3
    have := of_decide_eq_true h3.1
    omega
/-- impl.isNumber, spec.l03Is at any value. -/
theorem impl_is {w : World} {t : LT} (h : In w w.heap.size t) (hz : t.nodes ≤ 2000000) (w' : World) (hb : Below w.heap.size w w') : Calls Try.prog 56 #[.agg #[.int .i64 t.k, .int .i64 t.n, .int .i64 t.e, .string t.s, t.row]] w' fun r w'' => r = .returned (.bool (isNum t)) ∧ Below w'.heap.size w' w'' := by
  have hrow : t.row = .slice t.a t.kids.length t.cap := rfl
  have HB1 := Lib.hid ((Below.refl w'.heap.size w').alloc (Nat.le_refl _) (.cells #[.int .i64 t.k, .int .i64 t.n, .int .i64 t.e, .string t.s, t.row] 29))
  by_cases hk : t.k = 3 ∨ t.k = 4
  · have HV : Hid (isNum t = numOk t) := by
      unfold Hid isNum
      rcases hk with hk | hk <;> simp [hk]
    have CV : Hid (∀ W, Below w.heap.size w W → Calls Try.prog 52 #[.agg #[.int .i64 t.k, .int .i64 t.n, .int .i64 t.e, .string t.s, t.row]] W fun e w' => e = .returned (.bool (numOk t)) ∧ Below W.heap.size W w') := fun W hb => value_num W t ((h.behind hb).mono hb.size) hz hk
    have HB0 := Lib.hid (hb.alloc hb.size (.cells #[.int .i64 t.k, .int .i64 t.n, .int .i64 t.e, .string t.s, t.row] 29))
    rw [HV.out]
    generalize numOk t = V at *
    simp only [hrow] at CV HB1 HB0 ⊢
    clear h hz hb hrow HV
    rcases hk with hk | hk
    · simp only [hk] at CV HB1 HB0 ⊢
      clear hk
      go_enter Try.func56, Try.ntmps56
      go_wp2_with fail
      with_reducible refine (CV.out _ HB0.out).mono ?_
      rintro r w1 ⟨rfl, hb1⟩
      have HB2 := Lib.hid (below_of2 HB1.out hb1)
      clear hb1
      go_wp2
      go_ret
      exact ⟨rfl, HB2.out⟩
    · simp only [hk] at CV HB1 HB0 ⊢
      clear hk
      go_enter Try.func56, Try.ntmps56
      go_wp2_with fail
      with_reducible refine (CV.out _ HB0.out).mono ?_
      rintro r w1 ⟨rfl, hb1⟩
      have HB2 := Lib.hid (below_of2 HB1.out hb1)
      clear hb1
      go_wp2
      go_ret
      exact ⟨rfl, HB2.out⟩
  · have h1 : ¬ t.k = 3 := fun h => hk (.inl h)
    have h2 : ¬ t.k = 4 := fun h => hk (.inr h)
    have HV : Hid (isNum t = false) := by
      unfold Hid isNum
      rw [decide_eq_false h1, decide_eq_false h2]
      rfl
    simp only [hrow] at HB1 ⊢
    clear h hz hb hrow hk
    go_enter Try.func56, Try.ntmps56
    go_wp2
    go_ret
    exact ⟨by rw [HV.out]; rfl, HB1.out⟩
theorem spec_is (t : LT) (w' : World) : Calls Try.prog 55 #[.agg #[.int .i64 t.k, .int .i64 t.n, .int .i64 t.e, .string t.s, t.row]] w' fun r w'' => r = .returned (.bool (isNum t)) ∧ Below w'.heap.size w' w'' := by
  have hrow : t.row = .slice t.a t.kids.length t.cap := rfl
  have HB1 := Lib.hid ((Below.refl w'.heap.size w').alloc (Nat.le_refl _) (.cells #[.int .i64 t.k, .int .i64 t.n, .int .i64 t.e, .string t.s, t.row] 29))
  by_cases hk : t.k = 3 ∨ t.k = 4
  · have HV : Hid (isNum t = numOk t) := by
      unfold Hid isNum
      rcases hk with hk | hk <;> simp [hk]
    have CV : Hid (∀ W, Calls Try.prog 50 #[.agg #[.int .i64 t.k, .int .i64 t.n, .int .i64 t.e, .string t.s, t.row]] W fun e w' => e = .returned (.bool (numOk t)) ∧ Below W.heap.size W w') := fun W => spec_value_num t hk W
    rw [HV.out]
    generalize numOk t = V at *
    simp only [hrow] at CV HB1 ⊢
    clear hrow HV
    rcases hk with hk | hk
    · simp only [hk] at CV HB1 ⊢
      clear hk
      go_enter Try.func55, Try.ntmps55
      go_wp2_with fail
      with_reducible refine (CV.out _).mono ?_
      rintro r w1 ⟨rfl, hb1⟩
      have HB2 := Lib.hid (below_of2 HB1.out hb1)
      clear hb1
      go_wp2
      go_ret
      exact ⟨rfl, HB2.out⟩
    · simp only [hk] at CV HB1 ⊢
      clear hk
      go_enter Try.func55, Try.ntmps55
      go_wp2_with fail
      with_reducible refine (CV.out _).mono ?_
      rintro r w1 ⟨rfl, hb1⟩
      have HB2 := Lib.hid (below_of2 HB1.out hb1)
      clear hb1
      go_wp2
      go_ret
      exact ⟨rfl, HB2.out⟩
  · have h1 : ¬ t.k = 3 := fun h => hk (.inl h)
    have h2 : ¬ t.k = 4 := fun h => hk (.inr h)
    have HV : Hid (isNum t = false) := by
      unfold Hid isNum
      rw [decide_eq_false h1, decide_eq_false h2]
      rfl
    simp only [hrow] at HB1 ⊢
    clear hrow hk
    go_enter Try.func55, Try.ntmps55
    go_wp2
    go_ret
    exact ⟨by rw [HV.out]; rfl, HB1.out⟩

theorem tenth_any (n : Int) (hn : InI n) (w : World) : Calls Try.prog 57 #[.int .i64 n] w fun r w' => r = .returned (.int .i64 (tenthOf n)) ∧ w = w' := by
  have hd : wrap64 (n.tdiv 10) = n.tdiv 10 := wrap_in (div_in hn)
  by_cases h : n.tmod 10 < 0
  · have ht : tenthOf n = n.tdiv 10 - 1 := if_pos h
    have hs : wrap64 (n.tdiv 10 - 1) = n.tdiv 10 - 1 := by rw [← ht]; exact wrap_in (tenth_in hn)
    go_enter Try.func57, Try.ntmps57
    go_wp2
    go_ret
    exact ⟨by first | rfl | (rw [ht]; first | rfl | simp [hd, hs]), rfl⟩
  · have ht : tenthOf n = n.tdiv 10 := if_neg h
    go_enter Try.func57, Try.ntmps57
    go_wp2
    go_ret
    exact ⟨by first | rfl | (rw [ht]; first | rfl | simp [hd]), rfl⟩

def wholeN (t : LT) : Int := if isNum t = true ∧ t.e ≤ 0 then tenths t.n (-t.e).toNat else 0
def wholeB (t : LT) : Bool := decide (isNum t = true ∧ t.e ≤ 0)
theorem whole_no {t : LT} (h : ¬ (isNum t = true ∧ t.e ≤ 0)) : wholeN t = 0 ∧ wholeB t = false := ⟨if_neg h, decide_eq_false h⟩
theorem whole_is {t : LT} (h : isNum t = true) {K : Nat} (he : t.e = -(K : Int)) : wholeN t = tenths t.n K ∧ wholeB t = true := by
  have h0 : isNum t = true ∧ t.e ≤ 0 := ⟨h, by omega⟩
  refine ⟨?_, decide_eq_true h0⟩
  unfold wholeN
  rw [if_pos h0, he, Int.neg_neg, Int.toNat_natCast]
/-- What the loop of Whole keeps. -/
structure TenthAt (n : Int) (K : Nat) (m : Int) (j : Nat) : Prop where
  le : j ≤ K
  isIn : InI m
  eq : tenths m (K - j) = tenths n K
theorem TenthAt.start {n : Int} (h : InI n) (K : Nat) : TenthAt n K n 0 := ⟨Nat.zero_le _, h, rfl⟩
theorem TenthAt.step {n m : Int} {K j : Nat} (h : TenthAt n K m j) (hj : j < K) : TenthAt n K (tenthOf m) (j + 1) := ⟨hj, tenth_in h.isIn, by rw [← h.eq, show K - j = (K - (j + 1)) + 1 by omega, tenths]⟩
theorem TenthAt.fin {n m : Int} {K j : Nat} (h : TenthAt n K m j) (hj : ¬ j < K) : tenths n K = m := by
  have := h.le
  rw [← h.eq, show K - j = 0 by omega, tenths]
theorem in_n {w : World} {B : Nat} {t : LT} (h : In w B t) : InI t.n := by cases h; assumption

set_option maxHeartbeats 2000000 in
theorem impl_whole {w : World} {t : LT} (h : In w w.heap.size t) (hz : t.nodes ≤ 2000000) : Calls Try.prog 26 #[.agg #[.int .i64 t.k, .int .i64 t.n, .int .i64 t.e, .string t.s, t.row]] w fun r w'' => r = .returned (.tuple #[.int .i64 (wholeN t), .bool (wholeB t)]) ∧ Below w.heap.size w w'' := by
  have HB := Lib.hid ((Below.refl w.heap.size w).alloc (Nat.le_refl _) (.cells #[.int .i64 t.k, .int .i64 t.n, .int .i64 t.e, .string t.s, t.row] 29))
  have HX := Lib.hid (Box.new w t 29)
  have CI := impl_is h hz _ HB.out
  have HI := Lib.hid (in_n h)
  have hrow : t.row = .slice t.a t.kids.length t.cap := rfl
  cases hq : isNum t with
  | false =>
    obtain ⟨e1, e2⟩ := whole_no (t := t) (by rw [hq]; simp)
    rw [e1, e2]
    rw [hq] at CI
    simp only [hrow] at CI HB ⊢
    replace CI := Lib.hid CI
    clear h hz hrow hq e1 e2 HX
    go_enter Try.func26, Try.ntmps26
    go_wp2_with fail
    with_reducible refine CI.out.mono ?_
    rintro r w1 ⟨rfl, hb1⟩
    have HB2 := Lib.hid (below_of2 HB.out hb1)
    clear hb1 CI
    go_wp2
    go_ret2
    exact ⟨rfl, HB2.out⟩
  | true =>
    obtain ⟨he1, he2⟩ := isNum_e hq
    by_cases he : 0 < t.e
    · obtain ⟨e1, e2⟩ := whole_no (t := t) (fun h => by omega)
      rw [e1, e2]
      rw [hq] at CI
      simp only [hrow] at CI HB HX ⊢
      replace CI := Lib.hid CI
      clear h hz hrow hq e1 e2
      go_enter Try.func26, Try.ntmps26
      go_wp2_with fail
      with_reducible refine CI.out.mono ?_
      rintro r w1 ⟨rfl, hb1⟩
      have HB2 := Lib.hid (below_of2 HB.out hb1)
      obtain ⟨c0, c1, c2, c3, c4⟩ := HX.out.behind hb1
      clear hb1 CI
      go_wp2
      go_ret2
      exact ⟨rfl, HB2.out⟩
    · obtain ⟨K, hK⟩ : ∃ K : Nat, t.e = -(K : Int) := ⟨(-t.e).toNat, by omega⟩
      obtain ⟨e1, e2⟩ := whole_is hq hK
      rw [e1, e2]
      rw [hq] at CI
      simp only [hrow] at CI HB HX ⊢
      replace CI := Lib.hid CI
      have HK := Lib.hid hK
      have HS := Lib.hid (TenthAt.start HI.out K)
      have HT10 := Lib.hid tenth_any
      clear h hz hrow hq e1 e2 hK
      go_enter Try.func26, Try.ntmps26
      go_wp2_with fail
      with_reducible refine CI.out.mono ?_
      rintro r w1 ⟨rfl, hb1⟩
      have HB2 := Lib.hid (below_of2 HB.out hb1)
      obtain ⟨c0, c1, c2, c3, c4⟩ := HX.out.behind hb1
      clear hb1 CI
      go_wp2
      go_loop [4, 18] (fun v i => ∃ (j : Nat) (m : Int), i = .int .i64 j ∧ v = .int .i64 m ∧ TenthAt t.n K m j) (fun _ i => K - (intOf i).toNat)
      case atStart => exact ⟨0, t.n, rfl, rfl, HS.out⟩
      case round =>
        obtain ⟨j, m, rfl, rfl, HT⟩ := hrel
        have hjk := HT.le
        by_cases hj : j < K
        · have hj1 : (j : Int) < -t.e := by have := HK.out; omega
          have CM := Lib.hid (fun W => HT10.out m HT.isIn W)
          have HN := Lib.hid (HT.step hj)
          clear HT HT10 HS
          go_wp2_with (go_at_call 57; with_reducible refine (CM.out _).mono ?_; rintro r w2 ⟨rfl, rfl⟩)
          exact ⟨⟨j + 1, _, by first | rfl | simp, rfl, HN.out⟩, by simp [intOf]; omega⟩
        · have hj1 : ¬ (j : Int) < -t.e := by have := HK.out; omega
          have HE := Lib.hid (HT.fin hj)
          clear HT HT10 HS
          go_wp2
          go_ret2
          exact ⟨by rw [HE.out]; rfl, HB2.out⟩
set_option maxHeartbeats 2000000 in
theorem spec_whole {w : World} {t : LT} (hn : InI t.n) : Calls Try.prog 25 #[.agg #[.int .i64 t.k, .int .i64 t.n, .int .i64 t.e, .string t.s, t.row]] w fun r w'' => r = .returned (.tuple #[.int .i64 (wholeN t), .bool (wholeB t)]) ∧ Below w.heap.size w w'' := by
  have HB := Lib.hid ((Below.refl w.heap.size w).alloc (Nat.le_refl _) (.cells #[.int .i64 t.k, .int .i64 t.n, .int .i64 t.e, .string t.s, t.row] 29))
  have HX := Lib.hid (Box.new w t 29)
  have CI := spec_is t (w.alloc (.cells #[.int .i64 t.k, .int .i64 t.n, .int .i64 t.e, .string t.s, t.row] 29))
  have HI := Lib.hid hn
  have hrow : t.row = .slice t.a t.kids.length t.cap := rfl
  cases hq : isNum t with
  | false =>
    obtain ⟨e1, e2⟩ := whole_no (t := t) (by rw [hq]; simp)
    rw [e1, e2]
    rw [hq] at CI
    simp only [hrow] at CI HB ⊢
    replace CI := Lib.hid CI
    clear hrow hn hq e1 e2 HX
    go_enter Try.func25, Try.ntmps25
    go_wp2_with fail
    with_reducible refine CI.out.mono ?_
    rintro r w1 ⟨rfl, hb1⟩
    have HB2 := Lib.hid (below_of2 HB.out hb1)
    clear hb1 CI
    go_wp2
    go_ret2
    exact ⟨rfl, HB2.out⟩
  | true =>
    obtain ⟨he1, he2⟩ := isNum_e hq
    by_cases he : 0 < t.e
    · obtain ⟨e1, e2⟩ := whole_no (t := t) (fun h => by omega)
      rw [e1, e2]
      rw [hq] at CI
      simp only [hrow] at CI HB HX ⊢
      replace CI := Lib.hid CI
      clear hrow hn hq e1 e2
      go_enter Try.func25, Try.ntmps25
      go_wp2_with fail
      with_reducible refine CI.out.mono ?_
      rintro r w1 ⟨rfl, hb1⟩
      have HB2 := Lib.hid (below_of2 HB.out hb1)
      obtain ⟨c0, c1, c2, c3, c4⟩ := HX.out.behind hb1
      clear hb1 CI
      go_wp2
      go_ret2
      exact ⟨rfl, HB2.out⟩
    · obtain ⟨K, hK⟩ : ∃ K : Nat, t.e = -(K : Int) := ⟨(-t.e).toNat, by omega⟩
      obtain ⟨e1, e2⟩ := whole_is hq hK
      rw [e1, e2]
      rw [hq] at CI
      simp only [hrow] at CI HB HX ⊢
      replace CI := Lib.hid CI
      have HK := Lib.hid hK
      have HS := Lib.hid (TenthAt.start HI.out K)
      clear hrow hn hq e1 e2 hK
      go_enter Try.func25, Try.ntmps25
      go_wp2_with fail
      with_reducible refine CI.out.mono ?_
      rintro r w1 ⟨rfl, hb1⟩
      have HB2 := Lib.hid (below_of2 HB.out hb1)
      obtain ⟨c0, c1, c2, c3, c4⟩ := HX.out.behind hb1
      clear hb1 CI
      go_wp2
      go_loop [4, 5] (fun v i => ∃ (j : Nat) (m : Int), i = .int .i64 ((j : Int) - K) ∧ v = .int .i64 m ∧ TenthAt t.n K m j) (fun _ i => (-(intOf i)).toNat)
      case atStart => exact ⟨0, t.n, by rw [HK.out]; simp, rfl, HS.out⟩
      case round =>
        obtain ⟨j, m, rfl, rfl, HT⟩ := hrel
        have hjk := HT.le
        have hK20 : K ≤ 20 := by have := HK.out; omega
        have HM := Lib.hid HT.isIn
        by_cases hj : j < K
        · have hj1 : (j : Int) - (K : Int) < 0 := by omega
          have hj2 : wrap64 ((j : Int) - K + 1) = (j : Int) - K + 1 := wrap_in (by unfold InI; omega)
          have hd : wrap64 (m.tdiv 10) = m.tdiv 10 := wrap_in (div_in HM.out)
          have HN := Lib.hid (HT.step hj)
          clear HT HS
          by_cases hm : m.tmod 10 < 0
          · have ht : tenthOf m = m.tdiv 10 - 1 := if_pos hm
            have hs : wrap64 (m.tdiv 10 - 1) = m.tdiv 10 - 1 := by rw [← ht]; exact wrap_in (tenth_in HM.out)
            have HH := Lib.hid ht
            clear ht
            go_wp2
            exact ⟨⟨j + 1, tenthOf m, by first | (congr 1; push_cast; omega) | (simp; omega), by rw [HH.out]; first | rfl | simp [hd, hs], HN.out⟩, by simp [intOf]; omega⟩
          · have ht : tenthOf m = m.tdiv 10 := if_neg hm
            have HH := Lib.hid ht
            clear ht
            go_wp2
            exact ⟨⟨j + 1, tenthOf m, by first | (congr 1; push_cast; omega) | (simp; omega), by rw [HH.out]; first | rfl | simp [hd], HN.out⟩, by simp [intOf]; omega⟩
        · have hj1 : ¬ (j : Int) - (K : Int) < 0 := by omega
          have HE := Lib.hid (HT.fin hj)
          clear HT HS
          go_wp2
          go_ret2
          exact ⟨by rw [HE.out]; rfl, HB2.out⟩

end Go.Proofs.Ytlkfaehfkapfnaa.num
