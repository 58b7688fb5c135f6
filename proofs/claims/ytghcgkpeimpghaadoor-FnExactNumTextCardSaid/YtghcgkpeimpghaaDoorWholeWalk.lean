/-
  What impl.Whole and spec.Whole return.
-/
import Derived.Test.YtghcgkpeimpghaaDoorValOkNum
import Derived.Test.YtghcgkpeimpghaaDoorSpecNumOk
namespace Go.Proofs.YtghcgkpeimpghaaDoor.num
open Go.ChangeShapes Go.WideShapes Go.ChangeAt Go.RowKit
open Go.Proofs.YtghcgkpeimpghaaDoor.val
set_option maxRecDepth 100000

/-- The greatest whole number not above n / 10, as both reckon it. -/
def tenthOf (n : Int) : Int := if n.tmod 10 < 0 then n.tdiv 10 - 1 else n.tdiv 10
def tenths : Int → Nat → Int
  | n, 0 => n
  | n, k + 1 => tenths (tenthOf n) k
theorem tenth_in {n : Int} (h : InI n) : InI (tenthOf n) := by
  have := td n
  unfold InI tenthOf at *
  split <;> omega
def isNum (t : LT) : Bool := (decide (t.k = 3) || decide (t.k = 4)) && numOk t
theorem isNum_e {t : LT} (h : isNum t = true) : -20 ≤ t.e ∧ t.e ≤ 20 := by
  unfold isNum at h
  rw [Bool.and_eq_true] at h
  have h2 := h.2
  unfold numOk at h2
  rw [Bool.and_eq_true] at h2
  have h3 := h2.2
  split at h3
  · have := of_decide_eq_true h3
    omega
  · unfold decOk at h3
    rw [Bool.and_eq_true] at h3
    have := of_decide_eq_true h3.1
    omega
/-- impl.isNumber, spec.l03Is at any value. -/
theorem impl_is {w : World} {t : LT} (h : In w w.heap.size t) (hz : t.nodes ≤ 2000000) (w' : World) (hb : Below w.heap.size w w') : Calls Tryd.prog 22 #[.agg #[.int .i64 t.k, .int .i64 t.n, .int .i64 t.e, .string t.s, t.row]] w' fun r w'' => r = .returned (.bool (isNum t)) ∧ Below w'.heap.size w' w'' := by
  have hrow : t.row = .slice t.a t.kids.length t.cap := rfl
  have HB1 := Lib.hid ((Below.refl w'.heap.size w').alloc (Nat.le_refl _) (.cells #[.int .i64 t.k, .int .i64 t.n, .int .i64 t.e, .string t.s, t.row] 29))
  by_cases hk : t.k = 3 ∨ t.k = 4
  · have HV : Hid (isNum t = numOk t) := by
      unfold Hid isNum
      rcases hk with hk | hk <;> simp [hk]
    have CV : Hid (∀ W, Below w.heap.size w W → Calls Tryd.prog 37 #[.agg #[.int .i64 t.k, .int .i64 t.n, .int .i64 t.e, .string t.s, t.row]] W fun e w' => e = .returned (.bool (numOk t)) ∧ Below W.heap.size W w') := fun W hb => value_num W t ((h.behind hb).mono hb.size) hz hk
    have HB0 := Lib.hid (hb.alloc hb.size (.cells #[.int .i64 t.k, .int .i64 t.n, .int .i64 t.e, .string t.s, t.row] 29))
    rw [HV.out]
    generalize numOk t = V at *
    simp only [hrow] at CV HB1 HB0 ⊢
    clear h hz hb hrow HV
    rcases hk with hk | hk
    · simp only [hk] at CV HB1 HB0 ⊢
      clear hk
      go_enter Tryd.func22, Tryd.ntmps22
      go_wp2_with fail
      with_reducible refine (CV.out _ HB0.out).mono ?_
      rintro r w1 ⟨rfl, hb1⟩
      have HB2 := Lib.hid (below_of2 HB1.out hb1)
      clear hb1
      go_wp2
      go_ret
      exact ⟨rfl, HB2.out⟩
    · simp only [hk] at CV HB1 HB0 ⊢
      clear hk
      go_enter Tryd.func22, Tryd.ntmps22
      go_wp2_with fail
      with_reducible refine (CV.out _ HB0.out).mono ?_
      rintro r w1 ⟨rfl, hb1⟩
      have HB2 := Lib.hid (below_of2 HB1.out hb1)
      clear hb1
      go_wp2
      go_ret
      exact ⟨rfl, HB2.out⟩
  · have h1 : ¬ t.k = 3 := fun h => hk (.inl h)
    have h2 : ¬ t.k = 4 := fun h => hk (.inr h)
    have HV : Hid (isNum t = false) := by
      unfold Hid isNum
      rw [decide_eq_false h1, decide_eq_false h2]
      rfl
    simp only [hrow] at HB1 ⊢
    clear h hz hb hrow hk
    go_enter Tryd.func22, Tryd.ntmps22
    go_wp2
    go_ret
    exact ⟨by rw [HV.out]; rfl, HB1.out⟩
def wholeN (t : LT) : Int := if isNum t = true ∧ t.e ≤ 0 then tenths t.n (-t.e).toNat else 0
def wholeB (t : LT) : Bool := decide (isNum t = true ∧ t.e ≤ 0)
theorem whole_no {t : LT} (h : ¬ (isNum t = true ∧ t.e ≤ 0)) : wholeN t = 0 ∧ wholeB t = false := ⟨if_neg h, decide_eq_false h⟩
theorem whole_is {t : LT} (h : isNum t = true) {K : Nat} (he : t.e = -(K : Int)) : wholeN t = tenths t.n K ∧ wholeB t = true := by
  have h0 : isNum t = true ∧ t.e ≤ 0 := ⟨h, by omega⟩
  refine ⟨?_, decide_eq_true h0⟩
  unfold wholeN
  rw [if_pos h0, he, Int.neg_neg, Int.toNat_natCast]
/-- What the loop of Whole keeps. -/
structure TenthAt (n : Int) (K : Nat) (m : Int) (j : Nat) : Prop where
  le : j ≤ K
  isIn : InI m
  eq : tenths m (K - j) = tenths n K
theorem TenthAt.start {n : Int} (h : InI n) (K : Nat) : TenthAt n K n 0 := ⟨Nat.zero_le _, h, rfl⟩
theorem TenthAt.step {n m : Int} {K j : Nat} (h : TenthAt n K m j) (hj : j < K) : TenthAt n K (tenthOf m) (j + 1) := ⟨hj, tenth_in h.isIn, by rw [← h.eq, show K - j = (K - (j + 1)) + 1 by omega, tenths]⟩
theorem TenthAt.fin {n m : Int} {K j : Nat} (h : TenthAt n K m j) (hj : ¬ j < K) : tenths n K = m := by
  have := h.le
  rw [← h.eq, show K - j = 0 by omega, tenths]
theorem in_n {w : World} {B : Nat} {t : LT} (h : In w B t) : InI t.n := by cases h; assumption

end Go.Proofs.YtghcgkpeimpghaaDoor.num
