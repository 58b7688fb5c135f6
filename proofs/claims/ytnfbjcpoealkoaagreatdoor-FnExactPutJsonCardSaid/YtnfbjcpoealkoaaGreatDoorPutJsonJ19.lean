/-
  spec.l02Right, spec.Nodes, spec.ValueOk at a number.
-/
import Derived.Test.YtnfbjcpoealkoaaGreatDoorPutJsonJ9
import Derived.Test.YtnfbjcpoealkoaaGreatDoorPutJsonJ18
import Derived.Test.YtnfbjcpoealkoaaGreatDoorPutJsonJ1
import Derived.Test.YtnfbjcpoealkoaaGreatDoorPutJsonJ12
import Derived.Test.YtnfbjcpoealkoaaGreatDoorPutJsonJ4
namespace Go.Proofs.YtnfbjcpoealkoaaGreatDoor.num
open Go.ChangeShapes Go.WideShapes Go.ChangeAt Go.RowKit
open Go.Proofs.YtnfbjcpoealkoaaGreatDoor.val
set_option maxRecDepth 100000

set_option maxHeartbeats 1000000 in
theorem right_num (t : LT) (hk : t.k = 3 ∨ t.k = 4) (w : World) : Calls Tryz.prog 154 #[.agg #[.int .i64 t.k, .int .i64 t.n, .int .i64 t.e, .string t.s, t.row], .int .i64 12] w fun r w' => r = .returned (.bool (numOk t)) ∧ Below w.heap.size w w' := by
  have CO := fun W => own_num t hk W
  have HV : Hid (numOk t = true → t.kids.length = 0) := fun h => by
    unfold numOk at h
    simp only [Bool.and_eq_true, decide_eq_true_eq] at h
    exact h.1.2
  clear hk
  generalize numOk t = V at *
  have hrow : t.row = .slice t.a t.kids.length t.cap := rfl
  simp only [hrow] at CO ⊢
  clear hrow
  have HX : Hid (Box (w.alloc (.cells #[.int .i64 t.k, .int .i64 t.n, .int .i64 t.e, .string t.s, .slice t.a t.kids.length t.cap] 46)) w.heap.size t) := Box.new w t 46
  have HB := Lib.hid ((Below.refl w.heap.size w).alloc (Nat.le_refl _) (.cells #[.int .i64 t.k, .int .i64 t.n, .int .i64 t.e, .string t.s, .slice t.a t.kids.length t.cap] 46))
  replace CO := Lib.hid CO
  go_enter Tryz.func154, Tryz.ntmps154
  go_wp2_with fail
  with_reducible refine (CO.out _).mono ?_
  rintro r w1 ⟨rfl, hb⟩
  replace HX := Lib.hid (HX.out.behind hb)
  replace HB := Lib.hid (below_of2 HB.out hb)
  clear hb CO
  obtain ⟨p0, p1, p2, p3, p4⟩ := HX.out
  unfold LT.row at p4
  cases V with
  | false =>
    go_wp2
    go_ret
    exact ⟨rfl, HB.out⟩
  | true =>
    have h0 := HV.out rfl
    rw [h0]
    rw [h0] at p4
    go_wp2
    go_loop [5] (fun i => i = .int .i64 0) (fun _ => 0)
    case atStart => rfl
    case round =>
      obtain rfl := hrel
      go_wp2
      go_ret
      exact ⟨rfl, HB.out⟩
set_option maxHeartbeats 1000000 in
theorem nodes_leaf (k n e : Int) (s : ByteArray) (a : Option Addr) (cap : Nat) (w : World) : Calls Tryz.prog 155 #[.agg #[.int .i64 k, .int .i64 n, .int .i64 e, .string s, .slice a 0 cap]] w fun r w' => r = .returned (.int .i64 1) ∧ Below w.heap.size w w' := by
  have HX := Lib.hid (OwnAt.new w k n e s (.slice a 0 cap))
  obtain ⟨hl, p0, p1, p2, p3, p4⟩ := HX.out
  have HL := Lib.hid hl
  clear hl
  go_enter Tryz.func155, Tryz.ntmps155
  go_wp2
  go_loop [3, 4] (fun v i => v = .int .i64 1 ∧ i = .int .i64 0) (fun _ _ => 0)
  case atStart => exact ⟨rfl, rfl⟩
  case round =>
    obtain ⟨rfl, rfl⟩ := hrel
    go_wp2
    go_ret
    exact ⟨rfl, HL.out⟩
set_option maxHeartbeats 1000000 in
theorem spec_value_num (t : LT) (hk : t.k = 3 ∨ t.k = 4) (w : World) : Calls Tryz.prog 107 #[.agg #[.int .i64 t.k, .int .i64 t.n, .int .i64 t.e, .string t.s, t.row]] w fun r w' => r = .returned (.bool (numOk t)) ∧ Below w.heap.size w w' := by
  have CR := fun W => right_num t hk W
  have HV : Hid (numOk t = true → t.kids.length = 0) := fun h => by
    unfold numOk at h
    simp only [Bool.and_eq_true, decide_eq_true_eq] at h
    exact h.1.2
  clear hk
  generalize numOk t = V at *
  have hrow : t.row = .slice t.a t.kids.length t.cap := rfl
  have HX : Hid (Box (w.alloc (.cells #[.int .i64 t.k, .int .i64 t.n, .int .i64 t.e, .string t.s, .slice t.a t.kids.length t.cap] 46)) w.heap.size t) := Box.new w t 46
  have HB := Lib.hid ((Below.refl w.heap.size w).alloc (Nat.le_refl _) (.cells #[.int .i64 t.k, .int .i64 t.n, .int .i64 t.e, .string t.s, .slice t.a t.kids.length t.cap] 46))
  simp only [hrow] at CR ⊢
  clear hrow
  replace CR := Lib.hid CR
  go_enter Tryz.func107, Tryz.ntmps107
  go_wp2_with fail
  with_reducible refine (CR.out _).mono ?_
  rintro r w1 ⟨rfl, hb⟩
  replace HX := Lib.hid (HX.out.behind hb)
  replace HB := Lib.hid (below_of2 HB.out hb)
  clear hb CR
  obtain ⟨p0, p1, p2, p3, p4⟩ := HX.out
  unfold LT.row at p4
  cases V with
  | false =>
    go_wp2
    go_ret
    exact ⟨rfl, HB.out⟩
  | true =>
    have h0 := HV.out rfl
    rw [h0]
    rw [h0] at p4
    have CN := Lib.hid (nodes_leaf t.k t.n t.e t.s t.a t.cap)
    go_wp2_with (go_at_call 155; with_reducible refine (CN.out _).mono ?_; rintro r w2 ⟨rfl, hb2⟩; have HB2 := Lib.hid (below_of2 HB.out hb2); clear hb2)
    go_ret
    exact ⟨rfl, HB2.out⟩

end Go.Proofs.YtnfbjcpoealkoaaGreatDoor.num
/-
  What impl.Whole and spec.Whole return.
-/
namespace Go.Proofs.YtnfbjcpoealkoaaGreatDoor.num
open Go.ChangeShapes Go.WideShapes Go.ChangeAt Go.RowKit
open Go.Proofs.YtnfbjcpoealkoaaGreatDoor.val
set_option maxRecDepth 100000

/-- The greatest whole number not above n / 10, as both reckon it. -/
def tenthOf (n : Int) : Int := if n.tmod 10 < 0 then n.tdiv 10 - 1 else n.tdiv 10
def tenths : Int → Nat → Int
  | n, 0 => n
  | n, k + 1 => tenths (tenthOf n) k
theorem tenth_in {n : Int} (h : InI n) : InI (tenthOf n) := by
  have := td n
  unfold InI tenthOf at *
  split <;> omega
def isNum (t : LT) : Bool := (decide (t.k = 3) || decide (t.k = 4)) && numOk t
theorem isNum_e {t : LT} (h : isNum t = true) : -20 ≤ t.e ∧ t.e ≤ 20 := by
  unfold isNum at h
  rw [Bool.and_eq_true] at h
  have h2 := h.2
  unfold numOk at h2
  rw [Bool.and_eq_true] at h2
  have h3 := h2.2
  split at h3
  · have := of_decide_eq_true h3
    omega
  · unfold decOk at h3
    rw [Bool.and_eq_true] at h3
    have := of_decide_eq_true h3.1
    omega
/-- impl.isNumber, spec.l03Is at any value. -/
theorem impl_is {w : World} {t : LT} (h : In w w.heap.size t) (hz : t.nodes ≤ 2000000) (w' : World) (hb : Below w.heap.size w w') : Calls Tryz.prog 190 #[.agg #[.int .i64 t.k, .int .i64 t.n, .int .i64 t.e, .string t.s, t.row]] w' fun r w'' => r = .returned (.bool (isNum t)) ∧ Below w'.heap.size w' w'' := by
  have hrow : t.row = .slice t.a t.kids.length t.cap := rfl
  have HB1 := Lib.hid ((Below.refl w'.heap.size w').alloc (Nat.le_refl _) (.cells #[.int .i64 t.k, .int .i64 t.n, .int .i64 t.e, .string t.s, t.row] 46))
  by_cases hk : t.k = 3 ∨ t.k = 4
  · have HV : Hid (isNum t = numOk t) := by
      unfold Hid isNum
      rcases hk with hk | hk <;> simp [hk]
    have CV : Hid (∀ W, Below w.heap.size w W → Calls Tryz.prog 153 #[.agg #[.int .i64 t.k, .int .i64 t.n, .int .i64 t.e, .string t.s, t.row]] W fun e w' => e = .returned (.bool (numOk t)) ∧ Below W.heap.size W w') := fun W hb => value_num W t ((h.behind hb).mono hb.size) hz hk
    have HB0 := Lib.hid (hb.alloc hb.size (.cells #[.int .i64 t.k, .int .i64 t.n, .int .i64 t.e, .string t.s, t.row] 46))
    rw [HV.out]
    generalize numOk t = V at *
    simp only [hrow] at CV HB1 HB0 ⊢
    clear h hz hb hrow HV
    rcases hk with hk | hk
    · simp only [hk] at CV HB1 HB0 ⊢
      clear hk
      go_enter Tryz.func190, Tryz.ntmps190
      go_wp2_with fail
      with_reducible refine (CV.out _ HB0.out).mono ?_
      rintro r w1 ⟨rfl, hb1⟩
      have HB2 := Lib.hid (below_of2 HB1.out hb1)
      clear hb1
      go_wp2
      go_ret
      exact ⟨rfl, HB2.out⟩
    · simp only [hk] at CV HB1 HB0 ⊢
      clear hk
      go_enter Tryz.func190, Tryz.ntmps190
      go_wp2_with fail
      with_reducible refine (CV.out _ HB0.out).mono ?_
      rintro r w1 ⟨rfl, hb1⟩
      have HB2 := Lib.hid (below_of2 HB1.out hb1)
      clear hb1
      go_wp2
      go_ret
      exact ⟨rfl, HB2.out⟩
  · have h1 : ¬ t.k = 3 := fun h => hk (.inl h)
    have h2 : ¬ t.k = 4 := fun h => hk (.inr h)
    have HV : Hid (isNum t = false) := by
      unfold Hid isNum
      rw [decide_eq_false h1, decide_eq_false h2]
      rfl
    simp only [hrow] at HB1 ⊢
    clear h hz hb hrow hk
    go_enter Tryz.func190, Tryz.ntmps190
    go_wp2
    go_ret
    exact ⟨by rw [HV.out]; rfl, HB1.out⟩
def wholeN (t : LT) : Int := if isNum t = true ∧ t.e ≤ 0 then tenths t.n (-t.e).toNat else 0
def wholeB (t : LT) : Bool := decide (isNum t = true ∧ t.e ≤ 0)
theorem whole_no {t : LT} (h : ¬ (isNum t = true ∧ t.e ≤ 0)) : wholeN t = 0 ∧ wholeB t = false := ⟨if_neg h, decide_eq_false h⟩
theorem whole_is {t : LT} (h : isNum t = true) {K : Nat} (he : t.e = -(K : Int)) : wholeN t = tenths t.n K ∧ wholeB t = true := by
  have h0 : isNum t = true ∧ t.e ≤ 0 := ⟨h, by omega⟩
  refine ⟨?_, decide_eq_true h0⟩
  unfold wholeN
  rw [if_pos h0, he, Int.neg_neg, Int.toNat_natCast]
/-- What the loop of Whole keeps. -/
structure TenthAt (n : Int) (K : Nat) (m : Int) (j : Nat) : Prop where
  le : j ≤ K
  isIn : InI m
  eq : tenths m (K - j) = tenths n K
theorem TenthAt.start {n : Int} (h : InI n) (K : Nat) : TenthAt n K n 0 := ⟨Nat.zero_le _, h, rfl⟩
theorem TenthAt.step {n m : Int} {K j : Nat} (h : TenthAt n K m j) (hj : j < K) : TenthAt n K (tenthOf m) (j + 1) := ⟨hj, tenth_in h.isIn, by rw [← h.eq, show K - j = (K - (j + 1)) + 1 by omega, tenths]⟩
theorem TenthAt.fin {n m : Int} {K j : Nat} (h : TenthAt n K m j) (hj : ¬ j < K) : tenths n K = m := by
  have := h.le
  rw [← h.eq, show K - j = 0 by omega, tenths]
theorem in_n {w : World} {B : Nat} {t : LT} (h : In w B t) : InI t.n := by cases h; assumption

end Go.Proofs.YtnfbjcpoealkoaaGreatDoor.num
/-
  What spec.NumText returns of a number.
-/
namespace Go.Proofs.YtnfbjcpoealkoaaGreatDoor.numtext
open Go.ChangeShapes Go.WideShapes Go.ChangeAt Go.RowKit
open Go.Proofs.YtnfbjcpoealkoaaGreatDoor.val Go.Proofs.YtnfbjcpoealkoaaGreatDoor.num Go.Proofs.YtnfbjcpoealkoaaGreatDoor.node
set_option maxRecDepth 100000

def numText (t : LT) : ByteArray := if isNum t = true then ⟨(textL t.n t.e).toArray⟩ else ⟨#[]⟩
set_option maxHeartbeats 1000000 in
theorem pad_any (l : List UInt8) (K : Nat) (hl : l.length ≤ 1000) (hK : K ≤ 1000) (w : World) : Calls Tryz.prog 156 #[.string ⟨l.toArray⟩, .int .i64 K] w fun r w' => r = .returned (.string ⟨(padL l K).toArray⟩) ∧ w = w' := by
  go_enter Tryz.func156, Tryz.ntmps156
  go_wp2
  go_loop [0] (fun x => ∃ l' : List UInt8, x = .string ⟨l'.toArray⟩ ∧ l'.length ≤ 2000 ∧ Hid (padL l' K = padL l K)) (fun x => match x with | .string s => K + 1 - s.size | _ => 0)
  case atStart => exact ⟨l, rfl, by omega, rfl⟩
  case round =>
    obtain ⟨l', rfl, hl', HP⟩ := hrel
    by_cases h : l'.length ≤ K
    · have h1 : (l'.length : Int) ≤ (K : Int) := by omega
      have HP2 : Hid (padL (48 :: l') K = padL l K) := by unfold Hid; rw [pad_step l' K h]; exact HP.out
      have HJ : Hid ((⟨#[48]⟩ : ByteArray) ++ ⟨l'.toArray⟩ = ⟨(48 :: l').toArray⟩) := join_bytes [48] l'
      clear HP
      go_wp2
      rw [HJ.out]
      exact ⟨⟨48 :: l', rfl, by simp; omega, HP2⟩, by simp [ByteArray.size]; omega⟩
    · have h1 : ¬ (l'.length : Int) ≤ (K : Int) := by omega
      have HF : Hid (l' = padL l K) := by unfold Hid; rw [← HP.out, pad_end l' K h]
      clear HP
      go_wp2
      go_ret
      exact ⟨by rw [HF.out]; rfl, rfl⟩
theorem numText_no {t : LT} (h : isNum t = false) : numText t = ⟨#[]⟩ := by unfold numText; rw [h]; rfl
theorem isNum_kind {t : LT} (h3 : ¬ t.k = 3) (h4 : ¬ t.k = 4) : isNum t = false := by unfold isNum; rw [decide_eq_false h3, decide_eq_false h4]; rfl
set_option maxHeartbeats 1000000 in
theorem spec_bad {t : LT} (hk : t.k = 3 ∨ t.k = 4) (hv : numOk t = false) (w : World) :
    Calls Tryz.prog 110 #[.agg #[.int .i64 t.k, .int .i64 t.n, .int .i64 t.e, .string t.s, t.row]] w fun r w' => r = .returned (.string (numText t)) ∧ Below w.heap.size w w' := by
  have hi : isNum t = false := by unfold isNum; rw [hv, Bool.and_false]
  rw [numText_no hi]
  have hrow : t.row = .slice t.a t.kids.length t.cap := rfl
  have HA : Hid (Below w.heap.size w (w.alloc (.cells #[.int .i64 t.k, .int .i64 t.n, .int .i64 t.e, .string t.s, .slice t.a t.kids.length t.cap] 46))) := (Below.refl _ _).alloc (Nat.le_refl _) _
  have CV := fun W => spec_value_num t hk W
  simp only [hrow, hv] at CV ⊢
  replace CV := Lib.hid CV
  clear hrow hv hi hk
  go_enter Tryz.func110, Tryz.ntmps110
  go_wp2_with fail
  with_reducible refine (CV.out _).mono ?_
  rintro r w1 ⟨rfl, hb1⟩
  replace HA := Lib.hid (below_of2 HA.out hb1)
  clear hb1 CV
  go_wp2
  go_ret
  exact ⟨rfl, HA.out⟩
set_option maxHeartbeats 1000000 in
theorem spec_int {n : Int} {s : ByteArray} {a : Option Addr} {m cap : Nat} {R : ByteArray} (hn : InI n) (hR : R = ⟨(Lib.itoa n).toArray⟩) (w : World) (CV : ∀ W, Calls Tryz.prog 107 #[.agg #[.int .i64 3, .int .i64 n, .int .i64 0, .string s, .slice a m cap]] W fun r w' => r = .returned (.bool true) ∧ Below W.heap.size W w') :
    Calls Tryz.prog 110 #[.agg #[.int .i64 3, .int .i64 n, .int .i64 0, .string s, .slice a m cap]] w fun r w' => r = .returned (.string R) ∧ Below w.heap.size w w' := by
  have HA := Lib.hid (OwnAt.new w 3 n 0 s (.slice a m cap))
  have CD := Lib.hid (fun W => decText.spec_any n hn.1 hn.2 W)
  replace CV := Lib.hid CV
  subst hR
  clear hn
  generalize Lib.itoa n = L at *
  go_enter Tryz.func110, Tryz.ntmps110
  go_wp2_with fail
  with_reducible refine (CV.out _).mono ?_
  rintro r w1 ⟨rfl, hb1⟩
  have hown := own_behind HA.out hb1
  clear hb1 CV HA
  obtain ⟨hlow, p0, p1, p2, p3, p4⟩ := hown
  have HL := Lib.hid hlow
  clear hlow
  go_wp2_with (go_at_call 136; with_reducible refine (CD.out _).mono ?_; rintro r w2 ⟨rfl, rfl⟩)
  go_ret
  exact ⟨rfl, HL.out⟩
set_option maxHeartbeats 1000000 in
theorem spec_high {n e : Int} {s : ByteArray} {a : Option Addr} {m cap : Nat} {R : ByteArray} (hn : InI n) (he : InI e) (h0 : 0 < e) (hR : R = ⟨(Lib.itoa n ++ 101 :: Lib.itoa e).toArray⟩) (w : World) (CV : ∀ W, Calls Tryz.prog 107 #[.agg #[.int .i64 4, .int .i64 n, .int .i64 e, .string s, .slice a m cap]] W fun r w' => r = .returned (.bool true) ∧ Below W.heap.size W w') :
    Calls Tryz.prog 110 #[.agg #[.int .i64 4, .int .i64 n, .int .i64 e, .string s, .slice a m cap]] w fun r w' => r = .returned (.string R) ∧ Below w.heap.size w w' := by
  have HA := Lib.hid (OwnAt.new w 4 n e s (.slice a m cap))
  have CD := Lib.hid (fun W => decText.spec_any n hn.1 hn.2 W)
  have CE := Lib.hid (fun W => decText.spec_any e he.1 he.2 W)
  replace CV := Lib.hid CV
  have HR : Hid (R = ⟨(Lib.itoa n).toArray⟩ ++ ⟨#[101]⟩ ++ ⟨(Lib.itoa e).toArray⟩) := by
    unfold Hid
    rw [hR, show (⟨#[101]⟩ : ByteArray) = ⟨[101].toArray⟩ from rfl, join_bytes, join_bytes]
    simp
  have hl1 := Lib.itoa_length_le n hn.1 hn.2
  have hl2 := Lib.itoa_length_le e he.1 he.2
  clear hn he hR
  generalize Lib.itoa n = L at *
  generalize Lib.itoa e = M at *
  go_enter Tryz.func110, Tryz.ntmps110
  go_wp2_with fail
  with_reducible refine (CV.out _).mono ?_
  rintro r w1 ⟨rfl, hb1⟩
  have hown := own_behind HA.out hb1
  clear hb1 CV HA
  obtain ⟨hlow, p0, p1, p2, p3, p4⟩ := hown
  have HL := Lib.hid hlow
  clear hlow
  go_wp2_with fail
  go_region_with (go_at_call 136; first | (with_reducible refine (CD.out _).mono ?_; rintro r w2 ⟨rfl, rfl⟩) | (with_reducible refine (CE.out _).mono ?_; rintro r w2 ⟨rfl, rfl⟩))
  all_goals
    go_wp2
    go_ret
    exact ⟨by rw [HR.out]; rfl, belowN HL.out 1⟩
set_option maxHeartbeats 2000000 in
theorem spec_low_neg {n : Int} {s : ByteArray} {a : Option Addr} {m cap : Nat} {R : ByteArray} (hn : InI n) {K : Nat} (hK : 1 ≤ K) (hK2 : K ≤ 20) (h0 : n < 0) (hR : R = ⟨(45 :: pointL (Lib.decDigits n.natAbs) K).toArray⟩) (w : World) (CV : ∀ W, Calls Tryz.prog 107 #[.agg #[.int .i64 4, .int .i64 n, .int .i64 (-(K : Int)), .string s, .slice a m cap]] W fun r w' => r = .returned (.bool true) ∧ Below W.heap.size W w') :
    Calls Tryz.prog 110 #[.agg #[.int .i64 4, .int .i64 n, .int .i64 (-(K : Int)), .string s, .slice a m cap]] w fun r w' => r = .returned (.string R) ∧ Below w.heap.size w w' := by
  have HA := Lib.hid (OwnAt.new w 4 n (-(K : Int)) s (.slice a m cap))
  have CD := fun W => decText.spec_any n hn.1 hn.2 W
  rw [itoa_neg h0] at CD
  replace CD := Lib.hid CD
  obtain ⟨hd1, hd2⟩ := dig_len n.natAbs (by have := hn.1; have := hn.2; omega)
  have hpl := padL_len (Lib.decDigits n.natAbs) K
  have CP := Lib.hid (fun W => pad_any (Lib.decDigits n.natAbs) K (by omega) (by omega) W)
  replace CV := Lib.hid CV
  have HR : Hid (R = ⟨[45].toArray⟩ ++ (⟨(padL (Lib.decDigits n.natAbs) K).toArray⟩ : ByteArray).extract 0 ((padL (Lib.decDigits n.natAbs) K).length - K) ++ ⟨[46].toArray⟩ ++ (⟨(padL (Lib.decDigits n.natAbs) K).toArray⟩ : ByteArray).extract ((padL (Lib.decDigits n.natAbs) K).length - K) (padL (Lib.decDigits n.natAbs) K).length) := by
    unfold Hid
    rw [hR, point_cut [45]]
    rfl
  have hcut : ((45 :: Lib.decDigits n.natAbs).length : Int) = (Lib.decDigits n.natAbs).length + 1 := by simp
  have hpl2 : K < (padL (Lib.decDigits n.natAbs) K).length ∧ (padL (Lib.decDigits n.natAbs) K).length ≤ 21 := by omega
  clear hn hR hpl
  generalize padL (Lib.decDigits n.natAbs) K = P at *
  generalize Lib.decDigits n.natAbs = D at *
  go_enter Tryz.func110, Tryz.ntmps110
  go_wp2_with fail
  with_reducible refine (CV.out _).mono ?_
  rintro r w1 ⟨rfl, hb1⟩
  have hown := own_behind HA.out hb1
  clear hb1 CV HA
  obtain ⟨hlow, p0, p1, p2, p3, p4⟩ := hown
  have HL := Lib.hid hlow
  clear hlow
  go_wp2_with (go_at_call 136; with_reducible refine (CD.out _).mono ?_; rintro r w2 ⟨rfl, rfl⟩)
  rw [cut_one]
  with_reducible refine (CP.out _).mono ?_
  rintro r w2 ⟨rfl, rfl⟩
  clear CD CP
  go_wp2
  have q1 : (0 : Int) ≤ (P.length : Int) + -(K : Int) := by omega
  have q2 : (P.length : Int) + -(K : Int) ≤ (P.length : Int) := by omega
  have q3 : ((P.length : Int) + -(K : Int)).toNat = P.length - K := by omega
  go_quiet (fail)
  go_wp2
  go_ret
  exact ⟨by rw [HR.out]; rfl, belowN HL.out nq⟩
set_option maxHeartbeats 2000000 in
theorem spec_low_pos {n : Int} {s : ByteArray} {a : Option Addr} {m cap : Nat} {R : ByteArray} (hn : InI n) {K : Nat} (hK : 1 ≤ K) (hK2 : K ≤ 20) (h0 : ¬ n < 0) (hR : R = ⟨(pointL (Lib.decDigits n.natAbs) K).toArray⟩) (w : World) (CV : ∀ W, Calls Tryz.prog 107 #[.agg #[.int .i64 4, .int .i64 n, .int .i64 (-(K : Int)), .string s, .slice a m cap]] W fun r w' => r = .returned (.bool true) ∧ Below W.heap.size W w') :
    Calls Tryz.prog 110 #[.agg #[.int .i64 4, .int .i64 n, .int .i64 (-(K : Int)), .string s, .slice a m cap]] w fun r w' => r = .returned (.string R) ∧ Below w.heap.size w w' := by
  have HA := Lib.hid (OwnAt.new w 4 n (-(K : Int)) s (.slice a m cap))
  have CD := fun W => decText.spec_any n hn.1 hn.2 W
  rw [itoa_pos h0] at CD
  replace CD := Lib.hid CD
  obtain ⟨hd1, hd2⟩ := dig_len n.natAbs (by have := hn.1; have := hn.2; omega)
  have hpl := padL_len (Lib.decDigits n.natAbs) K
  have CP := Lib.hid (fun W => pad_any (Lib.decDigits n.natAbs) K (by omega) (by omega) W)
  replace CV := Lib.hid CV
  have HR : Hid (R = ⟨[].toArray⟩ ++ (⟨(padL (Lib.decDigits n.natAbs) K).toArray⟩ : ByteArray).extract 0 ((padL (Lib.decDigits n.natAbs) K).length - K) ++ ⟨[46].toArray⟩ ++ (⟨(padL (Lib.decDigits n.natAbs) K).toArray⟩ : ByteArray).extract ((padL (Lib.decDigits n.natAbs) K).length - K) (padL (Lib.decDigits n.natAbs) K).length) := by
    unfold Hid
    rw [hR, point_cut []]
    rfl
  have hpl2 : K < (padL (Lib.decDigits n.natAbs) K).length ∧ (padL (Lib.decDigits n.natAbs) K).length ≤ 21 := by omega
  clear hn hR hpl
  generalize padL (Lib.decDigits n.natAbs) K = P at *
  generalize Lib.decDigits n.natAbs = D at *
  go_enter Tryz.func110, Tryz.ntmps110
  go_wp2_with fail
  with_reducible refine (CV.out _).mono ?_
  rintro r w1 ⟨rfl, hb1⟩
  have hown := own_behind HA.out hb1
  clear hb1 CV HA
  obtain ⟨hlow, p0, p1, p2, p3, p4⟩ := hown
  have HL := Lib.hid hlow
  clear hlow
  go_wp2_with (go_at_call 136; with_reducible refine (CD.out _).mono ?_; rintro r w2 ⟨rfl, rfl⟩)
  with_reducible refine (CP.out _).mono ?_
  rintro r w2 ⟨rfl, rfl⟩
  clear CD CP
  go_wp2
  have q1 : (0 : Int) ≤ (P.length : Int) + -(K : Int) := by omega
  have q2 : (P.length : Int) + -(K : Int) ≤ (P.length : Int) := by omega
  have q3 : ((P.length : Int) + -(K : Int)).toNat = P.length - K := by omega
  go_quiet (fail)
  go_wp2
  go_ret
  exact ⟨by rw [HR.out]; rfl, belowN HL.out nq⟩
end Go.Proofs.YtnfbjcpoealkoaaGreatDoor.numtext
