/-
  What spec.NumText returns of a number.
-/
import Derived.Test.YtghcgkpeimpghaaDoorNumTextPlain
import Derived.Test.YtghcgkpeimpghaaDoorSpecOwn
import Derived.Test.YtghcgkpeimpghaaDoorWholeWalk
import Derived.Test.YtghcgkpeimpghaaDoorDecTextWalk
namespace Go.Proofs.YtghcgkpeimpghaaDoor.numtext
open Go.ChangeShapes Go.WideShapes Go.ChangeAt Go.RowKit
open Go.Proofs.YtghcgkpeimpghaaDoor.val Go.Proofs.YtghcgkpeimpghaaDoor.num Go.Proofs.YtghcgkpeimpghaaDoor.node
set_option maxRecDepth 100000

def numText (t : LT) : ByteArray := if isNum t = true then ⟨(textL t.n t.e).toArray⟩ else ⟨#[]⟩
set_option maxHeartbeats 1000000 in
theorem pad_any (l : List UInt8) (K : Nat) (hl : l.length ≤ 1000) (hK : K ≤ 1000) (w : World) : Calls Tryd.prog 20 #[.string ⟨l.toArray⟩, .int .i64 K] w fun r w' => r = .returned (.string ⟨(padL l K).toArray⟩) ∧ w = w' := by
  go_enter Tryd.func20, Tryd.ntmps20
  go_wp2
  go_loop [0] (fun x => ∃ l' : List UInt8, x = .string ⟨l'.toArray⟩ ∧ l'.length ≤ 2000 ∧ Hid (padL l' K = padL l K)) (fun x => match x with | .string s => K + 1 - s.size | _ => 0)
  case atStart => exact ⟨l, rfl, by omega, rfl⟩
  case round =>
    obtain ⟨l', rfl, hl', HP⟩ := hrel
    by_cases h : l'.length ≤ K
    · have h1 : (l'.length : Int) ≤ (K : Int) := by omega
      have HP2 : Hid (padL (48 :: l') K = padL l K) := by unfold Hid; rw [pad_step l' K h]; exact HP.out
      have HJ : Hid ((⟨#[48]⟩ : ByteArray) ++ ⟨l'.toArray⟩ = ⟨(48 :: l').toArray⟩) := join_bytes [48] l'
      clear HP
      go_wp2
      rw [HJ.out]
      exact ⟨⟨48 :: l', rfl, by simp; omega, HP2⟩, by simp [ByteArray.size]; omega⟩
    · have h1 : ¬ (l'.length : Int) ≤ (K : Int) := by omega
      have HF : Hid (l' = padL l K) := by unfold Hid; rw [← HP.out, pad_end l' K h]
      clear HP
      go_wp2
      go_ret
      exact ⟨by rw [HF.out]; rfl, rfl⟩
theorem numText_no {t : LT} (h : isNum t = false) : numText t = ⟨#[]⟩ := by unfold numText; rw [h]; rfl
theorem isNum_kind {t : LT} (h3 : ¬ t.k = 3) (h4 : ¬ t.k = 4) : isNum t = false := by unfold isNum; rw [decide_eq_false h3, decide_eq_false h4]; rfl
set_option maxHeartbeats 1000000 in
theorem spec_bad {t : LT} (hk : t.k = 3 ∨ t.k = 4) (hv : numOk t = false) (w : World) :
    Calls Tryd.prog 7 #[.agg #[.int .i64 t.k, .int .i64 t.n, .int .i64 t.e, .string t.s, t.row]] w fun r w' => r = .returned (.string (numText t)) ∧ Below w.heap.size w w' := by
  have hi : isNum t = false := by unfold isNum; rw [hv, Bool.and_false]
  rw [numText_no hi]
  have hrow : t.row = .slice t.a t.kids.length t.cap := rfl
  have HA : Hid (Below w.heap.size w (w.alloc (.cells #[.int .i64 t.k, .int .i64 t.n, .int .i64 t.e, .string t.s, .slice t.a t.kids.length t.cap] 29))) := (Below.refl _ _).alloc (Nat.le_refl _) _
  have CV := fun W => spec_value_num t hk W
  simp only [hrow, hv] at CV ⊢
  replace CV := Lib.hid CV
  clear hrow hv hi hk
  go_enter Tryd.func7, Tryd.ntmps7
  go_wp2_with fail
  with_reducible refine (CV.out _).mono ?_
  rintro r w1 ⟨rfl, hb1⟩
  replace HA := Lib.hid (below_of2 HA.out hb1)
  clear hb1 CV
  go_wp2
  go_ret
  exact ⟨rfl, HA.out⟩
set_option maxHeartbeats 1000000 in
theorem spec_int {n : Int} {s : ByteArray} {a : Option Addr} {m cap : Nat} {R : ByteArray} (hn : InI n) (hR : R = ⟨(Lib.itoa n).toArray⟩) (w : World) (CV : ∀ W, Calls Tryd.prog 18 #[.agg #[.int .i64 3, .int .i64 n, .int .i64 0, .string s, .slice a m cap]] W fun r w' => r = .returned (.bool true) ∧ Below W.heap.size W w') :
    Calls Tryd.prog 7 #[.agg #[.int .i64 3, .int .i64 n, .int .i64 0, .string s, .slice a m cap]] w fun r w' => r = .returned (.string R) ∧ Below w.heap.size w w' := by
  have HA := Lib.hid (OwnAt.new w 3 n 0 s (.slice a m cap))
  have CD := Lib.hid (fun W => decText.spec_any n hn.1 hn.2 W)
  replace CV := Lib.hid CV
  subst hR
  clear hn
  generalize Lib.itoa n = L at *
  go_enter Tryd.func7, Tryd.ntmps7
  go_wp2_with fail
  with_reducible refine (CV.out _).mono ?_
  rintro r w1 ⟨rfl, hb1⟩
  have hown := own_behind HA.out hb1
  clear hb1 CV HA
  obtain ⟨hlow, p0, p1, p2, p3, p4⟩ := hown
  have HL := Lib.hid hlow
  clear hlow
  go_wp2_with (go_at_call 19; with_reducible refine (CD.out _).mono ?_; rintro r w2 ⟨rfl, rfl⟩)
  go_ret
  exact ⟨rfl, HL.out⟩
set_option maxHeartbeats 1000000 in
theorem spec_high {n e : Int} {s : ByteArray} {a : Option Addr} {m cap : Nat} {R : ByteArray} (hn : InI n) (he : InI e) (h0 : 0 < e) (hR : R = ⟨(Lib.itoa n ++ 101 :: Lib.itoa e).toArray⟩) (w : World) (CV : ∀ W, Calls Tryd.prog 18 #[.agg #[.int .i64 4, .int .i64 n, .int .i64 e, .string s, .slice a m cap]] W fun r w' => r = .returned (.bool true) ∧ Below W.heap.size W w') :
    Calls Tryd.prog 7 #[.agg #[.int .i64 4, .int .i64 n, .int .i64 e, .string s, .slice a m cap]] w fun r w' => r = .returned (.string R) ∧ Below w.heap.size w w' := by
  have HA := Lib.hid (OwnAt.new w 4 n e s (.slice a m cap))
  have CD := Lib.hid (fun W => decText.spec_any n hn.1 hn.2 W)
  have CE := Lib.hid (fun W => decText.spec_any e he.1 he.2 W)
  replace CV := Lib.hid CV
  have HR : Hid (R = ⟨(Lib.itoa n).toArray⟩ ++ ⟨#[101]⟩ ++ ⟨(Lib.itoa e).toArray⟩) := by
    unfold Hid
    rw [hR, show (⟨#[101]⟩ : ByteArray) = ⟨[101].toArray⟩ from rfl, join_bytes, join_bytes]
    simp
  have hl1 := Lib.itoa_length_le n hn.1 hn.2
  have hl2 := Lib.itoa_length_le e he.1 he.2
  clear hn he hR
  generalize Lib.itoa n = L at *
  generalize Lib.itoa e = M at *
  go_enter Tryd.func7, Tryd.ntmps7
  go_wp2_with fail
  with_reducible refine (CV.out _).mono ?_
  rintro r w1 ⟨rfl, hb1⟩
  have hown := own_behind HA.out hb1
  clear hb1 CV HA
  obtain ⟨hlow, p0, p1, p2, p3, p4⟩ := hown
  have HL := Lib.hid hlow
  clear hlow
  go_wp2_with fail
  go_region_with (go_at_call 19; first | (with_reducible refine (CD.out _).mono ?_; rintro r w2 ⟨rfl, rfl⟩) | (with_reducible refine (CE.out _).mono ?_; rintro r w2 ⟨rfl, rfl⟩))
  all_goals
    go_wp2
    go_ret
    exact ⟨by rw [HR.out]; rfl, belowN HL.out 1⟩
set_option maxHeartbeats 2000000 in
theorem spec_low_neg {n : Int} {s : ByteArray} {a : Option Addr} {m cap : Nat} {R : ByteArray} (hn : InI n) {K : Nat} (hK : 1 ≤ K) (hK2 : K ≤ 20) (h0 : n < 0) (hR : R = ⟨(45 :: pointL (Lib.decDigits n.natAbs) K).toArray⟩) (w : World) (CV : ∀ W, Calls Tryd.prog 18 #[.agg #[.int .i64 4, .int .i64 n, .int .i64 (-(K : Int)), .string s, .slice a m cap]] W fun r w' => r = .returned (.bool true) ∧ Below W.heap.size W w') :
    Calls Tryd.prog 7 #[.agg #[.int .i64 4, .int .i64 n, .int .i64 (-(K : Int)), .string s, .slice a m cap]] w fun r w' => r = .returned (.string R) ∧ Below w.heap.size w w' := by
  have HA := Lib.hid (OwnAt.new w 4 n (-(K : Int)) s (.slice a m cap))
  have CD := fun W => decText.spec_any n hn.1 hn.2 W
  rw [itoa_neg h0] at CD
  replace CD := Lib.hid CD
  obtain ⟨hd1, hd2⟩ := dig_len n.natAbs (by have := hn.1; have := hn.2; omega)
  have hpl := padL_len (Lib.decDigits n.natAbs) K
  have CP := Lib.hid (fun W => pad_any (Lib.decDigits n.natAbs) K (by omega) (by omega) W)
  replace CV := Lib.hid CV
  have HR : Hid (R = ⟨[45].toArray⟩ ++ (⟨(padL (Lib.decDigits n.natAbs) K).toArray⟩ : ByteArray).extract 0 ((padL (Lib.decDigits n.natAbs) K).length - K) ++ ⟨[46].toArray⟩ ++ (⟨(padL (Lib.decDigits n.natAbs) K).toArray⟩ : ByteArray).extract ((padL (Lib.decDigits n.natAbs) K).length - K) (padL (Lib.decDigits n.natAbs) K).length) := by
    unfold Hid
    rw [hR, point_cut [45]]
    rfl
  have hcut : ((45 :: Lib.decDigits n.natAbs).length : Int) = (Lib.decDigits n.natAbs).length + 1 := by simp
  have hpl2 : K < (padL (Lib.decDigits n.natAbs) K).length ∧ (padL (Lib.decDigits n.natAbs) K).length ≤ 21 := by omega
  clear hn hR hpl
  generalize padL (Lib.decDigits n.natAbs) K = P at *
  generalize Lib.decDigits n.natAbs = D at *
  go_enter Tryd.func7, Tryd.ntmps7
  go_wp2_with fail
  with_reducible refine (CV.out _).mono ?_
  rintro r w1 ⟨rfl, hb1⟩
  have hown := own_behind HA.out hb1
  clear hb1 CV HA
  obtain ⟨hlow, p0, p1, p2, p3, p4⟩ := hown
  have HL := Lib.hid hlow
  clear hlow
  go_wp2_with (go_at_call 19; with_reducible refine (CD.out _).mono ?_; rintro r w2 ⟨rfl, rfl⟩)
  rw [cut_one]
  with_reducible refine (CP.out _).mono ?_
  rintro r w2 ⟨rfl, rfl⟩
  clear CD CP
  go_wp2
  have q1 : (0 : Int) ≤ (P.length : Int) + -(K : Int) := by omega
  have q2 : (P.length : Int) + -(K : Int) ≤ (P.length : Int) := by omega
  have q3 : ((P.length : Int) + -(K : Int)).toNat = P.length - K := by omega
  go_quiet (fail)
  go_wp2
  go_ret
  exact ⟨by rw [HR.out]; rfl, belowN HL.out nq⟩
set_option maxHeartbeats 2000000 in
theorem spec_low_pos {n : Int} {s : ByteArray} {a : Option Addr} {m cap : Nat} {R : ByteArray} (hn : InI n) {K : Nat} (hK : 1 ≤ K) (hK2 : K ≤ 20) (h0 : ¬ n < 0) (hR : R = ⟨(pointL (Lib.decDigits n.natAbs) K).toArray⟩) (w : World) (CV : ∀ W, Calls Tryd.prog 18 #[.agg #[.int .i64 4, .int .i64 n, .int .i64 (-(K : Int)), .string s, .slice a m cap]] W fun r w' => r = .returned (.bool true) ∧ Below W.heap.size W w') :
    Calls Tryd.prog 7 #[.agg #[.int .i64 4, .int .i64 n, .int .i64 (-(K : Int)), .string s, .slice a m cap]] w fun r w' => r = .returned (.string R) ∧ Below w.heap.size w w' := by
  have HA := Lib.hid (OwnAt.new w 4 n (-(K : Int)) s (.slice a m cap))
  have CD := fun W => decText.spec_any n hn.1 hn.2 W
  rw [itoa_pos h0] at CD
  replace CD := Lib.hid CD
  obtain ⟨hd1, hd2⟩ := dig_len n.natAbs (by have := hn.1; have := hn.2; omega)
  have hpl := padL_len (Lib.decDigits n.natAbs) K
  have CP := Lib.hid (fun W => pad_any (Lib.decDigits n.natAbs) K (by omega) (by omega) W)
  replace CV := Lib.hid CV
  have HR : Hid (R = ⟨[].toArray⟩ ++ (⟨(padL (Lib.decDigits n.natAbs) K).toArray⟩ : ByteArray).extract 0 ((padL (Lib.decDigits n.natAbs) K).length - K) ++ ⟨[46].toArray⟩ ++ (⟨(padL (Lib.decDigits n.natAbs) K).toArray⟩ : ByteArray).extract ((padL (Lib.decDigits n.natAbs) K).length - K) (padL (Lib.decDigits n.natAbs) K).length) := by
    unfold Hid
    rw [hR, point_cut []]
    rfl
  have hpl2 : K < (padL (Lib.decDigits n.natAbs) K).length ∧ (padL (Lib.decDigits n.natAbs) K).length ≤ 21 := by omega
  clear hn hR hpl
  generalize padL (Lib.decDigits n.natAbs) K = P at *
  generalize Lib.decDigits n.natAbs = D at *
  go_enter Tryd.func7, Tryd.ntmps7
  go_wp2_with fail
  with_reducible refine (CV.out _).mono ?_
  rintro r w1 ⟨rfl, hb1⟩
  have hown := own_behind HA.out hb1
  clear hb1 CV HA
  obtain ⟨hlow, p0, p1, p2, p3, p4⟩ := hown
  have HL := Lib.hid hlow
  clear hlow
  go_wp2_with (go_at_call 19; with_reducible refine (CD.out _).mono ?_; rintro r w2 ⟨rfl, rfl⟩)
  with_reducible refine (CP.out _).mono ?_
  rintro r w2 ⟨rfl, rfl⟩
  clear CD CP
  go_wp2
  have q1 : (0 : Int) ≤ (P.length : Int) + -(K : Int) := by omega
  have q2 : (P.length : Int) + -(K : Int) ≤ (P.length : Int) := by omega
  have q3 : ((P.length : Int) + -(K : Int)).toNat = P.length - K := by omega
  go_quiet (fail)
  go_wp2
  go_ret
  exact ⟨by rw [HR.out]; rfl, belowN HL.out nq⟩
end Go.Proofs.YtghcgkpeimpghaaDoor.numtext
