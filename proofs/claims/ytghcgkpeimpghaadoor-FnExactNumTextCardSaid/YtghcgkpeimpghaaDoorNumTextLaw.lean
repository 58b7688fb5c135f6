/-
  The law FnExactNumText at a value of at most 1048576 letters and elements: true, old memory kept. The tables of the library are as its text lays them.
-/
import Derived.Test.YtghcgkpeimpghaaDoorNumTextImpl
import Derived.Test.YtghcgkpeimpghaaDoorLawKit
namespace Go.Proofs.YtghcgkpeimpghaaDoor.fnExactNumText
open Go.ChangeShapes Go.WideShapes Go.ChangeAt Go.RowKit
open Go.Proofs.YtghcgkpeimpghaaDoor.val Go.Proofs.YtghcgkpeimpghaaDoor.num Go.Proofs.YtghcgkpeimpghaaDoor.numtext
set_option maxRecDepth 100000

theorem impl_numtext {w : World} {t : LT} (h : In w w.heap.size t) (hz : t.nodes ≤ 2000000) (hT : Tab w) :
    Calls Tryd.prog 9 #[.agg #[.int .i64 t.k, .int .i64 t.n, .int .i64 t.e, .string t.s, t.row]] w fun r w'' => r = .returned (.string (numText t)) ∧ Below w.heap.size w w'' := by
  cases hi : isNum t with
  | false => exact impl_no h hz hi
  | true =>
    have CI := fun W hW => impl_is h hz W hW
    rw [hi] at CI
    have hk : (t.k = 3 ∨ t.k = 4) ∧ numOk t = true := by
      unfold isNum at hi
      rw [Bool.and_eq_true, Bool.or_eq_true, decide_eq_true_eq, decide_eq_true_eq] at hi
      exact hi
    obtain ⟨hk, hv⟩ := hk
    have hR := numText_yes hk hv
    generalize numText t = R at *
    have hIn : InI t.n ∧ InI t.e := by cases h; exact ⟨by assumption, by assumption⟩
    obtain ⟨k, n, e, s, a, cap, kids⟩ := t
    obtain ⟨hn', he'⟩ := hIn
    rcases hk with hk | hk
    · obtain rfl : k = 3 := hk
      obtain rfl := int_fields hv
      exact impl_int hn' hR w hT CI
    · obtain rfl : k = 4 := hk
      obtain ⟨e1, e2, e3⟩ := dec_fields hv
      by_cases hp : 0 < e
      · exact impl_high hn' he' hp (by rw [hR]; exact congrArg (fun l => ByteArray.mk (List.toArray l)) (text_high hp)) w hT CI
      · obtain ⟨K, rfl⟩ : ∃ K : Nat, e = -(K : Int) := ⟨(-e).toNat, by omega⟩
        have ht := text_low (n := n) (K := K) (by omega)
        exact impl_low hn' (by omega) (by omega) (by rw [hR]; exact congrArg (fun l => ByteArray.mk (List.toArray l)) ht) w hT CI
theorem text_er {t u : LT} (h : er t = er u) (hi : isNum t = isNum u) (hn : t.n = u.n) (he : t.e = u.e) : numText t = numText u := by
  unfold numText
  rw [hi, hn, he]
theorem er_fields {t u : LT} (h : er t = er u) : t.k = u.k ∧ t.n = u.n ∧ t.e = u.e ∧ t.s = u.s ∧ t.kids.length = u.kids.length := by
  obtain ⟨k, n, e, s, a, cap, kids⟩ := t
  obtain ⟨k', n', e', s', a', cap', kids'⟩ := u
  rw [er, er] at h
  injection h with h1 h2 h3 h4 h5
  rw [erL_map, erL_map] at h5
  have := congrArg List.length h5
  simp at this
  exact ⟨h1, h2, h3, h4, this⟩
theorem numText_er {t u : LT} (h : er t = er u) : numText t = numText u := by
  obtain ⟨h1, h2, h3, h4, h5⟩ := er_fields h
  refine text_er h ?_ h2 h3
  unfold isNum numOk
  rw [h1, h2, h3, h4, h5]
theorem tellS {w : World} {t : LT} (h : In w w.heap.size t) (hz : t.sz ≤ 1048576) : Calls Tryd.prog 7 #[.agg #[.int .i64 t.k, .int .i64 t.n, .int .i64 t.e, .string t.s, t.row]] w fun e w'' => e = .returned (.string (numText t)) ∧ Below w.heap.size w w'' :=
  spec_numtext h hz (nodes_small t hz) w (Below.refl _ _) (Nat.le_refl _)

set_option maxHeartbeats 8000000 in
theorem core {w : World} {t : LT} (h : In w w.heap.size t) (hz : t.sz ≤ 1048576) (hT : Tab w) :
    Calls Tryd.prog 3 #[.agg #[.int .i64 t.k, .int .i64 t.n, .int .i64 t.e, .string t.s, t.row]] w fun e w' => e = .returned (.bool true) ∧ Below w.heap.size w w' := by
  have TO := Lib.hid (toL h hz)
  have HT := Lib.hid hT
  have B := Lib.hid ((Below.refl w.heap.size w).alloc (Nat.le_refl _) (.cells #[.int .i64 t.k, .int .i64 t.n, .int .i64 t.e, .string t.s, t.row] 24))
  have PB := Lib.hid (Box.new w t 24)
  have SZ := Lib.hid (szYes h B.out hz)
  have hnn : ¬ ((1048576 - t.sz : Nat) : Int) < 0 := by omega
  have hzz := Lib.hid hz
  clear h hz hT
  go_enter Tryd.func3, Tryd.ntmps3
  go_wp2_with fail
  with_reducible refine SZ.out.mono ?_
  rintro e w1 ⟨rfl, hb⟩
  replace B := Lib.hid (below_of2 B.out hb)
  replace PB := Lib.hid (PB.out.behind hb)
  obtain ⟨p0, p1, p2, p3, p4⟩ := PB.out
  clear SZ hb
  -- w0 := spec.NumText(toValue(aV))
  go_wp2_with fail
  with_reducible refine (TO.out.run _ B.out).mono ?_
  rintro e w2 ⟨t1, rfl, he1, ho1, hb⟩
  replace B := Lib.hid (below_of2 B.out hb)
  replace PB := Lib.hid (PB.out.behind hb)
  have CK := tellS ho1.isIn (by rw [er_sz he1]; exact hzz.out)
  rw [numText_er he1] at CK
  replace CK := Lib.hid CK
  clear hb he1 ho1 p0 p1 p2 p3 p4
  go_wp2_with fail
  with_reducible refine CK.out.mono ?_
  rintro e w3 ⟨rfl, hb⟩
  replace B := Lib.hid (below_of2 B.out hb)
  replace PB := Lib.hid (PB.out.behind hb)
  obtain ⟨p0, p1, p2, p3, p4⟩ := PB.out
  clear CK hb
  -- x0 := toValue(aV)
  go_wp2_with fail
  with_reducible refine (TO.out.run _ B.out).mono ?_
  rintro e w4 ⟨t2, rfl, he2, ho2, hb⟩
  replace B := Lib.hid (below_of2 B.out hb)
  replace PB := Lib.hid (PB.out.behind hb)
  have X2 := Lib.hid ho2
  have HE2 := Lib.hid he2
  clear hb he2 ho2 p0 p1 p2 p3 p4
  have hbA : Below w4.heap.size w4 (w4.alloc (.cells #[.int .i64 t2.k, .int .i64 t2.n, .int .i64 t2.e, .string t2.s, t2.row] 29)) := (Below.refl _ _).alloc (Nat.le_refl _) _
  have XB := Lib.hid (Box.new w4 t2 29)
  have hrow : t2.row = .slice t2.a t2.kids.length t2.cap := rfl
  rw [hrow] at hbA XB
  replace B := Lib.hid (below_of2 B.out hbA)
  replace PB := Lib.hid (PB.out.behind hbA)
  replace X2 := Lib.hid (X2.out.behind hbA)
  have CI := impl_numtext (X2.out.mine hbA.size).isIn (nodes_small t2 (by rw [er_sz HE2.out]; exact hzz.out)) (decText.pow10_below HT.out B.out)
  rw [numText_er HE2.out, hrow] at CI
  replace CI := Lib.hid CI
  have HXR := Lib.hid hrow
  rw [hrow]
  clear hbA hrow
  go_wp2_with fail
  with_reducible refine CI.out.mono ?_
  rintro e w5 ⟨rfl, hb⟩
  replace B := Lib.hid (below_of2 B.out hb)
  replace PB := Lib.hid (PB.out.behind hb)
  replace XB := Lib.hid (XB.out.behind hb)
  replace X2 := Lib.hid ((X2.out.mine (by simp)).behind hb)
  clear CI hb
  obtain ⟨p0, p1, p2, p3, p4⟩ := PB.out
  obtain ⟨q0, q1, q2, q3, q4⟩ := XB.out
  -- eqValue(x0, toValue(aV))
  go_wp2
  go_region_with (first
    | (go_at_call 8; refine (TO.out.run _ (belowN B.out 1)).mono ?_; rintro e w7 ⟨t3, rfl, he3, ho3, hb⟩
       have B7 := Lib.hid (below_of2 (belowN B.out 1) hb)
       have XB7 := Lib.hid ((XB.out.drewN 1).behind hb)
       have X27 := Lib.hid (X2.out.isIn.drewBehind 1 hb)
       have CE := Lib.hid (eqL_any X27.out ho3.isIn (HE2.out.trans he3.symm))
       obtain ⟨s0, s1, s2, s3, s4⟩ := XB7.out
       clear hb he3 ho3)
    | (go_at_call 10; refine CE.out.mono ?_; rintro e w8 ⟨rfl, hb8⟩))
  all_goals
    have B8 := Lib.hid (below_of2 B7.out hb8)
    clear CE hb8 B7 XB7 X27 B PB XB X2 p0 p1 p2 p3 p4 q0 q1 q2 q3 q4
    try clear s0 s1 s2 s3 s4
    go_wp2
    go_ret
    exact ⟨rfl, B8.out⟩

end Go.Proofs.YtghcgkpeimpghaaDoor.fnExactNumText
