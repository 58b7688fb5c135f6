/-
  The law FnExactCompare at two values of at most 1048576 letters and elements together: true, old memory kept.
-/
import Derived.Test.YtlkfaehfkapfnaaImplCmp
import Derived.Test.YtlkfaehfkapfnaaLawKit
namespace Go.Proofs.Ytlkfaehfkapfnaa.val
open Go.ChangeShapes Go.WideShapes Go.ChangeAt Go.RowKit
set_option maxRecDepth 100000
theorem Box2.behind {w w' : World} {N : Nat} {t u : LT} (h : Box2 w N t u) (hb : Below w.heap.size w w') : Box2 w' N t u := ⟨h.b1.behind hb, h.b2.behind hb⟩
/-- Between two statements of a law on two values. -/
structure Lies (w wx : World) (t u : LT) : Prop where
  low : Below w.heap.size w wx
  box : Box2 wx w.heap.size t u
theorem Lies.behind {w wx w' : World} {t u : LT} (h : Lies w wx t u) (hb : Below wx.heap.size wx w') : Lies w w' t u := ⟨below_of2 h.low hb, h.box.behind hb⟩
theorem Lies.drewBehind {w wx w' : World} {t u : LT} (h : Lies w wx t u) (n : Nat) (hb : Below (wx.drewN n).heap.size (wx.drewN n) w') : Lies w w' t u := ⟨below_of2 (belowN h.low n) hb, (show Box2 (wx.drewN n) _ _ _ from ⟨h.box.b1.drewN n, h.box.b2.drewN n⟩).behind hb⟩
theorem Mine.drewBehind {w w' : World} {t : LT} (h : Mine w t) (n : Nat) (hb : Below (w.drewN n).heap.size (w.drewN n) w') : Mine w' t := by
  obtain ⟨lo, ho⟩ := h
  exact (show Mine (w.drewN n) t from ⟨lo, ho.drewN n⟩).behind hb
theorem Box2.drewN {w : World} {N : Nat} {t u : LT} (h : Box2 w N t u) (n : Nat) : Box2 (w.drewN n) N t u := ⟨h.b1.drewN n, h.b2.drewN n⟩
theorem szTwo {w w' : World} {t u : LT} (h : In w w.heap.size u) (hb : Below w.heap.size w w') (hz : t.sz + u.sz ≤ 1048576) :
    Calls Try.prog 12 #[.agg #[.int .i64 u.k, .int .i64 u.n, .int .i64 u.e, .string u.s, u.row], .int .i64 ((1048576 - t.sz : Nat) : Int)] w' fun e w'' => e = .returned (.int .i64 ((1048576 - t.sz - u.sz : Nat) : Int)) ∧ Below w'.heap.size w' w'' := by
  have h1 := szL_any h hb (1048576 - t.sz) (by omega)
  have e1 : left (1048576 - t.sz) u.sz = ((1048576 - t.sz - u.sz : Nat) : Int) := by unfold left; rw [if_pos (by omega)]; omega
  rw [e1] at h1
  exact h1
theorem szTwoNo {w w' : World} {t u : LT} (h : In w w.heap.size u) (hb : Below w.heap.size w w') (hz : ¬ t.sz + u.sz ≤ 1048576) (ht : t.sz ≤ 1048576) :
    Calls Try.prog 12 #[.agg #[.int .i64 u.k, .int .i64 u.n, .int .i64 u.e, .string u.s, u.row], .int .i64 ((1048576 - t.sz : Nat) : Int)] w' fun e w'' => e = .returned (.int .i64 (-1)) ∧ Below w'.heap.size w' w'' := by
  have h1 := szL_any h hb (1048576 - t.sz) (by omega)
  have e1 : left (1048576 - t.sz) u.sz = -1 := by unfold left; rw [if_neg (by omega)]
  rw [e1] at h1
  exact h1
end Go.Proofs.Ytlkfaehfkapfnaa.val
namespace Go.Proofs.Ytlkfaehfkapfnaa.fnExactCompare
open Go.ChangeShapes Go.WideShapes Go.ChangeAt Go.RowKit
open Go.Proofs.Ytlkfaehfkapfnaa.val
set_option maxRecDepth 100000

theorem tellS {w : World} {t u : LT} (h : In w w.heap.size t) (h' : In w w.heap.size u) : Calls Try.prog 13 #[.agg #[.int .i64 t.k, .int .i64 t.n, .int .i64 t.e, .string t.s, t.row], .agg #[.int .i64 u.k, .int .i64 u.n, .int .i64 u.e, .string u.s, u.row]] w fun e w'' => e = .returned (.int .i64 (cmpV (er t) (er u))) ∧ Below w.heap.size w w'' :=
  spec_cmp h u h' w (Below.refl _ _) (Nat.le_refl _)
theorem tellI {w : World} {t u : LT} (h : Mine w t) (h' : Mine w u) (hz : t.sz ≤ 1048576) (hz' : u.sz ≤ 1048576) : Calls Try.prog 15 #[.agg #[.int .i64 t.k, .int .i64 t.n, .int .i64 t.e, .string t.s, t.row], .agg #[.int .i64 u.k, .int .i64 u.n, .int .i64 u.e, .string u.s, u.row]] w fun e w'' => e = .returned (.int .i64 (cmpV (er t) (er u))) ∧ Below w.heap.size w w'' :=
  impl_cmp h h' (nodes_small t hz) (nodes_small u hz')

set_option maxHeartbeats 1000000 in
theorem core {w : World} {t u : LT} (h : In w w.heap.size t) (h' : In w w.heap.size u) (hz : t.sz + u.sz ≤ 1048576) :
    Calls Try.prog 3 #[.agg #[.int .i64 t.k, .int .i64 t.n, .int .i64 t.e, .string t.s, t.row], .agg #[.int .i64 u.k, .int .i64 u.n, .int .i64 u.e, .string u.s, u.row]] w fun e w' => e = .returned (.bool true) ∧ Below w.heap.size w w' := by
  have hzt : t.sz ≤ 1048576 := by omega
  have hzu : u.sz ≤ 1048576 := by omega
  have TO := Lib.hid (toL h hzt)
  have TU := Lib.hid (toL h' hzu)
  have B := Lib.hid (((Below.refl w.heap.size w).alloc (Nat.le_refl _) (.cells #[.int .i64 t.k, .int .i64 t.n, .int .i64 t.e, .string t.s, t.row] 24)).alloc (by simp) (.cells #[.int .i64 u.k, .int .i64 u.n, .int .i64 u.e, .string u.s, u.row] 24))
  have PB := Lib.hid (Box2.new w t u 24)
  have SZ := Lib.hid (szYes h B.out hzt)
  have SZ2 : Hid (∀ W, Below w.heap.size w W → Calls Try.prog 12 #[.agg #[.int .i64 u.k, .int .i64 u.n, .int .i64 u.e, .string u.s, u.row], .int .i64 ((1048576 - t.sz : Nat) : Int)] W fun e w'' => e = .returned (.int .i64 ((1048576 - t.sz - u.sz : Nat) : Int)) ∧ Below W.heap.size W w'') := fun W hb => szTwo h' hb hz
  have hnn : ¬ ((1048576 - t.sz : Nat) : Int) < 0 := by omega
  have hnn2 : ¬ ((1048576 - t.sz - u.sz : Nat) : Int) < 0 := by omega
  have hzz := Lib.hid (And.intro hzt hzu)
  clear h h' hz hzt hzu
  go_enter Try.func3, Try.ntmps3
  go_wp2_with fail
  with_reducible refine SZ.out.mono ?_
  rintro e w1 ⟨rfl, hb⟩
  replace B := Lib.hid (below_of2 B.out hb)
  replace PB := Lib.hid (PB.out.behind hb)
  obtain ⟨⟨p0, p1, p2, p3, p4⟩, ⟨r0, r1, r2, r3, r4⟩⟩ := PB.out
  clear SZ hb
  go_wp2_with fail
  with_reducible refine (SZ2.out _ B.out).mono ?_
  rintro e w1 ⟨rfl, hb⟩
  replace B := Lib.hid (below_of2 B.out hb)
  replace PB := Lib.hid (PB.out.behind hb)
  clear SZ2 hb p0 p1 p2 p3 p4 r0 r1 r2 r3 r4
  obtain ⟨⟨p0, p1, p2, p3, p4⟩, ⟨r0, r1, r2, r3, r4⟩⟩ := PB.out
  obtain ⟨C, hC⟩ : ∃ C, cmpV (er t) (er u) = C := ⟨_, rfl⟩
  have L := Lib.hid (Lies.mk B.out PB.out)
  clear B PB hnn hnn2
  -- w0 := spec.Compare(toValue(aA), toValue(aB))
  go_upto_region 8 with fail
  go_cut [6] from 10 (fun v wx => v = .int .i64 C ∧ Lies w wx t u)
  case first =>
    have TA := TO
    go_region_with (first
      | (go_at_call 14; refine (TA.out.run _ (belowN L.out.low 1)).mono ?_; rintro e w2 ⟨t1, rfl, he1, ho1, hb⟩
         have L2 := Lib.hid (L.out.drewBehind 1 hb)
         have X1 := Lib.hid ho1.isIn
         have E1 := Lib.hid he1
         obtain ⟨⟨p0, p1, p2, p3, p4⟩, ⟨r0, r1, r2, r3, r4⟩⟩ := L2.out.box
         clear hb he1 ho1 TA)
      | (go_at_call 14; refine (TU.out.run _ L2.out.low).mono ?_; rintro e w3 ⟨t2, rfl, he2, ho2, hb⟩
         have L3 := Lib.hid (L2.out.behind hb)
         have CK := tellS ((X1.out.behind hb).mono hb.size) ho2.isIn
         rw [E1.out, he2, hC] at CK
         replace CK := Lib.hid CK
         clear hb he2 ho2)
      | (go_at_call 13; refine CK.out.mono ?_; rintro e w4 ⟨rfl, hb4⟩; have L4 := Lib.hid (L3.out.behind hb4); clear hb4))
    all_goals
      go_wp2_with fail
      go_meet
      case rel => exact ⟨rfl, L4.out⟩
  case rest =>
    obtain ⟨rfl, L1⟩ := hcut
    replace L := Lib.hid L1
    clear L1 p0 p1 p2 p3 p4 r0 r1 r2 r3 r4
    obtain ⟨⟨p0, p1, p2, p3, p4⟩, ⟨r0, r1, r2, r3, r4⟩⟩ := L.out.box
    -- x0 := toValue(aA)
    go_wp2_with fail
    with_reducible refine (TO.out.run _ L.out.low).mono ?_
    rintro e w4 ⟨t2, rfl, he2, ho2, hb⟩
    replace L := Lib.hid (L.out.behind hb)
    have X2 := Lib.hid ho2
    have HE2 := Lib.hid he2
    clear hb he2 ho2 p0 p1 p2 p3 p4 r0 r1 r2 r3 r4
    have hbA : Below w4.heap.size w4 (w4.alloc (.cells #[.int .i64 t2.k, .int .i64 t2.n, .int .i64 t2.e, .string t2.s, t2.row] 29)) := (Below.refl _ _).alloc (Nat.le_refl _) _
    have XB := Lib.hid (Box.new w4 t2 29)
    have hrow : t2.row = .slice t2.a t2.kids.length t2.cap := rfl
    rw [hrow] at hbA XB
    replace L := Lib.hid (L.out.behind hbA)
    replace X2 := Lib.hid (X2.out.behind hbA)
    rw [hrow]
    clear hrow
    obtain ⟨⟨p0, p1, p2, p3, p4⟩, ⟨r0, r1, r2, r3, r4⟩⟩ := L.out.box
    -- x1 := toValue(aB)
    go_wp2_with fail
    with_reducible refine (TU.out.run _ L.out.low).mono ?_
    rintro e w5 ⟨t3, rfl, he3, ho3, hb⟩
    replace L := Lib.hid (L.out.behind hb)
    replace XB := Lib.hid (XB.out.behind hb)
    replace X2 := Lib.hid ((X2.out.mine hbA.size).behind hb)
    have X3 := Lib.hid ho3
    have HE3 := Lib.hid he3
    clear hb he3 ho3 hbA p0 p1 p2 p3 p4 r0 r1 r2 r3 r4
    have hbA : Below w5.heap.size w5 (w5.alloc (.cells #[.int .i64 t3.k, .int .i64 t3.n, .int .i64 t3.e, .string t3.s, t3.row] 29)) := (Below.refl _ _).alloc (Nat.le_refl _) _
    have YB := Lib.hid (Box.new w5 t3 29)
    have hrow3 : t3.row = .slice t3.a t3.kids.length t3.cap := rfl
    have hrow2 : t2.row = .slice t2.a t2.kids.length t2.cap := rfl
    rw [hrow3] at hbA YB
    replace L := Lib.hid (L.out.behind hbA)
    replace XB := Lib.hid (XB.out.behind hbA)
    replace X2 := Lib.hid (X2.out.behind hbA)
    replace X3 := Lib.hid ((X3.out.mine (Nat.le_refl _)).behind hbA)
    have CI := tellI X2.out X3.out (by rw [er_sz HE2.out]; exact hzz.out.1) (by rw [er_sz HE3.out]; exact hzz.out.2)
    rw [HE2.out, HE3.out, hC, hrow2, hrow3] at CI
    replace CI := Lib.hid CI
    rw [hrow3]
    obtain ⟨q0, q1, q2, q3, q4⟩ := XB.out
    rw [hrow2] at q4
    clear hrow3 hrow2 hbA
    go_wp2_with fail
    with_reducible refine CI.out.mono ?_
    rintro e w6 ⟨rfl, hb⟩
    replace L := Lib.hid (L.out.behind hb)
    replace XB := Lib.hid (XB.out.behind hb)
    replace YB := Lib.hid (YB.out.behind hb)
    replace X2 := Lib.hid (X2.out.behind hb)
    replace X3 := Lib.hid (X3.out.behind hb)
    clear CI hb q0 q1 q2 q3 q4
    obtain ⟨⟨p0, p1, p2, p3, p4⟩, ⟨r0, r1, r2, r3, r4⟩⟩ := L.out.box
    obtain ⟨q0, q1, q2, q3, q4⟩ := XB.out
    obtain ⟨s0, s1, s2, s3, s4⟩ := YB.out
    go_upto_region 14 with fail
    go_cut [39] from 40 (fun v wx => v = .bool false ∧ Lies w wx t u ∧ Mine wx t3 ∧ Box wx w5.heap.size t3)
    case first =>
      go_region_with (first
        | (go_at_call 14; refine (TO.out.run _ (belowN L.out.low 1)).mono ?_; rintro e w7 ⟨t4, rfl, he4, ho4, hb⟩
           have L7 := Lib.hid (L.out.drewBehind 1 hb)
           have XB7 := Lib.hid ((XB.out.drewN 1).behind hb)
           have CE := Lib.hid (eqL_any (X2.out.isIn.drewBehind 1 hb) ho4.isIn (HE2.out.trans he4.symm))
           have K7 := Lib.hid hb
           obtain ⟨v0, v1, v2, v3, v4⟩ := XB7.out
           clear hb he4 ho4)
        | (go_at_call 16; refine CE.out.mono ?_; rintro e w8 ⟨rfl, hb8⟩
           have L8 := Lib.hid (L7.out.behind hb8)
           have K8 := Lib.hid (K7.out.trans (hb8.mono K7.out.size))
           clear hb8))
      all_goals
        go_wp2_with fail
        go_meet
        case rel => exact ⟨rfl, L8.out, X3.out.drewBehind 1 K8.out, (YB.out.drewN 1).behind K8.out⟩
    case rest =>
      obtain ⟨rfl, L1, X1, Y1⟩ := hcut
      clear p0 p1 p2 p3 p4 r0 r1 r2 r3 r4 q0 q1 q2 q3 q4 s0 s1 s2 s3 s4 L X2 X3 XB YB
      have L := Lib.hid L1
      have X3 := Lib.hid X1
      have YB := Lib.hid Y1
      clear L1 X1 Y1
      obtain ⟨⟨p0, p1, p2, p3, p4⟩, ⟨r0, r1, r2, r3, r4⟩⟩ := L.out.box
      obtain ⟨s0, s1, s2, s3, s4⟩ := YB.out
      go_wp2
      go_region_with (first
        | (go_at_call 14; refine (TU.out.run _ (belowN L.out.low 1)).mono ?_; rintro e w7 ⟨t4, rfl, he4, ho4, hb⟩
           have L7 := Lib.hid (L.out.drewBehind 1 hb)
           have XB7 := Lib.hid ((YB.out.drewN 1).behind hb)
           have CE := Lib.hid (eqL_any (X3.out.isIn.drewBehind 1 hb) ho4.isIn (HE3.out.trans he4.symm))
           have K7 := Lib.hid hb
           obtain ⟨v0, v1, v2, v3, v4⟩ := XB7.out
           clear hb he4 ho4)
        | (go_at_call 16; refine CE.out.mono ?_; rintro e w8 ⟨rfl, hb8⟩
           have L8 := Lib.hid (L7.out.behind hb8)
           have K8 := Lib.hid (K7.out.trans (hb8.mono K7.out.size))
           clear hb8))
      all_goals
        clear CE L7 XB7 K7 K8 L X3 YB p0 p1 p2 p3 p4 r0 r1 r2 r3 r4 s0 s1 s2 s3 s4
        try clear v0 v1 v2 v3 v4
        go_wp2
        go_ret
        exact ⟨rfl, L8.out.low⟩
end Go.Proofs.Ytlkfaehfkapfnaa.fnExactCompare
