/-
  What spec.CompareNum returns: the order of two numbers.
-/
import Derived.Test.YtlkfaehfkapfnaaSizeWalk
import Derived.Test.YtlkfaehfkapfnaaCmpNumImpl
import Derived.Test.YtlkfaehfkapfnaaCmpLaw
namespace Go.Proofs.Ytlkfaehfkapfnaa.num
open Go.ChangeShapes Go.WideShapes Go.ChangeAt Go.RowKit
open Go.Proofs.Ytlkfaehfkapfnaa.val
set_option maxRecDepth 100000

theorem sixty_pos {n e : Int} (h : 0 ≤ n) : sixty n e = absV n e := by
  unfold sixty absV
  rw [Int.natCast_mul]
  congr 1
  omega
theorem sixty_neg {n e : Int} (h : n < 0) : sixty n e = -absV n e := by
  unfold sixty absV
  rw [Int.natCast_mul, ← Int.neg_mul]
  congr 1
  omega
/-- By the signs first, then by the size. -/
theorem by_sign (n e n' e' : Int) : cmpI (sixty n e) (sixty n' e') = if cmpI n 0 ≠ cmpI n' 0 then cmpI (cmpI n 0) (cmpI n' 0) else if cmpI n 0 < 0 then cmpI (absV n' e') (absV n e) else cmpI (absV n e) (absV n' e') := by
  rcases Int.lt_trichotomy n 0 with h | h | h <;> rcases Int.lt_trichotomy n' 0 with h' | h' | h'
  · rw [cmpI_lt h, cmpI_lt h', if_neg (by decide), if_pos (by decide), sixty_neg h, sixty_neg h']
    generalize absV n e = a
    generalize absV n' e' = b
    rcases Int.lt_trichotomy a b with g | g | g
    · rw [cmpI_gt (by omega), cmpI_gt g]
    · rw [cmpI_eq (by omega), cmpI_eq g.symm]
    · rw [cmpI_lt (by omega), cmpI_lt g]
  · rw [cmpI_lt h, cmpI_eq h', if_pos (by decide), sixty_neg h, sixty_pos (by omega), h', absV_zero, cmpI_lt (by have := absV_pos (n := n) (e := e) (by omega); omega)]
    rfl
  · rw [cmpI_lt h, cmpI_gt h', if_pos (by decide), sixty_neg h, sixty_pos (by omega), cmpI_lt (by have := absV_pos (n := n) (e := e) (by omega); have := absV_pos (n := n') (e := e') (by omega); omega)]
    rfl
  · rw [cmpI_eq h, cmpI_lt h', if_pos (by decide), sixty_pos (by omega), sixty_neg h', h, absV_zero, cmpI_gt (by have := absV_pos (n := n') (e := e') (by omega); omega)]
    rfl
  · rw [cmpI_eq h, cmpI_eq h', if_neg (by decide), if_neg (by decide), sixty_pos (by omega), sixty_pos (by omega)]
  · rw [cmpI_eq h, cmpI_gt h', if_pos (by decide), sixty_pos (by omega), sixty_pos (by omega), h, absV_zero, cmpI_lt (absV_pos (by omega))]
    rfl
  · rw [cmpI_gt h, cmpI_lt h', if_pos (by decide), sixty_pos (by omega), sixty_neg h', cmpI_gt (by have := absV_pos (n := n) (e := e) (by omega); have := absV_pos (n := n') (e := e') (by omega); omega)]
    rfl
  · rw [cmpI_gt h, cmpI_eq h', if_pos (by decide), sixty_pos (by omega), sixty_pos (by omega), h', absV_zero, cmpI_gt (absV_pos (by omega))]
    rfl
  · rw [cmpI_gt h, cmpI_gt h', if_neg (by decide), if_neg (by decide), sixty_pos (by omega), sixty_pos (by omega)]

theorem sign_any (t : LT) (w : World) : Calls Try.prog 58 #[.agg #[.int .i64 t.k, .int .i64 t.n, .int .i64 t.e, .string t.s, t.row]] w fun r w' => r = .returned (.int .i64 (cmpI t.n 0)) ∧ Below w.heap.size w w' := by
  have hrow : t.row = .slice t.a t.kids.length t.cap := rfl
  have CL := Lib.hid lessS
  rw [hrow]
  clear hrow
  go_enter Try.func58, Try.ntmps58
  go_wp2_with fail
  with_reducible refine (CL.out _ _ _).mono ?_
  rintro r w3 ⟨rfl, rfl⟩
  go_wp2
  go_ret
  exact ⟨rfl, (Below.refl _ _).alloc (Nat.le_refl _) _⟩

set_option maxHeartbeats 2000000 in
theorem spec_yes (t u : LT) (ht : InI t.n) (hu : InI u.n) (hq : isNum t = true) (hr : isNum u = true) (w : World) : Calls Try.prog 27 #[.agg #[.int .i64 t.k, .int .i64 t.n, .int .i64 t.e, .string t.s, t.row], .agg #[.int .i64 u.k, .int .i64 u.n, .int .i64 u.e, .string u.s, u.row]] w fun r w' => r = .returned (.int .i64 (cmpI (sixty t.n t.e) (sixty u.n u.e))) ∧ Below w.heap.size w w' := by
  have HB := Lib.hid (((Below.refl w.heap.size w).alloc (Nat.le_refl _) (.cells #[.int .i64 t.k, .int .i64 t.n, .int .i64 t.e, .string t.s, t.row] 29)).alloc (by simp) (.cells #[.int .i64 u.k, .int .i64 u.n, .int .i64 u.e, .string u.s, u.row] 29))
  have HX := Lib.hid (Box2.new w t u 29)
  have hrt : t.row = .slice t.a t.kids.length t.cap := rfl
  have hru : u.row = .slice u.a u.kids.length u.cap := rfl
  have CT := fun W => spec_is t W
  rw [hq] at CT
  have CU := fun W => spec_is u W
  rw [hr] at CU
  obtain ⟨ha1, ha2⟩ := isNum_e hq
  obtain ⟨hb1, hb2⟩ := isNum_e hr
  have ST := Lib.hid (sign_any t)
  have SU := Lib.hid (sign_any u)
  have ZT := Lib.hid (size_any t u ht hu ha1 ha2 hb1 hb2)
  have ZU := Lib.hid (size_any u t hu ht hb1 hb2 ha1 ha2)
  have CL := Lib.hid lessS
  replace CT := Lib.hid CT
  replace CU := Lib.hid CU
  have HV := Lib.hid (by_sign t.n t.e u.n u.e)
  obtain ⟨hs1, hs2⟩ := cmpI_small t.n 0
  obtain ⟨hs3, hs4⟩ := cmpI_small u.n 0
  generalize cmpI (sixty t.n t.e) (sixty u.n u.e) = C at *
  generalize cmpI (absV t.n t.e) (absV u.n u.e) = Z1 at *
  generalize cmpI (absV u.n u.e) (absV t.n t.e) = Z2 at *
  generalize cmpI t.n 0 = X at *
  generalize cmpI u.n 0 = Y at *
  simp only [hrt, hru] at CT CU ST SU ZT ZU HB HX ⊢
  clear ht hu hq hr hrt hru ha1 ha2 hb1 hb2
  go_enter Try.func27, Try.ntmps27
  go_wp2_with fail
  with_reducible refine (CT.out _).mono ?_
  rintro r w1 ⟨rfl, hb⟩
  replace HB := Lib.hid (below_of2 HB.out hb)
  replace HX : Hid (Box2 w1 w.heap.size t u) := ⟨HX.out.b1.behind hb, HX.out.b2.behind hb⟩
  clear hb
  obtain ⟨⟨p0, p1, p2, p3, p4⟩, ⟨q0, q1, q2, q3, q4⟩⟩ := HX.out
  unfold LT.row at p4 q4
  go_wp2_with fail
  with_reducible refine (CU.out _).mono ?_
  rintro r w2 ⟨rfl, hb⟩
  replace HB := Lib.hid (below_of2 HB.out hb)
  replace HX : Hid (Box2 w2 w.heap.size t u) := ⟨HX.out.b1.behind hb, HX.out.b2.behind hb⟩
  clear hb p0 p1 p2 p3 p4 q0 q1 q2 q3 q4 CT CU
  obtain ⟨⟨p0, p1, p2, p3, p4⟩, ⟨q0, q1, q2, q3, q4⟩⟩ := HX.out
  unfold LT.row at p4 q4
  have L : Hid (Lies w w2 t u) := ⟨HB.out, HX.out⟩
  clear HB HX
  go_upto_region 3 with fail
  go_cut [17] from 18 (fun v wx => v = .bool (X != Y) ∧ Lies w wx t u)
  case first =>
    have SA := ST
    go_region_with (first
      | (go_at_call 58; refine (SA.out _).mono ?_; rintro r w3 ⟨rfl, hb⟩
         have L3 := Lib.hid (L.out.drewBehind 1 hb)
         obtain ⟨⟨p0, p1, p2, p3, p4⟩, ⟨q0, q1, q2, q3, q4⟩⟩ := L3.out.box
         unfold LT.row at p4 q4
         clear hb SA)
      | (go_at_call 58; refine (SU.out _).mono ?_; rintro r w4 ⟨rfl, hb⟩
         have L4 := Lib.hid (L3.out.behind hb)
         clear hb))
    all_goals
      go_wp2_with fail
      go_meet
      case rel => exact ⟨rfl, L4.out⟩
  case rest =>
    obtain ⟨rfl, L1⟩ := hcut
    clear p0 p1 p2 p3 p4 q0 q1 q2 q3 q4 L
    have L := Lib.hid L1
    clear L1
    obtain ⟨⟨p0, p1, p2, p3, p4⟩, ⟨q0, q1, q2, q3, q4⟩⟩ := L.out.box
    unfold LT.row at p4 q4
    by_cases hxy : X = Y
    · subst hxy
      have HV2 := Lib.hid HV.out
      rw [if_neg (by simp)] at HV2
      clear HV SU
      go_wp2_with fail
      with_reducible refine (ST.out _).mono ?_
      rintro r w5 ⟨rfl, hb⟩
      replace L := Lib.hid (L.out.behind hb)
      clear hb p0 p1 p2 p3 p4 q0 q1 q2 q3 q4
      obtain ⟨⟨p0, p1, p2, p3, p4⟩, ⟨q0, q1, q2, q3, q4⟩⟩ := L.out.box
      unfold LT.row at p4 q4
      by_cases hx : X < 0
      · rw [if_pos hx] at HV2
        go_wp2_with fail
        with_reducible refine (ZU.out _).mono ?_
        rintro r w6 ⟨rfl, hb⟩
        replace L := Lib.hid (L.out.behind hb)
        clear hb p0 p1 p2 p3 p4 q0 q1 q2 q3 q4
        go_wp2
        go_ret
        exact ⟨by rw [HV2.out]; rfl, L.out.low⟩
      · rw [if_neg hx] at HV2
        go_wp2_with fail
        with_reducible refine (ZT.out _).mono ?_
        rintro r w6 ⟨rfl, hb⟩
        replace L := Lib.hid (L.out.behind hb)
        clear hb p0 p1 p2 p3 p4 q0 q1 q2 q3 q4
        go_wp2
        go_ret
        exact ⟨by rw [HV2.out]; rfl, L.out.low⟩
    · have HV2 := Lib.hid HV.out
      rw [if_pos hxy] at HV2
      have hxb : (X != Y) = true := by rw [bne, beq_eq_false_iff_ne.2 hxy]; rfl
      clear HV
      rw [hxb]
      clear hxb
      go_wp2_with fail
      have SA := ST
      go_region_with (first
        | (go_at_call 58; refine (SA.out _).mono ?_; rintro r w3 ⟨rfl, hb⟩
           have L3 := Lib.hid (L.out.drewBehind 1 hb)
           obtain ⟨⟨p0, p1, p2, p3, p4⟩, ⟨q0, q1, q2, q3, q4⟩⟩ := L3.out.box
           unfold LT.row at p4 q4
           clear hb SA)
        | (go_at_call 58; refine (SU.out _).mono ?_; rintro r w4 ⟨rfl, hb⟩
           have L4 := Lib.hid (L3.out.behind hb)
           clear hb)
        | (go_at_call 39; refine (CL.out _ _ _).mono ?_; rintro r w5 ⟨rfl, rfl⟩))
      all_goals
        go_wp2
        go_ret
        exact ⟨by rw [HV2.out]; rfl, L4.out.low⟩

theorem spec_no1 (t u : LT) (hq : isNum t = false) (w : World) : Calls Try.prog 27 #[.agg #[.int .i64 t.k, .int .i64 t.n, .int .i64 t.e, .string t.s, t.row], .agg #[.int .i64 u.k, .int .i64 u.n, .int .i64 u.e, .string u.s, u.row]] w fun r w' => r = .returned (.int .i64 2) ∧ Below w.heap.size w w' := by
  have HB := Lib.hid (((Below.refl w.heap.size w).alloc (Nat.le_refl _) (.cells #[.int .i64 t.k, .int .i64 t.n, .int .i64 t.e, .string t.s, t.row] 29)).alloc (by simp) (.cells #[.int .i64 u.k, .int .i64 u.n, .int .i64 u.e, .string u.s, u.row] 29))
  have HX := Lib.hid (Box2.new w t u 29)
  have hrt : t.row = .slice t.a t.kids.length t.cap := rfl
  have hru : u.row = .slice u.a u.kids.length u.cap := rfl
  have CT := fun W => spec_is t W
  rw [hq] at CT
  replace CT := Lib.hid CT
  simp only [hrt, hru] at CT HB HX ⊢
  clear hq hrt hru
  go_enter Try.func27, Try.ntmps27
  go_wp2_with fail
  with_reducible refine (CT.out _).mono ?_
  rintro r w1 ⟨rfl, hb⟩
  replace HB := Lib.hid (below_of2 HB.out hb)
  replace HX : Hid (Box2 w1 w.heap.size t u) := ⟨HX.out.b1.behind hb, HX.out.b2.behind hb⟩
  clear hb
  obtain ⟨⟨p0, p1, p2, p3, p4⟩, ⟨q0, q1, q2, q3, q4⟩⟩ := HX.out
  unfold LT.row at p4 q4
  go_wp2
  go_ret
  exact ⟨rfl, HB.out⟩
theorem spec_no2 (t u : LT) (hq : isNum t = true) (hr : isNum u = false) (w : World) : Calls Try.prog 27 #[.agg #[.int .i64 t.k, .int .i64 t.n, .int .i64 t.e, .string t.s, t.row], .agg #[.int .i64 u.k, .int .i64 u.n, .int .i64 u.e, .string u.s, u.row]] w fun r w' => r = .returned (.int .i64 2) ∧ Below w.heap.size w w' := by
  have HB := Lib.hid (((Below.refl w.heap.size w).alloc (Nat.le_refl _) (.cells #[.int .i64 t.k, .int .i64 t.n, .int .i64 t.e, .string t.s, t.row] 29)).alloc (by simp) (.cells #[.int .i64 u.k, .int .i64 u.n, .int .i64 u.e, .string u.s, u.row] 29))
  have HX := Lib.hid (Box2.new w t u 29)
  have hrt : t.row = .slice t.a t.kids.length t.cap := rfl
  have hru : u.row = .slice u.a u.kids.length u.cap := rfl
  have CT := fun W => spec_is t W
  rw [hq] at CT
  replace CT := Lib.hid CT
  have CU := fun W => spec_is u W
  rw [hr] at CU
  replace CU := Lib.hid CU
  simp only [hrt, hru] at CT CU HB HX ⊢
  clear hq hr hrt hru
  go_enter Try.func27, Try.ntmps27
  go_wp2_with fail
  with_reducible refine (CT.out _).mono ?_
  rintro r w1 ⟨rfl, hb⟩
  replace HB := Lib.hid (below_of2 HB.out hb)
  replace HX : Hid (Box2 w1 w.heap.size t u) := ⟨HX.out.b1.behind hb, HX.out.b2.behind hb⟩
  clear hb
  obtain ⟨⟨p0, p1, p2, p3, p4⟩, ⟨q0, q1, q2, q3, q4⟩⟩ := HX.out
  unfold LT.row at p4 q4
  go_wp2_with fail
  with_reducible refine (CU.out _).mono ?_
  rintro r w2 ⟨rfl, hb⟩
  replace HB := Lib.hid (below_of2 HB.out hb)
  clear hb p0 p1 p2 p3 p4 q0 q1 q2 q3 q4 CT CU HX
  go_wp2
  go_ret
  exact ⟨rfl, HB.out⟩
theorem spec_cmpnum (t u : LT) (ht : InI t.n) (hu : InI u.n) (w : World) : Calls Try.prog 27 #[.agg #[.int .i64 t.k, .int .i64 t.n, .int .i64 t.e, .string t.s, t.row], .agg #[.int .i64 u.k, .int .i64 u.n, .int .i64 u.e, .string u.s, u.row]] w fun r w' => r = .returned (.int .i64 (cmpNum t u)) ∧ Below w.heap.size w w' := by
  unfold cmpNum
  cases hq : isNum t with
  | false =>
    rw [if_neg (by simp)]
    exact spec_no1 t u hq w
  | true =>
    cases hr : isNum u with
    | false =>
      rw [if_neg (by simp)]
      exact spec_no2 t u hq hr w
    | true =>
      rw [if_pos ⟨rfl, rfl⟩]
      exact spec_yes t u ht hu hq hr w

end Go.Proofs.Ytlkfaehfkapfnaa.num
