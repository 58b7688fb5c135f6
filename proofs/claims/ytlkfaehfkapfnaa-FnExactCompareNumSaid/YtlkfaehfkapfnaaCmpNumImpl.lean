/-
  What impl.CompareNum returns: the order of two numbers.
-/
import Derived.Test.YtlkfaehfkapfnaaNumCmpPlain
import Derived.Test.YtlkfaehfkapfnaaWholeWalk
import Derived.Test.YtlkfaehfkapfnaaSpecCmp
namespace Go.Proofs.Ytlkfaehfkapfnaa.num
open Go.ChangeShapes Go.WideShapes Go.ChangeAt Go.RowKit
open Go.Proofs.Ytlkfaehfkapfnaa.val
set_option maxRecDepth 100000

def cmpNum (t u : LT) : Int := if isNum t = true ∧ isNum u = true then cmpI (sixty t.n t.e) (sixty u.n u.e) else 2
theorem sixty_add (n e : Int) (d : Nat) (f : Int) (h : e = f + d) (hf : -60 ≤ f) : sixty n e = (n * 10 ^ d) * ((10 ^ (f + 60).toNat : Nat) : Int) := by
  unfold sixty
  have e1 : (e + 60).toNat = d + (f + 60).toNat := by omega
  rw [e1, Nat.pow_add, Int.natCast_mul, ← Int.mul_assoc]
  simp
theorem cmp_some {n m e f : Int} {d : Nat} {z : Int} (hn : InI n) (h : e = f + d) (hf : -60 ≤ f) (hs : scal n d = some z) : cmpI z m = cmpI (sixty n e) (sixty m f) := by
  obtain ⟨h1, _⟩ := scal_some d n z hn hs
  rw [sixty_add n e d f h hf, ← h1]
  unfold sixty
  rw [cmpI_mul _ _ (by have := pow_pos10 (f + 60).toNat; omega)]
theorem cmp_none {n m e f : Int} {d : Nat} (hn : InI n) (hm : InI m) (h : e = f + d) (hf : -60 ≤ f) (hs : scal n d = none) : cmpI n 0 = cmpI (sixty n e) (sixty m f) := by
  have hbig : ¬ InI (n * 10 ^ d) := fun hi => by rw [scal_yes_in d n hi hn] at hs; cases hs
  rw [sixty_add n e d f h hf]
  unfold sixty
  rw [cmpI_mul _ _ (by have := pow_pos10 (f + 60).toNat; omega)]
  have hp : (1 : Int) ≤ 10 ^ d := by
    have := pow_pos10 d
    have e : ((10 ^ d : Nat) : Int) = (10 : Int) ^ d := by simp
    omega
  generalize (10 : Int) ^ d = P at *
  unfold InI at *
  rcases Int.lt_trichotomy n 0 with h0 | h0 | h0
  · have h2 : -n * 1 ≤ -n * P := Int.mul_le_mul_of_nonneg_left hp (by omega)
    rw [Int.neg_mul n P] at h2
    rw [cmpI_lt h0, cmpI_lt (by omega)]
  · subst h0
    rw [Int.zero_mul] at hbig
    omega
  · have h2 : n * 1 ≤ n * P := Int.mul_le_mul_of_nonneg_left hp (by omega)
    rw [cmpI_gt h0, cmpI_gt (by omega)]

set_option maxHeartbeats 2000000 in
theorem impl_ge {w : World} {t u : LT} (ht : In w w.heap.size t) (hu : In w w.heap.size u) (hzt : t.nodes ≤ 2000000) (hzu : u.nodes ≤ 2000000) (hq : isNum t = true) (hr : isNum u = true) (hge : u.e ≤ t.e) :
    Calls Try.prog 28 #[.agg #[.int .i64 t.k, .int .i64 t.n, .int .i64 t.e, .string t.s, t.row], .agg #[.int .i64 u.k, .int .i64 u.n, .int .i64 u.e, .string u.s, u.row]] w fun r w' => r = .returned (.int .i64 (cmpI (sixty t.n t.e) (sixty u.n u.e))) ∧ Below w.heap.size w w' := by
  have HB := Lib.hid (((Below.refl w.heap.size w).alloc (Nat.le_refl _) (.cells #[.int .i64 t.k, .int .i64 t.n, .int .i64 t.e, .string t.s, t.row] 29)).alloc (by simp) (.cells #[.int .i64 u.k, .int .i64 u.n, .int .i64 u.e, .string u.s, u.row] 29))
  have HX := Lib.hid (Box2.new w t u 29)
  have CT : Hid (∀ W, Below w.heap.size w W → Calls Try.prog 56 #[.agg #[.int .i64 t.k, .int .i64 t.n, .int .i64 t.e, .string t.s, t.row]] W fun r w'' => r = .returned (.bool true) ∧ Below W.heap.size W w'') := fun W hb => by
    have := impl_is ht hzt W hb
    rw [hq] at this
    exact this
  have CU : Hid (∀ W, Below w.heap.size w W → Calls Try.prog 56 #[.agg #[.int .i64 u.k, .int .i64 u.n, .int .i64 u.e, .string u.s, u.row]] W fun r w'' => r = .returned (.bool true) ∧ Below W.heap.size W w'') := fun W hb => by
    have := impl_is hu hzu W hb
    rw [hr] at this
    exact this
  obtain ⟨ha1, ha2⟩ := isNum_e hq
  obtain ⟨hb1, hb2⟩ := isNum_e hr
  obtain ⟨d, hd⟩ : ∃ d : Nat, t.e - u.e = (d : Int) := ⟨(t.e - u.e).toNat, by omega⟩
  have hd40 : d ≤ 40 := by omega
  have CS := fun W => scaled_any t.n d (by omega) W
  have HIT := Lib.hid (in_n ht)
  have HIU := Lib.hid (in_n hu)
  have CC := Lib.hid compI
  have hrt : t.row = .slice t.a t.kids.length t.cap := rfl
  have hru : u.row = .slice u.a u.kids.length u.cap := rfl
  have HE : Hid (t.e = u.e + d) := by unfold Hid; omega
  have HF : Hid (-60 ≤ u.e) := by unfold Hid; omega
  cases hs : scal t.n d with
  | some z =>
    have HV := Lib.hid (cmp_some (m := u.n) HIT.out HE.out HF.out hs)
    rw [hs] at CS
    simp only [Option.getD_some, Option.isSome_some] at CS
    replace CS := Lib.hid CS
    generalize cmpI (sixty t.n t.e) (sixty u.n u.e) = C at *
    simp only [hrt, hru] at CT CU HB HX ⊢
    clear ht hu hzt hzu hq hr hrt hru hs
    go_enter Try.func28, Try.ntmps28
    go_wp2_with fail
    with_reducible refine (CT.out _ HB.out).mono ?_
    rintro r w1 ⟨rfl, hb⟩
    replace HB := Lib.hid (below_of2 HB.out hb)
    replace HX : Hid (Box2 w1 w.heap.size t u) := ⟨HX.out.b1.behind hb, HX.out.b2.behind hb⟩
    clear hb
    obtain ⟨⟨p0, p1, p2, p3, p4⟩, ⟨q0, q1, q2, q3, q4⟩⟩ := HX.out
    unfold LT.row at p4 q4
    go_wp2_with fail
    with_reducible refine (CU.out _ HB.out).mono ?_
    rintro r w2 ⟨rfl, hb⟩
    replace HB := Lib.hid (below_of2 HB.out hb)
    replace HX : Hid (Box2 w2 w.heap.size t u) := ⟨HX.out.b1.behind hb, HX.out.b2.behind hb⟩
    clear hb p0 p1 p2 p3 p4 q0 q1 q2 q3 q4 CT CU
    obtain ⟨⟨p0, p1, p2, p3, p4⟩, ⟨q0, q1, q2, q3, q4⟩⟩ := HX.out
    unfold LT.row at p4 q4
    have hlt : ¬ t.e < u.e := by omega
    go_wp2_with fail
    with_reducible refine (CS.out _).mono ?_
    rintro r w3 ⟨rfl, rfl⟩
    go_wp2_with fail
    with_reducible refine (CC.out _ _ _).mono ?_
    rintro r w4 ⟨rfl, rfl⟩
    go_wp2
    go_ret
    exact ⟨by rw [← HV.out]; rfl, HB.out⟩
  | none =>
    have HV := Lib.hid (cmp_none HIT.out HIU.out HE.out HF.out hs)
    rw [hs] at CS
    simp only [Option.getD_none, Option.isSome_none] at CS
    replace CS := Lib.hid CS
    generalize cmpI (sixty t.n t.e) (sixty u.n u.e) = C at *
    simp only [hrt, hru] at CT CU HB HX ⊢
    clear ht hu hzt hzu hq hr hrt hru hs
    go_enter Try.func28, Try.ntmps28
    go_wp2_with fail
    with_reducible refine (CT.out _ HB.out).mono ?_
    rintro r w1 ⟨rfl, hb⟩
    replace HB := Lib.hid (below_of2 HB.out hb)
    replace HX : Hid (Box2 w1 w.heap.size t u) := ⟨HX.out.b1.behind hb, HX.out.b2.behind hb⟩
    clear hb
    obtain ⟨⟨p0, p1, p2, p3, p4⟩, ⟨q0, q1, q2, q3, q4⟩⟩ := HX.out
    unfold LT.row at p4 q4
    go_wp2_with fail
    with_reducible refine (CU.out _ HB.out).mono ?_
    rintro r w2 ⟨rfl, hb⟩
    replace HB := Lib.hid (below_of2 HB.out hb)
    replace HX : Hid (Box2 w2 w.heap.size t u) := ⟨HX.out.b1.behind hb, HX.out.b2.behind hb⟩
    clear hb p0 p1 p2 p3 p4 q0 q1 q2 q3 q4 CT CU
    obtain ⟨⟨p0, p1, p2, p3, p4⟩, ⟨q0, q1, q2, q3, q4⟩⟩ := HX.out
    unfold LT.row at p4 q4
    have hlt : ¬ t.e < u.e := by omega
    go_wp2_with fail
    with_reducible refine (CS.out _).mono ?_
    rintro r w3 ⟨rfl, rfl⟩
    go_wp2_with fail
    with_reducible refine (CC.out _ _ _).mono ?_
    rintro r w4 ⟨rfl, rfl⟩
    go_wp2
    go_ret
    exact ⟨by rw [← HV.out]; rfl, HB.out⟩

theorem cmpI_neg (a b : Int) : -cmpI a b = cmpI b a := by
  rcases Int.lt_trichotomy a b with h | h | h
  · rw [cmpI_lt h, cmpI_gt h]; rfl
  · rw [cmpI_eq h, cmpI_eq h.symm]; rfl
  · rw [cmpI_gt h, cmpI_lt h]
theorem cmpI_small (a b : Int) : -1 ≤ cmpI a b ∧ cmpI a b ≤ 1 := by
  unfold cmpI
  split
  · omega
  · split <;> omega
set_option maxHeartbeats 2000000 in
theorem impl_lt {w : World} {t u : LT} (ht : In w w.heap.size t) (hu : In w w.heap.size u) (hzt : t.nodes ≤ 2000000) (hzu : u.nodes ≤ 2000000) (hq : isNum t = true) (hr : isNum u = true) (hlt : t.e < u.e) :
    Calls Try.prog 28 #[.agg #[.int .i64 t.k, .int .i64 t.n, .int .i64 t.e, .string t.s, t.row], .agg #[.int .i64 u.k, .int .i64 u.n, .int .i64 u.e, .string u.s, u.row]] w fun r w' => r = .returned (.int .i64 (cmpI (sixty t.n t.e) (sixty u.n u.e))) ∧ Below w.heap.size w w' := by
  have HB := Lib.hid (((Below.refl w.heap.size w).alloc (Nat.le_refl _) (.cells #[.int .i64 t.k, .int .i64 t.n, .int .i64 t.e, .string t.s, t.row] 29)).alloc (by simp) (.cells #[.int .i64 u.k, .int .i64 u.n, .int .i64 u.e, .string u.s, u.row] 29))
  have HX := Lib.hid (Box2.new w t u 29)
  have hrt : t.row = .slice t.a t.kids.length t.cap := rfl
  have hru : u.row = .slice u.a u.kids.length u.cap := rfl
  have CT : Hid (∀ W, Below w.heap.size w W → Calls Try.prog 56 #[.agg #[.int .i64 t.k, .int .i64 t.n, .int .i64 t.e, .string t.s, t.row]] W fun r w'' => r = .returned (.bool true) ∧ Below W.heap.size W w'') := fun W hb => by
    have := impl_is ht hzt W hb
    rw [hq] at this
    exact this
  have CU : Hid (∀ W, Below w.heap.size w W → Calls Try.prog 56 #[.agg #[.int .i64 u.k, .int .i64 u.n, .int .i64 u.e, .string u.s, u.row]] W fun r w'' => r = .returned (.bool true) ∧ Below W.heap.size W w'') := fun W hb => by
    have := impl_is hu hzu W hb
    rw [hr] at this
    exact this
  have CR : Hid (∀ W, Below w.heap.size w W → Calls Try.prog 28 #[.agg #[.int .i64 u.k, .int .i64 u.n, .int .i64 u.e, .string u.s, u.row], .agg #[.int .i64 t.k, .int .i64 t.n, .int .i64 t.e, .string t.s, t.row]] W fun r w'' => r = .returned (.int .i64 (cmpI (sixty u.n u.e) (sixty t.n t.e))) ∧ Below W.heap.size W w'') := fun W hb => impl_ge ((hu.behind hb).mono hb.size) ((ht.behind hb).mono hb.size) hzu hzt hr hq (by omega)
  have HV := Lib.hid (cmpI_neg (sixty u.n u.e) (sixty t.n t.e))
  obtain ⟨hs1, hs2⟩ := cmpI_small (sixty u.n u.e) (sixty t.n t.e)
  generalize cmpI (sixty t.n t.e) (sixty u.n u.e) = C at *
  generalize cmpI (sixty u.n u.e) (sixty t.n t.e) = D at *
  simp only [hrt, hru] at CT CU CR HB HX ⊢
  clear ht hu hzt hzu hq hr hrt hru
  go_enter Try.func28, Try.ntmps28
  go_wp2_with fail
  with_reducible refine (CT.out _ HB.out).mono ?_
  rintro r w1 ⟨rfl, hb⟩
  replace HB := Lib.hid (below_of2 HB.out hb)
  replace HX : Hid (Box2 w1 w.heap.size t u) := ⟨HX.out.b1.behind hb, HX.out.b2.behind hb⟩
  clear hb
  obtain ⟨⟨p0, p1, p2, p3, p4⟩, ⟨q0, q1, q2, q3, q4⟩⟩ := HX.out
  unfold LT.row at p4 q4
  go_wp2_with fail
  with_reducible refine (CU.out _ HB.out).mono ?_
  rintro r w2 ⟨rfl, hb⟩
  replace HB := Lib.hid (below_of2 HB.out hb)
  replace HX : Hid (Box2 w2 w.heap.size t u) := ⟨HX.out.b1.behind hb, HX.out.b2.behind hb⟩
  clear hb p0 p1 p2 p3 p4 q0 q1 q2 q3 q4 CT CU
  obtain ⟨⟨p0, p1, p2, p3, p4⟩, ⟨q0, q1, q2, q3, q4⟩⟩ := HX.out
  unfold LT.row at p4 q4
  go_wp2_with (go_at_call 28; with_reducible refine (CR.out _ HB.out).mono ?_; rintro r w3 ⟨rfl, hb⟩; have HB3 := Lib.hid (below_of2 HB.out hb); clear hb)
  go_ret
  exact ⟨by rw [← HV.out]; first | rfl | (congr 2; exact wrap_in (by unfold InI; omega)), HB3.out⟩
set_option maxHeartbeats 2000000 in
theorem impl_no1 {w : World} {t u : LT} (ht : In w w.heap.size t) (hzt : t.nodes ≤ 2000000) (hq : isNum t = false) :
    Calls Try.prog 28 #[.agg #[.int .i64 t.k, .int .i64 t.n, .int .i64 t.e, .string t.s, t.row], .agg #[.int .i64 u.k, .int .i64 u.n, .int .i64 u.e, .string u.s, u.row]] w fun r w' => r = .returned (.int .i64 2) ∧ Below w.heap.size w w' := by
  have HB := Lib.hid (((Below.refl w.heap.size w).alloc (Nat.le_refl _) (.cells #[.int .i64 t.k, .int .i64 t.n, .int .i64 t.e, .string t.s, t.row] 29)).alloc (by simp) (.cells #[.int .i64 u.k, .int .i64 u.n, .int .i64 u.e, .string u.s, u.row] 29))
  have HX := Lib.hid (Box2.new w t u 29)
  have hrt : t.row = .slice t.a t.kids.length t.cap := rfl
  have hru : u.row = .slice u.a u.kids.length u.cap := rfl
  have CT : Hid (∀ W, Below w.heap.size w W → Calls Try.prog 56 #[.agg #[.int .i64 t.k, .int .i64 t.n, .int .i64 t.e, .string t.s, t.row]] W fun r w'' => r = .returned (.bool false) ∧ Below W.heap.size W w'') := fun W hb => by
    have := impl_is ht hzt W hb
    rw [hq] at this
    exact this
  simp only [hrt, hru] at CT HB HX ⊢
  clear ht hzt hq hrt hru
  go_enter Try.func28, Try.ntmps28
  go_wp2_with fail
  with_reducible refine (CT.out _ HB.out).mono ?_
  rintro r w1 ⟨rfl, hb⟩
  replace HB := Lib.hid (below_of2 HB.out hb)
  replace HX : Hid (Box2 w1 w.heap.size t u) := ⟨HX.out.b1.behind hb, HX.out.b2.behind hb⟩
  clear hb
  obtain ⟨⟨p0, p1, p2, p3, p4⟩, ⟨q0, q1, q2, q3, q4⟩⟩ := HX.out
  unfold LT.row at p4 q4
  go_wp2
  go_ret
  exact ⟨rfl, HB.out⟩
set_option maxHeartbeats 2000000 in
theorem impl_no2 {w : World} {t u : LT} (ht : In w w.heap.size t) (hu : In w w.heap.size u) (hzt : t.nodes ≤ 2000000) (hzu : u.nodes ≤ 2000000) (hq : isNum t = true) (hr : isNum u = false) :
    Calls Try.prog 28 #[.agg #[.int .i64 t.k, .int .i64 t.n, .int .i64 t.e, .string t.s, t.row], .agg #[.int .i64 u.k, .int .i64 u.n, .int .i64 u.e, .string u.s, u.row]] w fun r w' => r = .returned (.int .i64 2) ∧ Below w.heap.size w w' := by
  have HB := Lib.hid (((Below.refl w.heap.size w).alloc (Nat.le_refl _) (.cells #[.int .i64 t.k, .int .i64 t.n, .int .i64 t.e, .string t.s, t.row] 29)).alloc (by simp) (.cells #[.int .i64 u.k, .int .i64 u.n, .int .i64 u.e, .string u.s, u.row] 29))
  have HX := Lib.hid (Box2.new w t u 29)
  have hrt : t.row = .slice t.a t.kids.length t.cap := rfl
  have hru : u.row = .slice u.a u.kids.length u.cap := rfl
  have CT : Hid (∀ W, Below w.heap.size w W → Calls Try.prog 56 #[.agg #[.int .i64 t.k, .int .i64 t.n, .int .i64 t.e, .string t.s, t.row]] W fun r w'' => r = .returned (.bool true) ∧ Below W.heap.size W w'') := fun W hb => by
    have := impl_is ht hzt W hb
    rw [hq] at this
    exact this
  have CU : Hid (∀ W, Below w.heap.size w W → Calls Try.prog 56 #[.agg #[.int .i64 u.k, .int .i64 u.n, .int .i64 u.e, .string u.s, u.row]] W fun r w'' => r = .returned (.bool false) ∧ Below W.heap.size W w'') := fun W hb => by
    have := impl_is hu hzu W hb
    rw [hr] at this
    exact this
  simp only [hrt, hru] at CT CU HB HX ⊢
  clear ht hu hzt hzu hq hr hrt hru
  go_enter Try.func28, Try.ntmps28
  go_wp2_with fail
  with_reducible refine (CT.out _ HB.out).mono ?_
  rintro r w1 ⟨rfl, hb⟩
  replace HB := Lib.hid (below_of2 HB.out hb)
  replace HX : Hid (Box2 w1 w.heap.size t u) := ⟨HX.out.b1.behind hb, HX.out.b2.behind hb⟩
  clear hb
  obtain ⟨⟨p0, p1, p2, p3, p4⟩, ⟨q0, q1, q2, q3, q4⟩⟩ := HX.out
  unfold LT.row at p4 q4
  go_wp2_with fail
  with_reducible refine (CU.out _ HB.out).mono ?_
  rintro r w2 ⟨rfl, hb⟩
  replace HB := Lib.hid (below_of2 HB.out hb)
  replace HX : Hid (Box2 w2 w.heap.size t u) := ⟨HX.out.b1.behind hb, HX.out.b2.behind hb⟩
  clear hb p0 p1 p2 p3 p4 q0 q1 q2 q3 q4 CT CU
  obtain ⟨⟨p0, p1, p2, p3, p4⟩, ⟨q0, q1, q2, q3, q4⟩⟩ := HX.out
  unfold LT.row at p4 q4
  go_wp2
  go_ret
  exact ⟨rfl, HB.out⟩
theorem impl_cmpnum {w : World} {t u : LT} (ht : In w w.heap.size t) (hu : In w w.heap.size u) (hzt : t.nodes ≤ 2000000) (hzu : u.nodes ≤ 2000000) :
    Calls Try.prog 28 #[.agg #[.int .i64 t.k, .int .i64 t.n, .int .i64 t.e, .string t.s, t.row], .agg #[.int .i64 u.k, .int .i64 u.n, .int .i64 u.e, .string u.s, u.row]] w fun r w' => r = .returned (.int .i64 (cmpNum t u)) ∧ Below w.heap.size w w' := by
  unfold cmpNum
  cases hq : isNum t with
  | false =>
    rw [if_neg (by simp)]
    exact impl_no1 ht hzt hq
  | true =>
    cases hr : isNum u with
    | false =>
      rw [if_neg (by simp)]
      exact impl_no2 ht hu hzt hzu hq hr
    | true =>
      rw [if_pos ⟨rfl, rfl⟩]
      rcases Int.lt_or_le t.e u.e with h | h
      · exact impl_lt ht hu hzt hzu hq hr h
      · exact impl_ge ht hu hzt hzu hq hr h

end Go.Proofs.Ytlkfaehfkapfnaa.num
