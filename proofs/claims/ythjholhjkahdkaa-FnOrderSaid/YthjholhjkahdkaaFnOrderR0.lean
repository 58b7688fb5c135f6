/-
  The law FnOrder over a code of at most 1048576 bytes: true, old memory kept.
-/
import Derived.Test.YthjholhjkahdkaaFnOrderJ2
import Derived.Test.YthjholhjkahdkaaFnOrderJ3
namespace Go.Proofs.Ythjholhjkahdkaa.made
open Go.ChangeShapes Go.WideShapes Go.ChangeAt Go.RowKit
open Go.Proofs.Ythjholhjkahdkaa.val Go.Proofs.Ythjholhjkahdkaa.draw Go.Proofs.Ythjholhjkahdkaa.num
set_option maxRecDepth 100000
theorem big_no (a : Option Addr) (len cap : Nat) (w : World) (h : len ≤ 1048576) : Calls Try.prog 4 #[.slice a len cap] w fun e w' => e = .returned (.bool false) ∧ w = w' := by
  have h' : ¬ (1048576 : Int) < (len : Int) := by omega
  clear h
  go_enter Try.func4, Try.ntmps4
  go_wp2
  go_ret
  exact ⟨rfl, rfl⟩
theorem cmp_c {w0 w : World} {t u : LT} (ht : Drawn w0 w t) (hu : Drawn w0 w u) (w' : World) (hb : Below w.heap.size w w') : Calls Try.prog 6 #[.agg #[.int .i64 t.k, .int .i64 t.n, .int .i64 t.e, .string t.s, .slice t.a t.kids.length t.cap], .agg #[.int .i64 u.k, .int .i64 u.n, .int .i64 u.e, .string u.s, .slice u.a u.kids.length u.cap]] w' fun r w'' => r = .returned (.int .i64 (cmpNum t u)) ∧ Below w'.heap.size w' w'' := impl_cmpnum (ht.behind hb).isIn (hu.behind hb).isIn ht.nodes hu.nodes

theorem er_parts' {t u : LT} (h : er t = er u) : t.k = u.k ∧ t.n = u.n ∧ t.e = u.e ∧ t.s = u.s := by
  obtain ⟨k, n, e, s, a, cap, kids⟩ := t
  obtain ⟨k', n', e', s', a', cap', kids'⟩ := u
  rw [er, er] at h
  injection h with h1 h2 h3 h4 h5
  exact ⟨h1, h2, h3, h4⟩
theorem same_c {t u : LT} (hn : InI t.n) (hm : InI u.n) (h : cmpNum t u = 0) (w : World) : Calls Try.prog 11 #[.agg #[.int .i64 t.k, .int .i64 t.n, .int .i64 t.e, .string t.s, .slice t.a t.kids.length t.cap], .agg #[.int .i64 u.k, .int .i64 u.n, .int .i64 u.e, .string u.s, .slice u.a u.kids.length u.cap]] w fun r w' => r = .returned (.bool true) ∧ Below w.heap.size w w' := by
  obtain ⟨h1, h2, h3, h4⟩ := er_parts' (same_num hn hm h)
  have hq : isNum t = true ∧ isNum u = true := by
    unfold cmpNum at h
    split at h
    · assumption
    · omega
  have k1 := (num_parts hq.1).2.1
  have k2 := (num_parts hq.2).2.1
  rw [← h1, ← h2, ← h3, ← h4, k1, k2]
  exact same_leaf _ _ _ _ _ _ _ _ w
theorem tenths_in : ∀ (K : Nat) (n : Int), InI n → InI (tenths n K)
  | 0, _, h => h
  | K + 1, n, h => tenths_in K (tenthOf n) (tenth_in h)
theorem whole_told {x : LT} (hn : InI x.n) : InI (wholeN x) ∧ (wholeB x = true → cmpNum (intT (wholeN x)) x ≤ 0 ∧ cmpNum x (intT (wholeN x + 1)) < 0) := by
  by_cases hq : isNum x = true ∧ x.e ≤ 0
  · have e : wholeN x = tenths x.n (-x.e).toNat := if_pos hq
    rw [e]
    exact ⟨tenths_in _ _ hn, fun _ => whole_low hq.1 hq.2⟩
  · obtain ⟨e1, e2⟩ := whole_no hq
    rw [e1, e2]
    exact ⟨⟨by omega, by omega⟩, fun h => by cases h⟩
theorem int_in (x : Int) (hx : InI x) (w : World) : In w w.heap.size (intT x) := .mk (by unfold InI; decide) hx (by unfold InI; decide) (by decide) (by simp) (fun i hi => by simp at hi) (fun i hi => by simp at hi)
theorem int_nodes (x : Int) : (intT x).nodes ≤ 2000000 := by unfold intT; rw [LT.nodes]; decide
theorem norm_c (x : Int) (hx : InI x) (w : World) : Calls Try.prog 12 #[.int .i64 x, .int .i64 0] w fun r w' => r = .returned (.tuple #[.agg #[.int .i64 3, .int .i64 x, .int .i64 0, .string ⟨#[]⟩, .slice none 0 0], .bool true]) ∧ Below w.heap.size w w' := by
  have h := spec_norm x 0 hx w
  rw [norm_int hx] at h
  exact h
theorem low_c {w0 w : World} {x : LT} (hx : Drawn w0 w x) (X : Int) (hX : InI X) (w' : World) (hb : Below w.heap.size w w') : Calls Try.prog 6 #[.agg #[.int .i64 3, .int .i64 X, .int .i64 0, .string ⟨#[]⟩, .slice none 0 0], .agg #[.int .i64 x.k, .int .i64 x.n, .int .i64 x.e, .string x.s, .slice x.a x.kids.length x.cap]] w' fun r w'' => r = .returned (.int .i64 (cmpNum (intT X) x)) ∧ Below w'.heap.size w' w'' := impl_cmpnum (int_in X hX w') (hx.behind hb).isIn (int_nodes X) hx.nodes
theorem high_c {w0 w : World} {x : LT} (hx : Drawn w0 w x) (X : Int) (hX : InI X) (w' : World) (hb : Below w.heap.size w w') : Calls Try.prog 6 #[.agg #[.int .i64 x.k, .int .i64 x.n, .int .i64 x.e, .string x.s, .slice x.a x.kids.length x.cap], .agg #[.int .i64 3, .int .i64 X, .int .i64 0, .string ⟨#[]⟩, .slice none 0 0]] w' fun r w'' => r = .returned (.int .i64 (cmpNum x (intT X))) ∧ Below w'.heap.size w' w'' := impl_cmpnum (hx.behind hb).isIn (int_in X hX w') hx.nodes (int_nodes X)
theorem spec_c {t u : LT} (ht : InI t.n) (hu : InI u.n) (w : World) : Calls Try.prog 10 #[.agg #[.int .i64 t.k, .int .i64 t.n, .int .i64 t.e, .string t.s, .slice t.a t.kids.length t.cap], .agg #[.int .i64 u.k, .int .i64 u.n, .int .i64 u.e, .string u.s, .slice u.a u.kids.length u.cap]] w fun r w' => r = .returned (.int .i64 (cmpNum t u)) ∧ Below w.heap.size w w' := spec_cmpnum t u ht hu w
theorem neg_c {t u : LT} (h : cmpNum t u ≠ 2) : IntKind.i64.wrap (-(cmpNum u t)) = cmpNum t u := by
  have e := cmp_anti h
  have r := cmp_range t u
  rw [IntKind.wrap_i64]
  omega
theorem high_lt {X : Int} {x : LT} (hX : InI X) (hm : ¬ X = 9223372036854775807) (h : cmpNum x (intT (X + 1)) < 0) : cmpNum x (intT (wrap64 (X + 1))) < 0 := by
  have e : wrap64 (X + 1) = X + 1 := by
    unfold InI at hX
    unfold wrap64
    omega
  rw [e]
  exact h

set_option maxHeartbeats 4000000 in
theorem core (W : World) (a : Option Addr) (len cap : Nat) (hc : draw.Code W a len W.heap.size) :
    Calls Try.prog 3 #[.slice a len cap] W fun e w' => e = .returned (.bool true) ∧ Below W.heap.size W w' := by
  have CB := Lib.hid (big_no a len cap W hc.small)
  have HC := Lib.hid hc
  clear hc
  go_enter Try.func3, Try.ntmps3
  go_wp2_with fail
  with_reducible refine CB.out.mono ?_
  rintro e w0 ⟨rfl, rfl⟩
  clear CB
  have C1 := Lib.hid (two_draw W a len cap HC.out)
  go_wp2_with fail
  with_reducible refine C1.out.mono ?_
  rintro e w1 ⟨t, u, rfl, ht, hu, hb1⟩
  have hrow : t.row = .slice t.a t.kids.length t.cap := rfl
  have hrowu : u.row = .slice u.a u.kids.length u.cap := rfl
  rw [hrow, hrowu]
  have HT := Lib.hid ht
  have HU := Lib.hid hu
  have HB := Lib.hid hb1
  clear C1 ht hu hb1 hrow hrowu
  go_wp2_with fail
  have hb2 : Below w1.heap.size w1 ((w1.alloc (.cells #[.int .i64 t.k, .int .i64 t.n, .int .i64 t.e, .string t.s, .slice t.a t.kids.length t.cap] 26)).alloc (.cells #[.int .i64 u.k, .int .i64 u.n, .int .i64 u.e, .string u.s, .slice u.a u.kids.length u.cap] 26)) := ((Below.refl _ _).alloc (Nat.le_refl _) _).alloc (by simp) _
  have f3 := (Five.new w1 t.k t.n t.e t.s (.slice t.a t.kids.length t.cap)).below ((Below.refl _ _).alloc (Nat.le_refl _) (.cells #[.int .i64 u.k, .int .i64 u.n, .int .i64 u.e, .string u.s, .slice u.a u.kids.length u.cap] 26))
  have f4 := Five.new (w1.alloc (.cells #[.int .i64 t.k, .int .i64 t.n, .int .i64 t.e, .string t.s, .slice t.a t.kids.length t.cap] 26)) u.k u.n u.e u.s (.slice u.a u.kids.length u.cap)
  rw [World.size_alloc] at f4
  with_reducible refine (cmp_c HT.out HU.out _ hb2).mono ?_
  rintro e w2 ⟨rfl, hb⟩
  replace HT := Lib.hid ((HT.out.behind hb2).behind hb)
  replace HU := Lib.hid ((HU.out.behind hb2).behind hb)
  replace HB := Lib.hid (below_of2 (below_of2 HB.out hb2) hb)
  have F3 := Lib.hid (f3.below hb)
  have F4 := Lib.hid (f4.below hb)
  clear hb2 hb f3 f4
  generalize w1.heap.size = N3 at *
  have C2 := Lib.hid (whole_draw w2 a len cap (HC.out.below HB.out))
  go_wp2_with fail
  with_reducible refine C2.out.mono ?_
  rintro e w3 ⟨x, rfl, hx, hb⟩
  have hrow : x.row = .slice x.a x.kids.length x.cap := rfl
  rw [hrow]
  have hb2 : Below w3.heap.size w3 (w3.alloc (.cells #[.int .i64 x.k, .int .i64 x.n, .int .i64 x.e, .string x.s, .slice x.a x.kids.length x.cap] 26)) := (Below.refl _ _).alloc (Nat.le_refl _) _
  have F6 := Lib.hid (Five.new w3 x.k x.n x.e x.s (.slice x.a x.kids.length x.cap))
  replace HT := Lib.hid ((HT.out.behind hb).behind hb2)
  replace HU := Lib.hid ((HU.out.behind hb).behind hb2)
  replace HB := Lib.hid (below_of2 (below_of2 HB.out hb) hb2)
  replace F3 := Lib.hid ((F3.out.below hb).below hb2)
  replace F4 := Lib.hid ((F4.out.below hb).below hb2)
  have HX := Lib.hid (hx.behind hb2)
  have CI0 := impl_whole HX.out.isIn HX.out.nodes
  have CS0 := fun w => spec_whole (w := w) (in_n HX.out.isIn)
  have hw := whole_told (in_n HX.out.isIn)
  rw [hrow] at CI0 CS0
  generalize wholeN x = X at CI0 CS0 hw
  generalize wholeB x = Y at CI0 CS0 hw
  have CI := Lib.hid CI0
  have CS := Lib.hid CS0
  have HI := Lib.hid hw.1
  have HW := Lib.hid hw.2
  clear CI0 CS0 hw
  clear C2 hb hb2 hx hrow
  go_wp2_with fail
  with_reducible refine CI.out.mono ?_
  rintro e w4 ⟨rfl, hb⟩
  replace HT := Lib.hid (HT.out.behind hb)
  replace HU := Lib.hid (HU.out.behind hb)
  replace HX := Lib.hid (HX.out.behind hb)
  replace HB := Lib.hid (below_of2 HB.out hb)
  replace F3 := Lib.hid (F3.out.below hb)
  replace F4 := Lib.hid (F4.out.below hb)
  replace F6 := Lib.hid (F6.out.below hb)
  obtain ⟨r0, r1, r2, r3, r4, _⟩ := F6.out.c
  clear CI hb
  generalize w3.heap.size = N6 at *
  go_wp2_with fail
  with_reducible refine (CS.out _).mono ?_
  rintro e w5 ⟨rfl, hb⟩
  replace HT := Lib.hid (HT.out.behind hb)
  replace HU := Lib.hid (HU.out.behind hb)
  replace HX := Lib.hid (HX.out.behind hb)
  replace HB := Lib.hid (below_of2 HB.out hb)
  replace F3 := Lib.hid (F3.out.below hb)
  replace F4 := Lib.hid (F4.out.below hb)
  replace F6 := Lib.hid (F6.out.below hb)
  clear CS hb r0 r1 r2 r3 r4
  have CP := Lib.hid (spec_c (in_n HT.out.isIn) (in_n HU.out.isIn))
  have CN := Lib.hid (cmp_c HU.out HT.out)
  have CA := Lib.hid (cmp_c HT.out HT.out)
  have hdw : Below w5.heap.size w5 w5.drew := ⟨rfl, rfl, rfl, Nat.le_refl _, fun _ _ => rfl⟩
  obtain ⟨p0, p1, p2, p3, p4, _⟩ := F3.out.c
  obtain ⟨q0, q1, q2, q3, q4, _⟩ := F4.out.c
  by_cases h2 : cmpNum t u = 2
  · -- not numbers
    go_wp2_with fail
    with_reducible refine (CP.out _).mono ?_
    rintro e w8 ⟨rfl, hb8⟩
    replace HB := Lib.hid (below_of2 HB.out hb8)
    replace HX := Lib.hid (HX.out.behind hb8)
    replace F6 := Lib.hid (F6.out.below hb8)
    clear hb8 CP CN CA p0 p1 p2 p3 p4 q0 q1 q2 q3 q4 hdw F3 F4 HT HU HC
    cases Y with
    | false =>
      go_wp2
      go_ret
      exact ⟨rfl, HB.out⟩
    | true =>
      obtain ⟨hle, hlt⟩ := HW.out rfl
      have HL := Lib.hid hle
      have HH := Lib.hid hlt
      have C1 := Lib.hid (norm_c X HI.out)
      have C2 := Lib.hid (norm_c (wrap64 (X + 1)) (inI_wrap _))
      clear hle hlt
      go_wp2_with fail
      with_reducible refine (C1.out _).mono ?_
      rintro e w9 ⟨rfl, hb⟩
      have hb2 : Below w9.heap.size w9 (w9.alloc (.cells #[.int .i64 3, .int .i64 X, .int .i64 0, .string ⟨#[]⟩, .slice none 0 0] 26)) := (Below.refl _ _).alloc (Nat.le_refl _) _
      have F11 := Lib.hid (Five.new w9 3 X 0 ⟨#[]⟩ (.slice none 0 0))
      replace HB := Lib.hid (below_of2 (below_of2 HB.out hb) hb2)
      replace HX := Lib.hid ((HX.out.behind hb).behind hb2)
      replace F6 := Lib.hid ((F6.out.below hb).below hb2)
      clear hb hb2 C1
      go_wp2_with fail
      with_reducible refine (C2.out _).mono ?_
      rintro e w10 ⟨rfl, hb⟩
      have hb2 : Below w10.heap.size w10 (w10.alloc (.cells #[.int .i64 3, .int .i64 (wrap64 (X + 1)), .int .i64 0, .string ⟨#[]⟩, .slice none 0 0] 26)) := (Below.refl _ _).alloc (Nat.le_refl _) _
      have F13 := Lib.hid (Five.new w10 3 (wrap64 (X + 1)) 0 ⟨#[]⟩ (.slice none 0 0))
      replace HB := Lib.hid (below_of2 (below_of2 HB.out hb) hb2)
      replace HX := Lib.hid ((HX.out.behind hb).behind hb2)
      replace F6 := Lib.hid ((F6.out.below hb).below hb2)
      replace F11 := Lib.hid ((F11.out.below hb).below hb2)
      clear hb hb2 C2
      have CL0 := low_c HX.out X HI.out
      have CH0 := high_c HX.out (wrap64 (X + 1)) (inI_wrap _)
      have hc1 := HL.out
      have hc2 : Hid (¬ X = 9223372036854775807 → cmpNum x (intT (wrap64 (X + 1))) < 0) := fun hm => high_lt HI.out hm HH.out
      clear HL HH HI HW
      generalize cmpNum (intT X) x = c1 at CL0 hc1
      generalize cmpNum x (intT (wrap64 (X + 1))) = c2 at CH0 hc2
      have CL := Lib.hid CL0
      have CH := Lib.hid CH0
      clear CL0 CH0
      obtain ⟨r0, r1, r2, r3, r4, _⟩ := F6.out.c
      obtain ⟨s0, s1, s2, s3, s4, _⟩ := F11.out.c
      go_wp2_with fail
      with_reducible refine (CL.out _ (Below.refl _ _)).mono ?_
      rintro e w12 ⟨rfl, hb⟩
      have f6 := F6.out.below hb
      have f13 := F13.out.below hb
      have HB2 := Lib.hid (below_of2 HB.out hb)
      have HBb := Lib.hid hb
      clear r0 r1 r2 r3 r4 s0 s1 s2 s3 s4 hb
      obtain ⟨r0, r1, r2, r3, r4, _⟩ := f6.c
      obtain ⟨s0, s1, s2, s3, s4, _⟩ := f13.c
      clear f6 f13 HB F6 F11 F13 CL
      by_cases hm : X = 9223372036854775807
      · clear CH s0 s1 s2 s3 s4 HBb hc2
        go_wp2
        go_ret
        exact ⟨rfl, HB2.out⟩
      · have hc3 := hc2.out hm
        go_wp2_with fail
        with_reducible refine (CH.out _ HBb.out).mono ?_
        rintro e w13 ⟨rfl, hb'⟩
        go_wp2
        go_ret
        exact ⟨rfl, below_of2 HB2.out hb'⟩
  by_cases h0 : cmpNum t u = 0
  · -- numbers, the same
    have hneg := neg_c h2
    have hz : ¬ (0 : Int) = 2 := by decide
    have CE := Lib.hid (same_c (in_n HT.out.isIn) (in_n HU.out.isIn) h0)
    have hself := cmp_self h2
    rw [h0] at hneg h2
    go_wp2_with fail
    with_reducible refine (CP.out _).mono ?_
    rintro e w6 ⟨rfl, hb6⟩
    clear p0 p1 p2 p3 p4 q0 q1 q2 q3 q4
    have f3 := F3.out.below hb6
    have f4 := F4.out.below hb6
    obtain ⟨p0, p1, p2, p3, p4, _⟩ := f3.c
    obtain ⟨q0, q1, q2, q3, q4, _⟩ := f4.c
    clear f3 f4
    go_wp2_with fail
    with_reducible refine (CN.out _ hb6).mono ?_
    rintro e w7 ⟨rfl, hb7⟩
    replace hb7 := below_of2 hb6 hb7
    clear hb6 p0 p1 p2 p3 p4 q0 q1 q2 q3 q4
    have f3 := F3.out.below hb7
    have f4 := F4.out.below hb7
    obtain ⟨p0, p1, p2, p3, p4, _⟩ := f3.c
    obtain ⟨q0, q1, q2, q3, q4, _⟩ := f4.c
    clear f3 f4
    go_wp2_with fail
    with_reducible refine (CE.out _).mono ?_
    rintro e w9 ⟨rfl, hb9⟩
    replace hb9 := below_of2 hb7 hb9
    clear CE hb7 p0 p1 p2 p3 p4 q0 q1 q2 q3 q4
    have f3 := F3.out.below hb9
    have f4 := F4.out.below hb9
    obtain ⟨p0, p1, p2, p3, p4, _⟩ := f3.c
    obtain ⟨q0, q1, q2, q3, q4, _⟩ := f4.c
    clear f3 f4
    go_wp2_with fail
    with_reducible refine (CA.out _ hb9).mono ?_
    rintro e w8 ⟨rfl, hb8⟩
    replace hb8 := below_of2 hb9 hb8
    clear hb9
    replace HB := Lib.hid (below_of2 HB.out hb8)
    replace HX := Lib.hid (HX.out.behind hb8)
    replace F6 := Lib.hid (F6.out.below hb8)
    clear hb8 CP CN CA p0 p1 p2 p3 p4 q0 q1 q2 q3 q4 hdw F3 F4 HT HU HC
    cases Y with
    | false =>
      go_wp2
      go_ret
      exact ⟨rfl, HB.out⟩
    | true =>
      obtain ⟨hle, hlt⟩ := HW.out rfl
      have HL := Lib.hid hle
      have HH := Lib.hid hlt
      have C1 := Lib.hid (norm_c X HI.out)
      have C2 := Lib.hid (norm_c (wrap64 (X + 1)) (inI_wrap _))
      clear hle hlt
      go_wp2_with fail
      with_reducible refine (C1.out _).mono ?_
      rintro e w9 ⟨rfl, hb⟩
      have hb2 : Below w9.heap.size w9 (w9.alloc (.cells #[.int .i64 3, .int .i64 X, .int .i64 0, .string ⟨#[]⟩, .slice none 0 0] 26)) := (Below.refl _ _).alloc (Nat.le_refl _) _
      have F11 := Lib.hid (Five.new w9 3 X 0 ⟨#[]⟩ (.slice none 0 0))
      replace HB := Lib.hid (below_of2 (below_of2 HB.out hb) hb2)
      replace HX := Lib.hid ((HX.out.behind hb).behind hb2)
      replace F6 := Lib.hid ((F6.out.below hb).below hb2)
      clear hb hb2 C1
      go_wp2_with fail
      with_reducible refine (C2.out _).mono ?_
      rintro e w10 ⟨rfl, hb⟩
      have hb2 : Below w10.heap.size w10 (w10.alloc (.cells #[.int .i64 3, .int .i64 (wrap64 (X + 1)), .int .i64 0, .string ⟨#[]⟩, .slice none 0 0] 26)) := (Below.refl _ _).alloc (Nat.le_refl _) _
      have F13 := Lib.hid (Five.new w10 3 (wrap64 (X + 1)) 0 ⟨#[]⟩ (.slice none 0 0))
      replace HB := Lib.hid (below_of2 (below_of2 HB.out hb) hb2)
      replace HX := Lib.hid ((HX.out.behind hb).behind hb2)
      replace F6 := Lib.hid ((F6.out.below hb).below hb2)
      replace F11 := Lib.hid ((F11.out.below hb).below hb2)
      clear hb hb2 C2
      have CL0 := low_c HX.out X HI.out
      have CH0 := high_c HX.out (wrap64 (X + 1)) (inI_wrap _)
      have hc1 := HL.out
      have hc2 : Hid (¬ X = 9223372036854775807 → cmpNum x (intT (wrap64 (X + 1))) < 0) := fun hm => high_lt HI.out hm HH.out
      clear HL HH HI HW
      generalize cmpNum (intT X) x = c1 at CL0 hc1
      generalize cmpNum x (intT (wrap64 (X + 1))) = c2 at CH0 hc2
      have CL := Lib.hid CL0
      have CH := Lib.hid CH0
      clear CL0 CH0
      obtain ⟨r0, r1, r2, r3, r4, _⟩ := F6.out.c
      obtain ⟨s0, s1, s2, s3, s4, _⟩ := F11.out.c
      go_wp2_with fail
      with_reducible refine (CL.out _ (Below.refl _ _)).mono ?_
      rintro e w12 ⟨rfl, hb⟩
      have f6 := F6.out.below hb
      have f13 := F13.out.below hb
      have HB2 := Lib.hid (below_of2 HB.out hb)
      have HBb := Lib.hid hb
      clear r0 r1 r2 r3 r4 s0 s1 s2 s3 s4 hb
      obtain ⟨r0, r1, r2, r3, r4, _⟩ := f6.c
      obtain ⟨s0, s1, s2, s3, s4, _⟩ := f13.c
      clear f6 f13 HB F6 F11 F13 CL
      by_cases hm : X = 9223372036854775807
      · clear CH s0 s1 s2 s3 s4 HBb hc2
        go_wp2
        go_ret
        exact ⟨rfl, HB2.out⟩
      · have hc3 := hc2.out hm
        go_wp2_with fail
        with_reducible refine (CH.out _ HBb.out).mono ?_
        rintro e w13 ⟨rfl, hb'⟩
        go_wp2
        go_ret
        exact ⟨rfl, below_of2 HB2.out hb'⟩
  · -- numbers, not the same
    have hneg := neg_c h2
    have hself := cmp_self h2
    go_wp2_with fail
    with_reducible refine (CP.out _).mono ?_
    rintro e w6 ⟨rfl, hb6⟩
    clear p0 p1 p2 p3 p4 q0 q1 q2 q3 q4
    have f3 := F3.out.below hb6
    have f4 := F4.out.below hb6
    obtain ⟨p0, p1, p2, p3, p4, _⟩ := f3.c
    obtain ⟨q0, q1, q2, q3, q4, _⟩ := f4.c
    clear f3 f4
    go_wp2_with fail
    with_reducible refine (CN.out _ hb6).mono ?_
    rintro e w7 ⟨rfl, hb7⟩
    replace hb7 := below_of2 hb6 hb7
    clear hb6 p0 p1 p2 p3 p4 q0 q1 q2 q3 q4
    have f3 := F3.out.below hb7
    have f4 := F4.out.below hb7
    obtain ⟨p0, p1, p2, p3, p4, _⟩ := f3.c
    obtain ⟨q0, q1, q2, q3, q4, _⟩ := f4.c
    clear f3 f4
    go_wp2_with fail
    with_reducible refine (CA.out _ hb7).mono ?_
    rintro e w8 ⟨rfl, hb8⟩
    replace hb8 := below_of2 hb7 hb8
    clear hb7
    replace HB := Lib.hid (below_of2 HB.out hb8)
    replace HX := Lib.hid (HX.out.behind hb8)
    replace F6 := Lib.hid (F6.out.below hb8)
    clear hb8 CP CN CA p0 p1 p2 p3 p4 q0 q1 q2 q3 q4 hdw F3 F4 HT HU HC
    cases Y with
    | false =>
      go_wp2
      go_ret
      exact ⟨rfl, HB.out⟩
    | true =>
      obtain ⟨hle, hlt⟩ := HW.out rfl
      have HL := Lib.hid hle
      have HH := Lib.hid hlt
      have C1 := Lib.hid (norm_c X HI.out)
      have C2 := Lib.hid (norm_c (wrap64 (X + 1)) (inI_wrap _))
      clear hle hlt
      go_wp2_with fail
      with_reducible refine (C1.out _).mono ?_
      rintro e w9 ⟨rfl, hb⟩
      have hb2 : Below w9.heap.size w9 (w9.alloc (.cells #[.int .i64 3, .int .i64 X, .int .i64 0, .string ⟨#[]⟩, .slice none 0 0] 26)) := (Below.refl _ _).alloc (Nat.le_refl _) _
      have F11 := Lib.hid (Five.new w9 3 X 0 ⟨#[]⟩ (.slice none 0 0))
      replace HB := Lib.hid (below_of2 (below_of2 HB.out hb) hb2)
      replace HX := Lib.hid ((HX.out.behind hb).behind hb2)
      replace F6 := Lib.hid ((F6.out.below hb).below hb2)
      clear hb hb2 C1
      go_wp2_with fail
      with_reducible refine (C2.out _).mono ?_
      rintro e w10 ⟨rfl, hb⟩
      have hb2 : Below w10.heap.size w10 (w10.alloc (.cells #[.int .i64 3, .int .i64 (wrap64 (X + 1)), .int .i64 0, .string ⟨#[]⟩, .slice none 0 0] 26)) := (Below.refl _ _).alloc (Nat.le_refl _) _
      have F13 := Lib.hid (Five.new w10 3 (wrap64 (X + 1)) 0 ⟨#[]⟩ (.slice none 0 0))
      replace HB := Lib.hid (below_of2 (below_of2 HB.out hb) hb2)
      replace HX := Lib.hid ((HX.out.behind hb).behind hb2)
      replace F6 := Lib.hid ((F6.out.below hb).below hb2)
      replace F11 := Lib.hid ((F11.out.below hb).below hb2)
      clear hb hb2 C2
      have CL0 := low_c HX.out X HI.out
      have CH0 := high_c HX.out (wrap64 (X + 1)) (inI_wrap _)
      have hc1 := HL.out
      have hc2 : Hid (¬ X = 9223372036854775807 → cmpNum x (intT (wrap64 (X + 1))) < 0) := fun hm => high_lt HI.out hm HH.out
      clear HL HH HI HW
      generalize cmpNum (intT X) x = c1 at CL0 hc1
      generalize cmpNum x (intT (wrap64 (X + 1))) = c2 at CH0 hc2
      have CL := Lib.hid CL0
      have CH := Lib.hid CH0
      clear CL0 CH0
      obtain ⟨r0, r1, r2, r3, r4, _⟩ := F6.out.c
      obtain ⟨s0, s1, s2, s3, s4, _⟩ := F11.out.c
      go_wp2_with fail
      with_reducible refine (CL.out _ (Below.refl _ _)).mono ?_
      rintro e w12 ⟨rfl, hb⟩
      have f6 := F6.out.below hb
      have f13 := F13.out.below hb
      have HB2 := Lib.hid (below_of2 HB.out hb)
      have HBb := Lib.hid hb
      clear r0 r1 r2 r3 r4 s0 s1 s2 s3 s4 hb
      obtain ⟨r0, r1, r2, r3, r4, _⟩ := f6.c
      obtain ⟨s0, s1, s2, s3, s4, _⟩ := f13.c
      clear f6 f13 HB F6 F11 F13 CL
      by_cases hm : X = 9223372036854775807
      · clear CH s0 s1 s2 s3 s4 HBb hc2
        go_wp2
        go_ret
        exact ⟨rfl, HB2.out⟩
      · have hc3 := hc2.out hm
        go_wp2_with fail
        with_reducible refine (CH.out _ HBb.out).mono ?_
        rintro e w13 ⟨rfl, hb'⟩
        go_wp2
        go_ret
        exact ⟨rfl, below_of2 HB2.out hb'⟩
end Go.Proofs.Ythjholhjkahdkaa.made
