/-
  For every two values the law FnExactCompareNum answers true: impl.CompareNum is spec.CompareNum, and it writes into no argument (the law itself passes values of more than 1048576 letters and elements together).
-/
import Derived.Test.YtlkfaehfkapfnaaCmpNumLaw
import Derived.Test.YtlkfaehfkapfnaaValOpen
import Derived.Below
namespace Go.Proofs.Ytlkfaehfkapfnaa.fnExactCompareNum
open Go.ChangeShapes Go.WideShapes Go.ChangeAt Go.RowKit

set_option maxRecDepth 100000 in
set_option maxHeartbeats 1000000 in
theorem walk (w : World) (t : val.LT) (h : val.In w w.heap.size t) (u : val.LT) (h' : val.In w w.heap.size u) :
    Calls Try.prog 8 #[.agg #[.int .i64 t.k, .int .i64 t.n, .int .i64 t.e, .string t.s, t.row], .agg #[.int .i64 u.k, .int .i64 u.n, .int .i64 u.e, .string u.s, u.row]] w fun e w' => e = .returned (.bool true) ∧ Below w.heap.size w w' := by
  by_cases hz : t.sz + u.sz ≤ 1048576
  · exact core h h' hz
  · have B := Lib.hid (((Below.refl w.heap.size w).alloc (Nat.le_refl _) (.cells #[.int .i64 t.k, .int .i64 t.n, .int .i64 t.e, .string t.s, t.row] 24)).alloc (by simp) (.cells #[.int .i64 u.k, .int .i64 u.n, .int .i64 u.e, .string u.s, u.row] 24))
    have PB := Lib.hid (val.Box2.new w t u 24)
    by_cases hzt : t.sz ≤ 1048576
    · have SZ := Lib.hid (val.szYes h B.out hzt)
      have SZ2 : Hid (∀ W, Below w.heap.size w W → Calls Try.prog 12 #[.agg #[.int .i64 u.k, .int .i64 u.n, .int .i64 u.e, .string u.s, u.row], .int .i64 ((1048576 - t.sz : Nat) : Int)] W fun e w'' => e = .returned (.int .i64 (-1)) ∧ Below W.heap.size W w'') := fun W hb => val.szTwoNo h' hb hz hzt
      have hnn : ¬ ((1048576 - t.sz : Nat) : Int) < 0 := by omega
      clear h h' hz hzt
      go_enter Try.func8, Try.ntmps8
      go_wp2_with fail
      with_reducible refine SZ.out.mono ?_
      rintro e w1 ⟨rfl, hb⟩
      replace B := Lib.hid (val.below_of2 B.out hb)
      replace PB := Lib.hid (PB.out.behind hb)
      obtain ⟨⟨p0, p1, p2, p3, p4⟩, ⟨r0, r1, r2, r3, r4⟩⟩ := PB.out
      clear SZ hb
      go_wp2_with fail
      with_reducible refine (SZ2.out _ B.out).mono ?_
      rintro e w1 ⟨rfl, hb⟩
      replace B := Lib.hid (val.below_of2 B.out hb)
      clear SZ2 hb p0 p1 p2 p3 p4 r0 r1 r2 r3 r4 PB
      go_wp2
      go_ret
      exact ⟨rfl, B.out⟩
    · have SZ := Lib.hid (val.szNo h B.out hzt)
      clear h h' hz hzt
      go_enter Try.func8, Try.ntmps8
      go_wp2_with fail
      with_reducible refine SZ.out.mono ?_
      rintro e w1 ⟨rfl, hb⟩
      have B1 := Lib.hid (val.below_of2 B.out hb)
      clear SZ hb PB
      go_wp2
      go_ret
      exact ⟨rfl, B1.out⟩

theorem own : ownKnob Try.prog.godebug = none := by kernel_rfl
theorem laidOut : laidOutB Try.prog = true := by kernel_rfl
set_option maxRecDepth 100000 in
theorem lifted (os : Os) (started : os.Started) (H : Type) (enc : TypeId × Value → H) :
    ReturnsInHanded {} Try.checked os 8 .any (Rows.fnExactCompareNumSpec.pre6 enc Try.prog Try.f8 Rows.fnExactCompareNumRow.domain false) (Rows.fnExactCompareNumSpec.post enc Try.prog Try.f8 false true false false) := by
  refine returnsInHanded_of_change (C := Try.checked) own started (by kernel_rfl) Try.func8
    (ChangeSpec.witness6 (enc := enc) (C := Try.checked) false ⟨#[], #[.agg #[.int .i64 0, .int .i64 0, .int .i64 0, .string ⟨#[]⟩, .slice none 0 0], .agg #[.int .i64 0, .int .i64 0, .int .i64 0, .string ⟨#[]⟩, .slice none 0 0]], []⟩ 8 (by kernel_rfl) (by kernel_rfl) (by kernel_rfl) (by kernel_rfl)) ?_
  intro W base args ds gs before hval0 hW hcnd _
  have hval : ∀ (j : Nat) t v, Try.f8.params[j]? = some t → args[j]? = some v → Value.okWide Try.prog W .any base t v := hval0
  have hW' := hW
  obtain ⟨p, q, hA0, hV, rfl, hfz, hnd⟩ := hW
  have hA : DataW.TrodAll enc Try.prog W 0 (fun _ => true) true Try.f8.params.toList args.toList ds p := hA0
  rw [Try.params8] at hA hval
  obtain ⟨v0, vs0, d0, ds0, p0, q0, hargs, rfl, rfl, h0, r0⟩ := trodAll_cons hA
  obtain ⟨v1, vs1, d1, ds1, p1, q1, rfl, rfl, rfl, h1, r1⟩ := trodAll_cons r0
  obtain ⟨rfl, rfl, rfl⟩ := trodAll_nil r1
  obtain rfl : args = #[v0, v1] := by cases args; simp_all
  obtain ⟨rfl, rfl⟩ := trodVars_none hV
  obtain ⟨u0, rfl, z0⟩ := okWide_struct Try.underlying24 (hval 0 24 v0 rfl rfl)
  have k0 := h0
  have lt0 : ∀ x ∈ p0, x.block < W.heap.size := by obtain ⟨m, hm⟩ := k0; exact DataW.trod_lt m _ _ _ hm
  obtain ⟨a0, e0, w0⟩ : ∃ t : val.LT, u0.toList = [.int .i64 t.k, .int .i64 t.n, .int .i64 t.e, .string t.s, t.row] ∧ val.In W W.heap.size t := by
    obtain ⟨fuel, hf⟩ := h0
    exact val.open_val fuel _ _ hf
  obtain rfl : u0 = #[.int .i64 a0.k, .int .i64 a0.n, .int .i64 a0.e, .string a0.s, a0.row] := Array.toList_inj.1 e0
  obtain ⟨u1, rfl, z1⟩ := okWide_struct Try.underlying24 (hval 1 24 v1 rfl rfl)
  have k1 := h1
  have lt1 : ∀ x ∈ p1, x.block < W.heap.size := by obtain ⟨m, hm⟩ := k1; exact DataW.trod_lt m _ _ _ hm
  obtain ⟨a1, e1, w1⟩ : ∃ t : val.LT, u1.toList = [.int .i64 t.k, .int .i64 t.n, .int .i64 t.e, .string t.s, t.row] ∧ val.In W W.heap.size t := by
    obtain ⟨fuel, hf⟩ := h1
    exact val.open_val fuel _ _ hf
  obtain rfl : u1 = #[.int .i64 a1.k, .int .i64 a1.n, .int .i64 a1.e, .string a1.s, a1.row] := Array.toList_inj.1 e1
  clear hA0 hval0
  simp only [List.append_nil] at hW'
  refine (walk W a0 w0 a1 w1).mono fun e W' ⟨he, bel⟩ => ?_
  subst he
  exact ⟨_, rfl, _, _, _, [], _, [], hW', trodAll_mk1 (shut_bool Try.underlying4 _), (trodAll_cons_mk (Below.trod laidOut (by kernel_rfl) (of_decide_eq_true (by kernel_rfl)) k0 bel lt0) (trodAll_cons_mk (Below.trod laidOut (by kernel_rfl) (of_decide_eq_true (by kernel_rfl)) k1 bel lt1) trodAll_mk0)), rfl, bel.frame _, fun h => by cases h⟩

theorem over : Rows.fnExactCompareNumRow.holds Try.pinned (OpenSpec.ofChange Rows.fnExactCompareNumSpec) :=
  OpenClaim.holds_of_wide 8 Try.f8 rfl rfl rfl rfl rfl rfl rfl ⟨rfl, rfl, rfl, rfl, rfl⟩ rfl rfl rfl rfl rfl (by kernel_rfl) Try.func8 (by kernel_rfl)
    (of_decide_eq_true (by kernel_rfl)) (by unfold Func.isWrapper; first | (rw [if_pos (by decide +kernel)]; kernel_rfl) | (rw [if_neg (by decide +kernel)]; exact ⟨rfl, rfl⟩))
    (fun os started H enc _ => lifted os started H enc)

theorem proved : Rows.FnExactCompareNumSaid :=
  over

end Go.Proofs.Ytlkfaehfkapfnaa.fnExactCompareNum
