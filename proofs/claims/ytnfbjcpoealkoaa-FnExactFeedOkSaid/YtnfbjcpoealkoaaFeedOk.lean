/-
  For every feed the law FnExactFeedOk answers true: impl.FeedOk is spec.FeedOk (the law itself passes feeds of more than 1048576 bytes). No condition.
-/
import Derived.Test.YtnfbjcpoealkoaaFeedWalk
import Derived.Test.YtnfbjcpoealkoaaFeedOpen
import Derived.Below
namespace Go.Proofs.Ytnfbjcpoealkoaa.fnExactFeedOk
open Go.ChangeShapes Go.WideShapes Go.ChangeAt Go.RowKit
open Go.Proofs.Ytnfbjcpoealkoaa.feed

set_option maxRecDepth 100000 in
set_option maxHeartbeats 1000000 in
theorem walk (s : ByteArray) (n : Int) (b : Bool) (hs : s.size ≤ maxLen) (hn : (Lit.int .i64 n).wf = true) (w : World) :
    Calls Try.prog 3 #[.agg #[.string s, .int .i64 n, .bool b]] w fun e w' => e = .returned (.bool true) ∧ Below w.heap.size w w' := by
  unfold maxLen at hs
  have hI := Lib.hid (inI_of hn)
  have B := Lib.hid (box 23 s n b w)
  have PB := Lib.hid (FBox.new w 23 s n b)
  by_cases h : s.size ≤ 1048576
  · have SZ := Lib.hid (fun W => szYes s n b W h)
    have TO := Lib.hid (fun W => to_any s n b W)
    have CS := Lib.hid (fun W => spec_ok s n b W hI.out)
    have CI := Lib.hid (fun W => impl_ok s n b W hI.out)
    have hnn : ¬ ((1048576 - s.size : Nat) : Int) < 0 := by omega
    generalize okF s n b = R at *
    clear hs h hn hI
    go_enter Try.func3, Try.ntmps3
    go_wp2_with fail
    with_reducible refine (SZ.out _).mono ?_
    rintro e w1 ⟨rfl, hb⟩
    replace B := Lib.hid (below_of2 B.out hb)
    replace PB := Lib.hid (PB.out.behind hb)
    obtain ⟨p0, p1, p2, _⟩ := PB.out
    clear hb SZ
    go_wp2_with fail
    with_reducible refine (TO.out _).mono ?_
    rintro e w2 ⟨rfl, hb⟩
    replace B := Lib.hid (below_of2 B.out hb)
    replace PB := Lib.hid (PB.out.behind hb)
    clear hb p0 p1 p2
    go_wp2_with fail
    with_reducible refine (CS.out _).mono ?_
    rintro e w3 ⟨rfl, hb⟩
    replace B := Lib.hid (below_of2 B.out hb)
    replace PB := Lib.hid (PB.out.behind hb)
    obtain ⟨p0, p1, p2, _⟩ := PB.out
    clear hb CS
    go_wp2_with fail
    with_reducible refine (TO.out _).mono ?_
    rintro e w4 ⟨rfl, hb⟩
    replace B := Lib.hid (below_of2 B.out hb)
    clear hb PB p0 p1 p2
    go_wp2_with fail
    with_reducible refine (CI.out _).mono ?_
    rintro e w5 ⟨rfl, hb⟩
    replace B := Lib.hid (below_of2 B.out hb)
    clear hb CI TO
    cases R <;>
    · go_wp2
      go_ret
      exact ⟨rfl, B.out⟩
  · have SZ := Lib.hid (fun W => szNo s n b W hs h)
    clear hs h hn hI PB
    go_enter Try.func3, Try.ntmps3
    go_wp2_with fail
    with_reducible refine (SZ.out _).mono ?_
    rintro e w1 ⟨rfl, hb⟩
    replace B := Lib.hid (below_of2 B.out hb)
    clear hb SZ
    go_wp2
    go_ret
    exact ⟨rfl, B.out⟩

theorem own : ownKnob Try.prog.godebug = none := by kernel_rfl
theorem laidOut : laidOutB Try.prog = true := by kernel_rfl
set_option maxRecDepth 100000 in
theorem lifted (os : Os) (started : os.Started) (H : Type) (enc : TypeId × Value → H) :
    ReturnsInHanded {} Try.checked os 3 .any (Rows.fnExactFeedOkSpec.pre6 enc Try.prog Try.f3 Rows.fnExactFeedOkRow.domain false) (Rows.fnExactFeedOkSpec.post enc Try.prog Try.f3 false true false false) := by
  refine returnsInHanded_of_change (C := Try.checked) own started (by kernel_rfl) Try.func3
    (ChangeSpec.witness6 (enc := enc) (C := Try.checked) false ⟨#[], #[.agg #[.string ⟨#[]⟩, .int .i64 0, .bool false]], []⟩ 8 (by kernel_rfl) (by kernel_rfl) (by kernel_rfl) (by kernel_rfl)) ?_
  intro W base args ds gs before hval0 hW hcnd _
  have hval : ∀ (j : Nat) t v, Try.f3.params[j]? = some t → args[j]? = some v → Value.okWide Try.prog W .any base t v := hval0
  have hW' := hW
  obtain ⟨p, q, hA0, hV, rfl, hfz, hnd⟩ := hW
  have hA : DataW.TrodAll enc Try.prog W 0 (fun _ => true) true Try.f3.params.toList args.toList ds p := hA0
  rw [Try.params3] at hA hval
  obtain ⟨v0, vs0, d0, ds0, p0, q0, hargs, rfl, rfl, h0, r0⟩ := trodAll_cons hA
  obtain ⟨rfl, rfl, rfl⟩ := trodAll_nil r0
  obtain rfl : args = #[v0] := by cases args; simp_all
  obtain ⟨rfl, rfl⟩ := trodVars_none hV
  obtain ⟨u0, rfl, z0⟩ := okWide_struct Try.underlying23 (hval 0 23 v0 rfl rfl)
  have k0 := h0
  have lt0 : ∀ x ∈ p0, x.block < W.heap.size := by obtain ⟨m, hm⟩ := k0; exact DataW.trod_lt m _ _ _ hm
  obtain ⟨s0, n0, b0, e0, w0, x0⟩ : ∃ (s : ByteArray) (n : Int) (b : Bool), u0.toList = [.string s, .int .i64 n, .bool b] ∧ s.size ≤ maxLen ∧ (Lit.int .i64 n).wf = true := by
    obtain ⟨fuel, hf⟩ := h0
    exact feed.open_feed fuel _ _ hf
  obtain rfl : u0 = #[.string s0, .int .i64 n0, .bool b0] := Array.toList_inj.1 e0
  clear hA0 hval0
  simp only [List.append_nil] at hW'
  refine (walk s0 n0 b0 w0 x0 W).mono fun e W' ⟨he, bel⟩ => ?_
  subst he
  exact ⟨_, rfl, _, _, _, [], _, [], hW', trodAll_mk1 (shut_bool Try.underlying4 _), (trodAll_cons_mk (Below.trod laidOut (by kernel_rfl) (of_decide_eq_true (by kernel_rfl)) k0 bel lt0) trodAll_mk0), rfl, bel.frame _, fun h => by cases h⟩

theorem over : Rows.fnExactFeedOkRow.holds Try.pinned (OpenSpec.ofChange Rows.fnExactFeedOkSpec) :=
  OpenClaim.holds_of_wide 3 Try.f3 rfl rfl rfl rfl rfl rfl rfl ⟨rfl, rfl, rfl, rfl, rfl⟩ rfl rfl rfl rfl rfl (by kernel_rfl) Try.func3 (by kernel_rfl)
    (of_decide_eq_true (by kernel_rfl)) (by unfold Func.isWrapper; first | (rw [if_pos (by decide +kernel)]; kernel_rfl) | (rw [if_neg (by decide +kernel)]; exact ⟨rfl, rfl⟩))
    (fun os started H enc _ => lifted os started H enc)

theorem proved : Rows.FnExactFeedOkSaid :=
  over

end Go.Proofs.Ytnfbjcpoealkoaa.fnExactFeedOk
