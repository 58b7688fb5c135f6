/-
  What spec.PutWide and spec.GetWide return: the lowest bytes of a number, and the number that bytes tell.
-/
import Derived.Test.YtghcgkpeimpghaaHeadWalk
import Derived.Test.YtghcgkpeimpghaaWidePlain
import Derived.Deep.RegionHeld3
namespace Go.Proofs.Ytghcgkpeimpghaa.wide
open Go.ChangeShapes Go.WideShapes Go.ChangeAt Go.RowKit Go.Proofs.Ytghcgkpeimpghaa.head
set_option maxRecDepth 100000

theorem put_wide_spec (n m : Int) (w : World) :
    Calls Try.prog 30 #[.int .i64 n, .int .i64 m] w fun e w' => e = .returned (.string (putWide n m)) ∧ Below w.heap.size w w' := by
  unfold putWide
  have C := fun W => in_any m 1 8 W
  by_cases h : 1 ≤ m ∧ m ≤ 8
  · rw [if_pos h]
    rw [decide_eq_true h] at C
    replace C := Lib.hid C
    have C1 := Lib.hid (fun W => big_at (IntKind.u64.wrap n) (n % 18446744073709551616).toNat m.toNat (by simp [IntKind.wrap, IntKind.bits, IntKind.signed]; omega) m (by omega) (by omega) (by omega) W)
    unfold wideL
    clear h
    go_enter Try.func30, Try.ntmps30
    go_wp2_with (go_at_call 48; with_reducible refine (C.out _).mono ?_; rintro r w2 ⟨rfl, rfl⟩)
    with_reducible refine (C1.out _).mono ?_
    rintro r w1 ⟨rfl, hb⟩
    have HB := Lib.hid hb
    clear hb
    go_wp2
    go_ret
    exact ⟨rfl, HB.out⟩
  · rw [if_neg h]
    rw [decide_eq_false h] at C
    replace C := Lib.hid C
    clear h
    go_enter Try.func30, Try.ntmps30
    go_wp2_with (go_at_call 48; with_reducible refine (C.out _).mono ?_; rintro r w2 ⟨rfl, rfl⟩)
    go_ret
    exact ⟨rfl, Below.refl _ _⟩

end Go.Proofs.Ytghcgkpeimpghaa.wide
