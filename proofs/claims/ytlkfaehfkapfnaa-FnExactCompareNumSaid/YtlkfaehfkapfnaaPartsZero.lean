/-
  spec.l03Parts at 0.
-/
import Derived.Test.YtlkfaehfkapfnaaPartsWalk
namespace Go.Proofs.Ytlkfaehfkapfnaa.num
open Go.ChangeShapes Go.WideShapes Go.ChangeAt Go.RowKit
open Go.Proofs.Ytlkfaehfkapfnaa.val
set_option maxRecDepth 100000

set_option maxHeartbeats 1000000 in
theorem parts_zero (k e : Int) (s : ByteArray) (a : Option Addr) (len cap : Nat) (he1 : -20 ≤ e) (he2 : e ≤ 20) (w : World) : Calls Try.prog 78 #[.agg #[.int .i64 k, .int .i64 0, .int .i64 e, .string s, .slice a len cap]] w fun r w' => r = .returned (.tuple #[.string ⟨#[]⟩, .int .i64 (e + 1)]) ∧ Below w.heap.size w w' := by
  have HX := Lib.hid (OwnAt.new w k 0 e s (.slice a len cap))
  have HD := decText.spec_any 0 (by decide) (by decide)
  have hi : Lib.itoa 0 = [48] := by
    unfold Lib.itoa
    rw [if_neg (by decide)]
    exact Lib.decDigits_one (by decide)
  rw [hi] at HD
  replace HD := Lib.hid HD
  clear hi
  obtain ⟨hl, c0, c1, c2, c3, c4⟩ := HX.out
  go_enter Try.func78, Try.ntmps78
  go_upto_region 1 with fail
  go_cut [4, 5] from 6 (fun x y wx => x = .string ⟨#[48]⟩ ∧ y = .int .i64 e ∧ OwnAt w wx k 0 e s (.slice a len cap))
  case first =>
    go_region_with (go_at_call 87; refine (HD.out _).mono ?_; rintro r w1 ⟨rfl, rfl⟩)
    all_goals
      go_wp2_with fail
      go_meet
      case rel => exact ⟨rfl, rfl, HX.out.drew⟩
  case rest =>
    obtain ⟨rfl, rfl, hown⟩ := hcut
    clear c0 c1 c2 c3 c4 HX HD hl
    obtain ⟨hl, c0, c1, c2, c3, c4⟩ := hown
    have HL := Lib.hid hl
    clear hl
    go_wp2
    go_loop [4, 5] (fun x y => (x = .string ⟨#[48]⟩ ∧ y = .int .i64 e) ∨ (x = .string ⟨#[]⟩ ∧ y = .int .i64 (e + 1))) (fun _ y => (e + 21 - intOf y).toNat)
    case atStart => exact .inl ⟨rfl, rfl⟩
    case round =>
      rcases hrel with ⟨rfl, rfl⟩ | ⟨rfl, rfl⟩
      · go_wp2
        exact ⟨.inr ⟨by first | rfl | decide, rfl⟩, by simp only [intOf]; omega⟩
      · go_wp2
        go_ret2
        exact ⟨rfl, HL.out⟩

end Go.Proofs.Ytlkfaehfkapfnaa.num
