/-
  What impl.PutHead returns: the shortest head of a major type and a number.
-/
import Derived.Test.YtnaghafmpncdkaaDoorHeadImpl
namespace Go.Proofs.YtnaghafmpncdkaaDoor.head
open Go.ChangeShapes Go.WideShapes Go.ChangeAt Go.RowKit
set_option maxRecDepth 100000

theorem Wr.new (W : World) : Wr (W.alloc (.cells #[.slice none 0 0] 167)) W.heap.size (.slice none 0 0) [] := ⟨heap_alloc_new W _, OwnL.nil _ _ _ _⟩

set_option maxHeartbeats 1000000 in
theorem impl_any (m : Int) (n : Nat) (hn : n < 18446744073709551616) (w : World) :
    Calls Tryd.prog 103 #[.int .i64 m, .int .u64 n] w fun e w' => e = .returned (.string (putHead m n)) ∧ Below w.heap.size w w' := by
  by_cases h : 0 ≤ m ∧ m ≤ 7
  · obtain ⟨k, rfl⟩ : ∃ k : Nat, m = k := ⟨m.toNat, by omega⟩
    have HV : Hid (putHead k n = ⟨(headL k n).toArray⟩) := by unfold Hid putHead; rw [if_pos h]; rfl
    have C := Lib.hid (put_any k n w.heap.size _ [] (by omega) hn (by simp) _ (Wr.new w))
    generalize putHead k n = R at *
    have h1 : ¬ (k : Int) < 0 := by omega
    have h2 : ¬ (8 : Int) ≤ (k : Int) := by omega
    clear h hn
    go_enter Tryd.func103, Tryd.ntmps103
    go_wp2_with fail
    with_reducible refine C.out.mono ?_
    rintro r w1 ⟨⟨u, rfl⟩, ⟨⟨v, hw⟩, hb⟩⟩
    rw [List.nil_append] at hw
    obtain ⟨a, c, rfl, _⟩ := hw.own.shape
    have hc := run_string_own (P := Tryd.prog) 109 5 9 Tryd.underlying109 Tryd.underlying5 Tryd.underlying9 hw.own
    have hcell := hw.cell
    have HB : Hid (Below w.heap.size w w1) := ((Below.refl _ _).alloc (Nat.le_refl _) _).trans hb
    clear hw hb C
    go_wp2
    go_ret
    exact ⟨by rw [HV.out]; rfl, HB.out⟩
  · have HV : Hid (putHead m n = ⟨#[]⟩) := by unfold Hid putHead; rw [if_neg h]
    by_cases h1 : m < 0
    · clear h
      go_enter Tryd.func103, Tryd.ntmps103
      go_wp2
      go_ret
      exact ⟨by rw [HV.out]; rfl, Below.refl _ _⟩
    · have h2 : (8 : Int) ≤ m := by omega
      clear h
      go_enter Tryd.func103, Tryd.ntmps103
      go_wp2
      go_ret
      exact ⟨by rw [HV.out]; rfl, Below.refl _ _⟩

end Go.Proofs.YtnaghafmpncdkaaDoor.head
