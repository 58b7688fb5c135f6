/-
  What spec.l01Short returns: the letter of a short escape, or 0.
-/
import Derived.Test.YtlnhfgkecifhdaaGreatDoorQuotePlain
import Derived.Test.YtlnhfgkecifhdaaGreatDoorOwn
import Derived.Test.YtlnhfgkecifhdaaGreatDoorRows
import Derived.WalkKit
import Derived.ProofKit
import Derived.OpenShut
import Derived.WalkLawsBesides
import Derived.Handy
namespace Go.Proofs.YtlnhfgkecifhdaaGreatDoor.quote
open Go.ChangeShapes Go.WideShapes Go.ChangeAt Go.RowKit
open Go.Proofs.YtlnhfgkecifhdaaGreatDoor.sign
set_option maxRecDepth 100000

theorem info5 : (Tryz.prog.info? 5).map (fun i => (i.zero, i.size, i.bytes)) = some (some (.int .u8 0), 1, 1) := by kernel_rfl
theorem oneB (x : UInt8) : (encB x).oneCell' = true := rfl

set_option maxHeartbeats 2000000 in
theorem short_34 (w : World) : Calls Tryz.prog 47 #[.int .u8 34] w fun e w' => e = .returned (.int .u8 34) ∧ Below w.heap.size w w' := by
  go_enter Tryz.func47, Tryz.ntmps47
  go_wp2
  go_rounds 8
  go_ret
  exact ⟨rfl, by go_grown⟩
set_option maxHeartbeats 2000000 in
theorem short_92 (w : World) : Calls Tryz.prog 47 #[.int .u8 92] w fun e w' => e = .returned (.int .u8 92) ∧ Below w.heap.size w w' := by
  go_enter Tryz.func47, Tryz.ntmps47
  go_wp2
  go_rounds 8
  go_ret
  exact ⟨rfl, by go_grown⟩
set_option maxHeartbeats 2000000 in
theorem short_8 (w : World) : Calls Tryz.prog 47 #[.int .u8 8] w fun e w' => e = .returned (.int .u8 98) ∧ Below w.heap.size w w' := by
  go_enter Tryz.func47, Tryz.ntmps47
  go_wp2
  go_rounds 8
  go_ret
  exact ⟨rfl, by go_grown⟩
set_option maxHeartbeats 2000000 in
theorem short_12 (w : World) : Calls Tryz.prog 47 #[.int .u8 12] w fun e w' => e = .returned (.int .u8 102) ∧ Below w.heap.size w w' := by
  go_enter Tryz.func47, Tryz.ntmps47
  go_wp2
  go_rounds 8
  go_ret
  exact ⟨rfl, by go_grown⟩
set_option maxHeartbeats 2000000 in
theorem short_10 (w : World) : Calls Tryz.prog 47 #[.int .u8 10] w fun e w' => e = .returned (.int .u8 110) ∧ Below w.heap.size w w' := by
  go_enter Tryz.func47, Tryz.ntmps47
  go_wp2
  go_rounds 8
  go_ret
  exact ⟨rfl, by go_grown⟩
set_option maxHeartbeats 2000000 in
theorem short_13 (w : World) : Calls Tryz.prog 47 #[.int .u8 13] w fun e w' => e = .returned (.int .u8 114) ∧ Below w.heap.size w w' := by
  go_enter Tryz.func47, Tryz.ntmps47
  go_wp2
  go_rounds 8
  go_ret
  exact ⟨rfl, by go_grown⟩
set_option maxHeartbeats 2000000 in
theorem short_9 (w : World) : Calls Tryz.prog 47 #[.int .u8 9] w fun e w' => e = .returned (.int .u8 116) ∧ Below w.heap.size w w' := by
  go_enter Tryz.func47, Tryz.ntmps47
  go_wp2
  go_rounds 8
  go_ret
  exact ⟨rfl, by go_grown⟩
set_option maxHeartbeats 2000000 in
theorem short_none (n : Nat) (w : World) (h : shortOf n = 0) : Calls Tryz.prog 47 #[.int .u8 n] w fun e w' => e = .returned (.int .u8 0) ∧ Below w.heap.size w w' := by
  have h1 : ((34 : Int) == (n : Int)) = false := by
    unfold shortOf at h; simp; intro e; have : n = 34 := by omega
    simp [this] at h
  have h2 : ((92 : Int) == (n : Int)) = false := by
    unfold shortOf at h; simp; intro e; have : n = 92 := by omega
    simp [this] at h
  have h3 : ((8 : Int) == (n : Int)) = false := by
    unfold shortOf at h; simp; intro e; have : n = 8 := by omega
    simp [this] at h
  have h4 : ((12 : Int) == (n : Int)) = false := by
    unfold shortOf at h; simp; intro e; have : n = 12 := by omega
    simp [this] at h
  have h5 : ((10 : Int) == (n : Int)) = false := by
    unfold shortOf at h; simp; intro e; have : n = 10 := by omega
    simp [this] at h
  have h6 : ((13 : Int) == (n : Int)) = false := by
    unfold shortOf at h; simp; intro e; have : n = 13 := by omega
    simp [this] at h
  have h7 : ((9 : Int) == (n : Int)) = false := by
    unfold shortOf at h; simp; intro e; have : n = 9 := by omega
    simp [this] at h
  clear h
  go_enter Tryz.func47, Tryz.ntmps47
  go_wp2
  go_rounds 8
  go_ret
  exact ⟨rfl, by go_grown⟩
theorem short_any (n : Nat) (w : World) : Calls Tryz.prog 47 #[.int .u8 n] w fun e w' => e = .returned (.int .u8 (shortOf n : Nat)) ∧ Below w.heap.size w w' := by
  by_cases h : shortOf n = 0
  · rw [h]; exact short_none n w h
  · have hc : n = 34 ∨ n = 92 ∨ n = 8 ∨ n = 12 ∨ n = 10 ∨ n = 13 ∨ n = 9 := by
      unfold shortOf at h; (repeat' split at h) <;> omega
    rcases hc with rfl | rfl | rfl | rfl | rfl | rfl | rfl
    · exact short_34 w
    · exact short_92 w
    · exact short_8 w
    · exact short_12 w
    · exact short_10 w
    · exact short_13 w
    · exact short_9 w

end Go.Proofs.YtlnhfgkecifhdaaGreatDoor.quote
