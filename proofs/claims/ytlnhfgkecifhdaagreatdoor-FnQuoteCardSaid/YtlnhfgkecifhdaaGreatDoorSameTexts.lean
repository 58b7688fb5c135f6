/-
  laws.sameTexts of equal lists: true; nothing is written.
-/
import Derived.Test.YtlnhfgkecifhdaaGreatDoorStrRead
import Derived.WalkKit
import Derived.ProofKit
namespace Go.Proofs.YtlnhfgkecifhdaaGreatDoor.strs
open Go.ChangeShapes Go.WideShapes Go.ChangeAt Go.RowKit
set_option maxRecDepth 100000

set_option maxHeartbeats 1000000 in
theorem same_true (v1 v2 : Value) (l : List ByteArray) (w : World) (a1 a2 : Option Addr) (c1 c2 g1 g2 : Nat) (h1 : ReadS w v1 l a1 c1 g1) (h2 : ReadS w v2 l a2 c2 g2) (hl : l.length ≤ 1048577) :
    Calls Tryz.prog 24 #[v1, v2] w fun e w' => e = .returned (.bool true) ∧ ∃ n, w' = w.drewN n := by
  obtain ⟨rfl, ha1, hc1⟩ := h1
  obtain ⟨rfl, ha2, hc2⟩ := h2
  have HC1 := Lib.hid hc1
  have HC2 := Lib.hid hc2
  have HA1 := Lib.hid ha1
  have HA2 := Lib.hid ha2
  clear hc1 hc2 ha1 ha2
  go_enter Tryz.func24, Tryz.ntmps24
  go_wp2
  go_loopw [5] (fun i wr => ∃ k m : Nat, k ≤ l.length ∧ i = .int .i64 k ∧ wr = w.drewN m) (fun i _ => l.length - (intOf i).toNat)
  case atStart => exact ⟨0, 0, Nat.zero_le _, rfl, rfl⟩
  case round =>
    obtain ⟨k, m, hk, rfl, rfl⟩ := hrel
    by_cases hlt : k < l.length
    · have hk0 : (0 : Int) ≤ (k : Int) := by omega
      have hk1 : (k : Int) < (l.length : Int) := by omega
      obtain rfl := HA1.out (by omega)
      obtain rfl := HA2.out (by omega)
      obtain ⟨x, hx1, hx2⟩ : ∃ x, w.cell? ⟨g1, k, none⟩ = some (.string x) ∧ w.cell? ⟨g2, k, none⟩ = some (.string x) := ⟨_, HC1.out k hlt, HC2.out k hlt⟩
      go_wp2
      go_quiet (fail)
      go_wp2
      go_roundw
      case rel => exact ⟨k + 1, _, by omega, by go_num, rfl⟩
      case measure => simp [intOf]; omega
    · go_wp2
      go_ret
      exact ⟨rfl, _, rfl⟩

end Go.Proofs.YtlnhfgkecifhdaaGreatDoor.strs
