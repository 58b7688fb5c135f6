/-
  What impl.GetSign returns, by the library's contract of utf8.DecodeRuneInString: as spec.GetSign. For texts of at most 1048576 bytes, every place.
-/
import Derived.Test.YtlnhfgkecifhdaaGreatDoorGetSignWalk
import Derived.Test.YtlnhfgkecifhdaaGreatDoorUtf8Tabs
namespace Go.Proofs.YtlnhfgkecifhdaaGreatDoor.getSign
open Go.ChangeShapes Go.WideShapes Go.ChangeAt Go.RowKit
open Go.Proofs.YtlnhfgkecifhdaaGreatDoor.sign
set_option maxRecDepth 100000

theorem decodeGo_at (s : ByteArray) (i : Nat) (hi : i < s.size) : Lib.decodeGo (s.extract i s.size) = Utf8.decode s i := by
  unfold Lib.decodeGo
  rw [size_extract, if_neg (by omega), decode_extract s i (by omega)]

set_option maxHeartbeats 1000000 in
theorem impl_in (s : ByteArray) (i : Nat) (w : World) (hs : s.size ≤ 1048576) (hi : i < s.size) (hT : Lib.Utf8Tabs 1 2 w) :
    Calls Tryz.prog 54 #[.string s, .int .i64 i] w fun e w' => e = .returned (signV s i) ∧ Below w.heap.size w w' := by
  obtain ⟨hd1, hd2, hd3⟩ := decode_bound s i
  have c := Tryz.utf8_DecodeRuneInString (s.extract i s.size) w hT
  rw [decodeGo_at s i hi] at c
  obtain ⟨N, M, e⟩ : ∃ N M, Utf8.decode s i = (N, M) := ⟨_, _, rfl⟩
  rw [e] at c hd1 hd2 hd3
  have C := Lib.hid c
  clear c hT
  have hi0 : (0 : Int) ≤ (i : Int) := by omega
  have hi1 : (i : Int) < (s.size : Int) := by omega
  simp only at hd1 hd2 hd3
  by_cases hN : N = 65533 ∧ M = 1
  · have E : Hid (signV s i = .tuple #[.int .i64 (-1), .int .i64 (-1)]) := signV_bad (by rw [e, hN.1, hN.2])
    clear e
    obtain ⟨rfl, rfl⟩ := hN
    go_enter Tryz.func54, Tryz.ntmps54
    go_wp2_with fail
    with_reducible refine C.out.mono ?_
    rintro e w1 ⟨rfl, hb⟩
    clear C
    go_wp2
    go_ret2
    exact ⟨by rw [E.out]; rfl, hb⟩
  · have E : Hid (signV s i = .tuple #[.int .i64 N, .int .i64 (i + M)]) := signV_ok e hN
    clear e
    by_cases h1 : N = 65533
    · subst h1
      have hM : ((M : Int) == 1) = false := by simp; omega
      clear hN
      go_enter Tryz.func54, Tryz.ntmps54
      go_wp2_with fail
      with_reducible refine C.out.mono ?_
      rintro e w1 ⟨rfl, hb⟩
      clear C
      go_wp2
      go_ret2
      exact ⟨by rw [E.out]; rfl, hb⟩
    · have hM : ((N : Int) == 65533) = false := by simp; omega
      clear hN
      go_enter Tryz.func54, Tryz.ntmps54
      go_wp2_with fail
      with_reducible refine C.out.mono ?_
      rintro e w1 ⟨rfl, hb⟩
      clear C
      go_wp2
      go_ret2
      exact ⟨by rw [E.out]; rfl, hb⟩

theorem impl_out (s : ByteArray) (i : Int) (w : World) (hs : s.size ≤ 1048576) (h : i < 0 ∨ (s.size : Int) ≤ i) :
    Calls Tryz.prog 54 #[.string s, .int .i64 i] w fun e w' => e = .returned (.tuple #[.int .i64 (-1), .int .i64 (-1)]) ∧ Below w.heap.size w w' := by
  rcases h with h | h
  all_goals
    go_enter Tryz.func54, Tryz.ntmps54
    go_wp2
    go_ret2
    exact ⟨rfl, Below.refl _ _⟩

/-- What stands at a place, inside the text or not. -/
def signAt (s : ByteArray) (i : Int) : Value := if 0 ≤ i ∧ i < s.size then signV s i.toNat else .tuple #[.int .i64 (-1), .int .i64 (-1)]
theorem spec_any (s : ByteArray) (i : Int) (w : World) (hs : s.size ≤ 1048576) :
    Calls Tryz.prog 38 #[.string s, .int .i64 i] w fun e w' => e = .returned (signAt s i) ∧ Below w.heap.size w w' := by
  unfold signAt
  by_cases h : 0 ≤ i ∧ i < s.size
  · rw [if_pos h]
    obtain ⟨k, rfl⟩ := Int.eq_ofNat_of_zero_le h.1
    rw [Int.toNat_natCast]
    exact spec_in s k w hs (by omega)
  · rw [if_neg h]
    exact spec_out s i w hs (by omega)
theorem impl_any (s : ByteArray) (i : Int) (w : World) (hs : s.size ≤ 1048576) (hT : Lib.Utf8Tabs 1 2 w) :
    Calls Tryz.prog 54 #[.string s, .int .i64 i] w fun e w' => e = .returned (signAt s i) ∧ Below w.heap.size w w' := by
  unfold signAt
  by_cases h : 0 ≤ i ∧ i < s.size
  · rw [if_pos h]
    obtain ⟨k, rfl⟩ := Int.eq_ofNat_of_zero_le h.1
    rw [Int.toNat_natCast]
    exact impl_in s k w hs (by omega) hT
  · rw [if_neg h]
    exact impl_out s i w hs (by omega)
/-- Both results are ints. -/
theorem signAt_ints (s : ByteArray) (i : Int) : ∃ a b : Int, signAt s i = .tuple #[.int .i64 a, .int .i64 b] := by
  unfold signAt signV
  (repeat' split) <;> exact ⟨_, _, rfl⟩
end Go.Proofs.YtlnhfgkecifhdaaGreatDoor.getSign
