/-
  What spec.PutHex and impl.PutHex return: two lower-case digits a byte. For texts of at most 1048576 bytes.
-/
import Derived.Test.YtlnhfgkecifhdaaGreatDoorRows
import Derived.Test.YtlnhfgkecifhdaaGreatDoorOwn
import Derived.WalkKit
import Derived.ProofKit
import Derived.OpenShut
import Derived.WalkLawsBesides
import Derived.Laws.BitsLemmas
import Derived.Laws.MakeOwn
namespace Go.Proofs.YtlnhfgkecifhdaaGreatDoor.putHex
open Go.ChangeShapes Go.WideShapes Go.ChangeAt Go.RowKit

def hexDig (n : Nat) : UInt8 := if n < 10 then UInt8.ofNat (48 + n) else UInt8.ofNat (87 + n)
def hexOf (l : List UInt8) : List UInt8 := l.flatMap fun b => [hexDig (b.toNat / 16), hexDig (b.toNat % 16)]

theorem hexOf_length (l : List UInt8) : (hexOf l).length = 2 * l.length := by
  induction l with
  | nil => rfl
  | cons b l ih => simp only [hexOf, List.flatMap_cons, List.length_append, List.length_cons, List.length_nil] at *; omega
theorem take_snoc (s : ByteArray) (k : Nat) (h : k < s.size) : s.data.toList.take (k + 1) = s.data.toList.take k ++ [s[k]] := by
  rw [List.take_succ_eq_append_getElem (by simpa using h)]; rfl
theorem hexOf_snoc (s : ByteArray) (k : Nat) (h : k < s.size) : hexOf (s.data.toList.take (k + 1)) = hexOf (s.data.toList.take k) ++ [hexDig (s[k].toNat / 16), hexDig (s[k].toNat % 16)] := by
  rw [take_snoc s k h]; simp [hexOf]
theorem take_all (s : ByteArray) (k : Nat) (h : s.size ≤ k) : s.data.toList.take k = s.data.toList := List.take_of_length_le (by simpa using h)
theorem take_len (s : ByteArray) (k : Nat) (h : k ≤ s.size) : (s.data.toList.take k).length = k := by rw [List.length_take]; simp; omega

theorem info5 : (Tryz.prog.info? 5).map (fun i => (i.zero, i.size, i.bytes)) = some (some (.int .u8 0), 1, 1) := by kernel_rfl

theorem digit_at : ∀ (n : Nat) (h : n < (ByteArray.mk #[48, 49, 50, 51, 52, 53, 54, 55, 56, 57, 97, 98, 99, 100, 101, 102]).size),
    ((ByteArray.mk #[48, 49, 50, 51, 52, 53, 54, 55, 56, 57, 97, 98, 99, 100, 101, 102])[n].toNat) = (hexDig n).toNat := by
  intro n h
  have h' : n < 16 := h
  have : ∀ m : Fin 16, ((ByteArray.mk #[48, 49, 50, 51, 52, 53, 54, 55, 56, 57, 97, 98, 99, 100, 101, 102])[m.val]'(by exact m.isLt)).toNat = (hexDig m.val).toNat := by decide
  exact this ⟨n, h'⟩

theorem oneB (x : UInt8) : (encB x).oneCell' = true := rfl

set_option maxHeartbeats 400000 in
theorem spec_any (s : ByteArray) (w : World) (hs : s.size ≤ 1048576) :
    Calls Tryz.prog 21 #[.string s] w fun e w' => e = .returned (.string ⟨(hexOf s.data.toList).toArray⟩) ∧ Below w.heap.size w w' := by
  obtain ⟨i0, hi0, hz0, hz1, hz2⟩ := info_parts info5
  go_enter Tryz.func21, Tryz.ntmps21
  go_wp2
  go_loopw [3, 4] (fun v i wr => ∃ k : Nat, k ≤ s.size ∧ i = .int .i64 k ∧ OwnL wr w.heap.size 5 encB v (hexOf (s.data.toList.take k)) ∧ Below w.heap.size w wr) (fun _ i _ => s.size - (intOf i).toNat)
  case atStart => exact ⟨0, Nat.zero_le _, rfl, OwnL.empty _ _ _ (Nat.le_refl _), (Below.refl _ _).alloc (Nat.le_refl _) _⟩
  case round =>
    obtain ⟨k, hk, rfl, hown, hb⟩ := hrel
    have hsz := hb.size
    by_cases hlt : k < s.size
    · have hk0 : (0 : Int) ≤ (k : Int) := by omega
      have hk1 : (k : Int) < (s.size : Int) := by omega
      have hl : (hexOf (s.data.toList.take k)).length ≤ 2097152 := by rw [hexOf_length, take_len s k hk]; omega
      obtain ⟨q, hq, e1, HQ⟩ : ∃ q : Nat, q < 16 ∧ IntKind.u8.wrap ((s[k].toNat : Int) / 16) = (q : Int) ∧ Hid (q = s[k].toNat / 16) := ⟨s[k].toNat / 16, by have := s[k].toNat_lt; omega, by have := s[k].toNat_lt; rw [IntKind.wrap_u8]; omega, rfl⟩
      obtain ⟨r, hr, e2, HR⟩ : ∃ q : Nat, q < 16 ∧ ((s[k].toNat : Int)).tmod 16 = (q : Int) ∧ Hid (q = s[k].toNat % 16) := ⟨s[k].toNat % 16, by omega, by rw [Int.tmod_eq_emod_of_nonneg (by omega)]; omega, rfl⟩
      have hq1 : (q : Int) < 16 := by omega
      have hr1 : (r : Int) < 16 := by omega
      have hd := digit_at
      go_wp2
      go_region_law
        ((refine step_app (by rfl) _ _ _ (by rfl) w.heap.size 5 encB i0 _ 1 Tryz.underlying22 hi0 hz0 hz1 hz2 rfl oneB u3 (hexOf (s.data.toList.take k)) (by rfl) ((hown.alloc _).drew) wr.heap.size 2 2 [hexDig q, hexDig r] (by rfl) (by rfl) _ (heap_alloc_new wr _) (by rfl) (by unfold maxLen; omega) (by omega) (by simp; omega) ?_; intro v1 w1 hown1 hg1))
      all_goals go_wp2
      all_goals
        have hb1 : Below w.heap.size w w1 := grown_below ((hb.alloc hsz _).drew) (by simp; omega) ((hown.alloc _).drew) hg1
        go_roundw
        case rel => exact ⟨k + 1, by omega, by go_num, by rw [hexOf_snoc s k hlt, ← HQ.out, ← HR.out]; exact hown1, hb1⟩
        case measure => simp [intOf]; omega
    · have hc := run_string_own (P := Tryz.prog) 22 5 9 Tryz.underlying22 Tryz.underlying5 Tryz.underlying9 hown
      go_wp2
      go_ret
      exact ⟨by rw [take_all s k (by omega)]; rfl, hb⟩

set_option maxHeartbeats 400000 in
theorem impl_any (s : ByteArray) (w : World) (hs : s.size ≤ 1048576) :
    Calls Tryz.prog 11 #[.string s] w fun e w' => e = .returned (.string ⟨(hexOf s.data.toList).toArray⟩) ∧ Below w.heap.size w w' := by
  obtain ⟨i0, hi0, hz0, hz1, hz2⟩ := info_parts info5
  obtain ⟨wm, hmake, hown0, hg0⟩ := run_make_own (P := Tryz.prog) w w.heap.size 22 5 i0 _ 1 Tryz.underlying22 hi0 hz0 hz1 .i64 .i64 (2 * s.size) (by rw [hz2]; omega) (by unfold maxLen; omega) (Nat.le_refl _)
  have hm0 : (Instr.makeSlice 22 (.int .i64 0) (.int .i64 (2 * (s.size : Int)))).run Tryz.prog w = .ok (.slice (some ⟨w.heap.size, 0, none⟩) 0 (2 * s.size)) wm := by
    rw [← hmake]; congr 3
  have hb0 : Below w.heap.size w wm := (Below.refl _ _).grown hg0 (Nat.le_refl _) (by simp)
  have H0 := hown0
  clear hmake hg0 hown0
  have hs0 : (s.size : Int) ≤ 1048576 := by omega
  go_enter Tryz.func11, Tryz.ntmps11
  go_wp2
  go_loopw [3, 4] (fun v i wr => ∃ k : Nat, k ≤ s.size ∧ i = .int .i64 k ∧ OwnL wr w.heap.size 5 encB v (hexOf (s.data.toList.take k)) ∧ Below w.heap.size w wr) (fun _ i _ => s.size - (intOf i).toNat)
  case atStart => exact ⟨0, Nat.zero_le _, rfl, H0, hb0⟩
  case round =>
    obtain ⟨k, hk, rfl, hown, hb⟩ := hrel
    clear hm0 hb0 H0
    have hsz := hb.size
    by_cases hlt : k < s.size
    · have hk0 : (0 : Int) ≤ (k : Int) := by omega
      have hk1 : (k : Int) < (s.size : Int) := by omega
      have hl : (hexOf (s.data.toList.take k)).length ≤ 2097152 := by rw [hexOf_length, take_len s k hk]; omega
      obtain ⟨q, hq, e1, HQ⟩ : ∃ q : Nat, q < 16 ∧ ((s[k].toNat : Int) / 16) = (q : Int) ∧ Hid (q = s[k].toNat / 16) := ⟨s[k].toNat / 16, by have := s[k].toNat_lt; omega, by omega, rfl⟩
      obtain ⟨r, hr, e2, HR⟩ : ∃ q : Nat, q < 16 ∧ bits .and .u8 (s[k].toNat : Int) 15 = (q : Int) ∧ Hid (q = s[k].toNat % 16) := ⟨s[k].toNat % 16, by omega, by have := s[k].toNat_lt; rw [u8_and15 _ (by omega) (by omega)]; omega, rfl⟩
      have hq1 : (q : Int) < 16 := by omega
      have hr1 : (r : Int) < 16 := by omega
      have hd := digit_at
      go_wp2
      go_region_law
        ((refine step_app (by rfl) _ _ _ (by rfl) w.heap.size 5 encB i0 _ 1 Tryz.underlying22 hi0 hz0 hz1 hz2 rfl oneB u3 (hexOf (s.data.toList.take k)) (by rfl) ((hown.alloc _).drew) wr.heap.size 2 2 [hexDig q, hexDig r] (by rfl) (by rfl) _ (heap_alloc_new wr _) (by rfl) (by unfold maxLen; omega) (by omega) (by simp; omega) ?_; intro v1 w1 hown1 hg1))
      all_goals go_wp2
      all_goals
        have hb1 : Below w.heap.size w w1 := grown_below ((hb.alloc hsz _).drew) (by simp; omega) ((hown.alloc _).drew) hg1
        go_roundw
        case rel => exact ⟨k + 1, by omega, by go_num, by rw [hexOf_snoc s k hlt, ← HQ.out, ← HR.out]; exact hown1, hb1⟩
        case measure => simp [intOf]; omega
    · have hc := run_string_own (P := Tryz.prog) 22 5 9 Tryz.underlying22 Tryz.underlying5 Tryz.underlying9 hown
      go_wp2
      go_ret
      exact ⟨by rw [take_all s k (by omega)]; rfl, hb⟩

end Go.Proofs.YtlnhfgkecifhdaaGreatDoor.putHex
