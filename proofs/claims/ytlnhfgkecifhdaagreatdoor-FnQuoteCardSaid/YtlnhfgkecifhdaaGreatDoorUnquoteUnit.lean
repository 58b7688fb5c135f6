/-
  What spec.l01Unit, impl.hexValue and impl.getFourDigits return: the number of four hexadecimal digits, or -1. For texts of at most 1048576 bytes.
-/
import Derived.Test.YtlnhfgkecifhdaaGreatDoorUnquotePlain
import Derived.Test.YtlnhfgkecifhdaaGreatDoorQuoteShort
import Derived.Laws.BytesArg
import Derived.Lib.ConvBytes
namespace Go.Proofs.YtlnhfgkecifhdaaGreatDoor.unquote
open Go.ChangeShapes Go.WideShapes Go.ChangeAt Go.RowKit
open Go.Proofs.YtlnhfgkecifhdaaGreatDoor.sign Go.Proofs.YtlnhfgkecifhdaaGreatDoor.getHex
set_option maxRecDepth 100000

theorem wrapB (b : UInt8) : wrap64 (b.toNat : Int) = b.toNat := by have := b.toNat_lt; unfold wrap64; omega

theorem in_any (x a b : Int) (w : World) : Calls Tryz.prog 46 #[.int .i64 x, .int .i64 a, .int .i64 b] w fun e w' => e = .returned (.bool (decide (a ≤ x) && decide (x ≤ b))) ∧ w = w' := by
  by_cases h0 : a ≤ x
  · by_cases h1 : x ≤ b
    · rw [decide_eq_true h0, decide_eq_true h1]
      go_enter Tryz.func46, Tryz.ntmps46
      go_wp2
      go_ret
      exact ⟨rfl, rfl⟩
    · rw [decide_eq_true h0, decide_eq_false h1]
      go_enter Tryz.func46, Tryz.ntmps46
      go_wp2
      go_ret
      exact ⟨rfl, rfl⟩
  · rw [decide_eq_false h0]
    go_enter Tryz.func46, Tryz.ntmps46
    go_wp2
    go_ret
    exact ⟨rfl, rfl⟩

set_option maxHeartbeats 1000000 in
theorem unit_spec (s : ByteArray) (i : Nat) (w : World) (hs : s.size ≤ 1048576) (hi : i ≤ 2000000) :
    Calls Tryz.prog 57 #[.string s, .int .i64 i] w fun e w' => e = .returned (.int .i64 (unit s i)) ∧ w = w' := by
  by_cases h4 : i + 4 ≤ s.size
  · have h4' : ¬ (i : Int) > (s.size : Int) - 4 := by omega
    have R0 := UnitRel.start h4
    generalize HU : unit s i = U at *
    go_enter Tryz.func57, Tryz.ntmps57
    go_wp2
    go_loopw [5, 6] (fun n k wr => ∃ (j : Nat) (N : Int), j ≤ 4 ∧ n = .int .i64 N ∧ k = .int .i64 ((i : Int) + (j : Int)) ∧ UnitRel s i j N ∧ w = wr) (fun _ k _ => i + 4 - (intOf k).toNat)
    case atStart => exact ⟨0, 0, by omega, rfl, by simp, R0, rfl⟩
    case round =>
      obtain ⟨j, N, hj, rfl, rfl, R, rfl⟩ := hrel
      have hlo := R.lo
      have hhi := R.lt hj
      have hij0 : (0 : Int) ≤ (i : Int) + (j : Int) := by omega
      by_cases hlt : j < 4
      · have hlt' : (i : Int) + (j : Int) < (i : Int) + 4 := by omega
        have hij1 : (i : Int) + (j : Int) < (s.size : Int) := by omega
        have hij2 : i + j < s.size := by omega
        have et : ((i : Int) + (j : Int)).toNat = i + j := by omega
        have HA := Lib.hid (at_eq s (i + j) hij2)
        have hb := s[i + j].toNat_lt
        have hwb := wrapB
        obtain ⟨V, hV0, hV1, HV⟩ : ∃ V, -1 ≤ V ∧ V ≤ 15 ∧ Hid (V = hexV s[i + j]) := ⟨hexV s[i + j], (hexV_range _).1, (hexV_range _).2, rfl⟩
        have IN := Lib.hid (in_any s[i + j].toNat 65 70 w)
        obtain ⟨q, HQ, C⟩ : ∃ q : Bool, Hid ((decide ((65 : Int) ≤ s[i + j].toNat) && decide ((s[i + j].toNat : Int) ≤ 70)) = q) ∧ Hid (Calls Tryz.prog 44 #[.int .u8 (if q then (s[i + j].toNat : Int) + 32 else s[i + j].toNat)] w fun e w' => e = .returned (.int .i64 V) ∧ w' = w) := by
          by_cases hup : 65 ≤ s[i + j].toNat ∧ s[i + j].toNat ≤ 70
          · refine ⟨true, by unfold Hid; simp; omega, ?_⟩
            obtain ⟨e1, e2⟩ := hexV_up s[i + j] hup.1 hup.2
            have C := digit_any (s[i + j] + 32) w
            rw [← e1, ← HV.out, e2] at C
            exact C
          · refine ⟨false, by unfold Hid; simp; omega, ?_⟩
            have C := digit_any s[i + j] w
            rw [← hexV_else _ hup, ← HV.out] at C
            exact C
        rw [HQ.out] at IN
        have R1 : Hid ((V < 0 → U = -1) ∧ (0 ≤ V → UnitRel s i (j + 1) (16 * N + V))) := by
          have e : V = hexV (at_ s (i + j)) := by rw [HV.out, HA.out]
          refine ⟨fun h => ?_, fun h => ?_⟩
          · rw [← HU]; exact R.bad hlt (by omega)
          · rw [e]; exact R.step hlt (by omega)
        have hq : q = true → (s[i + j].toNat : Int) ≤ 70 := by
          intro h; have := HQ.out; rw [h] at this; simp at this; omega
        clear HV HA R HQ
        cases q
        · clear hq
          simp only [Bool.false_eq_true, if_false] at C
          go_wp2_with fail
          with_reducible refine IN.out.mono ?_
          rintro e w1 ⟨rfl, rfl⟩
          go_wp2_with fail
          with_reducible refine C.out.mono ?_
          rintro e w1 ⟨rfl, rfl⟩
          by_cases hv : V < 0
          · go_wp2
            go_ret
            exact ⟨by rw [R1.out.1 hv]; rfl, rfl⟩
          · go_wp2
            go_roundw
            case rel => exact ⟨j + 1, 16 * N + V, by omega, by go_num, by go_num, R1.out.2 (by omega), by first | rfl | trivial⟩
            case measure => simp [intOf]; omega
        · have hq' := hq rfl
          clear hq
          simp only [if_true] at C
          go_wp2_with fail
          with_reducible refine IN.out.mono ?_
          rintro e w1 ⟨rfl, rfl⟩
          go_wp2_with fail
          with_reducible refine C.out.mono ?_
          rintro e w1 ⟨rfl, rfl⟩
          by_cases hv : V < 0
          · go_wp2
            go_ret
            exact ⟨by rw [R1.out.1 hv]; rfl, rfl⟩
          · go_wp2
            go_roundw
            case rel => exact ⟨j + 1, 16 * N + V, by omega, by go_num, by go_num, R1.out.2 (by omega), by first | rfl | trivial⟩
            case measure => simp [intOf]; omega
      · have hlt' : ¬ (i : Int) + (j : Int) < (i : Int) + 4 := by omega
        have HD := Lib.hid (R.done (by omega))
        go_wp2
        go_ret
        exact ⟨by rw [← HU, HD.out]; rfl, rfl⟩
  · have h4' : (i : Int) > (s.size : Int) - 4 := by omega
    rw [unit_short h4]
    go_enter Tryz.func57, Tryz.ntmps57
    go_wp2
    go_ret
    exact ⟨rfl, rfl⟩

theorem hex_impl (b : UInt8) (w : World) : Calls Tryz.prog 91 #[.int .u8 b.toNat] w fun e w' => e = .returned (.int .i64 (hexV b)) ∧ w = w' := by
  have hb := b.toNat_lt
  by_cases h : 65 ≤ b.toNat ∧ b.toNat ≤ 70
  · obtain ⟨e1, e2⟩ := hexV_up b h.1 h.2
    rw [e1]
    have h0 := h.1
    have h1 := h.2
    have C := Lib.hid (index_any (b + 32) w)
    rw [e2] at C
    generalize digitVal (b + 32) = r at *
    clear e1 e2 h
    go_enter Tryz.func91, Tryz.ntmps91
    go_wp2_with fail
    with_reducible refine C.out.mono ?_
    rintro e w1 ⟨rfl, rfl⟩
    go_wp2
    go_ret
    exact ⟨rfl, rfl⟩
  · rw [hexV_else b h]
    have C := Lib.hid (index_any b w)
    generalize digitVal b = r at *
    by_cases h0 : 65 ≤ b.toNat
    · have h1 : ¬ b.toNat ≤ 70 := by omega
      clear h
      go_enter Tryz.func91, Tryz.ntmps91
      go_wp2_with fail
      with_reducible refine C.out.mono ?_
      rintro e w1 ⟨rfl, rfl⟩
      go_wp2
      go_ret
      exact ⟨rfl, rfl⟩
    · clear h
      go_enter Tryz.func91, Tryz.ntmps91
      go_wp2_with fail
      with_reducible refine C.out.mono ?_
      rintro e w1 ⟨rfl, rfl⟩
      go_wp2
      go_ret
      exact ⟨rfl, rfl⟩

theorem extract_at (s : ByteArray) (i j : Nat) (hj : j < 4) (_ : i + 4 ≤ s.size) : (s.extract i (i + 4)).data.toList.getD j 0 = at_ s (i + j) := by
  rw [Lib.extract_data, show i + 4 - i = 4 by omega]
  unfold at_
  rw [List.getD_eq_getElem?_getD, List.getD_eq_getElem?_getD, List.getElem?_take_of_lt hj, List.getElem?_drop]
structure Four (s : ByteArray) (i : Nat) (w W : World) (cap : Nat) : Prop where
  run : (convert 9 22 (.string (s.extract i (i + 4)))).run Tryz.prog w = .ok (.slice (some ⟨w.heap.size, 0, none⟩) 4 cap) W
  below : Below w.heap.size w W
  cell : ∀ j, j < 4 → W.cell? ⟨w.heap.size, j, none⟩ = some (.int .u8 (at_ s (i + j)).toNat)
theorem four_of (s : ByteArray) (i : Nat) (w : World) (h : i + 4 ≤ s.size) : ∃ W cap, Four s i w W cap := by
  have hz : (s.extract i (i + 4)).size = 4 := by rw [ByteArray.size_extract]; omega
  have hr := Lib.run_convert_string_bytes (P := Tryz.prog) w 9 22 5 (s.extract i (i + 4)) Tryz.underlying9 Tryz.underlying22 Tryz.underlying5
  rw [hz] at hr
  refine ⟨_, _, hr, ⟨rfl, rfl, rfl, by rw [Lib.bytesWorld_size]; omega, fun k hk => Lib.bytesWorld_at_old w _ _ k hk⟩, fun j hj => ?_⟩
  rw [Lib.bytesWorld_cell _ _ _ _ (by omega), extract_at s i j hj h]

def next4 (s : ByteArray) (i : Nat) : Int := if unit s i < 0 then -1 else (i : Int) + 4
theorem next4_bad {s : ByteArray} {i : Nat} (h : unit s i = -1) : next4 s i = -1 := by unfold next4; rw [h]; rfl
theorem next4_ok {s : ByteArray} {i : Nat} (h : 0 ≤ unit s i) : next4 s i = (i : Int) + 4 := by unfold next4; rw [if_neg (by omega)]
theorem ret_ints {a b c d : Int} (h : a = b) (h' : c = d) : Ending.returned (.tuple #[.int .i64 a, .int .i64 c]) = .returned (.tuple #[.int .i64 b, .int .i64 d]) := by rw [h, h']

set_option maxHeartbeats 1000000 in
theorem four_impl (s : ByteArray) (i : Nat) (w : World) (hs : s.size ≤ 1048576) (hi : i ≤ s.size) :
    Calls Tryz.prog 78 #[.string s, .int .i64 i] w fun e w' => e = .returned (.tuple #[.int .i64 (unit s i), .int .i64 (next4 s i)]) ∧ Below w.heap.size w w' := by
  by_cases h4 : i + 4 ≤ s.size
  · have h4' : ¬ (s.size : Int) - (i : Int) < 4 := by omega
    have h40 : (0 : Int) ≤ (i : Int) := by omega
    have h41 : (i : Int) + 4 ≤ (s.size : Int) := by omega
    have h42 : (0 : Int) ≤ (i : Int) + 4 := by omega
    have h43 : (i : Int) ≤ (i : Int) + 4 := by omega
    have h44 : ((i : Int) + 4).toNat = i + 4 := by omega
    have R0 := UnitRel.start h4
    obtain ⟨W, cap, F4⟩ := four_of s i w h4
    have hcv := F4.run
    have hbW := F4.below
    have HC := Lib.hid F4.cell
    clear F4
    have HN0 := Lib.hid (@next4_bad s i)
    have HN1 := Lib.hid (@next4_ok s i)
    generalize HU : unit s i = U at *
    generalize next4 s i = X at *
    go_enter Tryz.func78, Tryz.ntmps78
    go_wp2
    go_loopw [6, 22] (fun n k wr => ∃ (j : Nat) (N : Int), j ≤ 4 ∧ n = .int .i64 N ∧ k = .int .i64 (j : Int) ∧ UnitRel s i j N ∧ W = wr) (fun _ k _ => 4 - (intOf k).toNat)
    case atStart => exact ⟨0, 0, by omega, rfl, rfl, R0, rfl⟩
    case round =>
      obtain ⟨j, N, hj, rfl, rfl, R, rfl⟩ := hrel
      have hlo := R.lo
      have hhi := R.lt hj
      have hj0 : (0 : Int) ≤ (j : Int) := by omega
      by_cases hlt : j < 4
      · have hlt' : (j : Int) < 4 := by omega
        have hcell := HC.out j hlt
        obtain ⟨V, hV0, hV1, HV⟩ : ∃ V, -1 ≤ V ∧ V ≤ 15 ∧ Hid (V = hexV (at_ s (i + j))) := ⟨hexV (at_ s (i + j)), (hexV_range _).1, (hexV_range _).2, rfl⟩
        have C := Lib.hid (hex_impl (at_ s (i + j)) W)
        rw [← HV.out] at C
        have R1 : Hid ((V < 0 → U = -1) ∧ (0 ≤ V → UnitRel s i (j + 1) (16 * N + V))) := by
          refine ⟨fun h => ?_, fun h => ?_⟩
          · rw [← HU]; exact R.bad hlt (by rw [← HV.out]; exact h)
          · rw [HV.out]; exact R.step hlt (by rw [← HV.out]; omega)
        clear HV R hcv
        go_wp2_with fail
        with_reducible refine C.out.mono ?_
        rintro e w1 ⟨rfl, rfl⟩
        by_cases hv : V < 0
        · go_wp2
          go_ret2
          exact ⟨ret_ints (R1.out.1 hv).symm (HN0.out (R1.out.1 hv)).symm, hbW⟩
        · go_wp2
          go_roundw
          case rel => exact ⟨j + 1, 16 * N + V, by omega, by go_num, by go_num, R1.out.2 (by omega), by first | rfl | trivial⟩
          case measure => simp [intOf]; omega
      · have hlt' : ¬ (j : Int) < 4 := by omega
        have HD := Lib.hid (R.done (by omega))
        go_wp2
        go_ret2
        exact ⟨ret_ints (by rw [← HU, HD.out]) (HN1.out (by rw [← HU, HD.out]; exact hlo)).symm, hbW⟩
  · have h4' : (s.size : Int) - (i : Int) < 4 := by omega
    rw [next4_bad (unit_short h4), unit_short h4]
    go_enter Tryz.func78, Tryz.ntmps78
    go_wp2
    go_ret2
    exact ⟨rfl, Below.refl _ _⟩

end Go.Proofs.YtlnhfgkecifhdaaGreatDoor.unquote
