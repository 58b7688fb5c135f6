/-
  What impl.getEscaped and impl.getQuoted return: the sign that stands or is escaped at a place. For texts of at most 1048576 bytes.
-/
import Derived.Test.YtlnhfgkecifhdaaGreatDoorUnquoteNum
import Derived.Test.YtlnhfgkecifhdaaGreatDoorShortTab
import Derived.Test.YtlnhfgkecifhdaaGreatDoorGetSignImpl
import Derived.Laws.Rows
namespace Go.Proofs.YtlnhfgkecifhdaaGreatDoor.unquote
open Go.ChangeShapes Go.WideShapes Go.ChangeAt Go.RowKit
open Go.Proofs.YtlnhfgkecifhdaaGreatDoor.sign Go.Proofs.YtlnhfgkecifhdaaGreatDoor.getHex
set_option maxRecDepth 100000

def sgn (j : Nat) : Nat := [34, 92, 8, 12, 10, 13, 9].getD j 0
def letr (j : Nat) : Nat := [34, 92, 98, 102, 110, 114, 116].getD j 0
theorem seven_cases {j : Nat} (h : j < 7) : j = 0 ∨ j = 1 ∨ j = 2 ∨ j = 3 ∨ j = 4 ∨ j = 5 ∨ j = 6 := by omega
theorem idx_any (w : World) (j : Nat) (hj : j < 7) : (Instr.index 67 (.agg shortTab.cells) (.int .i64 j)).run Tryz.prog w = .ok (.agg #[.int .u8 (sgn j : Nat), .int .u8 (letr j : Nat)]) w := by
  have hs : Tryz.prog.cellsOf 66 = 2 := by kernel_rfl
  rcases seven_cases hj with rfl | rfl | rfl | rfl | rfl | rfl | rfl
  all_goals simp [Instr.index, run_underlying Tryz.underlying67, asIntOf, go_sem, shortTab.cells, sgn, letr]
theorem letter_at {j : Nat} (hj : j < 7) : letterOf (letr j) = (sgn j : Nat) ∧ sgn j < 128 ∧ letr j < 128 := by
  rcases seven_cases hj with rfl | rfl | rfl | rfl | rfl | rfl | rfl <;> decide
theorem letter_none {c : Nat} (h : ∀ m, m < 7 → letr m ≠ c) : letterOf c = -1 := by
  have h0 : (34 : Nat) ≠ c := h 0 (by omega)
  have h1 : (92 : Nat) ≠ c := h 1 (by omega)
  have h2 : (98 : Nat) ≠ c := h 2 (by omega)
  have h3 : (102 : Nat) ≠ c := h 3 (by omega)
  have h4 : (110 : Nat) ≠ c := h 4 (by omega)
  have h5 : (114 : Nat) ≠ c := h 5 (by omega)
  have h6 : (116 : Nat) ≠ c := h 6 (by omega)
  unfold letterOf
  rw [if_neg (by omega), if_neg (by omega), if_neg (by omega), if_neg (by omega), if_neg (by omega), if_neg (by omega), if_neg (by omega)]

set_option maxHeartbeats 2000000 in
theorem esc_impl (s : ByteArray) (i : Nat) (w : World) (hs : s.size ≤ 1048576) (hT : shortTab.Tab w) (him : i ≤ 2000000) :
    Calls Tryz.prog 53 #[.string s, .int .i64 i] w fun e w' => e = .returned (.tuple #[.int .i64 (escOf s i).1, .int .i64 (escOf s i).2]) ∧ Below w.heap.size w w' := by
  by_cases hi : i < s.size
  · have hi0 : (0 : Int) ≤ (i : Int) := by omega
    have hi1 : (i : Int) < (s.size : Int) := by omega
    have HA := Lib.hid (at_eq s i hi)
    by_cases hu : (at_ s i).toNat = 117
    · have e : escOf s i = numbered s (i + 1) := by unfold escOf; rw [if_neg (by omega), if_pos hu]
      rw [e]
      have C := Lib.hid (fun w => num_impl s (i + 1) w hs (by omega))
      rw [show ((i + 1 : Nat) : Int) = (i : Int) + 1 by omega] at C
      generalize numbered s (i + 1) = R at *
      have hc : (((s[i].toNat : Nat) : Int) == 117) = true := by rw [HA.out, hu]; rfl
      clear e hu HA hT
      go_enter Tryz.func53, Tryz.ntmps53
      go_wp2_with fail
      with_reducible refine (C.out _).mono ?_
      rintro e w1 ⟨rfl, hb1⟩
      go_wp2
      go_ret2
      exact ⟨rfl, hb1⟩
    have hc : (((s[i].toNat : Nat) : Int) == 117) = false := by rw [HA.out]; simp; omega
    by_cases hsl : (at_ s i).toNat = 47
    · have e : escOf s i = (47, (i : Int) + 1) := by unfold escOf; rw [if_neg (by omega), if_neg hu, if_pos hsl]
      rw [e]
      have hc2 : (((s[i].toNat : Nat) : Int) == 47) = true := by rw [HA.out, hsl]; rfl
      clear e hu hsl HA hT
      go_enter Tryz.func53, Tryz.ntmps53
      go_wp2
      go_ret2
      exact ⟨rfl, Below.refl _ _⟩
    · have hc2 : (((s[i].toNat : Nat) : Int) == 47) = false := by rw [HA.out]; simp; omega
      have HE : Hid (escOf s i = if letterOf (at_ s i).toNat < 0 then (-1, -1) else (letterOf (at_ s i).toNat, (i : Int) + 1)) := by unfold Hid escOf; rw [if_neg (by omega), if_neg hu, if_neg hsl]
      obtain ⟨t, fr, hg⟩ := hT.block
      have HT := Lib.hid hg
      have hidx := idx_any
      rw [← HA.out] at HE
      clear hT hg hu hsl HA
      generalize escOf s i = R at *
      go_enter Tryz.func53, Tryz.ntmps53
      go_wp2_with (refine wpList_load_row rfl 67 _ rfl 0 rfl t _ fr _ HT.out Tryz.underlying67 rfl (by kernel_rfl) ?_)
      go_loopw [29] (fun k wr => ∃ j : Nat, j ≤ 7 ∧ k = .int .i64 (j : Int) ∧ Hid (∀ m, m < j → letr m ≠ s[i].toNat) ∧ Below w.heap.size w wr) (fun k _ => 7 - (intOf k).toNat)
      case atStart => exact ⟨0, by omega, rfl, fun m hm => by omega, Below.refl _ _⟩
      case round =>
        obtain ⟨j, hj, rfl, HL, hb⟩ := hrel
        have hz := hb.size
        have hj0 : (0 : Int) ≤ (j : Int) := by omega
        by_cases hlt : j < 7
        · have hlt' : (j : Int) < 7 := by omega
          have hix := fun w => hidx w j hlt
          have hlr := (letter_at hlt).2
          obtain ⟨e0, e1, e2⟩ := letter_at hlt
          have HR : Hid (letr j = s[i].toNat → R = ((sgn j : Int), (i : Int) + 1)) := by
            intro h
            rw [HE.out, ← h, e0, if_neg (by omega)]
          clear hidx HT HE e0
          generalize sgn j = A at *
          obtain ⟨L, HLR⟩ : ∃ L, Hid (letr j = L) := ⟨_, rfl⟩
          rw [HLR.out] at hix hlr HR e2
          go_wp2
          go_quiet (fail)
          have hbA : Below w.heap.size w ((wr.alloc (Obj.cells #[Value.int IntKind.u8 (A : Int), Value.int IntKind.u8 (L : Int)] 66)).drewN nq) := belowN (hb.alloc hz _) nq
          by_cases he : L = s[i].toNat
          · have he' : (((s[i].toNat : Nat) : Int) == (L : Int)) = true := by rw [he]; simp
            have HR' := Lib.hid (HR.out he)
            clear he HR HL
            go_wp2
            go_ret2
            exact ⟨by rw [HR'.out]; rfl, hbA⟩
          · have he' : (((s[i].toNat : Nat) : Int) == (L : Int)) = false := by simp; omega
            have HL' : Hid (∀ m, m < j + 1 → letr m ≠ s[i].toNat) := by
              intro m hm
              by_cases e : m = j
              · rw [e, HLR.out]; exact he
              · exact HL.out m (by omega)
            clear he HR HL
            go_wp2
            go_roundw
            case rel => exact ⟨j + 1, by omega, by go_num, HL', hbA⟩
            case measure => simp [intOf]; omega
        · have hlt' : ¬ (j : Int) < 7 := by omega
          have HR : Hid (R = (-1, -1)) := by
            unfold Hid
            rw [HE.out, letter_none (fun m hm => HL.out m (by omega))]
            rfl
          clear hidx HT HE HL
          go_wp2
          go_ret2
          exact ⟨by rw [HR.out]; rfl, hb⟩
  · have e : escOf s i = (-1, -1) := by unfold escOf; rw [if_pos (by omega)]
    rw [e]
    have hi1 : ¬ (i : Int) < (s.size : Int) := by omega
    clear e
    go_enter Tryz.func53, Tryz.ntmps53
    go_wp2
    go_ret2
    exact ⟨rfl, Below.refl _ _⟩

theorem low_one (s : ByteArray) (i : Nat) (hi : i < s.size) (h : (at_ s i).toNat < 32) : Utf8.decode s i = ((at_ s i).toNat, 1) := by
  have hb : byteN s i = (at_ s i).toNat := by rw [← at_eq s i hi, byteN_eq s i hi]
  have hn := decode_num s i
  rw [hn, (one_ok (n := s.size - i) (b1 := byteN s (i + 1)) (b2 := byteN s (i + 2)) (b3 := byteN s (i + 3)) (show byteN s i < 128 by omega)).1, hb]
theorem high_one (s : ByteArray) (i N M : Nat) (hi : i < s.size) (hd : Utf8.decode s i = (N, M)) (hok : Utf8.decode s i ≠ (65533, 1)) (h : 32 ≤ (at_ s i).toNat) : 32 ≤ N := by
  have hb := quote.decode_bytes s i N M hi hd hok
  by_cases hN : N < 32
  · have hd' := decode_bound s i
    rw [hd] at hd'
    simp only at hd'
    have hf := decode_fits s i hi
    rw [hd] at hf
    simp only at hf
    have hv := quote.decode_valid s i N M hi hd hok
    have e1 : (putSign N).data.toList = (s.extract i (i + M)).data.toList := by rw [hb]
    rw [putSign_valid hv, quote.encode_list hv, Lib.extract_data] at e1
    unfold Lib.encodeRune at e1
    rw [Lib.encodeRuneZ_one (by omega) (by omega)] at e1
    have h0 : i < s.data.toList.length := by simpa using hi
    rw [List.drop_eq_getElem_cons h0, show i + M - i = (M - 1) + 1 by omega, List.take_succ_cons] at e1
    have e2 : at_ s i = s.data.toList[i] := by unfold at_; rw [List.getD_eq_getElem?_getD, List.getElem?_eq_getElem h0]; rfl
    have e3 := (List.cons.inj e1).1
    rw [← e2] at e3
    rw [← e3] at h
    simp at h
    omega
  · omega

set_option maxHeartbeats 1000000 in
theorem quoted_impl (s : ByteArray) (i : Nat) (w : World) (hs : s.size ≤ 1048576) (hi : i < s.size) (hT : shortTab.Tab w) (hU : Lib.Utf8Tabs 1 2 w) :
    Calls Tryz.prog 36 #[.string s, .int .i64 i] w fun e w' => e = .returned (.tuple #[.int .i64 (stepOf s i).1, .int .i64 (stepOf s i).2]) ∧ Below w.heap.size w w' := by
  have hi0 : (0 : Int) ≤ (i : Int) := by omega
  have hi1 : (i : Int) < (s.size : Int) := by omega
  have HA := Lib.hid (at_eq s i hi)
  by_cases hq : (at_ s i).toNat = 92
  · have e : stepOf s i = escOf s (i + 1) := by unfold stepOf; rw [if_pos hq]
    rw [e]
    have C := Lib.hid (esc_impl s (i + 1) w hs hT (by omega))
    rw [show ((i + 1 : Nat) : Int) = (i : Int) + 1 by omega] at C
    generalize escOf s (i + 1) = R at *
    have hc : (((s[i].toNat : Nat) : Int) == 92) = true := by rw [HA.out, hq]; rfl
    clear e hq HA hT hU
    go_enter Tryz.func36, Tryz.ntmps36
    go_wp2_with fail
    with_reducible refine C.out.mono ?_
    rintro e w1 ⟨rfl, hb1⟩
    go_wp2
    go_ret2
    exact ⟨rfl, hb1⟩
  · have hc : (((s[i].toNat : Nat) : Int) == 92) = false := by rw [HA.out]; simp; omega
    have C0 := getSign.impl_in s i w hs hi hU
    by_cases hbad : (at_ s i).toNat < 32 ∨ Utf8.decode s i = (65533, 1)
    · have e : stepOf s i = (-1, -1) := by unfold stepOf; rw [if_neg hq, if_pos hbad]
      rw [e]
      obtain ⟨x, y, hx, C⟩ : ∃ x y : Int, x < 32 ∧ Hid (Calls Tryz.prog 54 #[.string s, .int .i64 i] w fun e w' => e = .returned (.tuple #[.int .i64 x, .int .i64 y]) ∧ Below w.heap.size w w') := by
        by_cases hd : Utf8.decode s i = (65533, 1)
        · rw [getSign.signV_bad hd] at C0
          exact ⟨-1, -1, by omega, C0⟩
        · have hl : (at_ s i).toNat < 32 := hbad.resolve_right hd
          rw [getSign.signV_ok (low_one s i hi hl) (by omega)] at C0
          exact ⟨_, _, by omega, C0⟩
      clear e hq HA hT hU C0 hbad
      go_enter Tryz.func36, Tryz.ntmps36
      go_wp2_with fail
      with_reducible refine C.out.mono ?_
      rintro e w1 ⟨rfl, hb1⟩
      go_wp2
      go_ret2
      exact ⟨rfl, hb1⟩
    · obtain ⟨N, M, hd⟩ : ∃ N M, Utf8.decode s i = (N, M) := ⟨_, _, rfl⟩
      have hok : Utf8.decode s i ≠ (65533, 1) := fun e => hbad (.inr e)
      have e : stepOf s i = ((N : Int), (i : Int) + (M : Int)) := by unfold stepOf; rw [if_neg hq, if_neg hbad, hd]
      rw [e]
      have hN := high_one s i N M hi hd hok (by omega)
      rw [getSign.signV_ok hd (by rw [hd] at hok; simpa using hok)] at C0
      have C := Lib.hid C0
      have hN' : ¬ (N : Int) < 32 := by omega
      clear e hq HA hT hU C0 hbad hok hd
      go_enter Tryz.func36, Tryz.ntmps36
      go_wp2_with fail
      with_reducible refine C.out.mono ?_
      rintro e w1 ⟨rfl, hb1⟩
      go_wp2
      go_ret2
      exact ⟨rfl, hb1⟩

end Go.Proofs.YtlnhfgkecifhdaaGreatDoor.unquote
