/-
  What impl.Unquote returns. For texts of at most 1048576 bytes.
-/
import Derived.Test.YtlnhfgkecifhdaaGreatDoorUnquoteEsc
import Derived.Test.YtlnhfgkecifhdaaGreatDoorUtf8Tabs
namespace Go.Proofs.YtlnhfgkecifhdaaGreatDoor.unquote
open Go.ChangeShapes Go.WideShapes Go.ChangeAt Go.RowKit
open Go.Proofs.YtlnhfgkecifhdaaGreatDoor.sign Go.Proofs.YtlnhfgkecifhdaaGreatDoor.getHex
set_option maxRecDepth 100000

theorem ret_si {a b : ByteArray} {c d : Int} (h : a = b) (h' : c = d) : Ending.returned (.tuple #[.string a, .int .i64 c]) = .returned (.tuple #[.string b, .int .i64 d]) := by rw [h, h']
theorem rune_cells (r : Int) : Lib.runeCells r = (Lib.encodeRune r).map encB := by
  unfold Lib.runeCells Lib.encodeRune
  rw [List.map_map]
  apply List.map_congr_left
  intro x hx
  have hb := Lib.encodeRuneZ_byte r x hx
  simp [encB]
  omega
theorem grown_after {a b c : World} {row : Option Nat} (h : Below a.heap.size a b) (k : b.grownBy c row) : a.grownBy c row :=
  ⟨k.os.trans h.os, k.tape.trans h.tape, k.output.trans h.output, Nat.le_trans h.size k.size, fun i hi hn => (k.block i (Nat.lt_of_lt_of_le hi h.size) hn).trans (h.block i hi)⟩
theorem append_any (v : Value) (l : List UInt8) (r : Int) (w : World) (B : Nat) (h0 : 0 ≤ r) (h1 : r ≤ 1114111) (hown : OwnL w B 5 encB v l) (hB : B ≤ w.heap.size) (hl : l.length ≤ 8000000) :
    Calls Tryz.prog 37 #[v, .int .i32 r] w fun e w' => ∃ v', e = .returned v' ∧ OwnL w' B 5 encB v' (l ++ Lib.encodeRune r) ∧ w.grownBy w' v.ownBlock := by
  refine (Tryz.utf8_AppendRune_plain B v _ _ r (by omega) (by omega) w hown (by omega) hB).mono ?_
  rintro e w1 ⟨v', rfl, hown1, o, hg⟩
  refine ⟨v', rfl, ?_, grown_after ((Below.refl _ _).alloc (Nat.le_refl _) _) hg⟩
  unfold OwnL
  rw [rune_cells, List.length_map] at hown1
  rw [List.length_append, List.map_append]
  exact hown1

set_option maxHeartbeats 2000000 in
theorem impl_in (s : ByteArray) (i : Nat) (w : World) (hs : s.size ≤ 1048576) (hi : i < s.size) (hq : (at_ s i).toNat = 34) (hT : shortTab.Tab w) (hU : Lib.Utf8Tabs 1 2 w) (R : ByteArray × Int) (hR : R = run s (s.size + 1) (i + 1) []) :
    Calls Tryz.prog 8 #[.string s, .int .i64 i] w fun e w' => e = .returned (.tuple #[.string R.1, .int .i64 R.2]) ∧ Below w.heap.size w w' := by
  have R0 : Rel s (i + 1) (s.size + 1) [] R := ⟨hR.symm, by omega, by omega, by simp⟩
  have hc : (((s[i].toNat : Nat) : Int) != 34) = false := by rw [at_eq s i hi, hq]; rfl
  have hi0 : (0 : Int) ≤ (i : Int) := by omega
  have hi1 : (i : Int) < (s.size : Int) := by omega
  have hd0 : decide ((i : Int) < 0) = false := by simp
  have hd1 : decide ((s.size : Int) ≤ (i : Int)) = false := by simp; omega
  have hd2 : decide (s.size ≤ i) = false := by simp; omega
  have HT := Lib.hid hT
  have HU := Lib.hid hU
  clear hR hq hT hU
  go_enter Tryz.func8, Tryz.ntmps8
  go_wp2
  go_loopw [1, 6] (fun k v wr => ∃ (pos f : Nat) (acc : List UInt8), k = .int .i64 (pos : Int) ∧ OwnL wr w.heap.size 5 encB v acc ∧ Rel s pos f acc R ∧ Below w.heap.size w wr) (fun k _ _ => s.size - (intOf k).toNat)
  case atStart => exact ⟨i + 1, s.size + 1, [], by go_num, OwnL.empty _ _ _ (Nat.le_refl _), R0, (Below.refl _ _).alloc (Nat.le_refl _) _⟩
  case round =>
    clear hc R0
    obtain ⟨pos, f, acc, rfl, hown, RR, hb⟩ := hrel
    have hz := hb.size
    have hple := RR.le
    have hlen := RR.len
    have hp0 : (0 : Int) ≤ (pos : Int) := by omega
    by_cases hlt : pos < s.size
    · have hp1 : (pos : Int) < (s.size : Int) := by omega
      have HA := Lib.hid (at_eq s pos hlt)
      by_cases hq : (at_ s pos).toNat = 34
      · have hc : (((s[pos].toNat : Nat) : Int) != 34) = false := by rw [HA.out, hq]; rfl
        have HR := Lib.hid (RR.close hlt hq)
        have hcv := run_string_own (P := Tryz.prog) 22 5 9 Tryz.underlying22 Tryz.underlying5 Tryz.underlying9 hown
        clear hq HA RR hown
        go_wp2
        go_ret2
        exact ⟨by rw [HR.out]; rfl, hb⟩
      · have hc : (((s[pos].toNat : Nat) : Int) != 34) = true := by rw [HA.out]; simp; omega
        have C := Lib.hid (quoted_impl s pos wr hs hlt (HT.out.below hb) (tabs.below HU.out hb))
        rcases step_cases s pos hlt with he | ⟨sg, nx, he, hs0, hs1, hn0, hn1, _⟩
        · have HR := Lib.hid (RR.bad hlt hq he)
          rw [he] at C
          clear hq HA RR hown he
          go_wp2_with fail
          with_reducible refine C.out.mono ?_
          rintro e w1 ⟨rfl, hb1⟩
          go_wp2
          go_ret2
          exact ⟨by rw [HR.out]; rfl, hb.trans (hb1.mono hz)⟩
        · have RS := RR.step hlt hq he
          rw [he] at C
          clear hq HA RR he
          go_wp2_with fail
          with_reducible refine C.out.mono ?_
          rintro e w1 ⟨rfl, hb1⟩
          clear C
          have hbb := hb.trans (hb1.mono hz)
          have hzz := hbb.size
          have hown1 := hown.below hb1
          have C2 := Lib.hid (append_any _ acc sg w1 w.heap.size hs0 hs1 hown1 hzz (by omega))
          clear hown
          go_wp2_with fail
          with_reducible refine C2.out.mono ?_
          rintro e w2 ⟨v2, rfl, hown2, hg2⟩
          have hb2 : Below w.heap.size w w2 := grown_below hbb hzz hown1 hg2
          clear hg2 C2 hown1
          go_wp2
          go_roundw
          case rel => exact ⟨nx, f - 1, acc ++ Lib.encodeRune sg, rfl, hown2, RS, hb2⟩
          case measure => simp [intOf]; omega
    · have hp1 : ¬ (pos : Int) < (s.size : Int) := by omega
      have HR := Lib.hid (RR.last hlt)
      clear RR hown
      go_wp2
      go_ret2
      exact ⟨by rw [HR.out]; rfl, hb⟩

end Go.Proofs.YtlnhfgkecifhdaaGreatDoor.unquote
