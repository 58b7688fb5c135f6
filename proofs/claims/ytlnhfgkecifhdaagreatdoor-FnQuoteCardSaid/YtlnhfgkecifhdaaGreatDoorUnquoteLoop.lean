/-
  What spec.Unquote returns. For texts of at most 1048576 bytes.
-/
import Derived.Test.YtlnhfgkecifhdaaGreatDoorUnquoteSpec
namespace Go.Proofs.YtlnhfgkecifhdaaGreatDoor.unquote
open Go.ChangeShapes Go.WideShapes Go.ChangeAt Go.RowKit
open Go.Proofs.YtlnhfgkecifhdaaGreatDoor.sign Go.Proofs.YtlnhfgkecifhdaaGreatDoor.getHex
set_option maxRecDepth 100000

theorem cat_eq (acc : List UInt8) (sg : Int) (h : (0 ≤ sg ∧ sg < 55296) ∨ (57343 < sg ∧ sg ≤ 1114111)) : (ByteArray.mk acc.toArray) ++ putSign sg = ⟨(acc ++ Lib.encodeRune sg).toArray⟩ := by
  have hp := quote.encode_list (valid_of h)
  apply ByteArray.ext
  apply Array.toList_inj.1
  rw [putSign_valid (valid_of h)]
  simp [ByteArray.data_append, hp]

theorem cat_size {A Q : ByteArray} {acc e : List UInt8} (h : A ++ Q = ⟨(acc ++ e).toArray⟩) : A.size + Q.size = acc.length + e.length := by
  have h1 := congrArg ByteArray.size h
  rw [ByteArray.size_append] at h1
  rw [h1]
  show (acc ++ e).toArray.size = _
  simp

set_option maxHeartbeats 4000000 in
theorem spec_in (s : ByteArray) (i : Nat) (w : World) (hs : s.size ≤ 1048576) (hi : i < s.size) (hq : (at_ s i).toNat = 34) (R : ByteArray × Int) (hR : R = run s (s.size + 1) (i + 1) []) :
    Calls Tryz.prog 9 #[.string s, .int .i64 i] w fun e w' => e = .returned (.tuple #[.string R.1, .int .i64 R.2]) ∧ Below w.heap.size w w' := by
  have R0 : Rel s (i + 1) (s.size + 1) [] R := ⟨hR.symm, by omega, by omega, by simp⟩
  have hc : (((s[i].toNat : Nat) : Int) != 34) = false := by rw [at_eq s i hi, hq]; rfl
  have hi0 : (0 : Int) ≤ (i : Int) := by omega
  have hi1 : (i : Int) < (s.size : Int) := by omega
  have hd0 : decide ((i : Int) < 0) = false := by simp
  have hd1 : decide ((s.size : Int) ≤ (i : Int)) = false := by simp; omega
  have hd2 : decide (s.size ≤ i) = false := by simp; omega
  clear hR hq
  go_enter Tryz.func9, Tryz.ntmps9
  go_wp2
  go_loopw [1, 6] (fun k v wr => ∃ (pos f : Nat) (acc : List UInt8), k = .int .i64 (pos : Int) ∧ v = .string ⟨acc.toArray⟩ ∧ Rel s pos f acc R ∧ Below w.heap.size w wr) (fun k _ _ => s.size - (intOf k).toNat)
  case atStart => exact ⟨i + 1, s.size + 1, [], by go_num, rfl, R0, Below.refl _ _⟩
  case round =>
    clear hc R0
    obtain ⟨pos, f, acc, rfl, rfl, RR, hb⟩ := hrel
    have hz := hb.size
    have hple := RR.le
    have hlen := RR.len
    have hp0 : (0 : Int) ≤ (pos : Int) := by omega
    by_cases hlt : pos < s.size
    · have hp1 : (pos : Int) < (s.size : Int) := by omega
      have HA := Lib.hid (at_eq s pos hlt)
      by_cases hq : (at_ s pos).toNat = 34
      · have hc : (((s[pos].toNat : Nat) : Int) != 34) = false := by rw [HA.out, hq]; rfl
        have HR := Lib.hid (RR.close hlt hq)
        clear hq HA RR
        go_wp2
        go_ret2
        exact ⟨by rw [HR.out]; rfl, hb⟩
      · have hc : (((s[pos].toNat : Nat) : Int) != 34) = true := by rw [HA.out]; simp; omega
        have CG0 := getSign.spec_in s pos wr hs hlt
        have hbs := s[pos].toNat_lt
        by_cases h92 : (at_ s pos).toNat = 92
        · have hc9 : (((s[pos].toNat : Nat) : Int) == 92) = true := by rw [HA.out, h92]; rfl
          have hn32 : ¬ ((s[pos].toNat : Nat) : Int) < 32 := by rw [HA.out, h92]; omega
          obtain ⟨x, y, CG⟩ : ∃ x y : Int, Hid (Calls Tryz.prog 38 #[.string s, .int .i64 pos] wr fun e w' => e = .returned (.tuple #[.int .i64 x, .int .i64 y]) ∧ Below wr.heap.size wr w') := by
            by_cases hd : Utf8.decode s pos = (65533, 1)
            · rw [getSign.signV_bad hd] at CG0; exact ⟨_, _, CG0⟩
            · rw [getSign.signV_ok (N := (Utf8.decode s pos).1) (M := (Utf8.decode s pos).2) rfl (fun h => hd (Prod.ext h.1 h.2))] at CG0; exact ⟨_, _, CG0⟩
          have CP := Lib.hid (fun w => putSign.spec_any x w)
          have CE := Lib.hid (fun w => esc_spec s (pos + 1) w hs (by omega))
          rw [show ((pos + 1 : Nat) : Int) = (pos : Int) + 1 by omega] at CE
          have hst : stepOf s pos = escOf s (pos + 1) := by unfold stepOf; rw [if_pos h92]
          obtain ⟨P, HP⟩ : ∃ P, Hid (putSign x = P) := ⟨_, rfl⟩
          rw [HP.out] at CP
          rw [← hst] at CE
          rcases step_cases s pos hlt with he | ⟨sg, nx, he, hs0, hs1, hn0, hn1, HS⟩
          · have HR := Lib.hid (RR.bad hlt hq he)
            rw [he] at CE
            simp only [put_none] at CE
            clear hq HA RR he hst CG0 h92
            go_wp2_with fail
            with_reducible refine CG.out.mono ?_
            rintro e w1 ⟨rfl, hb1⟩
            have hb1' := hb.trans (hb1.mono hz)
            have hz1 := hb1'.size
            go_wp2_with fail
            with_reducible refine (CP.out _).mono ?_
            rintro e w2 ⟨rfl, hb2⟩
            have hb2' := hb1'.trans (hb2.mono hz1)
            have hz2 := hb2'.size
            go_wp2_with fail
            with_reducible refine (CE.out _).mono ?_
            rintro e w3 ⟨rfl, hb3⟩
            go_wp2
            go_ret2
            exact ⟨by rw [HR.out]; rfl, hb2'.trans (hb3.mono hz2)⟩
          · have RS := RR.step hlt hq he
            have HC := Lib.hid (cat_eq acc sg HS.out)
            rw [he] at CE
            simp only at CE
            obtain ⟨Q, HQ⟩ : ∃ Q, Hid (putSign sg = Q) := ⟨_, rfl⟩
            rw [HQ.out] at CE HC
            have hsum : (ByteArray.mk acc.toArray).size + Q.size ≤ 9223372036854775807 := by have h1 := cat_size HC.out; have h2 := enc_len sg; omega
            clear hq HA RR he hst CG0 h92
            generalize ByteArray.mk acc.toArray = A at *
            go_wp2_with fail
            with_reducible refine CG.out.mono ?_
            rintro e w1 ⟨rfl, hb1⟩
            have hb1' := hb.trans (hb1.mono hz)
            have hz1 := hb1'.size
            go_wp2_with fail
            with_reducible refine (CP.out _).mono ?_
            rintro e w2 ⟨rfl, hb2⟩
            have hb2' := hb1'.trans (hb2.mono hz1)
            have hz2 := hb2'.size
            go_wp2_with fail
            with_reducible refine (CE.out _).mono ?_
            rintro e w3 ⟨rfl, hb3⟩
            have hb3' := hb2'.trans (hb3.mono hz2)
            go_wp2
            go_roundw
            case rel => exact ⟨nx, f - 1, acc ++ Lib.encodeRune sg, rfl, by rw [HC.out], RS, hb3'⟩
            case measure => simp [intOf]; omega
        · have hc9 : (((s[pos].toNat : Nat) : Int) == 92) = false := by rw [HA.out]; simp; omega
          by_cases hbad : (at_ s pos).toNat < 32 ∨ Utf8.decode s pos = (65533, 1)
          · have hst : stepOf s pos = (-1, -1) := by unfold stepOf; rw [if_neg h92, if_pos hbad]
            have HR := Lib.hid (RR.bad hlt hq hst)
            obtain ⟨x, y, hxy, CG⟩ : ∃ x y : Int, (y < 0 ∨ (0 ≤ y ∧ ((s[pos].toNat : Nat) : Int) < 32)) ∧ Hid (Calls Tryz.prog 38 #[.string s, .int .i64 pos] wr fun e w' => e = .returned (.tuple #[.int .i64 x, .int .i64 y]) ∧ Below wr.heap.size wr w') := by
              by_cases hd : Utf8.decode s pos = (65533, 1)
              · rw [getSign.signV_bad hd] at CG0; exact ⟨_, _, .inl (by omega), CG0⟩
              · have hl : (at_ s pos).toNat < 32 := hbad.resolve_right hd
                rw [getSign.signV_ok (low_one s pos hlt hl) (by omega)] at CG0
                exact ⟨_, _, .inr ⟨by omega, by rw [HA.out]; omega⟩, CG0⟩
            have CP := Lib.hid (fun w => putSign.spec_any x w)
            obtain ⟨P, HP⟩ : ∃ P, Hid (putSign x = P) := ⟨_, rfl⟩
            rw [HP.out] at CP
            clear hq HA RR hst CG0 h92 hbad
            rcases hxy with hy | ⟨hy, h32⟩
            all_goals
              go_wp2_with fail
              with_reducible refine CG.out.mono ?_
              rintro e w1 ⟨rfl, hb1⟩
              have hb1' := hb.trans (hb1.mono hz)
              have hz1 := hb1'.size
              go_wp2_with fail
              with_reducible refine (CP.out _).mono ?_
              rintro e w2 ⟨rfl, hb2⟩
              have hb2' := hb1'.trans (hb2.mono hz1)
              go_wp2
              go_ret2
              exact ⟨by rw [HR.out]; rfl, hb2'⟩
          · have hok : Utf8.decode s pos ≠ (65533, 1) := fun e => hbad (.inr e)
            have h32 : ¬ ((s[pos].toNat : Nat) : Int) < 32 := by rw [HA.out]; omega
            have hst : stepOf s pos = (((Utf8.decode s pos).1 : Int), (pos : Int) + ((Utf8.decode s pos).2 : Int)) := by unfold stepOf; rw [if_neg h92, if_neg hbad]
            rcases step_cases s pos hlt with he | ⟨sg, nx, he, hs0, hs1, hn0, hn1, HS⟩
            · rw [hst] at he; have := (Prod.mk.inj he).2; omega
            · have RS := RR.step hlt hq he
              have HC := Lib.hid (cat_eq acc sg HS.out)
              rw [getSign.signV_ok (N := (Utf8.decode s pos).1) (M := (Utf8.decode s pos).2) rfl (fun h => hok (Prod.ext h.1 h.2))] at CG0
              rw [hst] at he
              rw [(Prod.mk.inj he).1, (Prod.mk.inj he).2] at CG0
              have CG := Lib.hid CG0
              have CP := Lib.hid (fun w => putSign.spec_any sg w)
              obtain ⟨Q, HQ⟩ : ∃ Q, Hid (putSign sg = Q) := ⟨_, rfl⟩
              rw [HQ.out] at CP HC
              have hsum : (ByteArray.mk acc.toArray).size + Q.size ≤ 9223372036854775807 := by have h1 := cat_size HC.out; have h2 := enc_len sg; omega
              clear hq HA RR he hst CG0 h92 hbad hok HS
              generalize ByteArray.mk acc.toArray = A at *
              go_wp2_with fail
              with_reducible refine CG.out.mono ?_
              rintro e w1 ⟨rfl, hb1⟩
              have hb1' := hb.trans (hb1.mono hz)
              have hz1 := hb1'.size
              go_wp2_with fail
              with_reducible refine (CP.out _).mono ?_
              rintro e w2 ⟨rfl, hb2⟩
              have hb2' := hb1'.trans (hb2.mono hz1)
              go_wp2
              go_roundw
              case rel => exact ⟨nx, f - 1, acc ++ Lib.encodeRune sg, rfl, by rw [HC.out], RS, hb2'⟩
              case measure => simp [intOf]; omega
    · have hp1 : ¬ (pos : Int) < (s.size : Int) := by omega
      have HR := Lib.hid (RR.last hlt)
      clear RR
      go_wp2
      go_ret2
      exact ⟨by rw [HR.out]; rfl, hb⟩

theorem out_any (F : FuncId) (hF : F = 9 ∨ F = 8) (s : ByteArray) (i : Int) (w : World) (_ : s.size ≤ 1048576) (h : i < 0 ∨ (s.size : Int) ≤ i ∨ ∃ k : Nat, i = k ∧ k < s.size ∧ (at_ s k).toNat ≠ 34) :
    Calls Tryz.prog F #[.string s, .int .i64 i] w fun e w' => e = .returned (.tuple #[.string ⟨#[]⟩, .int .i64 (-1)]) ∧ Below w.heap.size w w' := by
  rcases hF with rfl | rfl
  · rcases h with h | h | ⟨k, rfl, hk, hq⟩
    · go_enter Tryz.func9, Tryz.ntmps9
      go_wp2
      go_ret2
      exact ⟨rfl, Below.refl _ _⟩
    · have h0 : ¬ i < 0 := by omega
      go_enter Tryz.func9, Tryz.ntmps9
      go_wp2
      go_ret2
      exact ⟨rfl, Below.refl _ _⟩
    · have hc : (((s[k].toNat : Nat) : Int) != 34) = true := by rw [at_eq s k hk]; simp; omega
      have h0 : (0 : Int) ≤ (k : Int) := by omega
      have h1 : (k : Int) < (s.size : Int) := by omega
      clear hq
      go_enter Tryz.func9, Tryz.ntmps9
      go_wp2
      go_ret2
      exact ⟨rfl, Below.refl _ _⟩
  · rcases h with h | h | ⟨k, rfl, hk, hq⟩
    · go_enter Tryz.func8, Tryz.ntmps8
      go_wp2
      go_ret2
      exact ⟨rfl, Below.refl _ _⟩
    · have h0 : ¬ i < 0 := by omega
      go_enter Tryz.func8, Tryz.ntmps8
      go_wp2
      go_ret2
      exact ⟨rfl, Below.refl _ _⟩
    · have hc : (((s[k].toNat : Nat) : Int) != 34) = true := by rw [at_eq s k hk]; simp; omega
      have h0 : (0 : Int) ≤ (k : Int) := by omega
      have h1 : (k : Int) < (s.size : Int) := by omega
      clear hq
      go_enter Tryz.func8, Tryz.ntmps8
      go_wp2
      go_ret2
      exact ⟨rfl, Below.refl _ _⟩

theorem spec_any (s : ByteArray) (i : Int) (w : World) (hs : s.size ≤ 1048576) :
    Calls Tryz.prog 9 #[.string s, .int .i64 i] w fun e w' => e = .returned (.tuple #[.string (unq s i).1, .int .i64 (unq s i).2]) ∧ Below w.heap.size w w' := by
  by_cases h : 0 ≤ i ∧ i < s.size ∧ (at_ s i.toNat).toNat = 34
  · have e : unq s i = run s (s.size + 1) (i.toNat + 1) [] := by unfold unq; rw [if_pos h]
    have hi : i = (i.toNat : Int) := by omega
    have := spec_in s i.toNat w hs (by omega) h.2.2 (unq s i) e
    rw [← hi] at this
    exact this
  · have e : unq s i = (⟨#[]⟩, -1) := by unfold unq; rw [if_neg h]
    rw [e]
    refine out_any _ (.inl rfl) s i w hs ?_
    by_cases h0 : i < 0
    · exact .inl h0
    · by_cases h1 : (s.size : Int) ≤ i
      · exact .inr (.inl h1)
      · exact .inr (.inr ⟨i.toNat, by omega, by omega, fun hq => h ⟨by omega, by omega, hq⟩⟩)
theorem impl_any (s : ByteArray) (i : Int) (w : World) (hs : s.size ≤ 1048576) (hT : shortTab.Tab w) (hU : Lib.Utf8Tabs 1 2 w) :
    Calls Tryz.prog 8 #[.string s, .int .i64 i] w fun e w' => e = .returned (.tuple #[.string (unq s i).1, .int .i64 (unq s i).2]) ∧ Below w.heap.size w w' := by
  by_cases h : 0 ≤ i ∧ i < s.size ∧ (at_ s i.toNat).toNat = 34
  · have e : unq s i = run s (s.size + 1) (i.toNat + 1) [] := by unfold unq; rw [if_pos h]
    have hi : i = (i.toNat : Int) := by omega
    have := impl_in s i.toNat w hs (by omega) h.2.2 hT hU (unq s i) e
    rw [← hi] at this
    exact this
  · have e : unq s i = (⟨#[]⟩, -1) := by unfold unq; rw [if_neg h]
    rw [e]
    refine out_any _ (.inr rfl) s i w hs ?_
    by_cases h0 : i < 0
    · exact .inl h0
    · by_cases h1 : (s.size : Int) ≤ i
      · exact .inr (.inl h1)
      · exact .inr (.inr ⟨i.toNat, by omega, by omega, fun hq => h ⟨by omega, by omega, hq⟩⟩)

end Go.Proofs.YtlnhfgkecifhdaaGreatDoor.unquote
