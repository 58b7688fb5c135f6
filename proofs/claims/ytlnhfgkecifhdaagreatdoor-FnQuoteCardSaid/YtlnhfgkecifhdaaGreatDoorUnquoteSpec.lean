/-
  What spec.l01Escape and spec.Unquote return. For texts of at most 1048576 bytes.
-/
import Derived.Test.YtlnhfgkecifhdaaGreatDoorUnquoteImpl
import Derived.Deep.RegionWith
namespace Go.Proofs.YtlnhfgkecifhdaaGreatDoor.unquote
open Go.ChangeShapes Go.WideShapes Go.ChangeAt Go.RowKit
open Go.Proofs.YtlnhfgkecifhdaaGreatDoor.sign Go.Proofs.YtlnhfgkecifhdaaGreatDoor.getHex
set_option maxRecDepth 100000

theorem short_letter {b c : Nat} (hc : c ≠ 0) (h : quote.shortOf b = c) : letterOf c = b := by
  unfold quote.shortOf at h
  (repeat' split at h) <;> subst h <;> first | (exfalso; exact hc rfl) | (unfold letterOf; simp_all)
theorem letter_short {c : Nat} (h : 0 ≤ letterOf c) : quote.shortOf (letterOf c).toNat = c ∧ (letterOf c).toNat < 128 ∧ c ≠ 0 ∧ c ≠ 117 ∧ c ≠ 47 := by
  unfold letterOf at *
  (repeat' split at h) <;> simp_all [quote.shortOf]

theorem put_none : putSign (-1) = ⟨#[]⟩ := by decide
theorem put_slash : putSign 47 = ⟨#[47]⟩ := by decide

theorem ext_isU (s : ByteArray) (i : Nat) (h : i + 2 ≤ s.size) : ((s.extract i (i + 2)).toList == [92, 117]) = isU s i := by
  rw [Lib.toList_data, Lib.extract_data]
  unfold isU
  have h0 : i < s.data.toList.length := by simpa using (show i < s.size by omega)
  have h1 : i + 1 < s.data.toList.length := by simpa using (show i + 1 < s.size by omega)
  have e : s.data.toList.drop i = at_ s i :: at_ s (i + 1) :: s.data.toList.drop (i + 2) := by
    rw [List.drop_eq_getElem_cons h0, List.drop_eq_getElem_cons h1]
    unfold at_
    rw [List.getD_eq_getElem?_getD, List.getD_eq_getElem?_getD, List.getElem?_eq_getElem h0, List.getElem?_eq_getElem h1]
    rfl
  rw [e, show i + 2 - i = 0 + 1 + 1 by omega, List.take_succ_cons, List.take_succ_cons, List.take_zero, decide_eq_true h, Bool.true_and]
  have hb : ∀ (b : UInt8) (n : Nat) (hn : n < 256), (b == (UInt8.ofNat n)) = decide (b.toNat = n) := by
    intro b n hn
    rw [Bool.eq_iff_iff]
    simp only [beq_iff_eq, decide_eq_true_eq]
    constructor
    · intro h; rw [h]; simp; omega
    · intro h; rw [← h]; simp
  have e2 : ([at_ s i, at_ s (i + 1)] == [92, 117]) = ((at_ s i == 92) && (at_ s (i + 1) == 117)) := by simp
  rw [e2]
  exact congr (congrArg _ (hb (at_ s i) 92 (by omega))) (hb (at_ s (i + 1)) 117 (by omega))
theorem put_empty {n : Int} (h : n < 0 ∨ (55296 ≤ n ∧ n ≤ 57343) ∨ 1114111 < n) : putSign n = ⟨#[]⟩ := putSign_invalid (invalid_of h)
theorem put_full {n : Int} (h : (0 ≤ n ∧ n < 55296) ∨ (57343 < n ∧ n ≤ 1114111)) : (putSign n).toList.isEmpty = false := by
  rw [putSign_valid (valid_of h), Lib.toList_data, quote.encode_list (valid_of h)]
  have hl := (Lib.encodeRuneZ_length n).1
  unfold Lib.encodeRune
  cases hz : Lib.encodeRuneZ n with
  | nil => rw [hz] at hl; simp at hl
  | cons a b => rfl

set_option maxHeartbeats 4000000 in
theorem esc_spec (s : ByteArray) (i : Nat) (w : World) (hs : s.size ≤ 1048576) (him : i ≤ 2000000) :
    Calls Tryz.prog 40 #[.string s, .int .i64 i] w fun e w' => e = .returned (.tuple #[.string (putSign (escOf s i).1), .int .i64 (escOf s i).2]) ∧ Below w.heap.size w w' := by
  by_cases hi : i < s.size
  · have hi0 : (0 : Int) ≤ (i : Int) := by omega
    have hi1 : (i : Int) < (s.size : Int) := by omega
    have HA := Lib.hid (at_eq s i hi)
    by_cases hsl : (at_ s i).toNat = 47
    · have e : escOf s i = (47, (i : Int) + 1) := by unfold escOf; rw [if_neg (by omega), if_neg (by omega), if_pos hsl]
      rw [e]
      have hc2 : (((s[i].toNat : Nat) : Int) == 47) = true := by rw [HA.out, hsl]; rfl
      clear e hsl HA
      go_enter Tryz.func40, Tryz.ntmps40
      go_wp2
      go_ret2
      exact ⟨ret_si put_slash.symm rfl, Below.refl _ _⟩
    · have hc2 : (((s[i].toNat : Nat) : Int) == 47) = false := by rw [HA.out]; simp; omega
      have hcl : s[i].toNat < 256 := s[i].toNat_lt
      have hd1 : decide ((s.size : Int) ≤ (i : Int)) = false := by simp; omega
      have hd2 : decide (s.size ≤ i) = false := by simp; omega
      obtain ⟨R, HR⟩ : ∃ R, Hid (escOf s i = R) := ⟨_, rfl⟩
      rw [HR.out]
      go_enter Tryz.func40, Tryz.ntmps40
      go_wp2
      go_loopw [6] (fun k wr => ∃ j : Nat, j ≤ 128 ∧ k = .int .i64 (j : Int) ∧ Hid (∀ m, m < j → ¬ (s[i].toNat ≠ 0 ∧ s[i].toNat ≠ 117 ∧ quote.shortOf m = s[i].toNat)) ∧ Below w.heap.size w wr) (fun k _ => 128 - (intOf k).toNat)
      case atStart => exact ⟨0, by omega, rfl, fun m hm => by omega, Below.refl _ _⟩
      case round =>
        obtain ⟨j, hj, rfl, HL, hb⟩ := hrel
        have hz := hb.size
        have hj0 : (0 : Int) ≤ (j : Int) := by omega
        by_cases hlt : j < 128
        · have hlt' : (j : Int) < 128 := by omega
          by_cases h0 : s[i].toNat = 0
          · have hb0 : (((s[i].toNat : Nat) : Int) != 0) = false := by rw [h0]; rfl
            have HL' : Hid (∀ m, m < j + 1 → ¬ (s[i].toNat ≠ 0 ∧ s[i].toNat ≠ 117 ∧ quote.shortOf m = s[i].toNat)) := fun m _ h => h.1 h0
            clear HL h0
            go_wp2
            go_quiet (fail)
            go_wp2
            go_roundw
            case rel => exact ⟨j + 1, by omega, by go_num, HL', belowN hb _⟩
            case measure => simp [intOf]; omega
          have hb0 : (((s[i].toNat : Nat) : Int) != 0) = true := by simp; omega
          by_cases h1 : s[i].toNat = 117
          · have hb1 : (((s[i].toNat : Nat) : Int) != 117) = false := by rw [h1]; rfl
            have HL' : Hid (∀ m, m < j + 1 → ¬ (s[i].toNat ≠ 0 ∧ s[i].toNat ≠ 117 ∧ quote.shortOf m = s[i].toNat)) := fun m _ h => h.2.1 h1
            clear HL h0 h1
            go_wp2
            go_quiet (fail)
            go_wp2
            go_roundw
            case rel => exact ⟨j + 1, by omega, by go_num, HL', belowN hb _⟩
            case measure => simp [intOf]; omega
          have hb1 : (((s[i].toNat : Nat) : Int) != 117) = true := by simp; omega
          have C := Lib.hid (fun w => quote.short_any j w)
          obtain ⟨q, HQ⟩ : ∃ q, Hid (quote.shortOf j = q) := ⟨_, rfl⟩
          rw [HQ.out] at C
          have hw8 : IntKind.u8.wrap (j : Int) = (j : Int) := by rw [IntKind.wrap_u8]; omega
          have HG : Hid (q = s[i].toNat → R = ((j : Int), (i : Int) + 1)) := by
            intro h
            have hl := short_letter h0 (HQ.out.trans h)
            rw [← HR.out]
            unfold escOf
            rw [if_neg (by omega), if_neg (by rw [← HA.out]; exact h1), if_neg hsl, ← HA.out, hl, if_neg (by omega)]
          have HL' : Hid (q ≠ s[i].toNat → ∀ m, m < j + 1 → ¬ (s[i].toNat ≠ 0 ∧ s[i].toNat ≠ 117 ∧ quote.shortOf m = s[i].toNat)) := by
            intro hne m hm h
            by_cases e : m = j
            · rw [e, HQ.out] at h; exact hne h.2.2
            · exact HL.out m (by omega) h
          by_cases hqc : q = s[i].toNat
          · have hq : ((q : Int) == ((s[i].toNat : Nat) : Int)) = true := by rw [hqc]; simp
            have HG' := Lib.hid (HG.out hqc)
            have c1 := putSign.conv1
            clear HL HL' HG h0 h1 hqc
            go_wp2_with fail
            go_region_with (go_at_call 47; (try rw [hw8]); with_reducible refine (C.out _).mono ?_; rintro e w2 ⟨rfl, hb2⟩)
            all_goals go_wp2
            all_goals
              go_ret2
              have hbb : Below w.heap.size w w2 := (hb.drew).trans (hb2.mono (by simpa using hz))
              have hzz := hbb.size
              exact ⟨by rw [HG'.out]; exact ret_si (by rw [putSign_valid (valid_of (by omega))]; exact enc1 (by omega) (by omega)) rfl, hbb.alloc hzz _⟩
          · have hq : ((q : Int) == ((s[i].toNat : Nat) : Int)) = false := by simp; omega
            have HL'' := Lib.hid (HL'.out hqc)
            clear HL HL' HG h0 h1 hqc
            go_wp2_with fail
            go_region_with (go_at_call 47; (try rw [hw8]); with_reducible refine (C.out _).mono ?_; rintro e w2 ⟨rfl, hb2⟩)
            all_goals go_wp2
            all_goals
              have hbb : Below w.heap.size w w2 := (hb.drew).trans (hb2.mono (by simpa using hz))
              go_roundw
              case rel => exact ⟨j + 1, by omega, by go_num, HL'', hbb⟩
              case measure => simp [intOf]; omega
        · have hlt' : ¬ (j : Int) < 128 := by omega
          by_cases h1 : s[i].toNat = 117
          · have hb1 : (((s[i].toNat : Nat) : Int) != 117) = false := by rw [h1]; rfl
            have HE : Hid (R = numbered s (i + 1)) := by
              unfold Hid
              rw [← HR.out]
              unfold escOf
              rw [if_neg (by omega), if_pos (by rw [← HA.out]; exact h1)]
            clear HL h1 HR
            have CU := Lib.hid (fun w => unit_spec s (i + 1) w hs (by omega))
            rw [show ((i + 1 : Nat) : Int) = (i : Int) + 1 by omega] at CU
            have hur := unit_range s (i + 1)
            obtain ⟨U, HU⟩ : ∃ U, Hid (unit s (i + 1) = U) := ⟨_, rfl⟩
            rw [HU.out] at CU hur
            have CP := Lib.hid (fun w => putSign.spec_any U w)
            have CI := Lib.hid (in_any U 55296 56319)
            by_cases hhi : 55296 ≤ U ∧ U ≤ 56319
            · rw [decide_eq_true hhi.1, decide_eq_true hhi.2] at CI
              have hh0 := hhi.1
              have hh1 := hhi.2
              rw [put_empty (by omega)] at CP
              by_cases h7 : i + 7 ≤ s.size
              · have h7' : (i : Int) + 7 ≤ (s.size : Int) := by omega
                have h50 : (0 : Int) ≤ (i : Int) + 5 := by omega
                have h70 : (0 : Int) ≤ (i : Int) + 7 := by omega
                have h57 : (i : Int) + 5 ≤ (i : Int) + 7 := by omega
                have t5 : ((i : Int) + 5).toNat = i + 5 := by omega
                have t7 : ((i : Int) + 7).toNat = i + 7 := by omega
                have hx := ext_isU s (i + 5) (by omega)
                rw [show i + 5 + 2 = i + 7 by omega] at hx
                have CV := Lib.hid (fun w => unit_spec s (i + 7) w hs (by omega))
                rw [show ((i + 7 : Nat) : Int) = (i : Int) + 7 by omega] at CV
                have hvr := unit_range s (i + 7)
                obtain ⟨V, HV⟩ : ∃ V, Hid (unit s (i + 7) = V) := ⟨_, rfl⟩
                rw [HV.out] at CV hvr
                have CJ := Lib.hid (in_any V 56320 57343)
                by_cases hu : isU s (i + 5) = true
                · rw [hu] at hx
                  by_cases hg : 56320 ≤ V ∧ V ≤ 57343
                  · rw [decide_eq_true hg.1, decide_eq_true hg.2] at CJ
                    have hg0 := hg.1
                    have hg1 := hg.2
                    have HG : Hid (R = (65536 + 1024 * (U - 55296) + V - 56320, (i : Int) + 11)) := by
                      unfold Hid
                      rw [HE.out]
                      unfold numbered
                      rw [HU.out, show i + 1 + 6 = i + 7 by omega, HV.out, show i + 1 + 4 = i + 5 by omega, hu, if_pos (by omega), if_neg (by simp; omega), if_pos hg]
                      exact Prod.ext (by simp only; omega) (by simp only; omega)
                    have CQ := Lib.hid (fun w => putSign.spec_any (65536 + 1024 * (U - 55296) + V - 56320) w)
                    clear hhi hg hu HE HU HV CP
                    go_wp2_with fail
                    with_reducible refine (CU.out _).mono ?_
                    rintro e w2 ⟨rfl, rfl⟩
                    go_wp2_with fail
                    with_reducible refine (CI.out _).mono ?_
                    rintro e w2 ⟨rfl, rfl⟩
                    go_wp2_with fail
                    with_reducible refine (CV.out _).mono ?_
                    rintro e w2 ⟨rfl, rfl⟩
                    go_wp2_with fail
                    with_reducible refine (CJ.out _).mono ?_
                    rintro e w2 ⟨rfl, rfl⟩
                    go_wp2_with fail
                    with_reducible refine (CQ.out _).mono ?_
                    rintro e w2 ⟨rfl, hb2⟩
                    go_wp2
                    go_ret2
                    exact ⟨by rw [HG.out]; rfl, hb.trans (hb2.mono hz)⟩
                  · have HG : Hid (R = (-1, -1)) := by
                      unfold Hid
                      rw [HE.out]
                      unfold numbered
                      rw [HU.out, show i + 1 + 6 = i + 7 by omega, HV.out, show i + 1 + 4 = i + 5 by omega, hu, if_pos (by omega), if_neg (by simp; omega), if_neg hg]
                    have hj : (decide (56320 ≤ V) && decide (V ≤ 57343)) = false := by simp; omega
                    rw [hj] at CJ
                    clear hhi hg hu HE HU HV hj
                    go_wp2_with fail
                    with_reducible refine (CU.out _).mono ?_
                    rintro e w2 ⟨rfl, rfl⟩
                    go_wp2_with fail
                    with_reducible refine (CI.out _).mono ?_
                    rintro e w2 ⟨rfl, rfl⟩
                    go_wp2_with fail
                    with_reducible refine (CV.out _).mono ?_
                    rintro e w2 ⟨rfl, rfl⟩
                    go_wp2_with fail
                    with_reducible refine (CJ.out _).mono ?_
                    rintro e w2 ⟨rfl, rfl⟩
                    go_wp2_with fail
                    with_reducible refine (CP.out _).mono ?_
                    rintro e w2 ⟨rfl, hb2⟩
                    go_wp2
                    go_ret2
                    exact ⟨by rw [HG.out]; exact ret_si put_none.symm rfl, hb.trans (hb2.mono hz)⟩
                · have hu' : isU s (i + 5) = false := by simpa using hu
                  rw [hu'] at hx
                  have HG : Hid (R = (-1, -1)) := by
                    unfold Hid
                    rw [HE.out]
                    unfold numbered
                    rw [HU.out, show i + 1 + 4 = i + 5 by omega, hu', if_pos (by omega), if_pos (.inr rfl)]
                  clear hhi hu hu' HE HU HV CV CJ
                  go_wp2_with fail
                  with_reducible refine (CU.out _).mono ?_
                  rintro e w2 ⟨rfl, rfl⟩
                  go_wp2_with fail
                  with_reducible refine (CI.out _).mono ?_
                  rintro e w2 ⟨rfl, rfl⟩
                  go_wp2_with fail
                  with_reducible refine (CP.out _).mono ?_
                  rintro e w2 ⟨rfl, hb2⟩
                  go_wp2
                  go_ret2
                  exact ⟨by rw [HG.out]; exact ret_si put_none.symm rfl, hb.trans (hb2.mono hz)⟩
              · have h7' : ¬ (i : Int) + 7 ≤ (s.size : Int) := by omega
                have HG : Hid (R = (-1, -1)) := by
                  unfold Hid
                  rw [HE.out]
                  unfold numbered
                  have hu' : isU s (i + 1 + 4) = false := by unfold isU; rw [decide_eq_false (by omega)]; rfl
                  rw [HU.out, hu', if_pos (by omega), if_pos (.inr rfl)]
                clear hhi HE HU
                go_wp2_with fail
                with_reducible refine (CU.out _).mono ?_
                rintro e w2 ⟨rfl, rfl⟩
                go_wp2_with fail
                with_reducible refine (CI.out _).mono ?_
                rintro e w2 ⟨rfl, rfl⟩
                go_wp2_with fail
                with_reducible refine (CP.out _).mono ?_
                rintro e w2 ⟨rfl, hb2⟩
                go_wp2
                go_ret2
                exact ⟨by rw [HG.out]; exact ret_si put_none.symm rfl, hb.trans (hb2.mono hz)⟩
            · have hj : (decide (55296 ≤ U) && decide (U ≤ 56319)) = false := by simp; omega
              rw [hj] at CI
              by_cases hv : (0 ≤ U ∧ U < 55296) ∨ (57343 < U ∧ U ≤ 1114111)
              · have hf := put_full hv
                have HG : Hid (R = (U, (i : Int) + 5)) := by
                  unfold Hid
                  rw [HE.out]
                  unfold numbered
                  rw [HU.out, if_neg (by omega), if_neg (by omega)]
                  exact Prod.ext rfl (by simp only; omega)
                obtain ⟨P, HP⟩ : ∃ P, Hid (putSign U = P) := ⟨_, rfl⟩
                rw [HP.out] at hf CP
                clear hhi hv HE HU hj
                go_wp2_with fail
                with_reducible refine (CU.out _).mono ?_
                rintro e w2 ⟨rfl, rfl⟩
                go_wp2_with fail
                with_reducible refine (CI.out _).mono ?_
                rintro e w2 ⟨rfl, rfl⟩
                go_wp2_with fail
                with_reducible refine (CP.out _).mono ?_
                rintro e w2 ⟨rfl, hb2⟩
                have hbb := hb.trans (hb2.mono hz)
                have hzz := hbb.size
                go_wp2_with fail
                with_reducible refine (CP.out _).mono ?_
                rintro e w3 ⟨rfl, hb3⟩
                go_wp2
                go_ret2
                exact ⟨by rw [HG.out, HP.out]; rfl, hbb.trans (hb3.mono hzz)⟩
              · rw [put_empty (by omega)] at CP
                have HG : Hid (R = (-1, -1)) := by
                  unfold Hid
                  rw [HE.out]
                  unfold numbered
                  rw [HU.out]
                  split
                  · rw [if_pos (.inl (by omega))]
                  · rw [if_pos (by omega)]
                clear hhi hv HE HU hj
                go_wp2_with fail
                with_reducible refine (CU.out _).mono ?_
                rintro e w2 ⟨rfl, rfl⟩
                go_wp2_with fail
                with_reducible refine (CI.out _).mono ?_
                rintro e w2 ⟨rfl, rfl⟩
                go_wp2_with fail
                with_reducible refine (CP.out _).mono ?_
                rintro e w2 ⟨rfl, hb2⟩
                go_wp2
                go_ret2
                exact ⟨by rw [HG.out]; exact ret_si put_none.symm rfl, hb.trans (hb2.mono hz)⟩
          · have hb1 : (((s[i].toNat : Nat) : Int) != 117) = true := by simp; omega
            have HG : Hid (R = (-1, -1)) := by
              have hneg : letterOf s[i].toNat < 0 := by
                by_cases h : 0 ≤ letterOf s[i].toNat
                · obtain ⟨a1, a2, a3, a4, a5⟩ := letter_short h
                  exact absurd ⟨a3, a4, a1⟩ (HL.out _ (by omega))
                · omega
              unfold Hid
              rw [← HR.out]
              unfold escOf
              rw [if_neg (by omega), if_neg (by rw [← HA.out]; exact h1), if_neg hsl, ← HA.out, if_pos hneg]
            clear HL h1
            go_wp2
            go_ret2
            exact ⟨by rw [HG.out]; exact ret_si put_none.symm rfl, hb⟩
  · have e : escOf s i = (-1, -1) := by unfold escOf; rw [if_pos (by omega)]
    rw [e]
    have hi1 : ¬ (i : Int) < (s.size : Int) := by omega
    clear e
    go_enter Tryz.func40, Tryz.ntmps40
    go_wp2
    go_ret2
    exact ⟨ret_si put_none.symm rfl, Below.refl _ _⟩

end Go.Proofs.YtlnhfgkecifhdaaGreatDoor.unquote
