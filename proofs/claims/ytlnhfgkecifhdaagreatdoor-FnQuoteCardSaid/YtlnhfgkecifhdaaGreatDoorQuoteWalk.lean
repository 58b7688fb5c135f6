/-
  What spec.Quote returns: a text in JSON's quotes. For texts of at most 1048576 bytes.
-/
import Derived.Test.YtlnhfgkecifhdaaGreatDoorQuoteShort
import Derived.Test.YtlnhfgkecifhdaaGreatDoorSignsWalk
import Derived.Test.YtlnhfgkecifhdaaGreatDoorPutHexWalk
import Derived.Lib.AppendStr
namespace Go.Proofs.YtlnhfgkecifhdaaGreatDoor.quote
open Go.ChangeShapes Go.WideShapes Go.ChangeAt Go.RowKit
open Go.Proofs.YtlnhfgkecifhdaaGreatDoor.sign
set_option maxRecDepth 100000

theorem hexDig_eq (n : Nat) : putHex.hexDig n = hexDig n := rfl
theorem quote_snoc (s : ByteArray) (k : Nat) (h : k < s.size) : quoteL (s.data.toList.take (k + 1)) = quoteL (s.data.toList.take k) ++ quoteB s[k] := by
  rw [putHex.take_snoc s k h, quoteL_append]; simp [quoteL]
theorem lit_own (w : World) : OwnL (w.alloc (.cells #[.int .u8 34] 5)) w.heap.size 5 encB (.slice (some ⟨w.heap.size, 0, none⟩) 1 1) [34] :=
  OwnL.of_block (l := [(34 : UInt8)]) _ _ (Nat.le_refl _) (heap_alloc_new w _) rfl (by simp [maxLen])
theorem one_hex (s : ByteArray) (k : Nat) (h : k < s.size) : putHex.hexOf (s.extract k (k + 1)).data.toList = [hexDig (s[k].toNat / 16), hexDig (s[k].toNat % 16)] := by
  rw [Lib.extract_data, show k + 1 - k = 1 by omega]
  have e : s.data.toList.drop k = s[k] :: s.data.toList.drop (k + 1) := List.drop_eq_getElem_cons (by simpa using h)
  rw [e]
  rfl

theorem strCells_two (l : List UInt8) : Lib.strCells ⟨l.toArray⟩ = l.map encB := by
  simp [Lib.strCells, encB]
set_option maxHeartbeats 2000000 in
theorem spec_quote (s : ByteArray) (w : World) (hs : s.size ≤ 1048576) :
    Calls Tryz.prog 20 #[.string s] w fun e w' => e = .returned (.string (quoteOf s)) ∧ Below w.heap.size w w' := by
  obtain ⟨i0, hi0, hz0, hz1, hz2⟩ := info_parts info5
  have c := signs.spec_text s w hs
  have HS : Hid (quoteOf s = if textOk s then ⟨((34 : UInt8) :: (quoteL s.data.toList ++ [34])).toArray⟩ else ⟨#[]⟩) := rfl
  cases hk : textOk s
  · rw [hk] at c HS
    have C := Lib.hid c
    clear c hk
    go_enter Tryz.func20, Tryz.ntmps20
    go_wp2_with fail
    with_reducible refine C.out.mono ?_
    rintro e w1 ⟨rfl, hb⟩
    clear C
    go_wp2
    go_ret
    exact ⟨by rw [HS.out]; rfl, hb⟩
  · rw [hk] at c HS
    have C := Lib.hid c
    clear c hk
    go_enter Tryz.func20, Tryz.ntmps20
    go_wp2_with fail
    with_reducible refine C.out.mono ?_
    rintro e w1 ⟨rfl, hb0⟩
    clear C
    have hz := hb0.size
    go_wp2
    go_loopw [3, 4] (fun v i wr => ∃ k : Nat, k ≤ s.size ∧ i = .int .i64 k ∧ OwnL wr w.heap.size 5 encB v ([34] ++ quoteL (s.data.toList.take k)) ∧ Below w.heap.size w wr) (fun _ i _ => s.size - (intOf i).toNat)
    case atStart => exact ⟨0, Nat.zero_le _, rfl, by simpa [quoteL] using (lit_own w1).mono hz, hb0.alloc hz _⟩
    case round =>
      obtain ⟨k, hk, rfl, hown, hb⟩ := hrel
      have hsz := hb.size
      have hl : ([34] ++ quoteL (s.data.toList.take k)).length ≤ 1 + 6 * 1048576 := by
        have := quoteL_len (s.data.toList.take k)
        rw [putHex.take_len s k hk] at this
        simp only [List.length_append, List.length_singleton]; omega
      by_cases hlt : k < s.size
      · have hk0 : (0 : Int) ≤ (k : Int) := by omega
        have hk1 : (k : Int) < (s.size : Int) := by omega
        have HQ := Lib.hid (quote_snoc s k hlt)
        have HB : Hid (quoteB s[k] = if shortOf s[k].toNat ≠ 0 then [92, UInt8.ofNat (shortOf s[k].toNat)] else if s[k].toNat < 32 then [92, 117, 48, 48, hexDig (s[k].toNat / 16), hexDig (s[k].toNat % 16)] else [s[k]]) := rfl
        have CS := Lib.hid (fun w => short_any s[k].toNat w)
        have hsm : shortOf s[k].toNat < 256 := by unfold shortOf; (repeat' split) <;> omega
        have HH := Lib.hid (one_hex s k hlt)
        have CP := Lib.hid (fun w => putHex.spec_any (s.extract k (k + 1)) w (by rw [ByteArray.size_extract]; omega))
        have hS : Hid (putHex.hexOf (s.extract k (k + 1)).data.toList = [hexDig (s[k].toNat / 16), hexDig (s[k].toNat % 16)]) := HH
        rw [HH.out] at CP
        generalize quoteB s[k] = qb at *
        generalize shortOf s[k].toNat = q at *
        by_cases hq : q = 0
        · subst hq
          have HB1 := Lib.hid (HB.out.trans (if_neg (by simp)))
          clear HB
          by_cases h32 : s[k].toNat < 32
          · have h32' : ((s[k].toNat : Nat) : Int) < 32 := by omega
            have HB2 := Lib.hid (HB1.out.trans (if_pos h32))
            clear HB1
            generalize hexDig (s[k].toNat / 16) = d1 at *
            generalize hexDig (s[k].toNat % 16) = d2 at *
            go_wp2_with fail
            with_reducible refine (CS.out _).mono ?_
            rintro e w2 ⟨rfl, hb2⟩
            have hbb := hb.trans (hb2.mono hsz)
            have hz2' := hb2.size
            have hown2 := hown.below hb2
            go_wp2_with (first
              | (at_builtin; refine wpList_app (by rfl) _ _ _ (by rfl) w.heap.size 5 encB i0 _ 1 Tryz.underlying22 hi0 hz0 hz1 hz2 rfl oneB u3 ([34] ++ quoteL (s.data.toList.take k)) (by rfl) (hown2.alloc _) w2.heap.size 4 4 [92, 117, 48, 48] (by rfl) (by rfl) _ (heap_alloc_new w2 _) (by rfl) (by unfold maxLen; omega) (by omega) (by simp; omega) ?_; intro v1 w4 hown4 hg4)
              | fail)
            have hb4 : Below w.heap.size w w4 := grown_below (hbb.alloc (by omega) _) (by simp; omega) (hown2.alloc _) hg4
            clear hg4
            have hz4 := hb4.size
            with_reducible refine (CP.out _).mono ?_
            rintro e w5 ⟨rfl, hb5⟩
            have hz5 := hb5.size
            have hown5 := hown4.below hb5
            have hb5' := hb4.trans (hb5.mono (by omega))
            have hl5 : (([34] ++ quoteL (s.data.toList.take k)) ++ [92, 117, 48, 48]).length ≤ 5 + 6 * 1048576 := by
              rw [List.length_append]; simp only [List.length_cons, List.length_nil]; omega
            go_wp2_with (first
              | (at_builtin; refine Lib.wpList_append_own_string _ (by rfl) _ _ _ _ (by rfl) w.heap.size 5 i0 Tryz.underlying22 Tryz.underlying9 hi0 hz0 hz1 hz2 _ _ _ (by rfl) hown5 ⟨[d1, d2].toArray⟩ (by rfl) (by unfold maxLen; show _ + 2 ≤ _; omega) (by show _ + 2 ≤ _; omega) (by omega) ?_; intro v2 w6 hown6 hg6 _))
            have hown6' : OwnL w6 w.heap.size 5 encB v2 ((([34] ++ quoteL (s.data.toList.take k)) ++ [92, 117, 48, 48]) ++ [d1, d2]) := by
              unfold OwnL; rw [List.length_append, List.map_append]; exact hown6
            have hb6 : Below w.heap.size w w6 := grown_below hb5' (by omega) hown5 hg6
            go_roundw
            case rel => exact ⟨k + 1, by omega, by go_num, by rw [HQ.out, HB2.out]; simpa using hown6', hb6⟩
            case measure => simp [intOf]; omega
          · have h32' : ¬ ((s[k].toNat : Nat) : Int) < 32 := by omega
            have HB2 := Lib.hid (HB1.out.trans (if_neg h32))
            clear HB1 CP HH hS
            go_wp2_with fail
            with_reducible refine (CS.out _).mono ?_
            rintro e w2 ⟨rfl, hb2⟩
            have hbb := hb.trans (hb2.mono hsz)
            have hz2' := hb2.size
            have hown2 := hown.below hb2
            go_wp2_with (first
              | (at_builtin; refine wpList_app (by rfl) _ _ _ (by rfl) w.heap.size 5 encB i0 _ 1 Tryz.underlying22 hi0 hz0 hz1 hz2 rfl oneB u3 ([34] ++ quoteL (s.data.toList.take k)) (by rfl) (hown2.alloc _) w2.heap.size 1 1 [s[k]] (by rfl) (by rfl) _ (heap_alloc_new w2 _) (by rfl) (by unfold maxLen; omega) (by omega) (by simp; omega) ?_; intro v1 w4 hown4 hg4))
            have hb4 : Below w.heap.size w w4 := grown_below (hbb.alloc (by omega) _) (by simp; omega) (hown2.alloc _) hg4
            go_roundw
            case rel => exact ⟨k + 1, by omega, by go_num, by rw [HQ.out, HB2.out, ← List.append_assoc]; exact hown4, hb4⟩
            case measure => simp [intOf]; omega
        · have hq0 : (q : Int) ≠ 0 := by omega
          have HB1 := Lib.hid (HB.out.trans (if_pos hq))
          clear HB CP HH
          go_wp2_with fail
          with_reducible refine (CS.out _).mono ?_
          rintro e w2 ⟨rfl, hb2⟩
          have hbb := hb.trans (hb2.mono hsz)
          have hz2' := hb2.size
          go_wp2_with fail
          with_reducible refine (CS.out _).mono ?_
          rintro e w3 ⟨rfl, hb3⟩
          have hbc := hbb.trans (hb3.mono (by omega))
          have hz3' := hb3.size
          have hown3 := (hown.below hb2).below hb3
          go_wp2_with (first
            | (at_builtin; refine wpList_app (by rfl) _ _ _ (by rfl) w.heap.size 5 encB i0 _ 1 Tryz.underlying22 hi0 hz0 hz1 hz2 rfl oneB u3 ([34] ++ quoteL (s.data.toList.take k)) (by rfl) (hown3.alloc _) w3.heap.size 2 2 [92, UInt8.ofNat q] (by rfl) (by rfl) _ (heap_alloc_new w3 _) (by simp [encB]; omega) (by unfold maxLen; omega) (by omega) (by simp; omega) ?_; intro v1 w4 hown4 hg4))
          have hb4 : Below w.heap.size w w4 := grown_below (hbc.alloc (by omega) _) (by simp; omega) (hown3.alloc _) hg4
          go_roundw
          case rel => exact ⟨k + 1, by omega, by go_num, by rw [HQ.out, HB1.out, ← List.append_assoc]; exact hown4, hb4⟩
          case measure => simp [intOf]; omega
      · have HE := Lib.hid (putHex.take_all s k (by omega))
        rw [HE.out] at hown hl
        go_wp2_with (first
          | (at_builtin; refine wpList_app (by rfl) _ _ _ (by rfl) w.heap.size 5 encB i0 _ 1 Tryz.underlying22 hi0 hz0 hz1 hz2 rfl oneB u3 ([34] ++ quoteL s.data.toList) (by rfl) (hown.alloc _) wr.heap.size 1 1 [34] (by rfl) (by rfl) _ (heap_alloc_new wr _) (by rfl) (by unfold maxLen; omega) (by omega) (by simp; omega) ?_; intro v1 w4 hown4 hg4
             have hc := run_string_own (P := Tryz.prog) 22 5 9 Tryz.underlying22 Tryz.underlying5 Tryz.underlying9 hown4))
        have hb4 : Below w.heap.size w w4 := grown_below (hb.alloc (by omega) _) (by simp; omega) (hown.alloc _) hg4
        go_ret
        exact ⟨by rw [HS.out]; simp, hb4⟩

end Go.Proofs.YtlnhfgkecifhdaaGreatDoor.quote
