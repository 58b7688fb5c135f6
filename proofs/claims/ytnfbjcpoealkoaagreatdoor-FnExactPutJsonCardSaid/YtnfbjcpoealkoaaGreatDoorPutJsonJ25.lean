/-
  What spec.PutHex and impl.PutHex return: two lower-case digits a byte. For texts of at most 1048576 bytes.
-/
import Derived.Test.YtnfbjcpoealkoaaGreatDoorRows
import Derived.Test.YtnfbjcpoealkoaaGreatDoorPutJsonJ0
import Derived.WalkKit
import Derived.ProofKit
import Derived.OpenShut
import Derived.WalkLawsBesides
import Derived.Laws.BitsLemmas
import Derived.Laws.MakeOwn
import Derived.Test.YtnfbjcpoealkoaaGreatDoorPutJsonJ24
import Derived.Test.YtnfbjcpoealkoaaGreatDoorPutJsonJ12
import Derived.Lib.AppendStr
import Derived.Shelf.LaysM
import Derived.Shelf.Unicode.ValidAny
import Derived.Test.YtnfbjcpoealkoaaGreatDoorProg
namespace Go.Proofs.YtnfbjcpoealkoaaGreatDoor.putHex
open Go.ChangeShapes Go.WideShapes Go.ChangeAt Go.RowKit

def hexDig (n : Nat) : UInt8 := if n < 10 then UInt8.ofNat (48 + n) else UInt8.ofNat (87 + n)
def hexOf (l : List UInt8) : List UInt8 := l.flatMap fun b => [hexDig (b.toNat / 16), hexDig (b.toNat % 16)]

theorem hexOf_length (l : List UInt8) : (hexOf l).length = 2 * l.length := by
  induction l with
  | nil => rfl
  | cons b l ih => simp only [hexOf, List.flatMap_cons, List.length_append, List.length_cons, List.length_nil] at *; omega
theorem take_snoc (s : ByteArray) (k : Nat) (h : k < s.size) : s.data.toList.take (k + 1) = s.data.toList.take k ++ [s[k]] := by
  rw [List.take_succ_eq_append_getElem (by simpa using h)]; rfl
theorem hexOf_snoc (s : ByteArray) (k : Nat) (h : k < s.size) : hexOf (s.data.toList.take (k + 1)) = hexOf (s.data.toList.take k) ++ [hexDig (s[k].toNat / 16), hexDig (s[k].toNat % 16)] := by
  rw [take_snoc s k h]; simp [hexOf]
theorem take_all (s : ByteArray) (k : Nat) (h : s.size ≤ k) : s.data.toList.take k = s.data.toList := List.take_of_length_le (by simpa using h)
theorem take_len (s : ByteArray) (k : Nat) (h : k ≤ s.size) : (s.data.toList.take k).length = k := by rw [List.length_take]; simp; omega

theorem info5 : (Tryz.prog.info? 5).map (fun i => (i.zero, i.size, i.bytes)) = some (some (.int .u8 0), 1, 1) := by kernel_rfl

theorem digit_at : ∀ (n : Nat) (h : n < (ByteArray.mk #[48, 49, 50, 51, 52, 53, 54, 55, 56, 57, 97, 98, 99, 100, 101, 102]).size),
    ((ByteArray.mk #[48, 49, 50, 51, 52, 53, 54, 55, 56, 57, 97, 98, 99, 100, 101, 102])[n].toNat) = (hexDig n).toNat := by
  intro n h
  have h' : n < 16 := h
  have : ∀ m : Fin 16, ((ByteArray.mk #[48, 49, 50, 51, 52, 53, 54, 55, 56, 57, 97, 98, 99, 100, 101, 102])[m.val]'(by exact m.isLt)).toNat = (hexDig m.val).toNat := by decide
  exact this ⟨n, h'⟩

theorem oneB (x : UInt8) : (encB x).oneCell' = true := rfl

set_option maxHeartbeats 400000 in
theorem spec_any (s : ByteArray) (w : World) (hs : s.size ≤ 1048576) :
    Calls Tryz.prog 159 #[.string s] w fun e w' => e = .returned (.string ⟨(hexOf s.data.toList).toArray⟩) ∧ Below w.heap.size w w' := by
  obtain ⟨i0, hi0, hz0, hz1, hz2⟩ := info_parts info5
  go_enter Tryz.func159, Tryz.ntmps159
  go_wp2
  go_loopw [3, 4] (fun v i wr => ∃ k : Nat, k ≤ s.size ∧ i = .int .i64 k ∧ OwnL wr w.heap.size 5 encB v (hexOf (s.data.toList.take k)) ∧ Below w.heap.size w wr) (fun _ i _ => s.size - (intOf i).toNat)
  case atStart => exact ⟨0, Nat.zero_le _, rfl, OwnL.empty _ _ _ (Nat.le_refl _), (Below.refl _ _).alloc (Nat.le_refl _) _⟩
  case round =>
    obtain ⟨k, hk, rfl, hown, hb⟩ := hrel
    have hsz := hb.size
    by_cases hlt : k < s.size
    · have hk0 : (0 : Int) ≤ (k : Int) := by omega
      have hk1 : (k : Int) < (s.size : Int) := by omega
      have hl : (hexOf (s.data.toList.take k)).length ≤ 2097152 := by rw [hexOf_length, take_len s k hk]; omega
      obtain ⟨q, hq, e1, HQ⟩ : ∃ q : Nat, q < 16 ∧ IntKind.u8.wrap ((s[k].toNat : Int) / 16) = (q : Int) ∧ Hid (q = s[k].toNat / 16) := ⟨s[k].toNat / 16, by have := s[k].toNat_lt; omega, by have := s[k].toNat_lt; rw [IntKind.wrap_u8]; omega, rfl⟩
      obtain ⟨r, hr, e2, HR⟩ : ∃ q : Nat, q < 16 ∧ ((s[k].toNat : Int)).tmod 16 = (q : Int) ∧ Hid (q = s[k].toNat % 16) := ⟨s[k].toNat % 16, by omega, by rw [Int.tmod_eq_emod_of_nonneg (by omega)]; omega, rfl⟩
      have hq1 : (q : Int) < 16 := by omega
      have hr1 : (r : Int) < 16 := by omega
      have hd := digit_at
      go_wp2
      go_region_law
        ((refine step_app (by rfl) _ _ _ (by rfl) w.heap.size 5 encB i0 _ 1 Tryz.underlying22 hi0 hz0 hz1 hz2 rfl oneB u3 (hexOf (s.data.toList.take k)) (by rfl) ((hown.alloc _).drew) wr.heap.size 2 2 [hexDig q, hexDig r] (by rfl) (by rfl) _ (heap_alloc_new wr _) (by rfl) (by unfold maxLen; omega) (by omega) (by simp; omega) ?_; intro v1 w1 hown1 hg1))
      all_goals go_wp2
      all_goals
        have hb1 : Below w.heap.size w w1 := grown_below ((hb.alloc hsz _).drew) (by simp; omega) ((hown.alloc _).drew) hg1
        go_roundw
        case rel => exact ⟨k + 1, by omega, by go_num, by rw [hexOf_snoc s k hlt, ← HQ.out, ← HR.out]; exact hown1, hb1⟩
        case measure => simp [intOf]; omega
    · have hc := run_string_own (P := Tryz.prog) 22 5 9 Tryz.underlying22 Tryz.underlying5 Tryz.underlying9 hown
      go_wp2
      go_ret
      exact ⟨by rw [take_all s k (by omega)]; rfl, hb⟩

end Go.Proofs.YtnfbjcpoealkoaaGreatDoor.putHex
/-
  What spec.Quote returns: a text in JSON's quotes. For texts of at most 1048576 bytes.
-/
namespace Go.Proofs.YtnfbjcpoealkoaaGreatDoor.quote
open Go.ChangeShapes Go.WideShapes Go.ChangeAt Go.RowKit
open Go.Proofs.YtnfbjcpoealkoaaGreatDoor.sign
set_option maxRecDepth 100000

theorem hexDig_eq (n : Nat) : putHex.hexDig n = hexDig n := rfl
theorem quote_snoc (s : ByteArray) (k : Nat) (h : k < s.size) : quoteL (s.data.toList.take (k + 1)) = quoteL (s.data.toList.take k) ++ quoteB s[k] := by
  rw [putHex.take_snoc s k h, quoteL_append]; simp [quoteL]
theorem lit_own (w : World) : OwnL (w.alloc (.cells #[.int .u8 34] 5)) w.heap.size 5 encB (.slice (some ⟨w.heap.size, 0, none⟩) 1 1) [34] :=
  OwnL.of_block (l := [(34 : UInt8)]) _ _ (Nat.le_refl _) (heap_alloc_new w _) rfl (by simp [maxLen])
theorem one_hex (s : ByteArray) (k : Nat) (h : k < s.size) : putHex.hexOf (s.extract k (k + 1)).data.toList = [hexDig (s[k].toNat / 16), hexDig (s[k].toNat % 16)] := by
  rw [Lib.extract_data, show k + 1 - k = 1 by omega]
  have e : s.data.toList.drop k = s[k] :: s.data.toList.drop (k + 1) := List.drop_eq_getElem_cons (by simpa using h)
  rw [e]
  rfl

theorem strCells_two (l : List UInt8) : Lib.strCells ⟨l.toArray⟩ = l.map encB := by
  simp [Lib.strCells, encB]
set_option maxHeartbeats 2000000 in
theorem spec_quote (s : ByteArray) (w : World) (hs : s.size ≤ 1048576) :
    Calls Tryz.prog 111 #[.string s] w fun e w' => e = .returned (.string (quoteOf s)) ∧ Below w.heap.size w w' := by
  obtain ⟨i0, hi0, hz0, hz1, hz2⟩ := info_parts info5
  have c := signs.spec_text s w hs
  have HS : Hid (quoteOf s = if textOk s then ⟨((34 : UInt8) :: (quoteL s.data.toList ++ [34])).toArray⟩ else ⟨#[]⟩) := rfl
  cases hk : textOk s
  · rw [hk] at c HS
    have C := Lib.hid c
    clear c hk
    go_enter Tryz.func111, Tryz.ntmps111
    go_wp2_with fail
    with_reducible refine C.out.mono ?_
    rintro e w1 ⟨rfl, hb⟩
    clear C
    go_wp2
    go_ret
    exact ⟨by rw [HS.out]; rfl, hb⟩
  · rw [hk] at c HS
    have C := Lib.hid c
    clear c hk
    go_enter Tryz.func111, Tryz.ntmps111
    go_wp2_with fail
    with_reducible refine C.out.mono ?_
    rintro e w1 ⟨rfl, hb0⟩
    clear C
    have hz := hb0.size
    go_wp2
    go_loopw [3, 4] (fun v i wr => ∃ k : Nat, k ≤ s.size ∧ i = .int .i64 k ∧ OwnL wr w.heap.size 5 encB v ([34] ++ quoteL (s.data.toList.take k)) ∧ Below w.heap.size w wr) (fun _ i _ => s.size - (intOf i).toNat)
    case atStart => exact ⟨0, Nat.zero_le _, rfl, by simpa [quoteL] using (lit_own w1).mono hz, hb0.alloc hz _⟩
    case round =>
      obtain ⟨k, hk, rfl, hown, hb⟩ := hrel
      have hsz := hb.size
      have hl : ([34] ++ quoteL (s.data.toList.take k)).length ≤ 1 + 6 * 1048576 := by
        have := quoteL_len (s.data.toList.take k)
        rw [putHex.take_len s k hk] at this
        simp only [List.length_append, List.length_singleton]; omega
      by_cases hlt : k < s.size
      · have hk0 : (0 : Int) ≤ (k : Int) := by omega
        have hk1 : (k : Int) < (s.size : Int) := by omega
        have HQ := Lib.hid (quote_snoc s k hlt)
        have HB : Hid (quoteB s[k] = if shortOf s[k].toNat ≠ 0 then [92, UInt8.ofNat (shortOf s[k].toNat)] else if s[k].toNat < 32 then [92, 117, 48, 48, hexDig (s[k].toNat / 16), hexDig (s[k].toNat % 16)] else [s[k]]) := rfl
        have CS := Lib.hid (fun w => short_any s[k].toNat w)
        have hsm : shortOf s[k].toNat < 256 := by unfold shortOf; (repeat' split) <;> omega
        have HH := Lib.hid (one_hex s k hlt)
        have CP := Lib.hid (fun w => putHex.spec_any (s.extract k (k + 1)) w (by rw [ByteArray.size_extract]; omega))
        have hS : Hid (putHex.hexOf (s.extract k (k + 1)).data.toList = [hexDig (s[k].toNat / 16), hexDig (s[k].toNat % 16)]) := HH
        rw [HH.out] at CP
        generalize quoteB s[k] = qb at *
        generalize shortOf s[k].toNat = q at *
        by_cases hq : q = 0
        · subst hq
          have HB1 := Lib.hid (HB.out.trans (if_neg (by simp)))
          clear HB
          by_cases h32 : s[k].toNat < 32
          · have h32' : ((s[k].toNat : Nat) : Int) < 32 := by omega
            have HB2 := Lib.hid (HB1.out.trans (if_pos h32))
            clear HB1
            generalize hexDig (s[k].toNat / 16) = d1 at *
            generalize hexDig (s[k].toNat % 16) = d2 at *
            go_wp2_with fail
            with_reducible refine (CS.out _).mono ?_
            rintro e w2 ⟨rfl, hb2⟩
            have hbb := hb.trans (hb2.mono hsz)
            have hz2' := hb2.size
            have hown2 := hown.below hb2
            go_wp2_with (first
              | (at_builtin; refine wpList_app (by rfl) _ _ _ (by rfl) w.heap.size 5 encB i0 _ 1 Tryz.underlying22 hi0 hz0 hz1 hz2 rfl oneB u3 ([34] ++ quoteL (s.data.toList.take k)) (by rfl) (hown2.alloc _) w2.heap.size 4 4 [92, 117, 48, 48] (by rfl) (by rfl) _ (heap_alloc_new w2 _) (by rfl) (by unfold maxLen; omega) (by omega) (by simp; omega) ?_; intro v1 w4 hown4 hg4)
              | fail)
            have hb4 : Below w.heap.size w w4 := grown_below (hbb.alloc (by omega) _) (by simp; omega) (hown2.alloc _) hg4
            clear hg4
            have hz4 := hb4.size
            with_reducible refine (CP.out _).mono ?_
            rintro e w5 ⟨rfl, hb5⟩
            have hz5 := hb5.size
            have hown5 := hown4.below hb5
            have hb5' := hb4.trans (hb5.mono (by omega))
            have hl5 : (([34] ++ quoteL (s.data.toList.take k)) ++ [92, 117, 48, 48]).length ≤ 5 + 6 * 1048576 := by
              rw [List.length_append]; simp only [List.length_cons, List.length_nil]; omega
            go_wp2_with (first
              | (at_builtin; refine Lib.wpList_append_own_string _ (by rfl) _ _ _ _ (by rfl) w.heap.size 5 i0 Tryz.underlying22 Tryz.underlying9 hi0 hz0 hz1 hz2 _ _ _ (by rfl) hown5 ⟨[d1, d2].toArray⟩ (by rfl) (by unfold maxLen; show _ + 2 ≤ _; omega) (by show _ + 2 ≤ _; omega) (by omega) ?_; intro v2 w6 hown6 hg6 _))
            have hown6' : OwnL w6 w.heap.size 5 encB v2 ((([34] ++ quoteL (s.data.toList.take k)) ++ [92, 117, 48, 48]) ++ [d1, d2]) := by
              unfold OwnL; rw [List.length_append, List.map_append]; exact hown6
            have hb6 : Below w.heap.size w w6 := grown_below hb5' (by omega) hown5 hg6
            go_roundw
            case rel => exact ⟨k + 1, by omega, by go_num, by rw [HQ.out, HB2.out]; simpa using hown6', hb6⟩
            case measure => simp [intOf]; omega
          · have h32' : ¬ ((s[k].toNat : Nat) : Int) < 32 := by omega
            have HB2 := Lib.hid (HB1.out.trans (if_neg h32))
            clear HB1 CP HH hS
            go_wp2_with fail
            with_reducible refine (CS.out _).mono ?_
            rintro e w2 ⟨rfl, hb2⟩
            have hbb := hb.trans (hb2.mono hsz)
            have hz2' := hb2.size
            have hown2 := hown.below hb2
            go_wp2_with (first
              | (at_builtin; refine wpList_app (by rfl) _ _ _ (by rfl) w.heap.size 5 encB i0 _ 1 Tryz.underlying22 hi0 hz0 hz1 hz2 rfl oneB u3 ([34] ++ quoteL (s.data.toList.take k)) (by rfl) (hown2.alloc _) w2.heap.size 1 1 [s[k]] (by rfl) (by rfl) _ (heap_alloc_new w2 _) (by rfl) (by unfold maxLen; omega) (by omega) (by simp; omega) ?_; intro v1 w4 hown4 hg4))
            have hb4 : Below w.heap.size w w4 := grown_below (hbb.alloc (by omega) _) (by simp; omega) (hown2.alloc _) hg4
            go_roundw
            case rel => exact ⟨k + 1, by omega, by go_num, by rw [HQ.out, HB2.out, ← List.append_assoc]; exact hown4, hb4⟩
            case measure => simp [intOf]; omega
        · have hq0 : (q : Int) ≠ 0 := by omega
          have HB1 := Lib.hid (HB.out.trans (if_pos hq))
          clear HB CP HH
          go_wp2_with fail
          with_reducible refine (CS.out _).mono ?_
          rintro e w2 ⟨rfl, hb2⟩
          have hbb := hb.trans (hb2.mono hsz)
          have hz2' := hb2.size
          go_wp2_with fail
          with_reducible refine (CS.out _).mono ?_
          rintro e w3 ⟨rfl, hb3⟩
          have hbc := hbb.trans (hb3.mono (by omega))
          have hz3' := hb3.size
          have hown3 := (hown.below hb2).below hb3
          go_wp2_with (first
            | (at_builtin; refine wpList_app (by rfl) _ _ _ (by rfl) w.heap.size 5 encB i0 _ 1 Tryz.underlying22 hi0 hz0 hz1 hz2 rfl oneB u3 ([34] ++ quoteL (s.data.toList.take k)) (by rfl) (hown3.alloc _) w3.heap.size 2 2 [92, UInt8.ofNat q] (by rfl) (by rfl) _ (heap_alloc_new w3 _) (by simp [encB]; omega) (by unfold maxLen; omega) (by omega) (by simp; omega) ?_; intro v1 w4 hown4 hg4))
          have hb4 : Below w.heap.size w w4 := grown_below (hbc.alloc (by omega) _) (by simp; omega) (hown3.alloc _) hg4
          go_roundw
          case rel => exact ⟨k + 1, by omega, by go_num, by rw [HQ.out, HB1.out, ← List.append_assoc]; exact hown4, hb4⟩
          case measure => simp [intOf]; omega
      · have HE := Lib.hid (putHex.take_all s k (by omega))
        rw [HE.out] at hown hl
        go_wp2_with (first
          | (at_builtin; refine wpList_app (by rfl) _ _ _ (by rfl) w.heap.size 5 encB i0 _ 1 Tryz.underlying22 hi0 hz0 hz1 hz2 rfl oneB u3 ([34] ++ quoteL s.data.toList) (by rfl) (hown.alloc _) wr.heap.size 1 1 [34] (by rfl) (by rfl) _ (heap_alloc_new wr _) (by rfl) (by unfold maxLen; omega) (by omega) (by simp; omega) ?_; intro v1 w4 hown4 hg4
             have hc := run_string_own (P := Tryz.prog) 22 5 9 Tryz.underlying22 Tryz.underlying5 Tryz.underlying9 hown4))
        have hb4 : Below w.heap.size w w4 := grown_below (hb.alloc (by omega) _) (by simp; omega) (hown.alloc _) hg4
        go_ret
        exact ⟨by rw [HS.out]; simp, hb4⟩

end Go.Proofs.YtnfbjcpoealkoaaGreatDoor.quote
/-
  Contracts of Go's library at this seat's program: each a theorem that the kit proves over any program, laid here at this one.
-/
namespace Go.Proofs
open Go.Shelf
def Tryz.lays196_ren : Go.Shelf.Ren := ⟨fun | 196 => 227 | 259 => 250 | n => n, fun | 9 => 9 | 4 => 4 | 3 => 3 | 5 => 5 | 12 => 12 | 119 => 263 | 0 => 0 | 46 => 145 | 139 => 266 | 138 => 265 | 53 => 126 | n => n, fun | 3 => 6 | 4 => 7 | n => n⟩
theorem Tryz.lays196 : Go.Proofs.Lays.n196 Tryz.prog Tryz.lays196_ren := {
  mixed := by kernel_rfl
  f196 := Tryz.func227.trans (congrArg some (by kernel_rfl))
  f259 := Tryz.func250.trans (congrArg some (by kernel_rfl))
  t0 := Tryz.underlying0
  a0 := Tryz.isAgg0
  z0 := Tryz.sizeOf0
  v0 := Tryz.zeroValue0
  t3 := Tryz.underlying3
  a3 := Tryz.isAgg3
  z3 := Tryz.sizeOf3
  v3 := Tryz.zeroValue3
  t4 := Tryz.underlying4
  a4 := Tryz.isAgg4
  z4 := Tryz.sizeOf4
  v4 := Tryz.zeroValue4
  t5 := Tryz.underlying5
  a5 := Tryz.isAgg5
  z5 := Tryz.sizeOf5
  v5 := Tryz.zeroValue5
  t9 := Tryz.underlying9
  a9 := Tryz.isAgg9
  z9 := Tryz.sizeOf9
  v9 := Tryz.zeroValue9
  t12 := Tryz.underlying12
  a12 := Tryz.isAgg12
  z12 := Tryz.sizeOf12
  v12 := Tryz.zeroValue12
  t46 := Tryz.underlying145
  a46 := Tryz.isAgg145
  z46 := Tryz.sizeOf145
  v46 := Tryz.zeroValue145
  t53 := Tryz.underlying126
  a53 := Tryz.isAgg126
  z53 := Tryz.sizeOf126
  v53 := Tryz.zeroValue126
  t119 := Tryz.underlying263
  a119 := Tryz.isAgg263
  z119 := Tryz.sizeOf263
  t138 := Tryz.underlying265
  a138 := Tryz.isAgg265
  z138 := Tryz.sizeOf265
  v138 := Tryz.zeroValue265
  t139 := Tryz.underlying266
  a139 := Tryz.isAgg266
  z139 := Tryz.sizeOf266
  v139 := Tryz.zeroValue266
  g3 := by kernel_rfl
  g4 := by kernel_rfl }
open Go.RowKit Go.Lib in
theorem Tryz.utf8_ValidString (s : ByteArray) (w : World) (hs : s.size ≤ 9223372036854775807) (hT : Lib.Utf8Tabs 6 7 w) :
    Calls Tryz.prog 227 #[.string s] w fun e w' => e = .returned (.bool (Lib.validD s.data.toList)) ∧ Below w.heap.size w w' := Any.utf8_ValidString Tryz.lays196 s w hs hT
end Go.Proofs
/-
  What impl.TextOk returns: whether a text is valid. For texts of at most 1048576 bytes. The tables of unicode/utf8 are as the library lays them.
-/
namespace Go.Proofs.YtnfbjcpoealkoaaGreatDoor.signs
open Go.ChangeShapes Go.WideShapes Go.ChangeAt Go.RowKit
open Go.Proofs.YtnfbjcpoealkoaaGreatDoor.sign
set_option maxRecDepth 100000

abbrev Tabs (w : World) : Prop := Lib.Utf8Tabs 6 7 w
theorem tabs_below {w w' : World} (h : Tabs w) (hb : Below w.heap.size w w') : Tabs w' := by
  refine ⟨fun c hc => ?_, fun i hi => ⟨?_, ?_⟩⟩
  · have := h.1 c hc
    rw [hb.cell (World.block_lt_of_cell? w _ this)]; exact this
  · have := (h.2 i hi).1
    rw [hb.cell (World.block_lt_of_cell? w _ this)]; exact this
  · have := (h.2 i hi).2
    rw [hb.cell (World.block_lt_of_cell? w _ this)]; exact this
theorem impl_text (s : ByteArray) (w : World) (hs : s.size ≤ 1048576) (hT : Lib.Utf8Tabs 6 7 w) :
    Calls Tryz.prog 192 #[.string s] w fun e w' => e = .returned (.bool (textOk s)) ∧ Below w.heap.size w w' := by
  have c := Tryz.utf8_ValidString s w (by omega) hT
  rw [valid_eq] at c
  have C := Lib.hid c
  clear c hT
  generalize textOk s = r at *
  go_enter Tryz.func192, Tryz.ntmps192
  go_wp2_with fail
  with_reducible refine C.out.mono ?_
  rintro e w1 ⟨rfl, hb⟩
  go_wp2
  go_ret
  exact ⟨rfl, hb⟩

end Go.Proofs.YtnfbjcpoealkoaaGreatDoor.signs
