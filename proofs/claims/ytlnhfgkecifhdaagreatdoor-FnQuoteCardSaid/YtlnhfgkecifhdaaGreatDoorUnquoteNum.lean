/-
  What impl.getNumbered returns: the sign that four digits, or two escapes, denote. For texts of at most 1048576 bytes.
-/
import Derived.Test.YtlnhfgkecifhdaaGreatDoorUnquoteUnit
import Derived.Test.YtlnhfgkecifhdaaGreatDoorShelfPrefix
namespace Go.Proofs.YtlnhfgkecifhdaaGreatDoor.unquote
open Go.ChangeShapes Go.WideShapes Go.ChangeAt Go.RowKit
open Go.Proofs.YtlnhfgkecifhdaaGreatDoor.sign Go.Proofs.YtlnhfgkecifhdaaGreatDoor.getHex
set_option maxRecDepth 100000

theorem prefix_eq (s : ByteArray) (i : Nat) : Lib.hasPrefix (s.extract i s.size).data.toList (ByteArray.mk #[92, 117]).data.toList = isU s i := by
  rw [Lib.extract_data]
  unfold Lib.hasPrefix isU
  by_cases h : i + 2 ≤ s.size
  · have e : s.data.toList.drop i = at_ s i :: at_ s (i + 1) :: s.data.toList.drop (i + 2) := by
      have h0 : i < s.data.toList.length := by simpa using (show i < s.size by omega)
      have h1 : i + 1 < s.data.toList.length := by simpa using (show i + 1 < s.size by omega)
      rw [List.drop_eq_getElem_cons h0, List.drop_eq_getElem_cons h1]
      unfold at_
      rw [List.getD_eq_getElem?_getD, List.getD_eq_getElem?_getD, List.getElem?_eq_getElem h0, List.getElem?_eq_getElem h1]
      rfl
    rw [e, show s.size - i = (s.size - i - 2) + 1 + 1 by omega, List.take_succ_cons, List.take_succ_cons, decide_eq_true h]
    simp only [List.isPrefixOf, Bool.true_and, Bool.and_true]
    have hb : ∀ (b : UInt8) (n : Nat) (hn : n < 256), ((UInt8.ofNat n) == b) = decide (b.toNat = n) := by
      intro b n hn
      rw [Bool.eq_iff_iff]
      simp only [beq_iff_eq, decide_eq_true_eq]
      constructor
      · intro h; rw [← h]; simp; omega
      · intro h; rw [← h]; simp
    exact congr (congrArg _ (hb (at_ s i) 92 (by omega))) (hb (at_ s (i + 1)) 117 (by omega))
  · rw [decide_eq_false h, Bool.false_and]
    have hl : ((s.data.toList.drop i).take (s.size - i)).length < 2 := by simp; omega
    match hm : (s.data.toList.drop i).take (s.size - i), hl with
    | [], _ => rfl
    | [x], _ => simp [List.isPrefixOf]

theorem half_any (x : Int) (w : World) : Calls Tryz.prog 79 #[.int .i64 x] w fun e w' => e = .returned (.bool (decide (55296 ≤ x) && decide (x ≤ 57343))) ∧ w = w' := by
  by_cases h0 : 55296 ≤ x
  · by_cases h1 : x ≤ 57343
    · rw [decide_eq_true h0, decide_eq_true h1]
      go_enter Tryz.func79, Tryz.ntmps79
      go_wp2
      go_ret
      exact ⟨rfl, rfl⟩
    · rw [decide_eq_true h0, decide_eq_false h1]
      go_enter Tryz.func79, Tryz.ntmps79
      go_wp2
      go_ret
      exact ⟨rfl, rfl⟩
  · rw [decide_eq_false h0]
    go_enter Tryz.func79, Tryz.ntmps79
    go_wp2
    go_ret
    exact ⟨rfl, rfl⟩

theorem isU_fits {s : ByteArray} {i : Nat} (h : isU s i = true) : i + 2 ≤ s.size := by
  unfold isU at h; simp at h; exact h.1

set_option maxHeartbeats 1000000 in
theorem num_impl (s : ByteArray) (i : Nat) (w : World) (hs : s.size ≤ 1048576) (hi : i ≤ s.size) :
    Calls Tryz.prog 66 #[.string s, .int .i64 i] w fun e w' => e = .returned (.tuple #[.int .i64 (numbered s i).1, .int .i64 (numbered s i).2]) ∧ Below w.heap.size w w' := by
  have hr := unit_range s i
  have C1 := Lib.hid (fun w => four_impl s i w hs hi)
  have HF := Lib.hid (fun h => unit_fits (s := s) (i := i) h)
  have HN0 := Lib.hid (@next4_bad s i)
  have HN1 := Lib.hid (@next4_ok s i)
  by_cases hh : 55296 ≤ unit s i ∧ unit s i ≤ 57343
  · have CH := Lib.hid (half_any (unit s i))
    rw [decide_eq_true hh.1, decide_eq_true hh.2] at CH
    have hfit := HF.out (by omega)
    rw [HN1.out (by omega)] at C1
    by_cases hlow : 56320 ≤ unit s i
    · have e : numbered s i = (-1, -1) := by unfold numbered; rw [if_pos hh, if_pos (.inl hlow)]
      rw [e]
      generalize unit s i = U at *
      clear hh e HF HN0 HN1
      go_enter Tryz.func66, Tryz.ntmps66
      go_wp2_with fail
      with_reducible refine (C1.out _).mono ?_
      rintro e w1 ⟨rfl, hb1⟩
      go_wp2_with fail
      with_reducible refine (CH.out _).mono ?_
      rintro e w2 ⟨rfl, rfl⟩
      go_wp2
      go_ret2
      exact ⟨rfl, hb1⟩
    · have CP := Lib.hid (Tryz.strings_HasPrefix (s.extract (i + 4) s.size) ⟨#[92, 117]⟩)
      rw [prefix_eq] at CP
      have h40 : (0 : Int) ≤ (i : Int) + 4 := by omega
      have h41 : (i : Int) + 4 ≤ (s.size : Int) := by omega
      have h42 : ((i : Int) + 4).toNat = i + 4 := by omega
      by_cases hu : isU s (i + 4) = true
      · have hfit2 := isU_fits hu
        have C2 := Lib.hid (fun w => four_impl s (i + 6) w hs (by omega))
        have hr2 := unit_range s (i + 6)
        have HN2 := Lib.hid (@next4_ok s (i + 6))
        have e6 : ((i + 6 : Nat) : Int) = (i : Int) + 4 + 2 := by omega
        rw [e6] at C2 HN2
        by_cases hg : 56320 ≤ unit s (i + 6) ∧ unit s (i + 6) ≤ 57343
        · have e : numbered s i = (65536 + 1024 * (unit s i - 55296) + (unit s (i + 6) - 56320), (i : Int) + 10) := by
            unfold numbered; rw [if_pos hh, if_neg (by rw [hu]; simp; omega), if_pos hg]
          rw [e]
          rw [HN2.out (by omega)] at C2
          rw [hu] at CP
          have hg0 := hg.1
          have hg1 := hg.2
          have hh0 := hh.1
          have hh1 := hh.2
          generalize unit s i = U at *
          generalize unit s (i + 6) = V at *
          clear hh e HF HN0 HN1 HN2 hu hg
          go_enter Tryz.func66, Tryz.ntmps66
          go_wp2_with fail
          with_reducible refine (C1.out _).mono ?_
          rintro e w1 ⟨rfl, hb1⟩
          go_wp2_with fail
          with_reducible refine (CH.out _).mono ?_
          rintro e w2 ⟨rfl, rfl⟩
          go_wp2_with fail
          with_reducible refine (CP.out _).mono ?_
          rintro e w2 ⟨rfl, rfl⟩
          go_wp2_with fail
          with_reducible refine (C2.out _).mono ?_
          rintro e w3 ⟨rfl, hb3⟩
          have hz := hb1.size
          go_wp2
          go_ret2
          exact ⟨ret_ints (by omega) (by omega), hb1.trans (hb3.mono hz)⟩
        · have e : numbered s i = (-1, -1) := by
            unfold numbered; rw [if_pos hh, if_neg (by rw [hu]; simp; omega), if_neg hg]
          rw [e]
          rw [hu] at CP
          have hg' : unit s (i + 6) < 56320 ∨ 57343 < unit s (i + 6) := by omega
          generalize unit s i = U at *
          generalize unit s (i + 6) = V at *
          generalize next4 s (i + 6) = Y at *
          clear hh e HF HN0 HN1 HN2 hu hg
          rcases hg' with hg' | hg'
          all_goals
            go_enter Tryz.func66, Tryz.ntmps66
            go_wp2_with fail
            with_reducible refine (C1.out _).mono ?_
            rintro e w1 ⟨rfl, hb1⟩
            go_wp2_with fail
            with_reducible refine (CH.out _).mono ?_
            rintro e w2 ⟨rfl, rfl⟩
            go_wp2_with fail
            with_reducible refine (CP.out _).mono ?_
            rintro e w2 ⟨rfl, rfl⟩
            go_wp2_with fail
            with_reducible refine (C2.out _).mono ?_
            rintro e w3 ⟨rfl, hb3⟩
            have hz := hb1.size
            go_wp2
            go_ret2
            exact ⟨rfl, hb1.trans (hb3.mono hz)⟩
      · have e : numbered s i = (-1, -1) := by
          unfold numbered; rw [if_pos hh, if_pos (.inr (by simpa using hu))]
        rw [e]
        rw [show isU s (i + 4) = false by simpa using hu] at CP
        generalize unit s i = U at *
        clear hh e HF HN0 HN1 hu
        go_enter Tryz.func66, Tryz.ntmps66
        go_wp2_with fail
        with_reducible refine (C1.out _).mono ?_
        rintro e w1 ⟨rfl, hb1⟩
        go_wp2_with fail
        with_reducible refine (CH.out _).mono ?_
        rintro e w2 ⟨rfl, rfl⟩
        go_wp2_with fail
        with_reducible refine (CP.out _).mono ?_
        rintro e w2 ⟨rfl, rfl⟩
        go_wp2
        go_ret2
        exact ⟨rfl, hb1⟩
  · have CH := Lib.hid (half_any (unit s i))
    have hq : (decide (55296 ≤ unit s i) && decide (unit s i ≤ 57343)) = false := by simp; omega
    rw [hq] at CH
    have HE : Hid (numbered s i = (unit s i, next4 s i)) := by
      unfold Hid numbered
      rw [if_neg hh]
      split
      · have hu : unit s i = -1 := by omega
        rw [HN0.out hu, hu]
      · rw [HN1.out (by omega)]
    rw [HE.out]
    generalize unit s i = U at *
    generalize next4 s i = X at *
    clear hh HF HN0 HN1 hq HE
    go_enter Tryz.func66, Tryz.ntmps66
    go_wp2_with fail
    with_reducible refine (C1.out _).mono ?_
    rintro e w1 ⟨rfl, hb1⟩
    go_wp2_with fail
    with_reducible refine (CH.out _).mono ?_
    rintro e w2 ⟨rfl, rfl⟩
    go_wp2
    go_ret2
    exact ⟨rfl, hb1⟩

end Go.Proofs.YtlnhfgkecifhdaaGreatDoor.unquote
