/-
  What spec.Signs and spec.TextOk return: the code points of a text, or none; whether a text is valid. For texts of at most 1048576 bytes.
-/
import Derived.Test.YtkjffifdlckljaaDoorPathsJ8
import Derived.Test.YtkjffifdlckljaaDoorPathsJ6
import Derived.Test.YtkjffifdlckljaaDoorPathsJ0
namespace Go.Proofs.YtkjffifdlckljaaDoor.signs
open Go.ChangeShapes Go.WideShapes Go.ChangeAt Go.RowKit
open Go.Proofs.YtkjffifdlckljaaDoor.sign
set_option maxRecDepth 100000

theorem info3 : (Tryd.prog.info? 3).map (fun i => (i.zero, i.size, i.bytes)) = some (some (.int .i64 0), 1, 8) := by kernel_rfl

structure SpecRel (s : ByteArray) (pos f : Nat) (acc : List Int) : Prop where
  runes : acc ++ runesFrom s f pos = runesOf s
  ok : okFrom s f pos = textOk s
  fuel : s.size ≤ pos + f
  len : acc.length ≤ pos

theorem SpecRel.bad {s : ByteArray} {pos f : Nat} {acc : List Int} (h : SpecRel s pos f acc) (hp : pos < s.size) (hb : Utf8.decode s pos = (65533, 1)) : signsOf s = [] := by
  obtain ⟨g, rfl⟩ : ∃ g, f = g + 1 := ⟨f - 1, by have := h.fuel; omega⟩
  unfold signsOf
  rw [← h.ok, okFrom_bad s g pos hp hb]
  rfl
theorem SpecRel.step {s : ByteArray} {pos f : Nat} {acc : List Int} (h : SpecRel s pos f acc) (hp : pos < s.size) {N M : Nat} (hd : Utf8.decode s pos = (N, M)) (hb : Utf8.decode s pos ≠ (65533, 1)) : SpecRel s (pos + M) (f - 1) (acc ++ [(N : Int)]) := by
  obtain ⟨g, rfl⟩ : ∃ g, f = g + 1 := ⟨f - 1, by have := h.fuel; omega⟩
  have hw := (decode_bound s pos).2.1
  rw [hd] at hw
  simp only at hw
  refine ⟨?_, ?_, ?_, ?_⟩
  · rw [← h.runes, runesFrom_step s g pos hp, hd]; simp
  · rw [← h.ok, okFrom_step s g pos hp hb, hd]; simp
  · have := h.fuel; omega
  · have := h.len; simp; omega
theorem SpecRel.done {s : ByteArray} {pos f : Nat} {acc : List Int} (h : SpecRel s pos f acc) (hp : ¬ pos < s.size) : signsOf s = acc := by
  unfold signsOf
  have h1 := h.ok
  have h2 := h.runes
  rw [okFrom_end s f pos hp] at h1
  rw [runesFrom_end s f pos hp, List.append_nil] at h2
  rw [← h1, ← h2]
  rfl

theorem sign_cases (s : ByteArray) (pos : Nat) : (Utf8.decode s pos = (65533, 1) ∧ getSign.signV s pos = .tuple #[.int .i64 (-1), .int .i64 (-1)]) ∨
    ∃ N M : Nat, Utf8.decode s pos = (N, M) ∧ Utf8.decode s pos ≠ (65533, 1) ∧ N ≤ 1114111 ∧ 1 ≤ M ∧ M ≤ 4 ∧ getSign.signV s pos = .tuple #[.int .i64 N, .int .i64 (pos + M)] := by
  obtain ⟨h1, h2, h3⟩ := decode_bound s pos
  by_cases hb : Utf8.decode s pos = (65533, 1)
  · exact .inl ⟨hb, getSign.signV_bad hb⟩
  · refine .inr ⟨_, _, rfl, hb, h1, h2, h3, getSign.signV_ok rfl ?_⟩
    intro e
    exact hb (Prod.ext e.1 e.2)

set_option maxHeartbeats 1000000 in
theorem spec_signs (s : ByteArray) (w : World) (hs : s.size ≤ 1048576) :
    Calls Tryd.prog 78 #[.string s] w fun e w' => ∃ v, e = .returned v ∧ OwnL w' w.heap.size 3 encI v (signsOf s) ∧ Below w.heap.size w w' := by
  obtain ⟨i0, hi0, hz0, hz1, hz2⟩ := info_parts info3
  go_enter Tryd.func78, Tryd.ntmps78
  go_wp2
  go_loopw [3, 4] (fun v i wr => ∃ (pos f : Nat) (acc : List Int), pos ≤ s.size ∧ i = .int .i64 pos ∧ OwnL wr w.heap.size 3 encI v acc ∧ SpecRel s pos f acc ∧ Below w.heap.size w wr) (fun _ i _ => s.size - (intOf i).toNat)
  case atStart => exact ⟨0, s.size, [], Nat.zero_le _, rfl, OwnL.empty _ _ _ (Nat.le_refl _), ⟨rfl, rfl, by omega, by simp⟩, (Below.refl _ _).alloc (Nat.le_refl _) _⟩
  case round =>
    obtain ⟨pos, f, acc, hp, rfl, hown, R, hb⟩ := hrel
    have hsz := hb.size
    have hl := R.len
    by_cases hlt : pos < s.size
    · have hp0 : (0 : Int) ≤ (pos : Int) := by omega
      have hp1 : (pos : Int) < (s.size : Int) := by omega
      have C := getSign.spec_in s pos wr hs hlt
      have hfit := decode_fits s pos hlt
      rcases sign_cases s pos with ⟨hbad, e⟩ | ⟨N, M, hd, hok, hN, hM1, hM4, e⟩
      · rw [e] at C
        have C1 := Lib.hid C
        have HB := Lib.hid (R.bad hlt hbad)
        clear C e hbad R hfit
        go_wp2_with fail
        with_reducible refine C1.out.mono ?_
        rintro e w1 ⟨rfl, hb1⟩
        clear C1
        go_wp2
        go_ret
        have hz1 := hb1.size
        exact ⟨_, rfl, by rw [HB.out]; exact OwnL.empty _ _ _ (by omega), (hb.trans (hb1.mono hsz)).alloc (by omega) _⟩
      · rw [e] at C
        have C1 := Lib.hid C
        have R1 := R.step hlt hd hok
        rw [hd] at hfit
        simp only at hfit
        clear C e hok hd R
        have hNM : (0 : Int) ≤ (pos : Int) + (M : Int) := by omega
        go_wp2_with fail
        with_reducible refine C1.out.mono ?_
        rintro e w1 ⟨rfl, hb1⟩
        clear C1
        have hz1' := hb1.size
        have hown1 := hown.below hb1
        have hbb := hb.trans (hb1.mono hsz)
        go_wp2_with (first
          | (at_builtin; refine wpList_app (by rfl) _ _ _ (by rfl) w.heap.size 3 encI i0 _ 8 Tryd.underlying86 hi0 hz0 hz1 hz2 rfl oneI u3 acc (by rfl) (hown1.alloc _) w1.heap.size 1 1 [(N : Int)] (by rfl) (by rfl) _ (heap_alloc_new w1 _) (by rfl) (by unfold maxLen; omega) (by omega) (by simp; omega) ?_; intro v1 w2 hown2 hg2))
        have hb2 : Below w.heap.size w w2 := grown_below (hbb.alloc (by omega) _) (by simp; omega) (hown1.alloc _) hg2
        go_roundw
        case rel => exact ⟨pos + M, f - 1, acc ++ [(N : Int)], hfit, by go_num, hown2, R1, hb2⟩
        case measure => simp [intOf]; omega
    · have HD := Lib.hid (R.done hlt)
      go_wp2
      go_ret
      exact ⟨_, rfl, by rw [HD.out]; exact hown, hb⟩

theorem len_of {w : World} {base : Nat} {e : TypeId} {v : Value} {l : List Int} (h : OwnL w base e encI v l) : ∃ a c, v = .slice a l.length c := by
  obtain ⟨a, c, e, _⟩ := h.shape
  exact ⟨a, c, e⟩

theorem len_toList (s : ByteArray) : s.toList.length = s.size := by rw [Lib.toList_data, Lib.size_eq]
theorem isEmpty_of {s : ByteArray} (h : s.size = 0) : s.toList = [] := List.eq_nil_of_length_eq_zero (by rw [len_toList, h])
theorem notEmpty_of {s : ByteArray} (h : s.size ≠ 0) : s.toList.isEmpty = false := by
  cases hh : s.toList with
  | nil => exact absurd (by rw [← len_toList, hh]; rfl) h
  | cons a b => rfl
theorem spec_text (s : ByteArray) (w : World) (hs : s.size ≤ 1048576) :
    Calls Tryd.prog 43 #[.string s] w fun e w' => e = .returned (.bool (textOk s)) ∧ Below w.heap.size w w' := by
  have C := Lib.hid (fun w => spec_signs s w hs)
  have hl := signsOf_length s
  rw [textOk_iff]
  by_cases h0 : s.size = 0
  · have e' : s.toList = [] := isEmpty_of h0
    have e : s.toList.isEmpty = true := by rw [e']; rfl
    simp only [h0, decide_true, Bool.true_or]
    clear h0 hl
    go_enter Tryd.func43, Tryd.ntmps43
    go_wp2
    go_ret
    exact ⟨rfl, Below.refl _ _⟩
  · have e : s.toList.isEmpty = false := notEmpty_of h0
    have e' : (!s.toList.isEmpty) = true := by rw [e]; rfl
    simp only [h0, decide_false, Bool.false_or]
    generalize signsOf s = l at *
    clear h0
    go_enter Tryd.func43, Tryd.ntmps43
    go_wp2_with fail
    with_reducible refine (C.out _).mono ?_
    rintro e w1 ⟨v, rfl, hown, hb⟩
    obtain ⟨a, c, rfl⟩ := len_of hown
    clear hown
    go_wp2
    go_ret
    exact ⟨by simp, hb⟩

end Go.Proofs.YtkjffifdlckljaaDoor.signs
