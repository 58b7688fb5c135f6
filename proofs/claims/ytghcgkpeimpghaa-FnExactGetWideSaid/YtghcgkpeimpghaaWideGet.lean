/-
  What spec.GetWide returns: the number that bytes of a text tell.
-/
import Derived.Test.YtghcgkpeimpghaaWideSpec
namespace Go.Proofs.Ytghcgkpeimpghaa.wide
open Go.ChangeShapes Go.WideShapes Go.ChangeAt Go.RowKit Go.Proofs.Ytghcgkpeimpghaa.head
set_option maxRecDepth 100000

/-- The bytes of a text from a place on. -/
def bytesAt (s : ByteArray) (i m : Nat) : List UInt8 := (s.data.toList.drop i).take m
theorem bytesAt_len {s : ByteArray} {i m : Nat} (h : i + m ≤ s.size) : (bytesAt s i m).length = m := by
  unfold bytesAt
  have e : s.data.toList.length = s.size := by simp
  rw [List.length_take, List.length_drop]
  omega
theorem bytesAt_cut {s : ByteArray} {i m : Nat} (h : i + m ≤ s.size) : s.extract i (i + m) = ⟨(bytesAt s i m).toArray⟩ := by
  apply ByteArray.ext
  apply Array.toList_inj.1
  rw [ByteArray.data_extract, Array.toList_extract, List.extract_eq_take_drop]
  unfold bytesAt
  simp
theorem bytesAt_step {s : ByteArray} {i k : Nat} (h : i + k < s.size) : bytesAt s i (k + 1) = bytesAt s i k ++ [s[i + k]] := by
  have e : s.data.toList.length = s.size := by simp
  have hl : k < (s.data.toList.drop i).length := by rw [List.length_drop]; omega
  unfold bytesAt
  rw [List.take_succ_eq_append_getElem hl]
  congr 2
  rw [List.getElem_drop]
  rfl
def wideOk (s : ByteArray) (i m : Int) : Prop := (1 ≤ m ∧ m ≤ 8) ∧ 0 ≤ i ∧ i + m ≤ s.size
instance (s : ByteArray) (i m : Int) : Decidable (wideOk s i m) := by unfold wideOk; exact inferInstance
def wideN (s : ByteArray) (i m : Int) : Int := if wideOk s i m then wrap64 (beN (bytesAt s i.toNat m.toNat) : Nat) else 0
def two (n : Int) (b : Bool) : Value := .tuple #[.int .i64 n, .bool b]
theorem beN_le (l : List UInt8) (k : Nat) (hl : l.length = k) (h : k ≤ 7) : beN l < 72057594037927936 := by
  have h1 := beN_lt l
  have : 256 ^ l.length ≤ 256 ^ 7 := Nat.pow_le_pow_right (by omega) (by omega)
  omega

set_option maxHeartbeats 1000000 in
theorem get_wide_yes (s : ByteArray) (i m : Nat) (w : World) (hs : s.size ≤ 1048576) (h1 : 1 ≤ m) (h8 : m ≤ 8) (hz : i + m ≤ s.size) :
    Calls Try.prog 32 #[.string s, .int .i64 i, .int .i64 m] w fun e w' => e = .returned (two (wrap64 (beN (bytesAt s i m) : Nat)) true) ∧ Below w.heap.size w w' := by
  have C := fun W => in_any m 1 8 W
  rw [decide_eq_true (by omega)] at C
  replace C := Lib.hid C
  have g1 : ¬ (i : Int) < 0 := by omega
  have g2 : ¬ (s.size : Int) - m < i := by omega
  generalize hR : beN (bytesAt s i m) = R
  have HR := Lib.hid hR
  clear hR
  go_enter Try.func32, Try.ntmps32
  go_wp2_with (go_at_call 48; with_reducible refine (C.out _).mono ?_; rintro r w2 ⟨rfl, rfl⟩)
  go_loop [8, 9] (fun x y => ∃ k N : Nat, y = .int .i64 k ∧ x = .int .u64 N ∧ k ≤ m ∧ Hid (N = beN (bytesAt s i k))) (fun _ y => m - (intOf y).toNat)
  case atStart => exact ⟨0, 0, rfl, rfl, by omega, by simp [Hid, bytesAt, beN]⟩
  case round =>
    obtain ⟨k, N, rfl, rfl, hk, HN⟩ := hrel
    by_cases hlt : k < m
    · have hN : N < 72057594037927936 := by rw [HN.out]; exact beN_le _ k (bytesAt_len (by omega)) (by omega)
      have HN2 : Hid (256 * N + s[i + k].toNat = beN (bytesAt s i (k + 1))) := by unfold Hid; rw [bytesAt_step (by omega), beN_snoc, ← HN.out]
      have q0 : (0 : Int) ≤ (i : Int) + k := by omega
      have q1 : (i : Int) + k < (s.size : Int) := by omega
      have qt : ((i : Int) + k).toNat = i + k := by omega
      have k1 : (k : Int) < (m : Int) := by omega
      obtain ⟨c, hc, hc256⟩ : ∃ c : Nat, s[i + k].toNat = c ∧ c < 256 := ⟨_, rfl, s[i + k].toNat_lt⟩
      rw [hc] at HN2
      go_wp2
      exact ⟨⟨k + 1, 256 * N + c, by go_num, by go_num, by omega, HN2⟩, by simp [intOf]; omega⟩
    · have k1 : ¬ (k : Int) < (m : Int) := by omega
      have ek : k = m := by omega
      subst ek
      obtain rfl : N = R := by rw [HN.out, HR.out]
      go_wp2
      go_ret2
      exact ⟨rfl, Below.refl _ _⟩

theorem get_wide_no (s : ByteArray) (i m : Int) (w : World) (hs : s.size ≤ 1048576) (h : ¬ wideOk s i m) :
    Calls Try.prog 32 #[.string s, .int .i64 i, .int .i64 m] w fun e w' => e = .returned (two 0 false) ∧ Below w.heap.size w w' := by
  have C := fun W => in_any m 1 8 W
  unfold wideOk at h
  by_cases hm : 1 ≤ m ∧ m ≤ 8
  · rw [decide_eq_true hm] at C
    replace C := Lib.hid C
    by_cases h0 : i < 0
    · clear h
      go_enter Try.func32, Try.ntmps32
      go_wp2_with (go_at_call 48; with_reducible refine (C.out _).mono ?_; rintro r w2 ⟨rfl, rfl⟩)
      go_ret2
      exact ⟨rfl, Below.refl _ _⟩
    · have h2 : (s.size : Int) - m < i := by omega
      clear h
      go_enter Try.func32, Try.ntmps32
      go_wp2_with (go_at_call 48; with_reducible refine (C.out _).mono ?_; rintro r w2 ⟨rfl, rfl⟩)
      go_ret2
      exact ⟨rfl, Below.refl _ _⟩
  · rw [decide_eq_false hm] at C
    replace C := Lib.hid C
    clear h hm
    go_enter Try.func32, Try.ntmps32
    go_wp2_with (go_at_call 48; with_reducible refine (C.out _).mono ?_; rintro r w2 ⟨rfl, rfl⟩)
    go_ret2
    exact ⟨rfl, Below.refl _ _⟩
theorem get_wide_spec (s : ByteArray) (i m : Int) (w : World) (hs : s.size ≤ 1048576) :
    Calls Try.prog 32 #[.string s, .int .i64 i, .int .i64 m] w fun e w' => e = .returned (two (wideN s i m) (decide (wideOk s i m))) ∧ Below w.heap.size w w' := by
  by_cases h : wideOk s i m
  · unfold wideN
    rw [if_pos h, decide_eq_true h]
    obtain ⟨k, rfl⟩ : ∃ k : Nat, i = k := ⟨i.toNat, by have := h.2.1; omega⟩
    obtain ⟨q, rfl⟩ : ∃ q : Nat, m = q := ⟨m.toNat, by have := h.1.1; omega⟩
    rw [Int.toNat_natCast, Int.toNat_natCast]
    have h1 := h.1.1
    have h2 := h.1.2
    have h3 := h.2.2
    exact get_wide_yes s k q w hs (by omega) (by omega) (by omega)
  · unfold wideN
    rw [if_neg h, decide_eq_false h]
    exact get_wide_no s i m w hs h

end Go.Proofs.Ytghcgkpeimpghaa.wide
