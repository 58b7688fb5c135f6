/-
  Plain facts (no Go text): the code points of a text, place by place; that a text is valid.
-/
import Derived.Test.YtkjffifdlckljaaDoorSignDec
import Derived.Lib.ValidLaws
import Derived.Lib.ValidAsc
namespace Go.Proofs.YtkjffifdlckljaaDoor.sign

def runesFrom (s : ByteArray) : Nat → Nat → List Int
  | 0, _ => []
  | f + 1, pos => if pos < s.size then ((Utf8.decode s pos).1 : Int) :: runesFrom s f (pos + (Utf8.decode s pos).2) else []
def okFrom (s : ByteArray) : Nat → Nat → Bool
  | 0, _ => true
  | f + 1, pos => if pos < s.size then (if Utf8.decode s pos = (65533, 1) then false else okFrom s f (pos + (Utf8.decode s pos).2)) else true
def runesOf (s : ByteArray) : List Int := runesFrom s s.size 0
def textOk (s : ByteArray) : Bool := okFrom s s.size 0
/-- What Signs returns. -/
def signsOf (s : ByteArray) : List Int := if textOk s then runesOf s else []

theorem runesFrom_end (s : ByteArray) (f pos : Nat) (h : ¬ pos < s.size) : runesFrom s f pos = [] := by cases f <;> simp [runesFrom, h]
theorem okFrom_end (s : ByteArray) (f pos : Nat) (h : ¬ pos < s.size) : okFrom s f pos = true := by cases f <;> simp [okFrom, h]
theorem runesFrom_step (s : ByteArray) (f pos : Nat) (h : pos < s.size) : runesFrom s (f + 1) pos = ((Utf8.decode s pos).1 : Int) :: runesFrom s f (pos + (Utf8.decode s pos).2) := by simp [runesFrom, h]
theorem okFrom_bad (s : ByteArray) (f pos : Nat) (h : pos < s.size) (hb : Utf8.decode s pos = (65533, 1)) : okFrom s (f + 1) pos = false := by simp [okFrom, h, hb]
theorem okFrom_step (s : ByteArray) (f pos : Nat) (h : pos < s.size) (hb : Utf8.decode s pos ≠ (65533, 1)) : okFrom s (f + 1) pos = okFrom s f (pos + (Utf8.decode s pos).2) := by simp [okFrom, h, hb]

theorem decode_fits (s : ByteArray) (i : Nat) (h : i < s.size) : i + (Utf8.decode s i).2 ≤ s.size := by
  rw [decode_num]
  generalize byteN s i = b0
  generalize byteN s (i + 1) = b1
  generalize byteN s (i + 2) = b2
  generalize byteN s (i + 3) = b3
  unfold Lib.decodeN
  (repeat' split) <;> simp only <;> omega

theorem decodeL_drop (s : ByteArray) (pos : Nat) (h : pos ≤ s.size) : Lib.decodeL (s.data.toList.drop pos) = Utf8.decode s pos := by
  unfold Lib.decodeL
  rw [← Lib.ext_list, ← decode_extract s pos h]

theorem valid_from (s : ByteArray) : ∀ (f pos : Nat), pos ≤ s.size → Lib.validGoD f (s.data.toList.drop pos) = okFrom s f pos
  | 0, _, _ => rfl
  | f + 1, pos, hp => by
    unfold Lib.validGoD okFrom
    by_cases h : pos < s.size
    · have hne : s.data.toList.drop pos ≠ [] := by
        intro e
        have := congrArg List.length e
        simp at this
        have h2 : s.data.size = s.size := rfl
        omega
      rw [if_neg hne, if_pos h, decodeL_drop s pos hp, List.drop_drop, valid_from s f _ (decode_fits s pos h)]
      by_cases hb : Utf8.decode s pos = (65533, 1)
      · rw [if_pos hb, if_pos (by rw [hb]; exact ⟨rfl, rfl⟩)]
      · rw [if_neg hb, if_neg (fun e => hb (Prod.ext e.1 e.2))]
    · have he : s.data.toList.drop pos = [] := List.drop_eq_nil_of_le (by simp; exact Nat.le_of_not_lt h)
      rw [if_pos he, if_neg h]

theorem valid_eq (s : ByteArray) : Lib.validD s.data.toList = textOk s := by
  have h := valid_from s s.size 0 (Nat.zero_le _)
  rw [List.drop_zero] at h
  unfold Lib.validD textOk
  rw [← h]
  congr 1

theorem runes_pos (s : ByteArray) (h : 0 < s.size) : 0 < (runesOf s).length := by
  unfold runesOf
  obtain ⟨n, hn⟩ : ∃ n, s.size = n + 1 := ⟨s.size - 1, by omega⟩
  rw [hn, runesFrom_step s n 0 h]
  simp
theorem runesFrom_length (s : ByteArray) : ∀ f pos, (runesFrom s f pos).length ≤ f
  | 0, _ => by simp [runesFrom]
  | f + 1, pos => by
    unfold runesFrom
    split
    · have := runesFrom_length s f (pos + (Utf8.decode s pos).2)
      simp; omega
    · simp
theorem runesOf_length (s : ByteArray) : (runesOf s).length ≤ s.size := runesFrom_length s _ _
theorem signsOf_length (s : ByteArray) : (signsOf s).length ≤ s.size := by
  unfold signsOf
  split
  · exact runesOf_length s
  · simp
/-- A text is valid just where it is empty or has a code point told. -/
theorem textOk_iff (s : ByteArray) : textOk s = (decide (s.size = 0) || decide (0 < (signsOf s).length)) := by
  by_cases h : s.size = 0
  · simp only [h, decide_true, Bool.true_or]
    unfold textOk
    exact okFrom_end s _ 0 (by omega)
  · unfold signsOf
    cases hk : textOk s
    · simp [h]
    · simp [h, runes_pos s (by omega)]

end Go.Proofs.YtkjffifdlckljaaDoor.sign
