/-
  Plain facts (no Go text): a code point's bytes stand in a text just where the decoder reads it there.
-/
import Derived.Test.YtkjffifdlckljaaDoorPathsJ2
import Derived.Lib.DecodeN
import Derived.Lib.ValidLaws
import Derived.Lib.ValidAsc
namespace Go.Proofs.YtkjffifdlckljaaDoor.sign

theorem putSign_valid {n : Int} (h : Utf8.valid n = true) : putSign n = Utf8.encode n := by unfold putSign; rw [if_pos h]
theorem putSign_invalid {n : Int} (h : Utf8.valid n = false) : putSign n = ⟨#[]⟩ := by unfold putSign; rw [h]; rfl
theorem put1 {n : Int} (h0 : 0 ≤ n) (h1 : n < 128) : putSign n = strOfNums [n] := by rw [putSign_valid (valid_of (by omega)), enc1 h0 h1]
theorem put2 {n : Int} (h0 : 128 ≤ n) (h1 : n < 2048) : putSign n = strOfNums [192 + n / 64, 128 + n % 64] := by rw [putSign_valid (valid_of (by omega)), enc2 h0 h1]
theorem put3 {n : Int} (h0 : 2048 ≤ n) (h1 : n < 65536) (hv : n < 55296 ∨ 57343 < n) : putSign n = strOfNums [224 + n / 4096, 128 + n / 64 % 64, 128 + n % 64] := by
  have h := valid_of (n := n) (by omega)
  rw [putSign_valid h, enc3 h0 h1 h]
theorem put4 {n : Int} (h0 : 65536 ≤ n) (h1 : n ≤ 1114111) : putSign n = strOfNums [240 + n / 262144, 128 + n / 4096 % 64, 128 + n / 64 % 64, 128 + n % 64] := by rw [putSign_valid (valid_of (by omega)), enc4 h0 h1]

/-- Two byte strings told as numbers. -/
theorem str_inj {xs ys : List Int} (hx : ∀ x ∈ xs, 0 ≤ x ∧ x < 256) (hy : ∀ x ∈ ys, 0 ≤ x ∧ x < 256) (h : strOfNums xs = strOfNums ys) : xs = ys := by
  have h' : (xs.map fun n => UInt8.ofNat n.toNat) = ys.map fun n => UInt8.ofNat n.toNat := by rw [← strOfNums_data, ← strOfNums_data, h]
  have e : ∀ l : List Int, (∀ x ∈ l, 0 ≤ x ∧ x < 256) → (l.map fun n => UInt8.ofNat n.toNat).map (fun b => (b.toNat : Int)) = l := by
    intro l hl
    rw [List.map_map]
    conv => rhs; rw [← List.map_id l]
    apply List.map_congr_left
    intro x hx
    have := hl x hx
    simp
    omega
  rw [← e xs hx, ← e ys hy, h']

def byteN (s : ByteArray) (j : Nat) : Nat := (s.get! j).toNat
theorem byteN_lt (s : ByteArray) (j : Nat) : byteN s j < 256 := (s.get! j).toNat_lt
theorem byteN_eq (s : ByteArray) (j : Nat) (h : j < s.size) : (s[j].toNat) = byteN s j := by
  unfold byteN
  have h' : j < s.data.size := h
  have e : s.get! j = s.data[j]! := by cases s; rfl
  rw [e, getElem!_pos s.data j h']
  rfl

theorem extract_nums (s : ByteArray) (i m : Nat) (h : i + m ≤ s.size) : s.extract i (i + m) = strOfNums ((List.range m).map fun k => (byteN s (i + k) : Int)) := by
  apply ByteArray.ext
  apply Array.toList_inj.1
  rw [strOfNums_data]
  apply List.ext_getElem
  · simp; omega
  · intro k h1 h2
    have hk : k < m := by simpa using h2
    simp only [List.getElem_map, List.getElem_range]
    have hs : i + k < s.size := by omega
    have : ((byteN s (i + k) : Int)).toNat = byteN s (i + k) := by omega
    rw [this, ← byteN_eq s (i + k) hs]
    simp
    rfl

/-- The decoder at place i, in numbers. -/
theorem decode_num (s : ByteArray) (i : Nat) : Utf8.decode s i = Lib.decodeN (s.size - i) (byteN s i) (byteN s (i + 1)) (byteN s (i + 2)) (byteN s (i + 3)) := Lib.decode_at s i

/-! By the class of the first byte: what the specification's road comes to, and what the decoder reads. -/
theorem no_head {n b0 b1 b2 b3 : Nat} (h : (128 ≤ b0 ∧ b0 ≤ 191) ∨ 248 ≤ b0) (hb : b0 < 256) : Lib.decodeN n b0 b1 b2 b3 = (65533, 1) := by
  unfold Lib.decodeN
  repeat' split
  all_goals first | rfl | (exfalso; omega)
theorem short2 {n b0 b1 b2 b3 : Nat} (h : 192 ≤ b0 ∧ b0 ≤ 223) (hn : n < 2) : Lib.decodeN n b0 b1 b2 b3 = (65533, 1) := by
  unfold Lib.decodeN
  repeat' split
  all_goals first | rfl | (exfalso; omega)
theorem short3 {n b0 b1 b2 b3 : Nat} (h : 224 ≤ b0 ∧ b0 ≤ 239) (hn : n < 3) : Lib.decodeN n b0 b1 b2 b3 = (65533, 1) := by
  unfold Lib.decodeN
  repeat' split
  all_goals first | rfl | (exfalso; omega)
theorem short4 {n b0 b1 b2 b3 : Nat} (h : 240 ≤ b0 ∧ b0 ≤ 247) (hn : n < 4) : Lib.decodeN n b0 b1 b2 b3 = (65533, 1) := by
  unfold Lib.decodeN
  repeat' split
  all_goals first | rfl | (exfalso; omega)

theorem one_ok {n b0 b1 b2 b3 : Nat} (h : b0 < 128) : Lib.decodeN n b0 b1 b2 b3 = (b0, 1) ∧ putSign (b0 : Int) = strOfNums [(b0 : Int)] := by
  refine ⟨?_, put1 (by omega) (by omega)⟩
  unfold Lib.decodeN
  rw [if_pos h]

theorem two_ok {n b0 b1 b2 b3 N : Nat} (h : 192 ≤ b0 ∧ b0 ≤ 223) (hn : 2 ≤ n) (h1 : b1 < 256) (hN : N = b0 % 32 * 64 + b1 % 64) :
    (Lib.decodeN n b0 b1 b2 b3 = (N, 2) ∧ putSign (N : Int) = strOfNums [(b0 : Int), (b1 : Int)]) ∨ (Lib.decodeN n b0 b1 b2 b3 = (65533, 1) ∧ putSign (N : Int) ≠ strOfNums [(b0 : Int), (b1 : Int)]) := by
  by_cases hok : b1 / 64 = 2 ∧ 128 ≤ N
  · left
    refine ⟨?_, ?_⟩
    · unfold Lib.decodeN
      rw [if_neg (by omega), if_pos (by omega), if_pos (by omega), hN]
    · rw [put2 (by omega) (by omega)]
      congr 2
      · omega
      · congr 1; omega
  · right
    refine ⟨?_, ?_⟩
    · unfold Lib.decodeN
      repeat' split
      all_goals first | rfl | (exfalso; omega)
    · intro he
      by_cases hs : N < 128
      · rw [put1 (by omega) (by omega)] at he
        have := congrArg ByteArray.size he
        simp [strOfNums_size] at this
      · rw [put2 (by omega) (by omega)] at he
        have := str_inj (by intro x hx; simp at hx; omega) (by intro x hx; simp at hx; omega) he
        simp at this
        omega

theorem three_ok {n b0 b1 b2 b3 N : Nat} (h : 224 ≤ b0 ∧ b0 ≤ 239) (hn : 3 ≤ n) (h1 : b1 < 256) (h2 : b2 < 256) (hN : N = (b0 % 16 * 64 + b1 % 64) * 64 + b2 % 64) :
    (Lib.decodeN n b0 b1 b2 b3 = (N, 3) ∧ putSign (N : Int) = strOfNums [(b0 : Int), (b1 : Int), (b2 : Int)]) ∨ (Lib.decodeN n b0 b1 b2 b3 = (65533, 1) ∧ putSign (N : Int) ≠ strOfNums [(b0 : Int), (b1 : Int), (b2 : Int)]) := by
  have hN' : N = b0 % 16 * 4096 + b1 % 64 * 64 + b2 % 64 := by omega
  by_cases hok : b1 / 64 = 2 ∧ b2 / 64 = 2 ∧ 2048 ≤ N ∧ (N < 55296 ∨ 57343 < N)
  · left
    refine ⟨?_, ?_⟩
    · unfold Lib.decodeN
      rw [if_neg (by omega), if_neg (by omega), if_pos (by omega), if_pos (by omega), hN']
    · rw [put3 (by omega) (by omega) (by omega)]
      congr 2
      · omega
      · congr 1
        · omega
        · congr 1; omega
  · right
    refine ⟨?_, ?_⟩
    · unfold Lib.decodeN
      repeat' split
      all_goals first | rfl | (exfalso; omega)
    · intro he
      by_cases hs : N < 128
      · rw [put1 (by omega) (by omega)] at he
        have := congrArg ByteArray.size he
        simp [strOfNums_size] at this
      by_cases hs2 : N < 2048
      · rw [put2 (by omega) (by omega)] at he
        have := congrArg ByteArray.size he
        simp [strOfNums_size] at this
      by_cases hs3 : 55296 ≤ N ∧ N ≤ 57343
      · rw [putSign_invalid (invalid_of (by omega))] at he
        have := congrArg ByteArray.size he
        rw [strOfNums_size] at this
        cases this
      · rw [put3 (by omega) (by omega) (by omega)] at he
        have := str_inj (by intro x hx; simp at hx; omega) (by intro x hx; simp at hx; omega) he
        simp at this
        omega

theorem four_ok {n b0 b1 b2 b3 N : Nat} (h : 240 ≤ b0 ∧ b0 ≤ 247) (hn : 4 ≤ n) (h1 : b1 < 256) (h2 : b2 < 256) (h3 : b3 < 256) (hN : N = ((b0 % 8 * 64 + b1 % 64) * 64 + b2 % 64) * 64 + b3 % 64) :
    (Lib.decodeN n b0 b1 b2 b3 = (N, 4) ∧ putSign (N : Int) = strOfNums [(b0 : Int), (b1 : Int), (b2 : Int), (b3 : Int)]) ∨ (Lib.decodeN n b0 b1 b2 b3 = (65533, 1) ∧ putSign (N : Int) ≠ strOfNums [(b0 : Int), (b1 : Int), (b2 : Int), (b3 : Int)]) := by
  have hN' : N = b0 % 8 * 262144 + b1 % 64 * 4096 + b2 % 64 * 64 + b3 % 64 := by omega
  by_cases hok : b1 / 64 = 2 ∧ b2 / 64 = 2 ∧ b3 / 64 = 2 ∧ 65536 ≤ N ∧ N ≤ 1114111
  · left
    refine ⟨?_, ?_⟩
    · unfold Lib.decodeN
      rw [if_neg (by omega), if_neg (by omega), if_neg (by omega), if_pos (by omega), if_pos (by omega), hN']
    · rw [put4 (by omega) (by omega)]
      congr 2
      · omega
      · congr 1
        · omega
        · congr 1
          · omega
          · congr 1; omega
  · right
    refine ⟨?_, ?_⟩
    · unfold Lib.decodeN
      repeat' split
      all_goals first | rfl | (exfalso; omega)
    · intro he
      have hz : (putSign (N : Int)).size = 4 := by rw [he, strOfNums_size]; rfl
      by_cases hs : N < 128
      · rw [put1 (by omega) (by omega), strOfNums_size] at hz
        cases hz
      by_cases hs2 : N < 2048
      · rw [put2 (by omega) (by omega), strOfNums_size] at hz
        cases hz
      by_cases hs3 : (55296 ≤ N ∧ N ≤ 57343) ∨ 1114111 < N
      · rw [putSign_invalid (invalid_of (by omega))] at hz
        cases hz
      by_cases hs4 : N < 65536
      · rw [put3 (by omega) (by omega) (by omega), strOfNums_size] at hz
        cases hz
      · rw [put4 (by omega) (by omega)] at he
        have := str_inj (by intro x hx; simp at hx; omega) (by intro x hx; simp at hx; omega) he
        simp at this
        omega

/-! The decoder on what is left of a text. -/
theorem byteN_out (s : ByteArray) (j : Nat) (h : s.size ≤ j) : byteN s j = 0 := by
  unfold byteN
  have h' : s.data.size ≤ j := h
  have e : s.get! j = s.data[j]! := by cases s; rfl
  rw [e, getElem!_neg s.data j (by omega)]
  rfl
theorem size_extract (s : ByteArray) (i : Nat) : (s.extract i s.size).size = s.size - i := by simp
theorem byteN_extract (s : ByteArray) (i j : Nat) (hi : i ≤ s.size) : byteN (s.extract i s.size) j = byteN s (i + j) := by
  have hz := size_extract s i
  by_cases h : i + j < s.size
  · have h1 : j < (s.extract i s.size).size := by omega
    rw [← byteN_eq _ j h1, ← byteN_eq s (i + j) h]
    congr 1
    show (s.extract i s.size).data[j] = s.data[i + j]
    simp
  · rw [byteN_out _ _ (by omega), byteN_out _ _ (by omega)]
theorem decode_extract (s : ByteArray) (i : Nat) (hi : i ≤ s.size) : Utf8.decode (s.extract i s.size) 0 = Utf8.decode s i := by
  rw [decode_num, decode_num, size_extract, byteN_extract s i _ hi, byteN_extract s i _ hi, byteN_extract s i _ hi, byteN_extract s i _ hi]
  simp
theorem decode_bound (s : ByteArray) (i : Nat) : (Utf8.decode s i).1 ≤ 1114111 ∧ 1 ≤ (Utf8.decode s i).2 ∧ (Utf8.decode s i).2 ≤ 4 := by
  rw [decode_num]
  have b0 := byteN_lt s i
  generalize byteN s i = b0 at *
  generalize byteN s (i + 1) = b1
  generalize byteN s (i + 2) = b2
  generalize byteN s (i + 3) = b3
  unfold Lib.decodeN
  (repeat' split) <;> refine ⟨?_, ?_, ?_⟩ <;> simp only <;> omega

end Go.Proofs.YtkjffifdlckljaaDoor.sign
/-
  Plain facts (no Go text): the code points of a text, place by place; that a text is valid.
-/
namespace Go.Proofs.YtkjffifdlckljaaDoor.sign

def runesFrom (s : ByteArray) : Nat → Nat → List Int
  | 0, _ => []
  | f + 1, pos => if pos < s.size then ((Utf8.decode s pos).1 : Int) :: runesFrom s f (pos + (Utf8.decode s pos).2) else []
def okFrom (s : ByteArray) : Nat → Nat → Bool
  | 0, _ => true
  | f + 1, pos => if pos < s.size then (if Utf8.decode s pos = (65533, 1) then false else okFrom s f (pos + (Utf8.decode s pos).2)) else true
def runesOf (s : ByteArray) : List Int := runesFrom s s.size 0
def textOk (s : ByteArray) : Bool := okFrom s s.size 0
/-- What Signs returns. -/
def signsOf (s : ByteArray) : List Int := if textOk s then runesOf s else []

theorem runesFrom_end (s : ByteArray) (f pos : Nat) (h : ¬ pos < s.size) : runesFrom s f pos = [] := by cases f <;> simp [runesFrom, h]
theorem okFrom_end (s : ByteArray) (f pos : Nat) (h : ¬ pos < s.size) : okFrom s f pos = true := by cases f <;> simp [okFrom, h]
theorem runesFrom_step (s : ByteArray) (f pos : Nat) (h : pos < s.size) : runesFrom s (f + 1) pos = ((Utf8.decode s pos).1 : Int) :: runesFrom s f (pos + (Utf8.decode s pos).2) := by simp [runesFrom, h]
theorem okFrom_bad (s : ByteArray) (f pos : Nat) (h : pos < s.size) (hb : Utf8.decode s pos = (65533, 1)) : okFrom s (f + 1) pos = false := by simp [okFrom, h, hb]
theorem okFrom_step (s : ByteArray) (f pos : Nat) (h : pos < s.size) (hb : Utf8.decode s pos ≠ (65533, 1)) : okFrom s (f + 1) pos = okFrom s f (pos + (Utf8.decode s pos).2) := by simp [okFrom, h, hb]

theorem decode_fits (s : ByteArray) (i : Nat) (h : i < s.size) : i + (Utf8.decode s i).2 ≤ s.size := by
  rw [decode_num]
  generalize byteN s i = b0
  generalize byteN s (i + 1) = b1
  generalize byteN s (i + 2) = b2
  generalize byteN s (i + 3) = b3
  unfold Lib.decodeN
  (repeat' split) <;> simp only <;> omega

theorem decodeL_drop (s : ByteArray) (pos : Nat) (h : pos ≤ s.size) : Lib.decodeL (s.data.toList.drop pos) = Utf8.decode s pos := by
  unfold Lib.decodeL
  rw [← Lib.ext_list, ← decode_extract s pos h]

theorem valid_from (s : ByteArray) : ∀ (f pos : Nat), pos ≤ s.size → Lib.validGoD f (s.data.toList.drop pos) = okFrom s f pos
  | 0, _, _ => rfl
  | f + 1, pos, hp => by
    unfold Lib.validGoD okFrom
    by_cases h : pos < s.size
    · have hne : s.data.toList.drop pos ≠ [] := by
        intro e
        have := congrArg List.length e
        simp at this
        have h2 : s.data.size = s.size := rfl
        omega
      rw [if_neg hne, if_pos h, decodeL_drop s pos hp, List.drop_drop, valid_from s f _ (decode_fits s pos h)]
      by_cases hb : Utf8.decode s pos = (65533, 1)
      · rw [if_pos hb, if_pos (by rw [hb]; exact ⟨rfl, rfl⟩)]
      · rw [if_neg hb, if_neg (fun e => hb (Prod.ext e.1 e.2))]
    · have he : s.data.toList.drop pos = [] := List.drop_eq_nil_of_le (by simp; exact Nat.le_of_not_lt h)
      rw [if_pos he, if_neg h]

theorem valid_eq (s : ByteArray) : Lib.validD s.data.toList = textOk s := by
  have h := valid_from s s.size 0 (Nat.zero_le _)
  rw [List.drop_zero] at h
  unfold Lib.validD textOk
  rw [← h]
  congr 1

theorem runes_pos (s : ByteArray) (h : 0 < s.size) : 0 < (runesOf s).length := by
  unfold runesOf
  obtain ⟨n, hn⟩ : ∃ n, s.size = n + 1 := ⟨s.size - 1, by omega⟩
  rw [hn, runesFrom_step s n 0 h]
  simp
theorem runesFrom_length (s : ByteArray) : ∀ f pos, (runesFrom s f pos).length ≤ f
  | 0, _ => by simp [runesFrom]
  | f + 1, pos => by
    unfold runesFrom
    split
    · have := runesFrom_length s f (pos + (Utf8.decode s pos).2)
      simp; omega
    · simp
theorem runesOf_length (s : ByteArray) : (runesOf s).length ≤ s.size := runesFrom_length s _ _
theorem signsOf_length (s : ByteArray) : (signsOf s).length ≤ s.size := by
  unfold signsOf
  split
  · exact runesOf_length s
  · simp
/-- A text is valid just where it is empty or has a code point told. -/
theorem textOk_iff (s : ByteArray) : textOk s = (decide (s.size = 0) || decide (0 < (signsOf s).length)) := by
  by_cases h : s.size = 0
  · simp only [h, decide_true, Bool.true_or]
    unfold textOk
    exact okFrom_end s _ 0 (by omega)
  · unfold signsOf
    cases hk : textOk s
    · simp [h]
    · simp [h, runes_pos s (by omega)]

end Go.Proofs.YtkjffifdlckljaaDoor.sign
