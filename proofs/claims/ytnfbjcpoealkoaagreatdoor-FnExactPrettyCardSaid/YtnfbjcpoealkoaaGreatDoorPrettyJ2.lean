/-
  Plain facts (no Go text): the code points of a text, place by place; that a text is valid.
-/
import Derived.Test.YtnfbjcpoealkoaaGreatDoorPrettyJ1
import Derived.Lib.ValidLaws
import Derived.Lib.ValidAsc
import Derived.Lib.RuneBytes
import Derived.Test.YtnfbjcpoealkoaaGreatDoorPrettyJ0
namespace Go.Proofs.YtnfbjcpoealkoaaGreatDoor.sign

def runesFrom (s : ByteArray) : Nat → Nat → List Int
  | 0, _ => []
  | f + 1, pos => if pos < s.size then ((Utf8.decode s pos).1 : Int) :: runesFrom s f (pos + (Utf8.decode s pos).2) else []
def okFrom (s : ByteArray) : Nat → Nat → Bool
  | 0, _ => true
  | f + 1, pos => if pos < s.size then (if Utf8.decode s pos = (65533, 1) then false else okFrom s f (pos + (Utf8.decode s pos).2)) else true
def runesOf (s : ByteArray) : List Int := runesFrom s s.size 0
def textOk (s : ByteArray) : Bool := okFrom s s.size 0
/-- What Signs returns. -/
def signsOf (s : ByteArray) : List Int := if textOk s then runesOf s else []

theorem runesFrom_end (s : ByteArray) (f pos : Nat) (h : ¬ pos < s.size) : runesFrom s f pos = [] := by cases f <;> simp [runesFrom, h]
theorem okFrom_end (s : ByteArray) (f pos : Nat) (h : ¬ pos < s.size) : okFrom s f pos = true := by cases f <;> simp [okFrom, h]
theorem runesFrom_step (s : ByteArray) (f pos : Nat) (h : pos < s.size) : runesFrom s (f + 1) pos = ((Utf8.decode s pos).1 : Int) :: runesFrom s f (pos + (Utf8.decode s pos).2) := by simp [runesFrom, h]
theorem okFrom_bad (s : ByteArray) (f pos : Nat) (h : pos < s.size) (hb : Utf8.decode s pos = (65533, 1)) : okFrom s (f + 1) pos = false := by simp [okFrom, h, hb]
theorem okFrom_step (s : ByteArray) (f pos : Nat) (h : pos < s.size) (hb : Utf8.decode s pos ≠ (65533, 1)) : okFrom s (f + 1) pos = okFrom s f (pos + (Utf8.decode s pos).2) := by simp [okFrom, h, hb]

theorem decode_fits (s : ByteArray) (i : Nat) (h : i < s.size) : i + (Utf8.decode s i).2 ≤ s.size := by
  rw [decode_num]
  generalize byteN s i = b0
  generalize byteN s (i + 1) = b1
  generalize byteN s (i + 2) = b2
  generalize byteN s (i + 3) = b3
  unfold Lib.decodeN
  (repeat' split) <;> simp only <;> omega

theorem decodeL_drop (s : ByteArray) (pos : Nat) (h : pos ≤ s.size) : Lib.decodeL (s.data.toList.drop pos) = Utf8.decode s pos := by
  unfold Lib.decodeL
  rw [← Lib.ext_list, ← decode_extract s pos h]

theorem valid_from (s : ByteArray) : ∀ (f pos : Nat), pos ≤ s.size → Lib.validGoD f (s.data.toList.drop pos) = okFrom s f pos
  | 0, _, _ => rfl
  | f + 1, pos, hp => by
    unfold Lib.validGoD okFrom
    by_cases h : pos < s.size
    · have hne : s.data.toList.drop pos ≠ [] := by
        intro e
        have := congrArg List.length e
        simp at this
        have h2 : s.data.size = s.size := rfl
        omega
      rw [if_neg hne, if_pos h, decodeL_drop s pos hp, List.drop_drop, valid_from s f _ (decode_fits s pos h)]
      by_cases hb : Utf8.decode s pos = (65533, 1)
      · rw [if_pos hb, if_pos (by rw [hb]; exact ⟨rfl, rfl⟩)]
      · rw [if_neg hb, if_neg (fun e => hb (Prod.ext e.1 e.2))]
    · have he : s.data.toList.drop pos = [] := List.drop_eq_nil_of_le (by simp; exact Nat.le_of_not_lt h)
      rw [if_pos he, if_neg h]

theorem valid_eq (s : ByteArray) : Lib.validD s.data.toList = textOk s := by
  have h := valid_from s s.size 0 (Nat.zero_le _)
  rw [List.drop_zero] at h
  unfold Lib.validD textOk
  rw [← h]
  congr 1

theorem runes_pos (s : ByteArray) (h : 0 < s.size) : 0 < (runesOf s).length := by
  unfold runesOf
  obtain ⟨n, hn⟩ : ∃ n, s.size = n + 1 := ⟨s.size - 1, by omega⟩
  rw [hn, runesFrom_step s n 0 h]
  simp
theorem runesFrom_length (s : ByteArray) : ∀ f pos, (runesFrom s f pos).length ≤ f
  | 0, _ => by simp [runesFrom]
  | f + 1, pos => by
    unfold runesFrom
    split
    · have := runesFrom_length s f (pos + (Utf8.decode s pos).2)
      simp; omega
    · simp
theorem runesOf_length (s : ByteArray) : (runesOf s).length ≤ s.size := runesFrom_length s _ _
theorem signsOf_length (s : ByteArray) : (signsOf s).length ≤ s.size := by
  unfold signsOf
  split
  · exact runesOf_length s
  · simp
/-- A text is valid just where it is empty or has a code point told. -/
theorem textOk_iff (s : ByteArray) : textOk s = (decide (s.size = 0) || decide (0 < (signsOf s).length)) := by
  by_cases h : s.size = 0
  · simp only [h, decide_true, Bool.true_or]
    unfold textOk
    exact okFrom_end s _ 0 (by omega)
  · unfold signsOf
    cases hk : textOk s
    · simp [h]
    · simp [h, runes_pos s (by omega)]

end Go.Proofs.YtnfbjcpoealkoaaGreatDoor.sign
/-
  Plain facts (no Go text): a text in JSON's quotes, byte by byte and code point by code point.
-/
namespace Go.Proofs.YtnfbjcpoealkoaaGreatDoor.quote
open Go.Proofs.YtnfbjcpoealkoaaGreatDoor.sign

def hexDig (n : Nat) : UInt8 := if n < 10 then UInt8.ofNat (48 + n) else UInt8.ofNat (87 + n)
/-- The letter behind a backslash for a byte, or 0. -/
def shortOf (n : Nat) : Nat := if n = 34 then 34 else if n = 92 then 92 else if n = 8 then 98 else if n = 12 then 102 else if n = 10 then 110 else if n = 13 then 114 else if n = 9 then 116 else 0
/-- One byte of a text in quotes. -/
def quoteB (b : UInt8) : List UInt8 :=
  if shortOf b.toNat ≠ 0 then [92, UInt8.ofNat (shortOf b.toNat)] else if b.toNat < 32 then [92, 117, 48, 48, hexDig (b.toNat / 16), hexDig (b.toNat % 16)] else [b]
def quoteL (l : List UInt8) : List UInt8 := l.flatMap quoteB
def quoteOf (s : ByteArray) : ByteArray := if textOk s then ⟨((34 : UInt8) :: (quoteL s.data.toList ++ [34])).toArray⟩ else ⟨#[]⟩
/-- One code point of a text in quotes. -/
def quoteR (n : Nat) : List UInt8 := if n < 128 then quoteB (UInt8.ofNat n) else Lib.encodeRune n

theorem quoteB_len (b : UInt8) : 1 ≤ (quoteB b).length ∧ (quoteB b).length ≤ 6 := by unfold quoteB; (repeat' split) <;> simp
theorem quoteL_append (a b : List UInt8) : quoteL (a ++ b) = quoteL a ++ quoteL b := by simp [quoteL]
theorem quoteL_len (l : List UInt8) : (quoteL l).length ≤ 6 * l.length := by
  induction l with
  | nil => simp [quoteL]
  | cons b l ih =>
    have := (quoteB_len b).2
    simp only [quoteL, List.flatMap_cons, List.length_append, List.length_cons] at *
    omega
theorem shortOf_high {n : Nat} (h : 93 ≤ n) : shortOf n = 0 := by unfold shortOf; (repeat' split) <;> omega
theorem quoteB_high {b : UInt8} (h : 128 ≤ b.toNat) : quoteB b = [b] := by
  unfold quoteB
  rw [shortOf_high (by omega), if_neg (by simp), if_neg (by omega)]
theorem quoteL_high {l : List UInt8} (h : ∀ b ∈ l, 128 ≤ b.toNat) : quoteL l = l := by
  induction l with
  | nil => rfl
  | cons b l ih =>
    have e1 := quoteB_high (h b (by simp))
    have e2 := ih (fun x hx => h x (by simp [hx]))
    simp only [quoteL, List.flatMap_cons] at *
    rw [e1, e2]
    rfl

theorem prod_eq {a b c d : Nat} (h : (a, b) = (c, d)) : a = c ∧ b = d := ⟨congrArg Prod.fst h, congrArg Prod.snd h⟩
/-- The bytes of a code point that the decoder reads. -/
theorem decode_bytes (s : ByteArray) (i N M : Nat) (hi : i < s.size) (hd : Utf8.decode s i = (N, M)) (hok : Utf8.decode s i ≠ (65533, 1)) : putSign N = s.extract i (i + M) := by
  have hn := decode_num s i
  have b0 := byteN_lt s i
  have b1 := byteN_lt s (i + 1)
  have b2 := byteN_lt s (i + 2)
  have b3 := byteN_lt s (i + 3)
  have hf := decode_fits s i hi
  rw [hd] at hf
  simp only at hf
  by_cases h1 : byteN s i < 128
  · obtain ⟨e1, e2⟩ := one_ok (n := s.size - i) (b1 := byteN s (i + 1)) (b2 := byteN s (i + 2)) (b3 := byteN s (i + 3)) h1
    rw [← hn, hd] at e1
    obtain ⟨rfl, rfl⟩ := prod_eq e1
    rw [e2, extract_nums s i 1 hf]
    rfl
  by_cases h2 : byteN s i ≤ 191 ∨ 248 ≤ byteN s i
  · exact absurd (hn.trans (no_head (by omega) b0)) hok
  by_cases h3 : byteN s i ≤ 223
  · by_cases hx : i + 2 ≤ s.size
    · rcases two_ok (n := s.size - i) (b0 := byteN s i) (b1 := byteN s (i + 1)) (b2 := byteN s (i + 2)) (b3 := byteN s (i + 3)) (by omega) (by omega) b1 rfl with ⟨e1, e2⟩ | ⟨e1, e2⟩
      · rw [← hn, hd] at e1
        obtain ⟨rfl, rfl⟩ := prod_eq e1
        rw [e2, extract_nums s i 2 hf]
        rfl
      · exact absurd (hn.trans e1) hok
    · exact absurd (hn.trans (short2 (by omega) (by omega))) hok
  by_cases h4 : byteN s i ≤ 239
  · by_cases hx : i + 3 ≤ s.size
    · rcases three_ok (n := s.size - i) (b0 := byteN s i) (b1 := byteN s (i + 1)) (b2 := byteN s (i + 2)) (b3 := byteN s (i + 3)) (by omega) (by omega) b1 b2 rfl with ⟨e1, e2⟩ | ⟨e1, e2⟩
      · rw [← hn, hd] at e1
        obtain ⟨rfl, rfl⟩ := prod_eq e1
        rw [e2, extract_nums s i 3 hf]
        rfl
      · exact absurd (hn.trans e1) hok
    · exact absurd (hn.trans (short3 (by omega) (by omega))) hok
  · by_cases hx : i + 4 ≤ s.size
    · rcases four_ok (n := s.size - i) (b0 := byteN s i) (b1 := byteN s (i + 1)) (b2 := byteN s (i + 2)) (b3 := byteN s (i + 3)) (by omega) (by omega) b1 b2 b3 rfl with ⟨e1, e2⟩ | ⟨e1, e2⟩
      · rw [← hn, hd] at e1
        obtain ⟨rfl, rfl⟩ := prod_eq e1
        rw [e2, extract_nums s i 4 hf]
        rfl
      · exact absurd (hn.trans e1) hok
    · exact absurd (hn.trans (short4 (by omega) (by omega))) hok
theorem decode_valid (s : ByteArray) (i N M : Nat) (hi : i < s.size) (hd : Utf8.decode s i = (N, M)) (hok : Utf8.decode s i ≠ (65533, 1)) : Utf8.valid N = true := by
  cases hv : Utf8.valid (N : Int) with
  | true => rfl
  | false =>
    have h := decode_bytes s i N M hi hd hok
    rw [putSign_invalid hv] at h
    have hz := congrArg ByteArray.size h
    have hf := decode_fits s i hi
    have hb := (decode_bound s i).2.1
    rw [hd] at hf hb
    simp only at hf hb
    rw [ByteArray.size_extract] at hz
    have : ByteArray.size ⟨#[]⟩ = 0 := rfl
    omega

/-- What AppendRune lays is the code point's bytes. -/
theorem encode_list {n : Int} (hv : Utf8.valid n = true) : (Utf8.encode n).data.toList = Lib.encodeRune n := by
  have hr : (0 ≤ n ∧ n < 55296) ∨ (57343 < n ∧ n ≤ 1114111) := by
    rw [validRune_eq] at hv
    simpa [validRune] using hv
  unfold Lib.encodeRune
  by_cases h1 : n < 128
  · rw [← enc1 (by omega) h1, strOfNums_data, Lib.encodeRuneZ_one (by omega) (by omega)]
  by_cases h2 : n < 2048
  · rw [← enc2 (by omega) h2, strOfNums_data, Lib.encodeRuneZ_two (by omega) (by omega)]
  by_cases h3 : n < 65536
  · rw [← enc3 (by omega) h3 hv, strOfNums_data, Lib.encodeRuneZ_three (by omega)]
  · rw [← enc4 (by omega) (by omega), strOfNums_data, Lib.encodeRuneZ_four (by omega) (by omega)]
theorem encode_high {n : Int} (h0 : 128 ≤ n) (h1 : n ≤ 1114111) : ∀ b ∈ Lib.encodeRune n, 128 ≤ b.toNat := by
  intro b hb
  unfold Lib.encodeRune Lib.encodeRuneZ at hb
  (repeat' split at hb) <;> simp at hb <;> (rcases hb with rfl | rfl | rfl | rfl) <;> simp <;> omega

/-- One step of the text: the bytes of a code point in quotes are the code point's. -/
theorem quote_step (s : ByteArray) (i N M : Nat) (hi : i < s.size) (hd : Utf8.decode s i = (N, M)) (hok : Utf8.decode s i ≠ (65533, 1)) :
    quoteL (s.data.toList.take (i + M)) = quoteL (s.data.toList.take i) ++ quoteR N := by
  have hb := decode_bytes s i N M hi hd hok
  have hv := decode_valid s i N M hi hd hok
  have hN : (N : Int) ≤ 1114111 := by have := (decode_bound s i).1; rw [hd] at this; simp only at this; omega
  have e : s.data.toList.take (i + M) = s.data.toList.take i ++ (s.data.toList.drop i).take M := List.take_add
  rw [e, quoteL_append]
  have hx : (s.data.toList.drop i).take M = Lib.encodeRune N := by
    have h1 : (putSign N).data.toList = (s.extract i (i + M)).data.toList := by rw [hb]
    rw [Lib.extract_data, show i + M - i = M by omega, putSign_valid hv, encode_list hv] at h1
    exact h1.symm
  have key : quoteL (Lib.encodeRune N) = quoteR N := by
    unfold quoteR
    by_cases h : N < 128
    · rw [if_pos h]
      unfold Lib.encodeRune
      rw [Lib.encodeRuneZ_one (by omega) (by omega)]
      simp [quoteL]
    · rw [if_neg h]
      exact quoteL_high (encode_high (by omega) hN)
  rw [hx, key]

end Go.Proofs.YtnfbjcpoealkoaaGreatDoor.quote
/-
  Plain: a value in JSON, as bytes.
-/
namespace Go.Proofs.YtnfbjcpoealkoaaGreatDoor.json
open Go.Proofs.YtnfbjcpoealkoaaGreatDoor.val

def wordL (k : Int) : List UInt8 := if k = 0 then [110, 117, 108, 108] else if k = 1 then [102, 97, 108, 115, 101] else [116, 114, 117, 101]
/-- A line break and blanks, or nothing. -/
def lineL (p : Bool) (lv : Nat) : List UInt8 := if p then 10 :: List.replicate (2 * lv) 32 else []
def colonL (p : Bool) : List UInt8 := if p then [58, 32] else [58]
/-- What stands ahead of an element. -/
def sepL (p : Bool) (k : Int) (lv i : Nat) : List UInt8 := if k = 8 ∧ i % 2 = 1 then colonL p else (if 0 < i then [44] else []) ++ lineL p (lv + 1)
mutual
def jsonT (p : Bool) : Nat → LT → List UInt8
  | lv, .mk k n e s _ _ kids =>
    if k = 0 ∨ k = 1 ∨ k = 2 then wordL k else
    if k = 3 ∨ k = 4 then numtext.textL n e else
    if k = 5 then (quote.quoteOf s).data.toList else
    (if k = 8 then [123] else [91]) ++ itemsT p k lv 0 kids ++ (if kids.length = 0 then [] else lineL p lv) ++ (if k = 8 then [125] else [93])
def itemsT (p : Bool) (k : Int) (lv : Nat) : Nat → List LT → List UInt8
  | _, [] => []
  | i, t :: ts => sepL p k lv i ++ jsonT p (lv + 1) t ++ itemsT p k lv (i + 1) ts
end
theorem itemsT_take (p : Bool) (k : Int) (lv : Nat) (l : List LT) : ∀ (i j : Nat) (h : j < l.length), itemsT p k lv i (l.take (j + 1)) = itemsT p k lv i (l.take j) ++ (sepL p k lv (i + j) ++ jsonT p (lv + 1) l[j]) := by
  induction l with
  | nil => intro i j h; simp at h
  | cons x l ih =>
    intro i j h
    cases j with
    | zero => simp [itemsT]
    | succ j =>
      have h' : j < l.length := by simpa using h
      rw [List.take_succ_cons, List.take_succ_cons, itemsT, itemsT, ih (i + 1) j h', List.getElem_cons_succ, show i + 1 + j = i + (j + 1) by omega]
      simp
theorem itemsT_len (p : Bool) (k : Int) (lv : Nat) (l : List LT) (i j : Nat) : (itemsT p k lv i (l.take j)).length ≤ (itemsT p k lv i l).length := by
  induction l generalizing i j with
  | nil => simp [itemsT]
  | cons x l ih =>
    cases j with
    | zero => simp [itemsT]
    | succ j =>
      rw [List.take_succ_cons, itemsT, itemsT]
      have := ih (i + 1) j
      simp only [List.length_append]
      omega
end Go.Proofs.YtnfbjcpoealkoaaGreatDoor.json
