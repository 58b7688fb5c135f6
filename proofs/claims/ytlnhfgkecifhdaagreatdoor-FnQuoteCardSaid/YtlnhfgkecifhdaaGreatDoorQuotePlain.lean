/-
  Plain facts (no Go text): a text in JSON's quotes, byte by byte and code point by code point.
-/
import Derived.Test.YtlnhfgkecifhdaaGreatDoorSignsPlain
import Derived.Lib.RuneBytes
namespace Go.Proofs.YtlnhfgkecifhdaaGreatDoor.quote
open Go.Proofs.YtlnhfgkecifhdaaGreatDoor.sign

def hexDig (n : Nat) : UInt8 := if n < 10 then UInt8.ofNat (48 + n) else UInt8.ofNat (87 + n)
/-- The letter behind a backslash for a byte, or 0. -/
def shortOf (n : Nat) : Nat := if n = 34 then 34 else if n = 92 then 92 else if n = 8 then 98 else if n = 12 then 102 else if n = 10 then 110 else if n = 13 then 114 else if n = 9 then 116 else 0
/-- One byte of a text in quotes. -/
def quoteB (b : UInt8) : List UInt8 :=
  if shortOf b.toNat ≠ 0 then [92, UInt8.ofNat (shortOf b.toNat)] else if b.toNat < 32 then [92, 117, 48, 48, hexDig (b.toNat / 16), hexDig (b.toNat % 16)] else [b]
def quoteL (l : List UInt8) : List UInt8 := l.flatMap quoteB
def quoteOf (s : ByteArray) : ByteArray := if textOk s then ⟨((34 : UInt8) :: (quoteL s.data.toList ++ [34])).toArray⟩ else ⟨#[]⟩
/-- One code point of a text in quotes. -/
def quoteR (n : Nat) : List UInt8 := if n < 128 then quoteB (UInt8.ofNat n) else Lib.encodeRune n

theorem quoteB_len (b : UInt8) : 1 ≤ (quoteB b).length ∧ (quoteB b).length ≤ 6 := by unfold quoteB; (repeat' split) <;> simp
theorem quoteL_append (a b : List UInt8) : quoteL (a ++ b) = quoteL a ++ quoteL b := by simp [quoteL]
theorem quoteL_len (l : List UInt8) : (quoteL l).length ≤ 6 * l.length := by
  induction l with
  | nil => simp [quoteL]
  | cons b l ih =>
    have := (quoteB_len b).2
    simp only [quoteL, List.flatMap_cons, List.length_append, List.length_cons] at *
    omega
theorem shortOf_high {n : Nat} (h : 93 ≤ n) : shortOf n = 0 := by unfold shortOf; (repeat' split) <;> omega
theorem quoteB_high {b : UInt8} (h : 128 ≤ b.toNat) : quoteB b = [b] := by
  unfold quoteB
  rw [shortOf_high (by omega), if_neg (by simp), if_neg (by omega)]
theorem quoteL_high {l : List UInt8} (h : ∀ b ∈ l, 128 ≤ b.toNat) : quoteL l = l := by
  induction l with
  | nil => rfl
  | cons b l ih =>
    have e1 := quoteB_high (h b (by simp))
    have e2 := ih (fun x hx => h x (by simp [hx]))
    simp only [quoteL, List.flatMap_cons] at *
    rw [e1, e2]
    rfl

theorem prod_eq {a b c d : Nat} (h : (a, b) = (c, d)) : a = c ∧ b = d := ⟨congrArg Prod.fst h, congrArg Prod.snd h⟩
/-- The bytes of a code point that the decoder reads. -/
theorem decode_bytes (s : ByteArray) (i N M : Nat) (hi : i < s.size) (hd : Utf8.decode s i = (N, M)) (hok : Utf8.decode s i ≠ (65533, 1)) : putSign N = s.extract i (i + M) := by
  have hn := decode_num s i
  have b0 := byteN_lt s i
  have b1 := byteN_lt s (i + 1)
  have b2 := byteN_lt s (i + 2)
  have b3 := byteN_lt s (i + 3)
  have hf := decode_fits s i hi
  rw [hd] at hf
  simp only at hf
  by_cases h1 : byteN s i < 128
  · obtain ⟨e1, e2⟩ := one_ok (n := s.size - i) (b1 := byteN s (i + 1)) (b2 := byteN s (i + 2)) (b3 := byteN s (i + 3)) h1
    rw [← hn, hd] at e1
    obtain ⟨rfl, rfl⟩ := prod_eq e1
    rw [e2, extract_nums s i 1 hf]
    rfl
  by_cases h2 : byteN s i ≤ 191 ∨ 248 ≤ byteN s i
  · exact absurd (hn.trans (no_head (by omega) b0)) hok
  by_cases h3 : byteN s i ≤ 223
  · by_cases hx : i + 2 ≤ s.size
    · rcases two_ok (n := s.size - i) (b0 := byteN s i) (b1 := byteN s (i + 1)) (b2 := byteN s (i + 2)) (b3 := byteN s (i + 3)) (by omega) (by omega) b1 rfl with ⟨e1, e2⟩ | ⟨e1, e2⟩
      · rw [← hn, hd] at e1
        obtain ⟨rfl, rfl⟩ := prod_eq e1
        rw [e2, extract_nums s i 2 hf]
        rfl
      · exact absurd (hn.trans e1) hok
    · exact absurd (hn.trans (short2 (by omega) (by omega))) hok
  by_cases h4 : byteN s i ≤ 239
  · by_cases hx : i + 3 ≤ s.size
    · rcases three_ok (n := s.size - i) (b0 := byteN s i) (b1 := byteN s (i + 1)) (b2 := byteN s (i + 2)) (b3 := byteN s (i + 3)) (by omega) (by omega) b1 b2 rfl with ⟨e1, e2⟩ | ⟨e1, e2⟩
      · rw [← hn, hd] at e1
        obtain ⟨rfl, rfl⟩ := prod_eq e1
        rw [e2, extract_nums s i 3 hf]
        rfl
      · exact absurd (hn.trans e1) hok
    · exact absurd (hn.trans (short3 (by omega) (by omega))) hok
  · by_cases hx : i + 4 ≤ s.size
    · rcases four_ok (n := s.size - i) (b0 := byteN s i) (b1 := byteN s (i + 1)) (b2 := byteN s (i + 2)) (b3 := byteN s (i + 3)) (by omega) (by omega) b1 b2 b3 rfl with ⟨e1, e2⟩ | ⟨e1, e2⟩
      · rw [← hn, hd] at e1
        obtain ⟨rfl, rfl⟩ := prod_eq e1
        rw [e2, extract_nums s i 4 hf]
        rfl
      · exact absurd (hn.trans e1) hok
    · exact absurd (hn.trans (short4 (by omega) (by omega))) hok
theorem decode_valid (s : ByteArray) (i N M : Nat) (hi : i < s.size) (hd : Utf8.decode s i = (N, M)) (hok : Utf8.decode s i ≠ (65533, 1)) : Utf8.valid N = true := by
  cases hv : Utf8.valid (N : Int) with
  | true => rfl
  | false =>
    have h := decode_bytes s i N M hi hd hok
    rw [putSign_invalid hv] at h
    have hz := congrArg ByteArray.size h
    have hf := decode_fits s i hi
    have hb := (decode_bound s i).2.1
    rw [hd] at hf hb
    simp only at hf hb
    rw [ByteArray.size_extract] at hz
    have : ByteArray.size ⟨#[]⟩ = 0 := rfl
    omega

/-- What AppendRune lays is the code point's bytes. -/
theorem encode_list {n : Int} (hv : Utf8.valid n = true) : (Utf8.encode n).data.toList = Lib.encodeRune n := by
  have hr : (0 ≤ n ∧ n < 55296) ∨ (57343 < n ∧ n ≤ 1114111) := by
    rw [validRune_eq] at hv
    simpa [validRune] using hv
  unfold Lib.encodeRune
  by_cases h1 : n < 128
  · rw [← enc1 (by omega) h1, strOfNums_data, Lib.encodeRuneZ_one (by omega) (by omega)]
  by_cases h2 : n < 2048
  · rw [← enc2 (by omega) h2, strOfNums_data, Lib.encodeRuneZ_two (by omega) (by omega)]
  by_cases h3 : n < 65536
  · rw [← enc3 (by omega) h3 hv, strOfNums_data, Lib.encodeRuneZ_three (by omega)]
  · rw [← enc4 (by omega) (by omega), strOfNums_data, Lib.encodeRuneZ_four (by omega) (by omega)]
theorem encode_high {n : Int} (h0 : 128 ≤ n) (h1 : n ≤ 1114111) : ∀ b ∈ Lib.encodeRune n, 128 ≤ b.toNat := by
  intro b hb
  unfold Lib.encodeRune Lib.encodeRuneZ at hb
  (repeat' split at hb) <;> simp at hb <;> (rcases hb with rfl | rfl | rfl | rfl) <;> simp <;> omega

/-- One step of the text: the bytes of a code point in quotes are the code point's. -/
theorem quote_step (s : ByteArray) (i N M : Nat) (hi : i < s.size) (hd : Utf8.decode s i = (N, M)) (hok : Utf8.decode s i ≠ (65533, 1)) :
    quoteL (s.data.toList.take (i + M)) = quoteL (s.data.toList.take i) ++ quoteR N := by
  have hb := decode_bytes s i N M hi hd hok
  have hv := decode_valid s i N M hi hd hok
  have hN : (N : Int) ≤ 1114111 := by have := (decode_bound s i).1; rw [hd] at this; simp only at this; omega
  have e : s.data.toList.take (i + M) = s.data.toList.take i ++ (s.data.toList.drop i).take M := List.take_add
  rw [e, quoteL_append]
  have hx : (s.data.toList.drop i).take M = Lib.encodeRune N := by
    have h1 : (putSign N).data.toList = (s.extract i (i + M)).data.toList := by rw [hb]
    rw [Lib.extract_data, show i + M - i = M by omega, putSign_valid hv, encode_list hv] at h1
    exact h1.symm
  have key : quoteL (Lib.encodeRune N) = quoteR N := by
    unfold quoteR
    by_cases h : N < 128
    · rw [if_pos h]
      unfold Lib.encodeRune
      rw [Lib.encodeRuneZ_one (by omega) (by omega)]
      simp [quoteL]
    · rw [if_neg h]
      exact quoteL_high (encode_high (by omega) hN)
  rw [hx, key]

end Go.Proofs.YtlnhfgkecifhdaaGreatDoor.quote
