/-
  Plain facts (no Go text): where a code point's bytes stand in a text, the decoder reads it; a row of code points' bytes is a valid text.
-/
import Derived.Test.YtlnhfgkecifhdaaGreatDoorSignBack
import Derived.Test.YtlnhfgkecifhdaaGreatDoorQuotePlain
namespace Go.Proofs.YtlnhfgkecifhdaaGreatDoor.sign

theorem valid_range {n : Int} (hv : Utf8.valid n = true) : (0 ≤ n ∧ n < 55296) ∨ (57343 < n ∧ n ≤ 1114111) := by
  rw [validRune_eq] at hv
  simpa [validRune] using hv

theorem decode_here (s : ByteArray) (i n : Nat) (hv : Utf8.valid (n : Int) = true) (hf : i + (putSign n).size ≤ s.size) (he : s.extract i (i + (putSign n).size) = putSign n) : Utf8.decode s i = (n, (putSign n).size) := by
  have hr := valid_range hv
  have b0 := byteN_lt s i
  have b1 := byteN_lt s (i + 1)
  have b2 := byteN_lt s (i + 2)
  have b3 := byteN_lt s (i + 3)
  rw [decode_num]
  by_cases h1 : n < 128
  · have e : putSign n = strOfNums [(n : Int)] := put1 (by omega) (by omega)
    have hz : (putSign n).size = 1 := by rw [e, nums_size]; rfl
    rw [hz] at hf he ⊢
    rw [extract_nums s i 1 hf, e] at he
    have hb := str_inj (by intro x hx; simp at hx; omega) (by intro x hx; simp at hx; omega) he
    simp at hb
    rw [show byteN s i = n by omega, (one_ok h1).1]
  by_cases h2 : n < 2048
  · have e : putSign n = strOfNums [192 + (n : Int) / 64, 128 + (n : Int) % 64] := put2 (by omega) (by omega)
    have hz : (putSign n).size = 2 := by rw [e, nums_size]; rfl
    rw [hz] at hf he ⊢
    rw [extract_nums s i 2 hf] at he
    have he2 : strOfNums [(byteN s i : Int), (byteN s (i + 1) : Int)] = putSign n := he
    rw [e] at he
    have hb := str_inj (xs := [(byteN s i : Int), (byteN s (i + 1) : Int)]) (by intro x hx; simp at hx; omega) (by intro x hx; simp at hx; omega) he
    simp at hb
    rcases two_ok (n := s.size - i) (b0 := byteN s i) (b1 := byteN s (i + 1)) (b2 := byteN s (i + 2)) (b3 := byteN s (i + 3)) (N := n) (by omega) (by omega) (by omega) (by omega) with ⟨e1, _⟩ | ⟨_, e2⟩
    · exact e1
    · exact absurd he2.symm e2
  by_cases h3 : n < 65536
  · have e : putSign n = strOfNums [224 + (n : Int) / 4096, 128 + (n : Int) / 64 % 64, 128 + (n : Int) % 64] := put3 (by omega) (by omega) (by omega)
    have hz : (putSign n).size = 3 := by rw [e, nums_size]; rfl
    rw [hz] at hf he ⊢
    rw [extract_nums s i 3 hf] at he
    have he2 : strOfNums [(byteN s i : Int), (byteN s (i + 1) : Int), (byteN s (i + 2) : Int)] = putSign n := he
    rw [e] at he
    have hb := str_inj (xs := [(byteN s i : Int), (byteN s (i + 1) : Int), (byteN s (i + 2) : Int)]) (by intro x hx; simp at hx; omega) (by intro x hx; simp at hx; omega) he
    simp at hb
    rcases three_ok (n := s.size - i) (b0 := byteN s i) (b1 := byteN s (i + 1)) (b2 := byteN s (i + 2)) (b3 := byteN s (i + 3)) (N := n) (by omega) (by omega) (by omega) (by omega) (by omega) with ⟨e1, _⟩ | ⟨_, e2⟩
    · exact e1
    · exact absurd he2.symm e2
  · have e : putSign n = strOfNums [240 + (n : Int) / 262144, 128 + (n : Int) / 4096 % 64, 128 + (n : Int) / 64 % 64, 128 + (n : Int) % 64] := put4 (by omega) (by omega)
    have hz : (putSign n).size = 4 := by rw [e, nums_size]; rfl
    rw [hz] at hf he ⊢
    rw [extract_nums s i 4 hf] at he
    have he2 : strOfNums [(byteN s i : Int), (byteN s (i + 1) : Int), (byteN s (i + 2) : Int), (byteN s (i + 3) : Int)] = putSign n := he
    rw [e] at he
    have hb := str_inj (xs := [(byteN s i : Int), (byteN s (i + 1) : Int), (byteN s (i + 2) : Int), (byteN s (i + 3) : Int)]) (by intro x hx; simp at hx; omega) (by intro x hx; simp at hx; omega) he
    simp at hb
    rcases four_ok (n := s.size - i) (b0 := byteN s i) (b1 := byteN s (i + 1)) (b2 := byteN s (i + 2)) (b3 := byteN s (i + 3)) (N := n) (by omega) (by omega) (by omega) (by omega) (by omega) (by omega) with ⟨e1, _⟩ | ⟨_, e2⟩
    · exact e1
    · exact absurd he2.symm e2

theorem put_list {n : Nat} (hv : Utf8.valid (n : Int) = true) : (putSign n).data.toList = Lib.encodeRune n := by rw [putSign_valid hv]; exact quote.encode_list hv
theorem put_len {n : Nat} (hv : Utf8.valid (n : Int) = true) : (putSign n).size = (Lib.encodeRune n).length := by
  have h := congrArg List.length (put_list hv)
  have e : ∀ b : ByteArray, b.size = b.data.toList.length := fun b => by simp
  rw [e, h]
/-- The same, by lists. -/
theorem decode_list (s : ByteArray) (i n : Nat) (rest : List UInt8) (hv : Utf8.valid (n : Int) = true) (he : s.data.toList.drop i = Lib.encodeRune n ++ rest) : Utf8.decode s i = (n, (Lib.encodeRune n).length) ∧ Utf8.decode s i ≠ (65533, 1) ∧ i + (Lib.encodeRune n).length ≤ s.size := by
  have hl := put_len hv
  have hz : s.data.toList.length = s.size := by simp
  have hlen := congrArg List.length he
  rw [List.length_drop, List.length_append] at hlen
  have hpos : 0 < (Lib.encodeRune n).length := by
    unfold Lib.encodeRune
    rw [List.length_map]
    exact (Lib.encodeRuneZ_length n).1
  have hf : i + (putSign n).size ≤ s.size := by omega
  have hd := decode_here s i n hv hf (by
    apply ByteArray.ext
    apply Array.toList_inj.1
    rw [Lib.extract_data, he, show i + (putSign n).size - i = (Lib.encodeRune n).length by omega, List.take_left, put_list hv])
  rw [hl] at hd
  refine ⟨hd, ?_, by omega⟩
  intro e
  have e1 := congrArg Prod.fst (hd.symm.trans e)
  have e2 := congrArg Prod.snd (hd.symm.trans e)
  simp only at e1 e2
  have e3 : (Lib.encodeRune (n : Int)).length = 3 := by
    unfold Lib.encodeRune
    rw [List.length_map, Lib.encodeRuneZ_three (by omega)]
    simp
  omega

/-- A row of code points' bytes. -/
def Texty (l : List UInt8) : Prop := ∃ rs : List Nat, (∀ r ∈ rs, Utf8.valid (r : Int) = true) ∧ l = rs.flatMap fun r : Nat => Lib.encodeRune (r : Int)
theorem Texty.nil : Texty [] := ⟨[], by simp, rfl⟩
theorem Texty.snoc {l : List UInt8} (h : Texty l) (n : Nat) (hv : Utf8.valid (n : Int) = true) : Texty (l ++ Lib.encodeRune n) := by
  obtain ⟨rs, h1, rfl⟩ := h
  refine ⟨rs ++ [n], fun r hr => ?_, by simp⟩
  rcases List.mem_append.1 hr with hr | hr
  · exact h1 r hr
  · obtain rfl := List.mem_singleton.1 hr
    exact hv
theorem ok_row (s : ByteArray) : ∀ (rs : List Nat) (f pos : Nat), (∀ r ∈ rs, Utf8.valid (r : Int) = true) → s.data.toList.drop pos = (rs.flatMap fun r : Nat => Lib.encodeRune (r : Int)) → okFrom s f pos = true
  | [], f, pos, _, h => by
    refine okFrom_end s f pos fun hp => ?_
    have hz : s.data.toList.length = s.size := by simp
    have := congrArg List.length h
    simp at this
    omega
  | r :: rs, 0, pos, _, _ => rfl
  | r :: rs, f + 1, pos, hv, h => by
    rw [List.flatMap_cons] at h
    have hr := hv r (by simp)
    obtain ⟨hd, hb, hfit⟩ := decode_list s pos r _ hr h
    by_cases hp : pos < s.size
    · rw [okFrom_step s f pos hp hb, hd]
      refine ok_row s rs f _ (fun x hx => hv x (by simp [hx])) ?_
      rw [← List.drop_drop, h, List.drop_left]
    · exact okFrom_end s (f + 1) pos hp
theorem textOk_of (s : ByteArray) (h : Texty s.data.toList) : textOk s = true := by
  obtain ⟨rs, h1, h2⟩ := h
  exact ok_row s rs s.size 0 h1 (by rw [List.drop_zero]; exact h2)

end Go.Proofs.YtlnhfgkecifhdaaGreatDoor.sign
