/-
  Plain facts (no Go text): a code point's bytes stand in a text just where the decoder reads it there.
-/
import Derived.Test.YtnaghafmpncdkaaDoorGetCborJ1
import Derived.Lib.DecodeN
import Derived.Test.YtnaghafmpncdkaaDoorRows
import Derived.WalkKit
import Derived.ProofKit
import Derived.OpenShut
import Derived.WalkLawsBesides
import Derived.Deep.RegionWith
import Derived.Lib.Hide
import Derived.Lib.Strings
import Derived.WalkSpells
import Derived.Outline
import Derived.Lib.ValidLaws
import Derived.Lib.ValidAsc
namespace Go.Proofs.YtnaghafmpncdkaaDoor.sign

theorem putSign_valid {n : Int} (h : Utf8.valid n = true) : putSign n = Utf8.encode n := by unfold putSign; rw [if_pos h]
theorem putSign_invalid {n : Int} (h : Utf8.valid n = false) : putSign n = ⟨#[]⟩ := by unfold putSign; rw [h]; rfl
theorem put1 {n : Int} (h0 : 0 ≤ n) (h1 : n < 128) : putSign n = strOfNums [n] := by rw [putSign_valid (valid_of (by omega)), enc1 h0 h1]
theorem put2 {n : Int} (h0 : 128 ≤ n) (h1 : n < 2048) : putSign n = strOfNums [192 + n / 64, 128 + n % 64] := by rw [putSign_valid (valid_of (by omega)), enc2 h0 h1]
theorem put3 {n : Int} (h0 : 2048 ≤ n) (h1 : n < 65536) (hv : n < 55296 ∨ 57343 < n) : putSign n = strOfNums [224 + n / 4096, 128 + n / 64 % 64, 128 + n % 64] := by
  have h := valid_of (n := n) (by omega)
  rw [putSign_valid h, enc3 h0 h1 h]
theorem put4 {n : Int} (h0 : 65536 ≤ n) (h1 : n ≤ 1114111) : putSign n = strOfNums [240 + n / 262144, 128 + n / 4096 % 64, 128 + n / 64 % 64, 128 + n % 64] := by rw [putSign_valid (valid_of (by omega)), enc4 h0 h1]

/-- Two byte strings told as numbers. -/
theorem str_inj {xs ys : List Int} (hx : ∀ x ∈ xs, 0 ≤ x ∧ x < 256) (hy : ∀ x ∈ ys, 0 ≤ x ∧ x < 256) (h : strOfNums xs = strOfNums ys) : xs = ys := by
  have h' : (xs.map fun n => UInt8.ofNat n.toNat) = ys.map fun n => UInt8.ofNat n.toNat := by rw [← strOfNums_data, ← strOfNums_data, h]
  have e : ∀ l : List Int, (∀ x ∈ l, 0 ≤ x ∧ x < 256) → (l.map fun n => UInt8.ofNat n.toNat).map (fun b => (b.toNat : Int)) = l := by
    intro l hl
    rw [List.map_map]
    conv => rhs; rw [← List.map_id l]
    apply List.map_congr_left
    intro x hx
    have := hl x hx
    simp
    omega
  rw [← e xs hx, ← e ys hy, h']

def byteN (s : ByteArray) (j : Nat) : Nat := (s.get! j).toNat
theorem byteN_lt (s : ByteArray) (j : Nat) : byteN s j < 256 := (s.get! j).toNat_lt
theorem byteN_eq (s : ByteArray) (j : Nat) (h : j < s.size) : (s[j].toNat) = byteN s j := by
  unfold byteN
  have h' : j < s.data.size := h
  have e : s.get! j = s.data[j]! := by cases s; rfl
  rw [e, getElem!_pos s.data j h']
  rfl

theorem extract_nums (s : ByteArray) (i m : Nat) (h : i + m ≤ s.size) : s.extract i (i + m) = strOfNums ((List.range m).map fun k => (byteN s (i + k) : Int)) := by
  apply ByteArray.ext
  apply Array.toList_inj.1
  rw [strOfNums_data]
  apply List.ext_getElem
  · simp; omega
  · intro k h1 h2
    have hk : k < m := by simpa using h2
    simp only [List.getElem_map, List.getElem_range]
    have hs : i + k < s.size := by omega
    have : ((byteN s (i + k) : Int)).toNat = byteN s (i + k) := by omega
    rw [this, ← byteN_eq s (i + k) hs]
    simp
    rfl

/-- The decoder at place i, in numbers. -/
theorem decode_num (s : ByteArray) (i : Nat) : Utf8.decode s i = Lib.decodeN (s.size - i) (byteN s i) (byteN s (i + 1)) (byteN s (i + 2)) (byteN s (i + 3)) := Lib.decode_at s i

/-! By the class of the first byte: what the specification's road comes to, and what the decoder reads. -/
theorem no_head {n b0 b1 b2 b3 : Nat} (h : (128 ≤ b0 ∧ b0 ≤ 191) ∨ 248 ≤ b0) (hb : b0 < 256) : Lib.decodeN n b0 b1 b2 b3 = (65533, 1) := by
  unfold Lib.decodeN
  repeat' split
  all_goals first | rfl | (exfalso; omega)
theorem short2 {n b0 b1 b2 b3 : Nat} (h : 192 ≤ b0 ∧ b0 ≤ 223) (hn : n < 2) : Lib.decodeN n b0 b1 b2 b3 = (65533, 1) := by
  unfold Lib.decodeN
  repeat' split
  all_goals first | rfl | (exfalso; omega)
theorem short3 {n b0 b1 b2 b3 : Nat} (h : 224 ≤ b0 ∧ b0 ≤ 239) (hn : n < 3) : Lib.decodeN n b0 b1 b2 b3 = (65533, 1) := by
  unfold Lib.decodeN
  repeat' split
  all_goals first | rfl | (exfalso; omega)
theorem short4 {n b0 b1 b2 b3 : Nat} (h : 240 ≤ b0 ∧ b0 ≤ 247) (hn : n < 4) : Lib.decodeN n b0 b1 b2 b3 = (65533, 1) := by
  unfold Lib.decodeN
  repeat' split
  all_goals first | rfl | (exfalso; omega)

theorem one_ok {n b0 b1 b2 b3 : Nat} (h : b0 < 128) : Lib.decodeN n b0 b1 b2 b3 = (b0, 1) ∧ putSign (b0 : Int) = strOfNums [(b0 : Int)] := by
  refine ⟨?_, put1 (by omega) (by omega)⟩
  unfold Lib.decodeN
  rw [if_pos h]

theorem two_ok {n b0 b1 b2 b3 N : Nat} (h : 192 ≤ b0 ∧ b0 ≤ 223) (hn : 2 ≤ n) (h1 : b1 < 256) (hN : N = b0 % 32 * 64 + b1 % 64) :
    (Lib.decodeN n b0 b1 b2 b3 = (N, 2) ∧ putSign (N : Int) = strOfNums [(b0 : Int), (b1 : Int)]) ∨ (Lib.decodeN n b0 b1 b2 b3 = (65533, 1) ∧ putSign (N : Int) ≠ strOfNums [(b0 : Int), (b1 : Int)]) := by
  by_cases hok : b1 / 64 = 2 ∧ 128 ≤ N
  · left
    refine ⟨?_, ?_⟩
    · unfold Lib.decodeN
      rw [if_neg (by omega), if_pos (by omega), if_pos (by omega), hN]
    · rw [put2 (by omega) (by omega)]
      congr 2
      · omega
      · congr 1; omega
  · right
    refine ⟨?_, ?_⟩
    · unfold Lib.decodeN
      repeat' split
      all_goals first | rfl | (exfalso; omega)
    · intro he
      by_cases hs : N < 128
      · rw [put1 (by omega) (by omega)] at he
        have := congrArg ByteArray.size he
        simp [strOfNums_size] at this
      · rw [put2 (by omega) (by omega)] at he
        have := str_inj (by intro x hx; simp at hx; omega) (by intro x hx; simp at hx; omega) he
        simp at this
        omega

theorem three_ok {n b0 b1 b2 b3 N : Nat} (h : 224 ≤ b0 ∧ b0 ≤ 239) (hn : 3 ≤ n) (h1 : b1 < 256) (h2 : b2 < 256) (hN : N = (b0 % 16 * 64 + b1 % 64) * 64 + b2 % 64) :
    (Lib.decodeN n b0 b1 b2 b3 = (N, 3) ∧ putSign (N : Int) = strOfNums [(b0 : Int), (b1 : Int), (b2 : Int)]) ∨ (Lib.decodeN n b0 b1 b2 b3 = (65533, 1) ∧ putSign (N : Int) ≠ strOfNums [(b0 : Int), (b1 : Int), (b2 : Int)]) := by
  have hN' : N = b0 % 16 * 4096 + b1 % 64 * 64 + b2 % 64 := by omega
  by_cases hok : b1 / 64 = 2 ∧ b2 / 64 = 2 ∧ 2048 ≤ N ∧ (N < 55296 ∨ 57343 < N)
  · left
    refine ⟨?_, ?_⟩
    · unfold Lib.decodeN
      rw [if_neg (by omega), if_neg (by omega), if_pos (by omega), if_pos (by omega), hN']
    · rw [put3 (by omega) (by omega) (by omega)]
      congr 2
      · omega
      · congr 1
        · omega
        · congr 1; omega
  · right
    refine ⟨?_, ?_⟩
    · unfold Lib.decodeN
      repeat' split
      all_goals first | rfl | (exfalso; omega)
    · intro he
      by_cases hs : N < 128
      · rw [put1 (by omega) (by omega)] at he
        have := congrArg ByteArray.size he
        simp [strOfNums_size] at this
      by_cases hs2 : N < 2048
      · rw [put2 (by omega) (by omega)] at he
        have := congrArg ByteArray.size he
        simp [strOfNums_size] at this
      by_cases hs3 : 55296 ≤ N ∧ N ≤ 57343
      · rw [putSign_invalid (invalid_of (by omega))] at he
        have := congrArg ByteArray.size he
        rw [strOfNums_size] at this
        cases this
      · rw [put3 (by omega) (by omega) (by omega)] at he
        have := str_inj (by intro x hx; simp at hx; omega) (by intro x hx; simp at hx; omega) he
        simp at this
        omega

theorem four_ok {n b0 b1 b2 b3 N : Nat} (h : 240 ≤ b0 ∧ b0 ≤ 247) (hn : 4 ≤ n) (h1 : b1 < 256) (h2 : b2 < 256) (h3 : b3 < 256) (hN : N = ((b0 % 8 * 64 + b1 % 64) * 64 + b2 % 64) * 64 + b3 % 64) :
    (Lib.decodeN n b0 b1 b2 b3 = (N, 4) ∧ putSign (N : Int) = strOfNums [(b0 : Int), (b1 : Int), (b2 : Int), (b3 : Int)]) ∨ (Lib.decodeN n b0 b1 b2 b3 = (65533, 1) ∧ putSign (N : Int) ≠ strOfNums [(b0 : Int), (b1 : Int), (b2 : Int), (b3 : Int)]) := by
  have hN' : N = b0 % 8 * 262144 + b1 % 64 * 4096 + b2 % 64 * 64 + b3 % 64 := by omega
  by_cases hok : b1 / 64 = 2 ∧ b2 / 64 = 2 ∧ b3 / 64 = 2 ∧ 65536 ≤ N ∧ N ≤ 1114111
  · left
    refine ⟨?_, ?_⟩
    · unfold Lib.decodeN
      rw [if_neg (by omega), if_neg (by omega), if_neg (by omega), if_pos (by omega), if_pos (by omega), hN']
    · rw [put4 (by omega) (by omega)]
      congr 2
      · omega
      · congr 1
        · omega
        · congr 1
          · omega
          · congr 1; omega
  · right
    refine ⟨?_, ?_⟩
    · unfold Lib.decodeN
      repeat' split
      all_goals first | rfl | (exfalso; omega)
    · intro he
      have hz : (putSign (N : Int)).size = 4 := by rw [he, strOfNums_size]; rfl
      by_cases hs : N < 128
      · rw [put1 (by omega) (by omega), strOfNums_size] at hz
        cases hz
      by_cases hs2 : N < 2048
      · rw [put2 (by omega) (by omega), strOfNums_size] at hz
        cases hz
      by_cases hs3 : (55296 ≤ N ∧ N ≤ 57343) ∨ 1114111 < N
      · rw [putSign_invalid (invalid_of (by omega))] at hz
        cases hz
      by_cases hs4 : N < 65536
      · rw [put3 (by omega) (by omega) (by omega), strOfNums_size] at hz
        cases hz
      · rw [put4 (by omega) (by omega)] at he
        have := str_inj (by intro x hx; simp at hx; omega) (by intro x hx; simp at hx; omega) he
        simp at this
        omega

/-! The decoder on what is left of a text. -/
theorem byteN_out (s : ByteArray) (j : Nat) (h : s.size ≤ j) : byteN s j = 0 := by
  unfold byteN
  have h' : s.data.size ≤ j := h
  have e : s.get! j = s.data[j]! := by cases s; rfl
  rw [e, getElem!_neg s.data j (by omega)]
  rfl
theorem size_extract (s : ByteArray) (i : Nat) : (s.extract i s.size).size = s.size - i := by simp
theorem byteN_extract (s : ByteArray) (i j : Nat) (hi : i ≤ s.size) : byteN (s.extract i s.size) j = byteN s (i + j) := by
  have hz := size_extract s i
  by_cases h : i + j < s.size
  · have h1 : j < (s.extract i s.size).size := by omega
    rw [← byteN_eq _ j h1, ← byteN_eq s (i + j) h]
    congr 1
    show (s.extract i s.size).data[j] = s.data[i + j]
    simp
  · rw [byteN_out _ _ (by omega), byteN_out _ _ (by omega)]
theorem decode_extract (s : ByteArray) (i : Nat) (hi : i ≤ s.size) : Utf8.decode (s.extract i s.size) 0 = Utf8.decode s i := by
  rw [decode_num, decode_num, size_extract, byteN_extract s i _ hi, byteN_extract s i _ hi, byteN_extract s i _ hi, byteN_extract s i _ hi]
  simp
theorem decode_bound (s : ByteArray) (i : Nat) : (Utf8.decode s i).1 ≤ 1114111 ∧ 1 ≤ (Utf8.decode s i).2 ∧ (Utf8.decode s i).2 ≤ 4 := by
  rw [decode_num]
  have b0 := byteN_lt s i
  generalize byteN s i = b0 at *
  generalize byteN s (i + 1) = b1
  generalize byteN s (i + 2) = b2
  generalize byteN s (i + 3) = b3
  unfold Lib.decodeN
  (repeat' split) <;> refine ⟨?_, ?_, ?_⟩ <;> simp only <;> omega

end Go.Proofs.YtnaghafmpncdkaaDoor.sign
/-
  What spec.GetSign and impl.GetSign return: the code point that stands at a place and the place behind it, or -1 and -1. For texts of at most 1048576 bytes, every place.
-/
namespace Go.Proofs.YtnaghafmpncdkaaDoor.getSign
open Go.ChangeShapes Go.WideShapes Go.ChangeAt Go.RowKit
open Go.Proofs.YtnaghafmpncdkaaDoor.sign
set_option maxRecDepth 100000

def manyOf (b : Nat) : Nat := if b < 128 then 1 else if 192 ≤ b ∧ b ≤ 223 then 2 else if 224 ≤ b ∧ b ≤ 239 then 3 else if 240 ≤ b ∧ b ≤ 247 then 4 else 0
def headOf (b : Nat) : Nat := if b < 128 then b else if 192 ≤ b ∧ b ≤ 223 then b % 32 else if 224 ≤ b ∧ b ≤ 239 then b % 16 else if 240 ≤ b ∧ b ≤ 247 then b % 8 else 0
def accN (s : ByteArray) (i : Nat) (n0 : Nat) : Nat → Nat
  | 0 => n0
  | k + 1 => accN s i n0 k * 64 + byteN s (i + (k + 1)) % 64
theorem accN_lt (s : ByteArray) (i n0 : Nat) (h : n0 < 128) : ∀ k, k ≤ 3 → accN s i n0 k < 128 * 64 ^ k
  | 0, _ => by simpa [accN] using h
  | k + 1, hk => by
    have := accN_lt s i n0 h k (by omega)
    rw [Nat.pow_succ]
    unfold accN
    omega
theorem accN_bound (s : ByteArray) (i n0 : Nat) (h : n0 < 128) (k : Nat) (hk : k ≤ 3) : accN s i n0 k < 33554432 := by
  have h1 := accN_lt s i n0 h k hk
  have h2 : 64 ^ k ≤ 64 ^ 3 := Nat.pow_le_pow_right (by omega) hk
  have h3 : (64 : Nat) ^ 3 = 262144 := by decide
  omega
theorem headOf_lt (b : Nat) : headOf b < 128 := by unfold headOf; (repeat' split) <;> omega

theorem and31 (n : Int) (h : 0 ≤ n) (h1 : n < 256) : bits .and .i64 n 31 = n % 32 := bits_mask .i64 8 (by decide) (fun m h0 h1 => by rw [IntKind.wrap_i64]; omega) 5 (by decide) n h h1
theorem and15 (n : Int) (h : 0 ≤ n) (h1 : n < 256) : bits .and .i64 n 15 = n % 16 := bits_mask .i64 8 (by decide) (fun m h0 h1 => by rw [IntKind.wrap_i64]; omega) 4 (by decide) n h h1
theorem and7 (n : Int) (h : 0 ≤ n) (h1 : n < 256) : bits .and .i64 n 7 = n % 8 := bits_mask .i64 8 (by decide) (fun m h0 h1 => by rw [IntKind.wrap_i64]; omega) 3 (by decide) n h h1
theorem ret_ints {a b c d : Int} (h : a = b) (h' : c = d) : Ending.returned (.tuple #[.int .i64 a, .int .i64 c]) = .returned (.tuple #[.int .i64 b, .int .i64 d]) := by rw [h, h']

theorem many_any (b : Nat) (hb : b < 256) (w : World) :
    Calls Tryd.prog 141 #[.int .i64 b] w fun e w' => e = .returned (.tuple #[.int .i64 (manyOf b), .int .i64 (headOf b)]) ∧ w = w' := by
  have a31 := and31 b (by omega) (by omega)
  have a15 := and15 b (by omega) (by omega)
  have a7 := and7 b (by omega) (by omega)
  by_cases h1 : b < 128
  · have e : manyOf b = 1 ∧ headOf b = b := by unfold manyOf headOf; simp [h1]
    rw [e.1, e.2]
    go_enter Tryd.func141, Tryd.ntmps141
    go_wp2
    go_ret2
    exact ⟨rfl, rfl⟩
  by_cases h2 : b < 192
  · have e : manyOf b = 0 ∧ headOf b = 0 := by unfold manyOf headOf; constructor <;> (repeat' split) <;> omega
    rw [e.1, e.2]
    go_enter Tryd.func141, Tryd.ntmps141
    go_wp2
    go_ret2
    exact ⟨rfl, rfl⟩
  by_cases h3 : b ≤ 223
  · have e : manyOf b = 2 ∧ headOf b = b % 32 := by unfold manyOf headOf; constructor <;> (repeat' split) <;> omega
    rw [e.1, e.2]
    go_enter Tryd.func141, Tryd.ntmps141
    go_wp2
    go_ret2
    exact ⟨ret_ints rfl (by omega), rfl⟩
  by_cases h4 : b ≤ 239
  · have e : manyOf b = 3 ∧ headOf b = b % 16 := by unfold manyOf headOf; constructor <;> (repeat' split) <;> omega
    rw [e.1, e.2]
    go_enter Tryd.func141, Tryd.ntmps141
    go_wp2
    go_ret2
    exact ⟨ret_ints rfl (by omega), rfl⟩
  by_cases h5 : b ≤ 247
  · have e : manyOf b = 4 ∧ headOf b = b % 8 := by unfold manyOf headOf; constructor <;> (repeat' split) <;> omega
    rw [e.1, e.2]
    go_enter Tryd.func141, Tryd.ntmps141
    go_wp2
    go_ret2
    exact ⟨ret_ints rfl (by omega), rfl⟩
  · have e : manyOf b = 0 ∧ headOf b = 0 := by unfold manyOf headOf; constructor <;> (repeat' split) <;> omega
    rw [e.1, e.2]
    go_enter Tryd.func141, Tryd.ntmps141
    go_wp2
    go_ret2
    exact ⟨rfl, rfl⟩

theorem wrapB (b : UInt8) : wrap64 (b.toNat : Int) = b.toNat := by have := b.toNat_lt; unfold wrap64; omega

/-- What is returned where the bytes stand there, and where they don't. -/
def Res (r : Bool) (N : Nat) (i M : Nat) : Value := if r then .tuple #[.int .i64 (-1), .int .i64 (-1)] else .tuple #[.int .i64 N, .int .i64 (i + M)]
structure Parts (N : Nat) (s : ByteArray) (i M : Nat) (r : Bool) : Prop where
  out : ((putSign N).toList == (s.extract i (i + M)).toList) = !r

set_option maxHeartbeats 1000000 in
theorem spec_core (s : ByteArray) (i M H N : Nat) (w : World) (hs : s.size ≤ 1048576) (hi : i < s.size) (hM1 : 1 ≤ M) (hM4 : M ≤ 4) (hfit : i + M ≤ s.size)
    (hm : manyOf (byteN s i) = M) (hh : headOf (byteN s i) = H) (hN : accN s i H (M - 1) = N) (r : Bool) (hr : Parts N s i M r) :
    Calls Tryd.prog 134 #[.string s, .int .i64 i] w fun e w' => e = .returned (Res r N i M) ∧ Below w.heap.size w w' := by
  have hH : H < 128 := by rw [← hh]; exact headOf_lt _
  have C0 := many_any (s[i].toNat) (by rw [byteN_eq s i hi]; exact byteN_lt s i) w
  rw [show manyOf s[i].toNat = M by rw [byteN_eq s i hi]; exact hm, show headOf s[i].toNat = H by rw [byteN_eq s i hi]; exact hh] at C0
  have C1 := Lib.hid C0
  clear C0
  have HN := Lib.hid hN
  clear hm hh hN
  have hi0 : (0 : Int) ≤ (i : Int) := by omega
  have hi1 : (i : Int) < (s.size : Int) := by omega
  have hM0 : ((M : Int) == 0) = false := by simp; omega
  have hwb := wrapB
  go_enter Tryd.func134, Tryd.ntmps134
  go_wp2_with fail
  with_reducible refine C1.out.mono ?_
  rintro e w1 ⟨rfl, rfl⟩
  clear C1
  go_wp2_with fail
  go_loop [7, 8] (fun n k => ∃ j : Nat, j + 1 ≤ M ∧ k = .int .i64 (j + 1 : Nat) ∧ n = .int .i64 (accN s i H j : Nat)) (fun _ k => M - (intOf k).toNat)
  case atStart => exact ⟨0, by omega, rfl, rfl⟩
  case round =>
    obtain ⟨j, hj, rfl, rfl⟩ := hrel
    have hbd := accN_bound s i H hH j (by omega)
    obtain ⟨a, ha, HA⟩ : ∃ a, a < 33554432 ∧ Hid (accN s i H j = a) := ⟨_, hbd, rfl⟩
    rw [HA.out]
    clear hbd
    obtain ⟨k, hk, HK⟩ : ∃ k : Nat, 1 ≤ k ∧ Hid (j + 1 = k) := ⟨_, by omega, rfl⟩
    rw [HK.out] at hj ⊢
    by_cases hlt : k < M
    · have h63 := i64_and63
      have hx0 : (0 : Int) ≤ (i : Int) + (k : Int) := by omega
      have hx1 : (i : Int) + (k : Int) < (s.size : Int) := by omega
      go_wp2
      have hbk : s[i + k].toNat = byteN s (i + k) := byteN_eq s (i + k) (by omega)
      refine ⟨⟨j + 1, by have := HK.out; omega, by have := HK.out; congr 1; omega, ?_⟩, by simp [intOf]; omega⟩
      rw [hbk, accN, HA.out, HK.out]
      congr 1
    · have e : a = N := by rw [← HA.out, ← HN.out]; have := HK.out; congr 1; omega
      subst e
      clear HA HN HK
      obtain ⟨p, c2, hc⟩ : ∃ p : ByteArray, (∀ w, Calls Tryd.prog 142 #[.int .i64 a] w fun e w' => e = .returned (.string p) ∧ Below w.heap.size w w') ∧ (p.toList == (s.extract i (i + M)).toList) = !r := ⟨_, putSign.spec_any _, hr.out⟩
      have C2 := Lib.hid c2
      clear hr c2
      have hx0 : (0 : Int) ≤ (i : Int) + (M : Int) := by omega
      have hx1 : (i : Int) + (M : Int) ≤ (s.size : Int) := by omega
      have ew : IntKind.i64.wrap ((i : Int) + (M : Int)) = (i : Int) + (M : Int) := by rw [IntKind.wrap_i64]; omega
      have et : ((i : Int) + (M : Int)).toNat = i + M := by omega
      cases r
      · have hc' : (p.toList == (s.extract i (i + M)).toList) = true := hc
        clear hc
        go_wp2
        go_region_with (go_at_call 142; with_reducible refine (C2.out _).mono ?_; rintro e w1 ⟨rfl, hb⟩)
        all_goals
          have hb' : Below w.heap.size w w1 := ((Below.refl w.heap.size w).drew).trans hb
          clear hb
          go_wp2
          go_ret2
          exact ⟨rfl, hb'⟩
      · have hc' : (p.toList == (s.extract i (i + M)).toList) = false := hc
        clear hc
        go_wp2
        go_region_with (go_at_call 142; with_reducible refine (C2.out _).mono ?_; rintro e w1 ⟨rfl, hb⟩)
        all_goals
          have hb' : Below w.heap.size w w1 := ((Below.refl w.heap.size w).drew).trans hb
          clear hb
          go_wp2
          go_ret2
          exact ⟨rfl, hb'⟩


/-! What both functions return. -/
def signV (s : ByteArray) (i : Nat) : Value := if Utf8.decode s i = (65533, 1) then .tuple #[.int .i64 (-1), .int .i64 (-1)] else .tuple #[.int .i64 (Utf8.decode s i).1, .int .i64 (i + (Utf8.decode s i).2)]
theorem signV_bad {s : ByteArray} {i : Nat} (h : Utf8.decode s i = (65533, 1)) : signV s i = .tuple #[.int .i64 (-1), .int .i64 (-1)] := by unfold signV; rw [if_pos h]
theorem signV_ok {s : ByteArray} {i N M : Nat} (h : Utf8.decode s i = (N, M)) (hne : ¬ (N = 65533 ∧ M = 1)) : signV s i = .tuple #[.int .i64 N, .int .i64 (i + M)] := by
  unfold signV
  rw [h, if_neg (by simpa using hne)]
theorem toList_inj {a b : ByteArray} : a.toList = b.toList ↔ a = b := by
  rw [Lib.toList_data, Lib.toList_data]
  constructor
  · intro h; exact ByteArray.ext (Array.toList_inj.1 h)
  · intro h; rw [h]
theorem parts_of {N : Nat} {s : ByteArray} {i M : Nat} {xs : List Int} (hx : s.extract i (i + M) = strOfNums xs) :
    (putSign N = strOfNums xs → Parts N s i M false) ∧ (putSign N ≠ strOfNums xs → Parts N s i M true) := by
  refine ⟨fun h => ⟨?_⟩, fun h => ⟨?_⟩⟩
  · rw [hx, h]; simp
  · rw [hx]
    simp only [Bool.not_true, beq_eq_false_iff_ne]
    intro e
    exact h (toList_inj.1 e)

/-- Too few bytes, or no head. -/
theorem spec_short (s : ByteArray) (i : Nat) (w : World) (hs : s.size ≤ 1048576) (hi : i < s.size) (h : manyOf (byteN s i) = 0 ∨ s.size - i < manyOf (byteN s i)) :
    Calls Tryd.prog 134 #[.string s, .int .i64 i] w fun e w' => e = .returned (.tuple #[.int .i64 (-1), .int .i64 (-1)]) ∧ Below w.heap.size w w' := by
  obtain ⟨M, H, C0, h'⟩ : ∃ M H : Nat, (Calls Tryd.prog 141 #[.int .i64 s[i].toNat] w fun e w' => e = .returned (.tuple #[.int .i64 M, .int .i64 H]) ∧ w = w') ∧ (M = 0 ∨ s.size - i < M) :=
    ⟨_, _, many_any (s[i].toNat) (by rw [byteN_eq s i hi]; exact byteN_lt s i) w, by rw [byteN_eq s i hi]; exact h⟩
  have C1 := Lib.hid C0
  clear C0 h
  have hi0 : (0 : Int) ≤ (i : Int) := by omega
  have hi1 : (i : Int) < (s.size : Int) := by omega
  have hwb := wrapB
  by_cases hz : M = 0
  · have hM0 : ((M : Int) == 0) = true := by simp; omega
    clear h' hz
    go_enter Tryd.func134, Tryd.ntmps134
    go_wp2_with fail
    with_reducible refine C1.out.mono ?_
    rintro e w1 ⟨rfl, rfl⟩
    clear C1
    go_wp2
    go_ret2
    exact ⟨rfl, Below.refl _ _⟩
  · have hM0 : ((M : Int) == 0) = false := by simp; omega
    have hM1 : (s.size : Int) - (i : Int) < (M : Int) := by omega
    clear h' hz
    go_enter Tryd.func134, Tryd.ntmps134
    go_wp2_with fail
    with_reducible refine C1.out.mono ?_
    rintro e w1 ⟨rfl, rfl⟩
    clear C1
    go_wp2
    go_ret2
    exact ⟨rfl, Below.refl _ _⟩

theorem spec_in (s : ByteArray) (i : Nat) (w : World) (hs : s.size ≤ 1048576) (hi : i < s.size) :
    Calls Tryd.prog 134 #[.string s, .int .i64 i] w fun e w' => e = .returned (signV s i) ∧ Below w.heap.size w w' := by
  have hd := decode_num s i
  have b0 := byteN_lt s i
  have b1 := byteN_lt s (i + 1)
  have b2 := byteN_lt s (i + 2)
  have b3 := byteN_lt s (i + 3)
  by_cases h1 : byteN s i < 128
  · have hm : manyOf (byteN s i) = 1 := by unfold manyOf; rw [if_pos h1]
    have hh : headOf (byteN s i) = byteN s i := by unfold headOf; rw [if_pos h1]
    obtain ⟨e1, e2⟩ := one_ok (n := s.size - i) (b1 := byteN s (i + 1)) (b2 := byteN s (i + 2)) (b3 := byteN s (i + 3)) h1
    rw [signV_ok (hd.trans e1) (by omega)]
    exact spec_core s i 1 _ (byteN s i) w hs hi (by omega) (by omega) (by omega) hm hh rfl false ((parts_of (extract_nums s i 1 (by omega))).1 e2)
  by_cases h2 : byteN s i ≤ 191 ∨ 248 ≤ byteN s i
  · rw [signV_bad (hd.trans (no_head (by omega) b0))]
    exact spec_short s i w hs hi (.inl (by unfold manyOf; (repeat' split) <;> omega))
  by_cases h3 : byteN s i ≤ 223
  · have hm : manyOf (byteN s i) = 2 := by unfold manyOf; (repeat' split) <;> omega
    have hh : headOf (byteN s i) = byteN s i % 32 := by unfold headOf; (repeat' split) <;> omega
    by_cases hf : i + 2 ≤ s.size
    · rcases two_ok (n := s.size - i) (b0 := byteN s i) (b1 := byteN s (i + 1)) (b2 := byteN s (i + 2)) (b3 := byteN s (i + 3)) (by omega) (by omega) b1 rfl with ⟨e1, e2⟩ | ⟨e1, e2⟩
      · rw [signV_ok (hd.trans e1) (by omega)]
        exact spec_core s i 2 _ _ w hs hi (by omega) (by omega) hf hm hh rfl false ((parts_of (extract_nums s i 2 hf)).1 e2)
      · rw [signV_bad (hd.trans e1)]
        exact spec_core s i 2 _ _ w hs hi (by omega) (by omega) hf hm hh rfl true ((parts_of (extract_nums s i 2 hf)).2 e2)
    · rw [signV_bad (hd.trans (short2 (by omega) (by omega)))]
      exact spec_short s i w hs hi (.inr (by omega))
  by_cases h4 : byteN s i ≤ 239
  · have hm : manyOf (byteN s i) = 3 := by unfold manyOf; (repeat' split) <;> omega
    have hh : headOf (byteN s i) = byteN s i % 16 := by unfold headOf; (repeat' split) <;> omega
    by_cases hf : i + 3 ≤ s.size
    · rcases three_ok (n := s.size - i) (b0 := byteN s i) (b1 := byteN s (i + 1)) (b2 := byteN s (i + 2)) (b3 := byteN s (i + 3)) (by omega) (by omega) b1 b2 rfl with ⟨e1, e2⟩ | ⟨e1, e2⟩
      · rw [signV_ok (hd.trans e1) (by omega)]
        exact spec_core s i 3 _ _ w hs hi (by omega) (by omega) hf hm hh rfl false ((parts_of (extract_nums s i 3 hf)).1 e2)
      · rw [signV_bad (hd.trans e1)]
        exact spec_core s i 3 _ _ w hs hi (by omega) (by omega) hf hm hh rfl true ((parts_of (extract_nums s i 3 hf)).2 e2)
    · rw [signV_bad (hd.trans (short3 (by omega) (by omega)))]
      exact spec_short s i w hs hi (.inr (by omega))
  · have hm : manyOf (byteN s i) = 4 := by unfold manyOf; (repeat' split) <;> omega
    have hh : headOf (byteN s i) = byteN s i % 8 := by unfold headOf; (repeat' split) <;> omega
    by_cases hf : i + 4 ≤ s.size
    · rcases four_ok (n := s.size - i) (b0 := byteN s i) (b1 := byteN s (i + 1)) (b2 := byteN s (i + 2)) (b3 := byteN s (i + 3)) (by omega) (by omega) b1 b2 b3 rfl with ⟨e1, e2⟩ | ⟨e1, e2⟩
      · rw [signV_ok (hd.trans e1) (by omega)]
        exact spec_core s i 4 _ _ w hs hi (by omega) (by omega) hf hm hh rfl false ((parts_of (extract_nums s i 4 hf)).1 e2)
      · rw [signV_bad (hd.trans e1)]
        exact spec_core s i 4 _ _ w hs hi (by omega) (by omega) hf hm hh rfl true ((parts_of (extract_nums s i 4 hf)).2 e2)
    · rw [signV_bad (hd.trans (short4 (by omega) (by omega)))]
      exact spec_short s i w hs hi (.inr (by omega))

/-- A place outside the text. -/
theorem spec_out (s : ByteArray) (i : Int) (w : World) (hs : s.size ≤ 1048576) (h : i < 0 ∨ (s.size : Int) ≤ i) :
    Calls Tryd.prog 134 #[.string s, .int .i64 i] w fun e w' => e = .returned (.tuple #[.int .i64 (-1), .int .i64 (-1)]) ∧ Below w.heap.size w w' := by
  rcases h with h | h
  all_goals
    go_enter Tryd.func134, Tryd.ntmps134
    go_wp2
    go_ret2
    exact ⟨rfl, Below.refl _ _⟩

end Go.Proofs.YtnaghafmpncdkaaDoor.getSign
/-
  Plain facts (no Go text): the code points of a text, place by place; that a text is valid.
-/
namespace Go.Proofs.YtnaghafmpncdkaaDoor.sign

def runesFrom (s : ByteArray) : Nat → Nat → List Int
  | 0, _ => []
  | f + 1, pos => if pos < s.size then ((Utf8.decode s pos).1 : Int) :: runesFrom s f (pos + (Utf8.decode s pos).2) else []
def okFrom (s : ByteArray) : Nat → Nat → Bool
  | 0, _ => true
  | f + 1, pos => if pos < s.size then (if Utf8.decode s pos = (65533, 1) then false else okFrom s f (pos + (Utf8.decode s pos).2)) else true
def runesOf (s : ByteArray) : List Int := runesFrom s s.size 0
def textOk (s : ByteArray) : Bool := okFrom s s.size 0
/-- What Signs returns. -/
def signsOf (s : ByteArray) : List Int := if textOk s then runesOf s else []

theorem runesFrom_end (s : ByteArray) (f pos : Nat) (h : ¬ pos < s.size) : runesFrom s f pos = [] := by cases f <;> simp [runesFrom, h]
theorem okFrom_end (s : ByteArray) (f pos : Nat) (h : ¬ pos < s.size) : okFrom s f pos = true := by cases f <;> simp [okFrom, h]
theorem runesFrom_step (s : ByteArray) (f pos : Nat) (h : pos < s.size) : runesFrom s (f + 1) pos = ((Utf8.decode s pos).1 : Int) :: runesFrom s f (pos + (Utf8.decode s pos).2) := by simp [runesFrom, h]
theorem okFrom_bad (s : ByteArray) (f pos : Nat) (h : pos < s.size) (hb : Utf8.decode s pos = (65533, 1)) : okFrom s (f + 1) pos = false := by simp [okFrom, h, hb]
theorem okFrom_step (s : ByteArray) (f pos : Nat) (h : pos < s.size) (hb : Utf8.decode s pos ≠ (65533, 1)) : okFrom s (f + 1) pos = okFrom s f (pos + (Utf8.decode s pos).2) := by simp [okFrom, h, hb]

theorem decode_fits (s : ByteArray) (i : Nat) (h : i < s.size) : i + (Utf8.decode s i).2 ≤ s.size := by
  rw [decode_num]
  generalize byteN s i = b0
  generalize byteN s (i + 1) = b1
  generalize byteN s (i + 2) = b2
  generalize byteN s (i + 3) = b3
  unfold Lib.decodeN
  (repeat' split) <;> simp only <;> omega

theorem decodeL_drop (s : ByteArray) (pos : Nat) (h : pos ≤ s.size) : Lib.decodeL (s.data.toList.drop pos) = Utf8.decode s pos := by
  unfold Lib.decodeL
  rw [← Lib.ext_list, ← decode_extract s pos h]

theorem valid_from (s : ByteArray) : ∀ (f pos : Nat), pos ≤ s.size → Lib.validGoD f (s.data.toList.drop pos) = okFrom s f pos
  | 0, _, _ => rfl
  | f + 1, pos, hp => by
    unfold Lib.validGoD okFrom
    by_cases h : pos < s.size
    · have hne : s.data.toList.drop pos ≠ [] := by
        intro e
        have := congrArg List.length e
        simp at this
        have h2 : s.data.size = s.size := rfl
        omega
      rw [if_neg hne, if_pos h, decodeL_drop s pos hp, List.drop_drop, valid_from s f _ (decode_fits s pos h)]
      by_cases hb : Utf8.decode s pos = (65533, 1)
      · rw [if_pos hb, if_pos (by rw [hb]; exact ⟨rfl, rfl⟩)]
      · rw [if_neg hb, if_neg (fun e => hb (Prod.ext e.1 e.2))]
    · have he : s.data.toList.drop pos = [] := List.drop_eq_nil_of_le (by simp; exact Nat.le_of_not_lt h)
      rw [if_pos he, if_neg h]

theorem valid_eq (s : ByteArray) : Lib.validD s.data.toList = textOk s := by
  have h := valid_from s s.size 0 (Nat.zero_le _)
  rw [List.drop_zero] at h
  unfold Lib.validD textOk
  rw [← h]
  congr 1

theorem runes_pos (s : ByteArray) (h : 0 < s.size) : 0 < (runesOf s).length := by
  unfold runesOf
  obtain ⟨n, hn⟩ : ∃ n, s.size = n + 1 := ⟨s.size - 1, by omega⟩
  rw [hn, runesFrom_step s n 0 h]
  simp
theorem runesFrom_length (s : ByteArray) : ∀ f pos, (runesFrom s f pos).length ≤ f
  | 0, _ => by simp [runesFrom]
  | f + 1, pos => by
    unfold runesFrom
    split
    · have := runesFrom_length s f (pos + (Utf8.decode s pos).2)
      simp; omega
    · simp
theorem runesOf_length (s : ByteArray) : (runesOf s).length ≤ s.size := runesFrom_length s _ _
theorem signsOf_length (s : ByteArray) : (signsOf s).length ≤ s.size := by
  unfold signsOf
  split
  · exact runesOf_length s
  · simp
/-- A text is valid just where it is empty or has a code point told. -/
theorem textOk_iff (s : ByteArray) : textOk s = (decide (s.size = 0) || decide (0 < (signsOf s).length)) := by
  by_cases h : s.size = 0
  · simp only [h, decide_true, Bool.true_or]
    unfold textOk
    exact okFrom_end s _ 0 (by omega)
  · unfold signsOf
    cases hk : textOk s
    · simp [h]
    · simp [h, runes_pos s (by omega)]

end Go.Proofs.YtnaghafmpncdkaaDoor.sign
