/-
  What spec.DecText and impl.DecText return: the decimal numeral of any int.
-/
import Derived.Test.YtnaghafmpncdkaaDoorRows
import Derived.Lib.ItoaNum
import Derived.Lib.ItoaLen
import Derived.Lib.Strings
import Derived.Lib.Hide
import Derived.WalkKit
import Derived.ProofKit
import Derived.OpenShut
import Derived.WalkLawsBesides
import Derived.WalkSpells
import Derived.Laws.BytesArg
import Derived.Laws.BitsLemmas
import Derived.Laws.Runes
import Derived.Laws.Rows
import Derived.Laws.OwnMore
import Derived.Deep.Draws
import Derived.Below
import Derived.Test.YtnaghafmpncdkaaDoorGetCborJ0
import Derived.Deep.QuietTactic
import Derived.BigQuiet
import Derived.Deep.RegionWith
namespace Go.Proofs.YtnaghafmpncdkaaDoor.decText
open Go.ChangeShapes Go.WideShapes Go.ChangeAt Go.RowKit
set_option maxRecDepth 100000

/-- The digits of a number, none for 0. -/
def digs (u : Nat) : List UInt8 := if u = 0 then [] else digs (u / 10) ++ [UInt8.ofNat (48 + u % 10)]
theorem digs_zero : digs 0 = [] := by unfold digs; rfl
theorem digs_step {u : Nat} (h : 0 < u) : digs u = digs (u / 10) ++ [UInt8.ofNat (48 + u % 10)] := by
  rw [digs, if_neg (by omega)]
theorem digs_eq : ∀ u : Nat, 0 < u → digs u = Lib.decDigits u := by
  intro u
  induction u using Nat.strongRecOn with
  | ind u ih =>
    intro h
    rw [digs_step h, Lib.decDigits]
    by_cases hs : u < 10
    · rw [dif_pos hs, show u / 10 = 0 by omega, digs_zero, show u % 10 = u by omega]; rfl
    · rw [dif_neg hs, ih (u / 10) (by omega) (by omega)]

theorem piece_fin : ∀ d : Fin 10, (ByteArray.mk #[48, 49, 50, 51, 52, 53, 54, 55, 56, 57]).extract d.val (d.val + 1) = ⟨#[UInt8.ofNat (48 + d.val)]⟩ := by decide +kernel
theorem piece (d : Nat) (h : d < 10) (out : List UInt8) : (ByteArray.mk #[48, 49, 50, 51, 52, 53, 54, 55, 56, 57]).extract d (d + 1) ++ (⟨out.toArray⟩ : ByteArray) = ⟨(UInt8.ofNat (48 + d) :: out).toArray⟩ := by
  rw [piece_fin ⟨d, h⟩]
  apply ByteArray.ext
  apply Array.toList_inj.1
  rw [ByteArray.data_append]
  simp
theorem minus (out : List UInt8) : (ByteArray.mk #[45]) ++ (⟨out.toArray⟩ : ByteArray) = ⟨((45 : UInt8) :: out).toArray⟩ := by
  apply ByteArray.ext
  apply Array.toList_inj.1
  rw [ByteArray.data_append]
  simp
/-- How much has been written when v is left of u. -/
structure Left (u v : Nat) (out : List UInt8) : Prop where
  digits : digs u = digs v ++ out
  small : v * 10 ^ out.length ≤ u
theorem Left.step {u v : Nat} {out : List UInt8} (h : Left u v out) (hv : 0 < v) : Left u (v / 10) (UInt8.ofNat (48 + v % 10) :: out) := by
  refine ⟨?_, ?_⟩
  · rw [h.digits, digs_step hv]; simp
  · rw [List.length_cons, Nat.pow_succ, Nat.mul_comm (10 ^ out.length), ← Nat.mul_assoc]
    exact Nat.le_trans (Nat.mul_le_mul_right _ (by omega)) h.small
theorem Left.len {u v : Nat} {out : List UInt8} (h : Left u v out) (hv : 0 < v) (hu : u < 10 ^ 19) : out.length < 19 := by
  have h1 := h.small
  have h2 : 10 ^ out.length ≤ v * 10 ^ out.length := Nat.le_mul_of_pos_left _ hv
  exact (Nat.pow_lt_pow_iff_right (by omega)).1 (Nat.lt_of_le_of_lt (Nat.le_trans h2 h1) hu)
theorem ret_str {a b : ByteArray} (h : a = b) : Ending.returned (.string a) = .returned (.string b) := by rw [h]

theorem spec_zero (w : World) : Calls Tryd.prog 116 #[.int .i64 0] w fun e w' => e = .returned (.string ⟨#[48]⟩) ∧ w = w' := by
  go_enter Tryd.func116, Tryd.ntmps116
  go_wp2
  go_ret
  exact ⟨rfl, rfl⟩

set_option maxHeartbeats 1000000 in
theorem spec_pos (u : Nat) (h0 : 0 < u) (h1 : u ≤ 9223372036854775807) (w : World) :
    Calls Tryd.prog 116 #[.int .i64 u] w fun e w' => e = .returned (.string ⟨(Lib.decDigits u).toArray⟩) ∧ w = w' := by
  have hz : ((u : Int) == 0) = false := by simp; omega
  go_enter Tryd.func116, Tryd.ntmps116
  go_wp2
  go_loop [3, 4, 5] (fun o m _ => ∃ (v : Nat) (out : List UInt8), v ≤ u ∧ m = .int .i64 v ∧ o = .string ⟨out.toArray⟩ ∧ Left u v out) (fun _ m _ => (intOf m).toNat)
  case atStart => exact ⟨u, [], Nat.le_refl _, rfl, rfl, by simp, by simp⟩
  case round =>
    obtain ⟨v, out, hv, rfl, rfl, HD⟩ := hrel
    by_cases hlt : 0 < v
    · have hne : ((v : Int) != 0) = true := by simp; omega
      have hlen := HD.len hlt (by omega)
      have R1 := HD.step hlt
      clear HD
      go_wp2
      refine ⟨⟨v / 10, _, by omega, by congr 1, ?_, R1⟩, by simp [intOf]; omega⟩
      rw [piece (v % 10) (by omega)]
    · have e : v = 0 := by omega
      subst e
      have E : Hid (out = Lib.decDigits u) := by have := HD.digits; rw [digs_zero, digs_eq u h0] at this; exact this.symm
      clear HD
      go_wp2
      go_ret
      exact ⟨by rw [← E.out]; rfl, rfl⟩

set_option maxHeartbeats 1000000 in
theorem spec_neg (u : Nat) (h0 : 0 < u) (h1 : u ≤ 9223372036854775808) (w : World) :
    Calls Tryd.prog 116 #[.int .i64 (-(u : Int))] w fun e w' => e = .returned (.string ⟨((45 : UInt8) :: Lib.decDigits u).toArray⟩) ∧ w = w' := by
  have hz : ((-(u : Int)) == 0) = false := by simp; omega
  go_enter Tryd.func116, Tryd.ntmps116
  go_wp2
  go_loop [3, 4, 5] (fun o m _ => ∃ (v : Nat) (out : List UInt8), v ≤ u ∧ m = .int .i64 (-(v : Int)) ∧ o = .string ⟨out.toArray⟩ ∧ Left u v out) (fun _ m _ => (-(intOf m)).toNat)
  case atStart => exact ⟨u, [], Nat.le_refl _, rfl, rfl, by simp, by simp⟩
  case round =>
    obtain ⟨v, out, hv, rfl, rfl, HD⟩ := hrel
    by_cases hlt : 0 < v
    · have hne : ((-(v : Int)) != 0) = true := by simp; omega
      have hlen := HD.len hlt (by omega)
      have R1 := HD.step hlt
      clear HD
      go_wp2
      · refine ⟨⟨v / 10, _, by omega, by congr 1, ?_, R1⟩, by simp [intOf]; omega⟩
        rw [piece (v % 10) (by omega)]
      · have hz0 : (v : Int) % 10 ≤ 0 := by assumption
        refine ⟨⟨v / 10, _, by omega, by congr 1, ?_, R1⟩, by simp [intOf]; omega⟩
        rw [show (-((v : Int) % 10)).toNat = v % 10 by omega, show (-((v : Int) % 10) + 1).toNat = v % 10 + 1 by omega, piece (v % 10) (by omega)]
    · have e : v = 0 := by omega
      subst e
      have E : Hid (out = Lib.decDigits u) := by have := HD.digits; rw [digs_zero, digs_eq u h0] at this; exact this.symm
      have hlen : out.length ≤ 20 := by rw [E.out, Lib.decDigits_length]; exact Lib.nDigits_le20 u (by omega)
      clear HD
      go_wp2
      go_ret
      exact ⟨by rw [← E.out]; exact ret_str (minus out), rfl⟩

theorem spec_any (n : Int) (h0 : -9223372036854775808 ≤ n) (h1 : n ≤ 9223372036854775807) (w : World) :
    Calls Tryd.prog 116 #[.int .i64 n] w fun e w' => e = .returned (.string ⟨(Lib.itoa n).toArray⟩) ∧ w = w' := by
  unfold Lib.itoa
  by_cases hn : n < 0
  · rw [if_pos hn]
    have := spec_neg n.natAbs (by omega) (by omega) w
    rw [show (-(n.natAbs : Int)) = n by omega] at this
    exact this
  · rw [if_neg hn]
    by_cases hz : n = 0
    · subst hz
      rw [show Int.toNat 0 = 0 from rfl, Lib.decDigits_one (by omega)]
      exact spec_zero w
    · have := spec_pos n.toNat (by omega) (by omega) w
      rw [show ((n.toNat : Nat) : Int) = n by omega] at this
      exact this
end Go.Proofs.YtnaghafmpncdkaaDoor.decText
/-
  Plain facts on UTF-8 encodings (no Go text): the bytes of a code point as numbers, by its size.
-/
namespace Go.Proofs.YtnaghafmpncdkaaDoor.sign

theorem i64_and63 (n : Int) : bits .and .i64 n 63 = n % 64 := by
  have h63 : (BitVec.ofInt 64 63).toNat = 2 ^ 6 - 1 := by decide
  have key : (BitVec.ofInt 64 n &&& BitVec.ofInt 64 63).toNat = (n % ((2 ^ 64 : Nat) : Int)).toNat % 2 ^ 6 := by
    rw [BitVec.toNat_and, BitVec.toNat_ofInt, h63, Nat.and_two_pow_sub_one_eq_mod]
  show IntKind.i64.wrap ((BitVec.ofInt 64 n &&& BitVec.ofInt 64 63).toNat : Nat) = n % 64
  rw [key, IntKind.wrap_i64]
  omega

/-- The bytes of a code point; nothing where n is none. -/
def putSign (n : Int) : ByteArray := if Utf8.valid n then Utf8.encode n else ⟨#[]⟩

theorem valid_of {n : Int} (h : (0 ≤ n ∧ n < 55296) ∨ (57343 < n ∧ n ≤ 1114111)) : Utf8.valid n = true := by
  rw [validRune_eq]; simp [validRune, h]
theorem invalid_of {n : Int} (h : n < 0 ∨ (55296 ≤ n ∧ n ≤ 57343) ∨ 1114111 < n) : Utf8.valid n = false := by
  rw [validRune_eq]; simp [validRune]; omega

theorem enc1 {n : Int} (h0 : 0 ≤ n) (h1 : n < 128) : strOfNums [n] = Utf8.encode n := by
  have hv := valid_of (n := n) (by omega)
  unfold Utf8.encode strOfNums
  simp only [hv, if_true]
  rw [if_pos (by omega)]
  rfl
theorem enc2 {n : Int} (h0 : 128 ≤ n) (h1 : n < 2048) : strOfNums [192 + n / 64, 128 + n % 64] = Utf8.encode n := by
  have hv := valid_of (n := n) (by omega)
  unfold Utf8.encode strOfNums
  simp only [hv, if_true]
  rw [if_neg (by omega), if_pos (by omega)]
  simp only [List.map]
  rw [show (192 + n / 64).toNat = 192 + n.toNat / 64 by omega, show (128 + n % 64).toNat = 128 + n.toNat % 64 by omega]
theorem enc3 {n : Int} (h0 : 2048 ≤ n) (h1 : n < 65536) (hv : Utf8.valid n = true) : strOfNums [224 + n / 4096, 128 + n / 64 % 64, 128 + n % 64] = Utf8.encode n := by
  unfold Utf8.encode strOfNums
  simp only [hv, if_true]
  rw [if_neg (by omega), if_neg (by omega), if_pos (by omega)]
  simp only [List.map]
  rw [show (224 + n / 4096).toNat = 224 + n.toNat / 4096 by omega, show (128 + n / 64 % 64).toNat = 128 + n.toNat / 64 % 64 by omega, show (128 + n % 64).toNat = 128 + n.toNat % 64 by omega]
theorem enc4 {n : Int} (h0 : 65536 ≤ n) (h1 : n ≤ 1114111) : strOfNums [240 + n / 262144, 128 + n / 4096 % 64, 128 + n / 64 % 64, 128 + n % 64] = Utf8.encode n := by
  have hv := valid_of (n := n) (by omega)
  unfold Utf8.encode strOfNums
  simp only [hv, if_true]
  rw [if_neg (by omega), if_neg (by omega), if_neg (by omega)]
  simp only [List.map]
  rw [show (240 + n / 262144).toNat = 240 + n.toNat / 262144 by omega, show (128 + n / 4096 % 64).toNat = 128 + n.toNat / 4096 % 64 by omega, show (128 + n / 64 % 64).toNat = 128 + n.toNat / 64 % 64 by omega, show (128 + n % 64).toNat = 128 + n.toNat % 64 by omega]

end Go.Proofs.YtnaghafmpncdkaaDoor.sign
/-
  What spec.PutSign and impl.PutSign return, for every int: the UTF-8 encoding of a code point, or the empty string. No condition.
-/
namespace Go.Proofs.YtnaghafmpncdkaaDoor.putSign
open Go.ChangeShapes Go.WideShapes Go.ChangeAt Go.RowKit
open Go.Proofs.YtnaghafmpncdkaaDoor.sign

theorem conv_new (w : World) (xs : List Int) (k : Nat) (hk : xs.length = k) :
    (convert 109 9 (.slice (some ⟨w.heap.size, 0, none⟩) k k)).run Tryd.prog (w.alloc (.cells (xs.map (Value.int .u8)).toArray 5)) = .ok (.string (strOfNums xs)) (w.alloc (.cells (xs.map (Value.int .u8)).toArray 5)) := by
  refine run_convert_bytes_arg _ _ _ Tryd.underlying109 Tryd.underlying5 _ _ _ _ xs hk ?_ _ Tryd.underlying9
  intro i hi
  have hi' : i < xs.length := by omega
  rw [Nat.zero_add, cell_of_row _ _ i _ _ (0, 0) (heap_alloc_new w _)]
  simp [List.getElem?_eq_getElem hi']

theorem conv1 (a : Int) (w : World) : (convert 109 9 (.slice (some ⟨w.heap.size, 0, none⟩) 1 1)).run Tryd.prog (w.alloc (.cells #[.int .u8 a] 5)) = .ok (.string (strOfNums [a])) (w.alloc (.cells #[.int .u8 a] 5)) :=
  conv_new w [a] 1 rfl
theorem conv2 (a b : Int) (w : World) : (convert 109 9 (.slice (some ⟨w.heap.size, 0, none⟩) 2 2)).run Tryd.prog (w.alloc (.cells #[.int .u8 a, .int .u8 b] 5)) = .ok (.string (strOfNums [a, b])) (w.alloc (.cells #[.int .u8 a, .int .u8 b] 5)) :=
  conv_new w [a, b] 2 rfl
theorem conv3 (a b c : Int) (w : World) : (convert 109 9 (.slice (some ⟨w.heap.size, 0, none⟩) 3 3)).run Tryd.prog (w.alloc (.cells #[.int .u8 a, .int .u8 b, .int .u8 c] 5)) = .ok (.string (strOfNums [a, b, c])) (w.alloc (.cells #[.int .u8 a, .int .u8 b, .int .u8 c] 5)) :=
  conv_new w [a, b, c] 3 rfl
theorem conv4 (a b c d : Int) (w : World) : (convert 109 9 (.slice (some ⟨w.heap.size, 0, none⟩) 4 4)).run Tryd.prog (w.alloc (.cells #[.int .u8 a, .int .u8 b, .int .u8 c, .int .u8 d] 5)) = .ok (.string (strOfNums [a, b, c, d])) (w.alloc (.cells #[.int .u8 a, .int .u8 b, .int .u8 c, .int .u8 d] 5)) :=
  conv_new w [a, b, c, d] 4 rfl

theorem ret_string {a b : ByteArray} (h : a = b) : Ending.returned (.string a) = .returned (.string b) := by rw [h]
theorem wrapand (n : Int) : wrap64 (128 + n % 64) % 256 = 128 + n % 64 := by unfold wrap64; omega

theorem spec_1 (n : Int) (w : World) (h0 : 0 ≤ n) (h1 : n < 128) :
    Calls Tryd.prog 142 #[.int .i64 n] w fun e w' => e = .returned (.string (Utf8.encode n)) ∧ Below w.heap.size w w' := by
  have c1 := conv1
  go_enter Tryd.func142, Tryd.ntmps142
  go_wp2
  go_ret
  exact ⟨ret_string (enc1 h0 h1), (Below.refl _ _).alloc (Nat.le_refl _) _⟩
theorem spec_2 (n : Int) (w : World) (h0 : 128 ≤ n) (h1 : n < 2048) :
    Calls Tryd.prog 142 #[.int .i64 n] w fun e w' => e = .returned (.string (Utf8.encode n)) ∧ Below w.heap.size w w' := by
  have c1 := conv2
  go_enter Tryd.func142, Tryd.ntmps142
  go_wp2
  go_ret
  exact ⟨ret_string (by rw [i64_and63, wrapand]; exact enc2 h0 h1), (Below.refl _ _).alloc (Nat.le_refl _) _⟩
theorem spec_3 (n : Int) (w : World) (h0 : 2048 ≤ n) (h1 : n < 65536) (hn : n < 55296 ∨ 57343 < n) :
    Calls Tryd.prog 142 #[.int .i64 n] w fun e w' => e = .returned (.string (Utf8.encode n)) ∧ Below w.heap.size w w' := by
  have hv := valid_of (n := n) (by omega)
  have c1 := conv3
  rcases hn with hn | hn
  all_goals
    go_enter Tryd.func142, Tryd.ntmps142
    go_wp2
    go_ret
    exact ⟨ret_string (by rw [i64_and63, i64_and63, wrapand, wrapand]; exact enc3 h0 h1 hv), (Below.refl _ _).alloc (Nat.le_refl _) _⟩
theorem spec_4 (n : Int) (w : World) (h0 : 65536 ≤ n) (h1 : n ≤ 1114111) :
    Calls Tryd.prog 142 #[.int .i64 n] w fun e w' => e = .returned (.string (Utf8.encode n)) ∧ Below w.heap.size w w' := by
  have c1 := conv4
  go_enter Tryd.func142, Tryd.ntmps142
  go_wp2
  go_ret
  exact ⟨ret_string (by rw [i64_and63, i64_and63, i64_and63, wrapand, wrapand, wrapand]; exact enc4 h0 h1), (Below.refl _ _).alloc (Nat.le_refl _) _⟩
theorem spec_0 (n : Int) (w : World) (h : n < 0 ∨ (55296 ≤ n ∧ n ≤ 57343) ∨ 1114111 < n) :
    Calls Tryd.prog 142 #[.int .i64 n] w fun e w' => e = .returned (.string ⟨#[]⟩) ∧ Below w.heap.size w w' := by
  rcases h with h | h | h
  all_goals
    go_enter Tryd.func142, Tryd.ntmps142
    go_wp2
    go_ret
    exact ⟨rfl, Below.refl _ _⟩

theorem spec_any (n : Int) (w : World) :
    Calls Tryd.prog 142 #[.int .i64 n] w fun e w' => e = .returned (.string (putSign n)) ∧ Below w.heap.size w w' := by
  by_cases h : (0 ≤ n ∧ n < 55296) ∨ (57343 < n ∧ n ≤ 1114111)
  · have e : putSign n = Utf8.encode n := by unfold putSign; rw [if_pos (valid_of h)]
    rw [e]
    by_cases h1 : n < 128
    · exact spec_1 n w (by omega) h1
    by_cases h2 : n < 2048
    · exact spec_2 n w (by omega) h2
    by_cases h3 : n < 65536
    · exact spec_3 n w (by omega) h3 (by omega)
    · exact spec_4 n w (by omega) (by omega)
  · have h' : n < 0 ∨ (55296 ≤ n ∧ n ≤ 57343) ∨ 1114111 < n := by omega
    have e : putSign n = ⟨#[]⟩ := by unfold putSign; rw [invalid_of h']; rfl
    rw [e]
    exact spec_0 n w h'

end Go.Proofs.YtnaghafmpncdkaaDoor.putSign
/-
  What the laws' helpers eqStringS, markStringS, heldStringS and markText do to slices of strings that a call has made: equal lists are equal; a mark in each place; the marks are held.
-/
namespace Go.Proofs.YtnaghafmpncdkaaDoor.strs
open Go.ChangeShapes Go.WideShapes Go.ChangeAt Go.RowKit
set_option maxRecDepth 100000

set_option maxHeartbeats 1000000 in
theorem eq_true (v1 v2 : Value) (l : List ByteArray) (w : World) (a1 a2 : Option Addr) (c1 c2 g1 g2 : Nat) (h1 : ReadS w v1 l a1 c1 g1) (h2 : ReadS w v2 l a2 c2 g2) (hl : l.length ≤ 1048577) :
    Calls Tryd.prog 22 #[v1, v2] w fun e w' => e = .returned (.bool true) ∧ ∃ n, w' = w.drewN n := by
  obtain ⟨rfl, ha1, hc1⟩ := h1
  obtain ⟨rfl, ha2, hc2⟩ := h2
  have HC1 := Lib.hid hc1
  have HC2 := Lib.hid hc2
  have HA1 := Lib.hid ha1
  have HA2 := Lib.hid ha2
  clear hc1 hc2 ha1 ha2
  go_enter Tryd.func22, Tryd.ntmps22
  go_wp2
  go_loopw [5] (fun i wr => ∃ k m : Nat, k ≤ l.length ∧ i = .int .i64 k ∧ wr = w.drewN m) (fun i _ => l.length - (intOf i).toNat)
  case atStart => exact ⟨0, 0, Nat.zero_le _, rfl, rfl⟩
  case round =>
    obtain ⟨k, m, hk, rfl, rfl⟩ := hrel
    by_cases hlt : k < l.length
    · have hk0 : (0 : Int) ≤ (k : Int) := by omega
      have hk1 : (k : Int) < (l.length : Int) := by omega
      obtain rfl := HA1.out (by omega)
      obtain rfl := HA2.out (by omega)
      obtain ⟨x, hx1, hx2⟩ : ∃ x, w.cell? ⟨g1, k, none⟩ = some (.string x) ∧ w.cell? ⟨g2, k, none⟩ = some (.string x) := ⟨_, HC1.out k hlt, HC2.out k hlt⟩
      go_wp2
      go_quiet (fail)
      go_wp2
      go_roundw
      case rel => exact ⟨k + 1, _, by omega, by go_num, rfl⟩
      case measure => simp [intOf]; omega
    · go_wp2
      go_ret
      exact ⟨rfl, _, rfl⟩

/-- The mark of a number: an m and its digits. -/
def markB (k : Nat) : ByteArray := ⟨((109 : UInt8) :: decText.digs k).toArray⟩
theorem glue (d : Nat) (h : d < 10) (out : List UInt8) : strOfNums [(48 + (d : Int))] ++ (⟨out.toArray⟩ : ByteArray) = ⟨(UInt8.ofNat (48 + d) :: out).toArray⟩ := by
  apply ByteArray.ext
  apply Array.toList_inj.1
  rw [ByteArray.data_append]
  simp [strOfNums]
  rw [show ((48 : Int) + (d : Int)).toNat = 48 + d by omega]
  simp
theorem em (out : List UInt8) : (ByteArray.mk #[109]) ++ (⟨out.toArray⟩ : ByteArray) = ⟨((109 : UInt8) :: out).toArray⟩ := by
  apply ByteArray.ext
  apply Array.toList_inj.1
  rw [ByteArray.data_append]
  simp

set_option maxHeartbeats 1000000 in
theorem text_any (k : Nat) (h0 : 0 < k) (h1 : k ≤ 1000000000000) (w : World) :
    Calls Tryd.prog 43 #[.int .i64 k] w fun e w' => e = .returned (.string (markB k)) ∧ Below w.heap.size w w' := by
  have c1 := putSign.conv1
  have hz1 : ∀ x : Int, (strOfNums [x]).size = 1 := fun x => strOfNums_size [x]
  have hk00 : decide (k = 0) = false := by simp; omega
  go_enter Tryd.func43, Tryd.ntmps43
  go_wp2
  go_loopw [0, 3] (fun m o wr => ∃ (v : Nat) (out : List UInt8), v ≤ k ∧ m = .int .i64 v ∧ o = .string ⟨out.toArray⟩ ∧ decText.Left k v out ∧ Below w.heap.size w wr) (fun m _ _ => (intOf m).toNat)
  case atStart => exact ⟨k, [], Nat.le_refl _, rfl, rfl, ⟨by simp, by simp⟩, Below.refl _ _⟩
  case round =>
    obtain ⟨v, out, hv, rfl, rfl, HD, hb⟩ := hrel
    have hsz := hb.size
    by_cases hlt : 0 < v
    · have hlen := HD.len hlt (by omega)
      have R1 := HD.step hlt
      clear HD
      obtain ⟨d, hd, hd10, HDD⟩ : ∃ d : Nat, (48 + (v : Int) % 10) = ((48 + d : Nat) : Int) ∧ d < 10 ∧ Hid (d = v % 10) := ⟨v % 10, by omega, by omega, rfl⟩
      go_wp2
      refine ⟨⟨v / 10, _, by omega, by congr 1, ?_, R1, hb.alloc hsz _⟩, by simp [intOf]; omega⟩
      rw [glue d hd10, HDD.out]
    · have e : v = 0 := by omega
      subst e
      have E : Hid (out = decText.digs k) := by have := HD.digits; rw [decText.digs_zero] at this; exact this.symm
      have hlen : out.length ≤ 20 := by rw [E.out, decText.digs_eq k h0, Lib.decDigits_length]; exact Lib.nDigits_le20 k (by omega)
      clear HD
      go_wp2
      go_ret
      exact ⟨by rw [markB, ← E.out]; exact decText.ret_str (em out), hb⟩

/-- The marks of k0, k0+1, .. in n places. -/
def marks (k0 n : Nat) : List ByteArray := (List.range n).map fun j => markB (k0 + j)
theorem marks_length (k0 n : Nat) : (marks k0 n).length = n := by simp [marks]
theorem marks_get (k0 n j : Nat) (h : j < (marks k0 n).length) : (marks k0 n)[j] = markB (k0 + j) := by simp [marks]
theorem marks_succ (k0 n : Nat) : marks k0 (n + 1) = marks k0 n ++ [markB (k0 + n)] := by simp [marks, List.range_succ]
def mixed (k0 k : Nat) (l : List ByteArray) : List ByteArray := marks k0 k ++ l.drop k
theorem mixed_length (k0 k : Nat) (l : List ByteArray) (h : k ≤ l.length) : (mixed k0 k l).length = l.length := by simp [mixed, marks_length]; omega
theorem mixed_set (k0 k : Nat) (l : List ByteArray) (h : k < l.length) : (mixed k0 k l).set k (markB (k0 + k)) = mixed k0 (k + 1) l := by
  unfold mixed
  rw [marks_succ, List.set_append_right _ _ (by rw [marks_length]; exact Nat.le_refl _), marks_length, Nat.sub_self, List.append_assoc]
  congr 1
  rw [List.drop_eq_getElem_cons h]
  rfl
theorem mixed_all (k0 : Nat) (l : List ByteArray) : mixed k0 l.length l = marks k0 l.length := by simp [mixed]

set_option maxHeartbeats 1000000 in
theorem mark_any (v : Value) (l : List ByteArray) (k0 base : Nat) (w : World) (h : OwnL w base 9 encS v l) (hl : l.length ≤ 1048577) (h0 : 0 < k0) (hk : k0 ≤ 1000000000) :
    Calls Tryd.prog 23 #[v, .int .i64 k0] w fun e w' => e = .returned (.int .i64 (k0 + l.length : Nat)) ∧ OwnL w' base 9 encS v (marks k0 l.length) ∧ w.grownBy w' v.ownBlock := by
  obtain ⟨a, c, rfl, hlc, hcm, hadr⟩ := h.shape
  have HADR := Lib.hid hadr
  clear hadr
  have H0 := Lib.hid h
  clear h
  go_enter Tryd.func23, Tryd.ntmps23
  go_wp2
  go_loopw [1, 5] (fun q i wr => ∃ k : Nat, k ≤ l.length ∧ i = .int .i64 k ∧ q = .int .i64 (k0 + k : Nat) ∧ OwnL wr base 9 encS (.slice a l.length c) (mixed k0 k l) ∧ w.grownBy wr (Value.slice a l.length c).ownBlock) (fun _ i _ => l.length - (intOf i).toNat)
  case atStart => exact ⟨0, Nat.zero_le _, rfl, rfl, H0.out, World.grownBy.refl _ _⟩
  case round =>
    obtain ⟨k, hk', rfl, rfl, hown, hg⟩ := hrel
    by_cases hlt : k < l.length
    · obtain ⟨g, rfl, hbg, _⟩ := HADR.out (by omega)
      have OW := Lib.hid hown
      have HG := Lib.hid hg
      clear hown hg
      have hk0 : (0 : Int) ≤ (k : Int) := by omega
      have hk1 : (k : Int) < (l.length : Int) := by omega
      obtain ⟨q, hq, HQ⟩ : ∃ q : Nat, 0 < q ∧ Hid (k0 + k = q) := ⟨_, by omega, rfl⟩
      have hq2 : q ≤ 2000000000 := by have := HQ.out; omega
      rw [HQ.out]
      go_wp2_with fail
      with_reducible refine (text_any q hq (by omega) _).mono ?_
      rintro e w1 ⟨rfl, hb⟩
      have hml := mixed_length k0 k l hk'
      have hown' : OwnL w1 base 9 encS (.slice (some ⟨g, 0, none⟩) (mixed k0 k l).length c) (mixed k0 k l) := by rw [hml]; exact OW.out.below hb
      obtain ⟨y, hcell⟩ : ∃ y, w1.cell? ⟨g, k, none⟩ = some y := ⟨_, hown'.cell k (by omega)⟩
      have hfrz : w1.frozen? ⟨g, k, none⟩ = false := World.ownsRow.frozenAt hown' k
      have hst := ownL_store hown' k (markB (k0 + k))
      rw [mixed_set k0 k l hlt, hml, HQ.out] at hst
      have HST := Lib.hid hst
      have HG1 := Lib.hid (grown_of_below HG.out hb)
      clear hst hown' hml hb OW HG
      go_wp2
      go_roundw
      case rel => exact ⟨k + 1, by omega, by go_num, by have := HQ.out; congr 1; omega, HST.out.1, HG1.out.trans HST.out.2⟩
      case measure => simp [intOf]; omega
    · have e : k = l.length := by omega
      subst e
      rw [mixed_all] at hown
      go_wp2
      go_ret
      exact ⟨rfl, hown, hg⟩

end Go.Proofs.YtnaghafmpncdkaaDoor.strs
