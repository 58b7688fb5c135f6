/-
  What spec.GetSign and impl.GetSign return: the code point that stands at a place and the place behind it, or -1 and -1. For texts of at most 1048576 bytes, every place.
-/
import Derived.Test.YtkjffifdlckljaaDoorRows
import Derived.Test.YtkjffifdlckljaaDoorPathsJ6
import Derived.Test.YtkjffifdlckljaaDoorPathsJ2
import Derived.WalkKit
import Derived.ProofKit
import Derived.OpenShut
import Derived.WalkLawsBesides
import Derived.Deep.RegionWith
import Derived.Lib.Hide
import Derived.Lib.Strings
import Derived.WalkSpells
import Derived.Outline
namespace Go.Proofs.YtkjffifdlckljaaDoor.getSign
open Go.ChangeShapes Go.WideShapes Go.ChangeAt Go.RowKit
open Go.Proofs.YtkjffifdlckljaaDoor.sign
set_option maxRecDepth 100000

def manyOf (b : Nat) : Nat := if b < 128 then 1 else if 192 ≤ b ∧ b ≤ 223 then 2 else if 224 ≤ b ∧ b ≤ 239 then 3 else if 240 ≤ b ∧ b ≤ 247 then 4 else 0
def headOf (b : Nat) : Nat := if b < 128 then b else if 192 ≤ b ∧ b ≤ 223 then b % 32 else if 224 ≤ b ∧ b ≤ 239 then b % 16 else if 240 ≤ b ∧ b ≤ 247 then b % 8 else 0
def accN (s : ByteArray) (i : Nat) (n0 : Nat) : Nat → Nat
  | 0 => n0
  | k + 1 => accN s i n0 k * 64 + byteN s (i + (k + 1)) % 64
theorem accN_lt (s : ByteArray) (i n0 : Nat) (h : n0 < 128) : ∀ k, k ≤ 3 → accN s i n0 k < 128 * 64 ^ k
  | 0, _ => by simpa [accN] using h
  | k + 1, hk => by
    have := accN_lt s i n0 h k (by omega)
    rw [Nat.pow_succ]
    unfold accN
    omega
theorem accN_bound (s : ByteArray) (i n0 : Nat) (h : n0 < 128) (k : Nat) (hk : k ≤ 3) : accN s i n0 k < 33554432 := by
  have h1 := accN_lt s i n0 h k hk
  have h2 : 64 ^ k ≤ 64 ^ 3 := Nat.pow_le_pow_right (by omega) hk
  have h3 : (64 : Nat) ^ 3 = 262144 := by decide
  omega
theorem headOf_lt (b : Nat) : headOf b < 128 := by unfold headOf; (repeat' split) <;> omega

theorem and31 (n : Int) (h : 0 ≤ n) (h1 : n < 256) : bits .and .i64 n 31 = n % 32 := bits_mask .i64 8 (by decide) (fun m h0 h1 => by rw [IntKind.wrap_i64]; omega) 5 (by decide) n h h1
theorem and15 (n : Int) (h : 0 ≤ n) (h1 : n < 256) : bits .and .i64 n 15 = n % 16 := bits_mask .i64 8 (by decide) (fun m h0 h1 => by rw [IntKind.wrap_i64]; omega) 4 (by decide) n h h1
theorem and7 (n : Int) (h : 0 ≤ n) (h1 : n < 256) : bits .and .i64 n 7 = n % 8 := bits_mask .i64 8 (by decide) (fun m h0 h1 => by rw [IntKind.wrap_i64]; omega) 3 (by decide) n h h1
theorem ret_ints {a b c d : Int} (h : a = b) (h' : c = d) : Ending.returned (.tuple #[.int .i64 a, .int .i64 c]) = .returned (.tuple #[.int .i64 b, .int .i64 d]) := by rw [h, h']

theorem many_any (b : Nat) (hb : b < 256) (w : World) :
    Calls Tryd.prog 131 #[.int .i64 b] w fun e w' => e = .returned (.tuple #[.int .i64 (manyOf b), .int .i64 (headOf b)]) ∧ w = w' := by
  have a31 := and31 b (by omega) (by omega)
  have a15 := and15 b (by omega) (by omega)
  have a7 := and7 b (by omega) (by omega)
  by_cases h1 : b < 128
  · have e : manyOf b = 1 ∧ headOf b = b := by unfold manyOf headOf; simp [h1]
    rw [e.1, e.2]
    go_enter Tryd.func131, Tryd.ntmps131
    go_wp2
    go_ret2
    exact ⟨rfl, rfl⟩
  by_cases h2 : b < 192
  · have e : manyOf b = 0 ∧ headOf b = 0 := by unfold manyOf headOf; constructor <;> (repeat' split) <;> omega
    rw [e.1, e.2]
    go_enter Tryd.func131, Tryd.ntmps131
    go_wp2
    go_ret2
    exact ⟨rfl, rfl⟩
  by_cases h3 : b ≤ 223
  · have e : manyOf b = 2 ∧ headOf b = b % 32 := by unfold manyOf headOf; constructor <;> (repeat' split) <;> omega
    rw [e.1, e.2]
    go_enter Tryd.func131, Tryd.ntmps131
    go_wp2
    go_ret2
    exact ⟨ret_ints rfl (by omega), rfl⟩
  by_cases h4 : b ≤ 239
  · have e : manyOf b = 3 ∧ headOf b = b % 16 := by unfold manyOf headOf; constructor <;> (repeat' split) <;> omega
    rw [e.1, e.2]
    go_enter Tryd.func131, Tryd.ntmps131
    go_wp2
    go_ret2
    exact ⟨ret_ints rfl (by omega), rfl⟩
  by_cases h5 : b ≤ 247
  · have e : manyOf b = 4 ∧ headOf b = b % 8 := by unfold manyOf headOf; constructor <;> (repeat' split) <;> omega
    rw [e.1, e.2]
    go_enter Tryd.func131, Tryd.ntmps131
    go_wp2
    go_ret2
    exact ⟨ret_ints rfl (by omega), rfl⟩
  · have e : manyOf b = 0 ∧ headOf b = 0 := by unfold manyOf headOf; constructor <;> (repeat' split) <;> omega
    rw [e.1, e.2]
    go_enter Tryd.func131, Tryd.ntmps131
    go_wp2
    go_ret2
    exact ⟨rfl, rfl⟩

theorem wrapB (b : UInt8) : wrap64 (b.toNat : Int) = b.toNat := by have := b.toNat_lt; unfold wrap64; omega

/-- What is returned where the bytes stand there, and where they don't. -/
def Res (r : Bool) (N : Nat) (i M : Nat) : Value := if r then .tuple #[.int .i64 (-1), .int .i64 (-1)] else .tuple #[.int .i64 N, .int .i64 (i + M)]
structure Parts (N : Nat) (s : ByteArray) (i M : Nat) (r : Bool) : Prop where
  out : ((putSign N).toList == (s.extract i (i + M)).toList) = !r

set_option maxHeartbeats 1000000 in
theorem spec_core (s : ByteArray) (i M H N : Nat) (w : World) (hs : s.size ≤ 1048576) (hi : i < s.size) (hM1 : 1 ≤ M) (hM4 : M ≤ 4) (hfit : i + M ≤ s.size)
    (hm : manyOf (byteN s i) = M) (hh : headOf (byteN s i) = H) (hN : accN s i H (M - 1) = N) (r : Bool) (hr : Parts N s i M r) :
    Calls Tryd.prog 107 #[.string s, .int .i64 i] w fun e w' => e = .returned (Res r N i M) ∧ Below w.heap.size w w' := by
  have hH : H < 128 := by rw [← hh]; exact headOf_lt _
  have C0 := many_any (s[i].toNat) (by rw [byteN_eq s i hi]; exact byteN_lt s i) w
  rw [show manyOf s[i].toNat = M by rw [byteN_eq s i hi]; exact hm, show headOf s[i].toNat = H by rw [byteN_eq s i hi]; exact hh] at C0
  have C1 := Lib.hid C0
  clear C0
  have HN := Lib.hid hN
  clear hm hh hN
  have hi0 : (0 : Int) ≤ (i : Int) := by omega
  have hi1 : (i : Int) < (s.size : Int) := by omega
  have hM0 : ((M : Int) == 0) = false := by simp; omega
  have hwb := wrapB
  go_enter Tryd.func107, Tryd.ntmps107
  go_wp2_with fail
  with_reducible refine C1.out.mono ?_
  rintro e w1 ⟨rfl, rfl⟩
  clear C1
  go_wp2_with fail
  go_loop [7, 8] (fun n k => ∃ j : Nat, j + 1 ≤ M ∧ k = .int .i64 (j + 1 : Nat) ∧ n = .int .i64 (accN s i H j : Nat)) (fun _ k => M - (intOf k).toNat)
  case atStart => exact ⟨0, by omega, rfl, rfl⟩
  case round =>
    obtain ⟨j, hj, rfl, rfl⟩ := hrel
    have hbd := accN_bound s i H hH j (by omega)
    obtain ⟨a, ha, HA⟩ : ∃ a, a < 33554432 ∧ Hid (accN s i H j = a) := ⟨_, hbd, rfl⟩
    rw [HA.out]
    clear hbd
    obtain ⟨k, hk, HK⟩ : ∃ k : Nat, 1 ≤ k ∧ Hid (j + 1 = k) := ⟨_, by omega, rfl⟩
    rw [HK.out] at hj ⊢
    by_cases hlt : k < M
    · have h63 := i64_and63
      have hx0 : (0 : Int) ≤ (i : Int) + (k : Int) := by omega
      have hx1 : (i : Int) + (k : Int) < (s.size : Int) := by omega
      go_wp2
      have hbk : s[i + k].toNat = byteN s (i + k) := byteN_eq s (i + k) (by omega)
      refine ⟨⟨j + 1, by have := HK.out; omega, by have := HK.out; congr 1; omega, ?_⟩, by simp [intOf]; omega⟩
      rw [hbk, accN, HA.out, HK.out]
      congr 1
    · have e : a = N := by rw [← HA.out, ← HN.out]; have := HK.out; congr 1; omega
      subst e
      clear HA HN HK
      obtain ⟨p, c2, hc⟩ : ∃ p : ByteArray, (∀ w, Calls Tryd.prog 132 #[.int .i64 a] w fun e w' => e = .returned (.string p) ∧ Below w.heap.size w w') ∧ (p.toList == (s.extract i (i + M)).toList) = !r := ⟨_, putSign.spec_any _, hr.out⟩
      have C2 := Lib.hid c2
      clear hr c2
      have hx0 : (0 : Int) ≤ (i : Int) + (M : Int) := by omega
      have hx1 : (i : Int) + (M : Int) ≤ (s.size : Int) := by omega
      have ew : IntKind.i64.wrap ((i : Int) + (M : Int)) = (i : Int) + (M : Int) := by rw [IntKind.wrap_i64]; omega
      have et : ((i : Int) + (M : Int)).toNat = i + M := by omega
      cases r
      · have hc' : (p.toList == (s.extract i (i + M)).toList) = true := hc
        clear hc
        go_wp2
        go_region_with (go_at_call 132; with_reducible refine (C2.out _).mono ?_; rintro e w1 ⟨rfl, hb⟩)
        all_goals
          have hb' : Below w.heap.size w w1 := ((Below.refl w.heap.size w).drew).trans hb
          clear hb
          go_wp2
          go_ret2
          exact ⟨rfl, hb'⟩
      · have hc' : (p.toList == (s.extract i (i + M)).toList) = false := hc
        clear hc
        go_wp2
        go_region_with (go_at_call 132; with_reducible refine (C2.out _).mono ?_; rintro e w1 ⟨rfl, hb⟩)
        all_goals
          have hb' : Below w.heap.size w w1 := ((Below.refl w.heap.size w).drew).trans hb
          clear hb
          go_wp2
          go_ret2
          exact ⟨rfl, hb'⟩


/-! What both functions return. -/
def signV (s : ByteArray) (i : Nat) : Value := if Utf8.decode s i = (65533, 1) then .tuple #[.int .i64 (-1), .int .i64 (-1)] else .tuple #[.int .i64 (Utf8.decode s i).1, .int .i64 (i + (Utf8.decode s i).2)]
theorem signV_bad {s : ByteArray} {i : Nat} (h : Utf8.decode s i = (65533, 1)) : signV s i = .tuple #[.int .i64 (-1), .int .i64 (-1)] := by unfold signV; rw [if_pos h]
theorem signV_ok {s : ByteArray} {i N M : Nat} (h : Utf8.decode s i = (N, M)) (hne : ¬ (N = 65533 ∧ M = 1)) : signV s i = .tuple #[.int .i64 N, .int .i64 (i + M)] := by
  unfold signV
  rw [h, if_neg (by simpa using hne)]
theorem toList_inj {a b : ByteArray} : a.toList = b.toList ↔ a = b := by
  rw [Lib.toList_data, Lib.toList_data]
  constructor
  · intro h; exact ByteArray.ext (Array.toList_inj.1 h)
  · intro h; rw [h]
theorem parts_of {N : Nat} {s : ByteArray} {i M : Nat} {xs : List Int} (hx : s.extract i (i + M) = strOfNums xs) :
    (putSign N = strOfNums xs → Parts N s i M false) ∧ (putSign N ≠ strOfNums xs → Parts N s i M true) := by
  refine ⟨fun h => ⟨?_⟩, fun h => ⟨?_⟩⟩
  · rw [hx, h]; simp
  · rw [hx]
    simp only [Bool.not_true, beq_eq_false_iff_ne]
    intro e
    exact h (toList_inj.1 e)

/-- Too few bytes, or no head. -/
theorem spec_short (s : ByteArray) (i : Nat) (w : World) (hs : s.size ≤ 1048576) (hi : i < s.size) (h : manyOf (byteN s i) = 0 ∨ s.size - i < manyOf (byteN s i)) :
    Calls Tryd.prog 107 #[.string s, .int .i64 i] w fun e w' => e = .returned (.tuple #[.int .i64 (-1), .int .i64 (-1)]) ∧ Below w.heap.size w w' := by
  obtain ⟨M, H, C0, h'⟩ : ∃ M H : Nat, (Calls Tryd.prog 131 #[.int .i64 s[i].toNat] w fun e w' => e = .returned (.tuple #[.int .i64 M, .int .i64 H]) ∧ w = w') ∧ (M = 0 ∨ s.size - i < M) :=
    ⟨_, _, many_any (s[i].toNat) (by rw [byteN_eq s i hi]; exact byteN_lt s i) w, by rw [byteN_eq s i hi]; exact h⟩
  have C1 := Lib.hid C0
  clear C0 h
  have hi0 : (0 : Int) ≤ (i : Int) := by omega
  have hi1 : (i : Int) < (s.size : Int) := by omega
  have hwb := wrapB
  by_cases hz : M = 0
  · have hM0 : ((M : Int) == 0) = true := by simp; omega
    clear h' hz
    go_enter Tryd.func107, Tryd.ntmps107
    go_wp2_with fail
    with_reducible refine C1.out.mono ?_
    rintro e w1 ⟨rfl, rfl⟩
    clear C1
    go_wp2
    go_ret2
    exact ⟨rfl, Below.refl _ _⟩
  · have hM0 : ((M : Int) == 0) = false := by simp; omega
    have hM1 : (s.size : Int) - (i : Int) < (M : Int) := by omega
    clear h' hz
    go_enter Tryd.func107, Tryd.ntmps107
    go_wp2_with fail
    with_reducible refine C1.out.mono ?_
    rintro e w1 ⟨rfl, rfl⟩
    clear C1
    go_wp2
    go_ret2
    exact ⟨rfl, Below.refl _ _⟩

theorem spec_in (s : ByteArray) (i : Nat) (w : World) (hs : s.size ≤ 1048576) (hi : i < s.size) :
    Calls Tryd.prog 107 #[.string s, .int .i64 i] w fun e w' => e = .returned (signV s i) ∧ Below w.heap.size w w' := by
  have hd := decode_num s i
  have b0 := byteN_lt s i
  have b1 := byteN_lt s (i + 1)
  have b2 := byteN_lt s (i + 2)
  have b3 := byteN_lt s (i + 3)
  by_cases h1 : byteN s i < 128
  · have hm : manyOf (byteN s i) = 1 := by unfold manyOf; rw [if_pos h1]
    have hh : headOf (byteN s i) = byteN s i := by unfold headOf; rw [if_pos h1]
    obtain ⟨e1, e2⟩ := one_ok (n := s.size - i) (b1 := byteN s (i + 1)) (b2 := byteN s (i + 2)) (b3 := byteN s (i + 3)) h1
    rw [signV_ok (hd.trans e1) (by omega)]
    exact spec_core s i 1 _ (byteN s i) w hs hi (by omega) (by omega) (by omega) hm hh rfl false ((parts_of (extract_nums s i 1 (by omega))).1 e2)
  by_cases h2 : byteN s i ≤ 191 ∨ 248 ≤ byteN s i
  · rw [signV_bad (hd.trans (no_head (by omega) b0))]
    exact spec_short s i w hs hi (.inl (by unfold manyOf; (repeat' split) <;> omega))
  by_cases h3 : byteN s i ≤ 223
  · have hm : manyOf (byteN s i) = 2 := by unfold manyOf; (repeat' split) <;> omega
    have hh : headOf (byteN s i) = byteN s i % 32 := by unfold headOf; (repeat' split) <;> omega
    by_cases hf : i + 2 ≤ s.size
    · rcases two_ok (n := s.size - i) (b0 := byteN s i) (b1 := byteN s (i + 1)) (b2 := byteN s (i + 2)) (b3 := byteN s (i + 3)) (by omega) (by omega) b1 rfl with ⟨e1, e2⟩ | ⟨e1, e2⟩
      · rw [signV_ok (hd.trans e1) (by omega)]
        exact spec_core s i 2 _ _ w hs hi (by omega) (by omega) hf hm hh rfl false ((parts_of (extract_nums s i 2 hf)).1 e2)
      · rw [signV_bad (hd.trans e1)]
        exact spec_core s i 2 _ _ w hs hi (by omega) (by omega) hf hm hh rfl true ((parts_of (extract_nums s i 2 hf)).2 e2)
    · rw [signV_bad (hd.trans (short2 (by omega) (by omega)))]
      exact spec_short s i w hs hi (.inr (by omega))
  by_cases h4 : byteN s i ≤ 239
  · have hm : manyOf (byteN s i) = 3 := by unfold manyOf; (repeat' split) <;> omega
    have hh : headOf (byteN s i) = byteN s i % 16 := by unfold headOf; (repeat' split) <;> omega
    by_cases hf : i + 3 ≤ s.size
    · rcases three_ok (n := s.size - i) (b0 := byteN s i) (b1 := byteN s (i + 1)) (b2 := byteN s (i + 2)) (b3 := byteN s (i + 3)) (by omega) (by omega) b1 b2 rfl with ⟨e1, e2⟩ | ⟨e1, e2⟩
      · rw [signV_ok (hd.trans e1) (by omega)]
        exact spec_core s i 3 _ _ w hs hi (by omega) (by omega) hf hm hh rfl false ((parts_of (extract_nums s i 3 hf)).1 e2)
      · rw [signV_bad (hd.trans e1)]
        exact spec_core s i 3 _ _ w hs hi (by omega) (by omega) hf hm hh rfl true ((parts_of (extract_nums s i 3 hf)).2 e2)
    · rw [signV_bad (hd.trans (short3 (by omega) (by omega)))]
      exact spec_short s i w hs hi (.inr (by omega))
  · have hm : manyOf (byteN s i) = 4 := by unfold manyOf; (repeat' split) <;> omega
    have hh : headOf (byteN s i) = byteN s i % 8 := by unfold headOf; (repeat' split) <;> omega
    by_cases hf : i + 4 ≤ s.size
    · rcases four_ok (n := s.size - i) (b0 := byteN s i) (b1 := byteN s (i + 1)) (b2 := byteN s (i + 2)) (b3 := byteN s (i + 3)) (by omega) (by omega) b1 b2 b3 rfl with ⟨e1, e2⟩ | ⟨e1, e2⟩
      · rw [signV_ok (hd.trans e1) (by omega)]
        exact spec_core s i 4 _ _ w hs hi (by omega) (by omega) hf hm hh rfl false ((parts_of (extract_nums s i 4 hf)).1 e2)
      · rw [signV_bad (hd.trans e1)]
        exact spec_core s i 4 _ _ w hs hi (by omega) (by omega) hf hm hh rfl true ((parts_of (extract_nums s i 4 hf)).2 e2)
    · rw [signV_bad (hd.trans (short4 (by omega) (by omega)))]
      exact spec_short s i w hs hi (.inr (by omega))

/-- A place outside the text. -/
theorem spec_out (s : ByteArray) (i : Int) (w : World) (hs : s.size ≤ 1048576) (h : i < 0 ∨ (s.size : Int) ≤ i) :
    Calls Tryd.prog 107 #[.string s, .int .i64 i] w fun e w' => e = .returned (.tuple #[.int .i64 (-1), .int .i64 (-1)]) ∧ Below w.heap.size w w' := by
  rcases h with h | h
  all_goals
    go_enter Tryd.func107, Tryd.ntmps107
    go_wp2
    go_ret2
    exact ⟨rfl, Below.refl _ _⟩

end Go.Proofs.YtkjffifdlckljaaDoor.getSign
