/-
  What spec.l03Parts returns: a number's digits without noughts at the end, and its power.
-/
import Derived.Test.YthjholhjkahdkaaFnOrderJ0
import Derived.Test.YthjholhjkahdkaaSpecNum
import Derived.Test.YthjholhjkahdkaaDecTextWalk
import Derived.Test.YthjholhjkahdkaaSpecCmp
import Derived.Test.YthjholhjkahdkaaFnOrderJ1
namespace Go.Proofs.Ythjholhjkahdkaa.num
open Go.ChangeShapes Go.WideShapes Go.ChangeAt Go.RowKit
open Go.Proofs.Ythjholhjkahdkaa.val
set_option maxRecDepth 100000

/-- The digits of m, where m * 10^k is N. -/
structure PartAt (N : Nat) (e : Int) (m : Nat) (f : Int) : Prop where
  pos : 0 < m
  ex : ∃ k : Nat, f = e + k ∧ m * 10 ^ k = N ∧ k ≤ 20
theorem PartAt.start {N : Nat} {e : Int} (h : 0 < N) : PartAt N e N e := ⟨h, 0, by omega, by simp, by omega⟩
theorem PartAt.step {N : Nat} {e : Int} {m : Nat} {f : Int} (h : PartAt N e m f) (hN : N ≤ 9223372036854775808) (hm : m % 10 = 0) : PartAt N e (m / 10) (f + 1) := by
  obtain ⟨hp, k, h1, h2, h3⟩ := h
  have e1 : m = m / 10 * 10 := by omega
  have e2 : m / 10 * 10 ^ (k + 1) = N := by rw [Nat.pow_succ, Nat.mul_comm (10 ^ k), ← Nat.mul_assoc, ← e1]; exact h2
  refine ⟨by omega, k + 1, by omega, e2, ?_⟩
  rcases Nat.lt_or_ge k 20 with hk | hk
  · omega
  · exfalso
    have a := ten20 (k + 1) (by omega)
    have b : 10 ^ (k + 1) ≤ m / 10 * 10 ^ (k + 1) := Nat.le_mul_of_pos_left _ (by omega)
    generalize 10 ^ (k + 1) = z at *
    omega
theorem PartAt.le {N : Nat} {e : Int} {m : Nat} {f : Int} (h : PartAt N e m f) : e ≤ f ∧ f ≤ e + 20 := by obtain ⟨_, k, h1, _, h3⟩ := h; omega
theorem PartAt.fin {N : Nat} {e : Int} {m : Nat} {f : Int} (h : PartAt N e m f) (he : -60 ≤ e) : m * 10 ^ (f + 60).toNat = N * 10 ^ (e + 60).toNat := by
  obtain ⟨_, k, h1, h2, _⟩ := h
  have e1 : (f + 60).toNat = k + (e + 60).toNat := by omega
  rw [e1, Nat.pow_add, ← Nat.mul_assoc, h2]

theorem PartAt.small {N : Nat} {e : Int} {m : Nat} {f : Int} (h : PartAt N e m f) : m ≤ N := by
  obtain ⟨_, k, _, h2, _⟩ := h
  rw [← h2]
  exact Nat.le_mul_of_pos_right _ (pow_pos10 k)
theorem dg_len_le {m : Nat} (h0 : 0 < m) (h : m ≤ 9223372036854775808) : (dg m).length ≤ 20 := by
  have h1 := (dg_bounds m).2 h0
  rcases Nat.lt_or_ge (dg m).length 21 with hl | hl
  · omega
  · have := ten20 ((dg m).length - 1) (by omega)
    generalize 10 ^ ((dg m).length - 1) = z at *
    omega
theorem str_data (l : List UInt8) : (str l).data.toList = l := rfl
theorem ba_ext {x y : ByteArray} (h : x.data.toList = y.data.toList) : x = y := by
  cases x; cases y
  congr
  exact Array.toList_inj.1 h
theorem str_cut (x : List UInt8) (b : UInt8) : (str (x ++ [b])).extract 0 x.length = str x := by
  apply ba_ext
  rw [Lib.extract_data, str_data, str_data]
  simp
theorem str_tail (x : List UInt8) (b : UInt8) : (str (b :: x)).extract 1 (x.length + 1) = str x := by
  apply ba_ext
  rw [Lib.extract_data, str_data, str_data]
  simp
/-- The last digit, and what stands ahead of it. -/
theorem dg_end (m : Nat) (hm : 0 < m) : ∃ x b, dg m = x ++ [b] ∧ b.toNat = 48 + m % 10 ∧ (m % 10 = 0 → x = dg (m / 10)) := by
  by_cases h : m < 10
  · refine ⟨[], dig m, dg_small h, ?_, fun h0 => ?_⟩
    · rw [dig_nat h]; omega
    · omega
  · exact ⟨_, _, dg_big h, dig_nat (by omega), fun _ => rfl⟩
theorem str_last (x : List UInt8) (b : UInt8) (h : x.length < (str (x ++ [b])).size) : (str (x ++ [b]))[x.length].toNat = b.toNat := by
  have : (str (x ++ [b]))[x.length] = (x ++ [b])[x.length]'(by simp) := rfl
  rw [this]
  simp

theorem pos_size {S : ByteArray} {q : Nat} (h : S.size = q + 1) : (0 : Int) < (S.size : Int) := by omega
theorem wrap_len {q : Nat} (h : q ≤ 19) : wrap64 (q : Int) = q := wrap_in (by unfold InI; omega)
theorem len_le {x : List UInt8} {b : UInt8} (h : (x ++ [b]).length ≤ 20) : x.length ≤ 19 := by rw [List.length_append] at h; simp only [List.length_cons, List.length_nil] at h; omega
theorem meas_less {e f : Int} (h : f + 1 ≤ e + 20) : (e + 21 - (f + 1)).toNat < (e + 21 - f).toNat := by omega
theorem size_str {S : ByteArray} {x : List UInt8} {b : UInt8} (h : S = str (x ++ [b])) : S.size = x.length + 1 := by rw [h]; unfold str; simp [ByteArray.size]
theorem not48 {b : UInt8} {m : Nat} (hb : b.toNat = 48 + m % 10) (hm : ¬ m % 10 = 0) : ¬ (b.toNat : Int) = 48 := by omega
structure PartRet (N : Nat) (e : Int) (r : Ending) : Prop where
  ex : ∃ m f, m % 10 ≠ 0 ∧ PartAt N e m f ∧ r = .returned (.tuple #[.string (str (dg m)), .int .i64 f])
set_option maxHeartbeats 1000000 in
theorem parts_pos (k n e : Int) (s : ByteArray) (a : Option Addr) (len cap : Nat) (hn : InI n) (h0 : 0 < n) (he1 : -20 ≤ e) (he2 : e ≤ 20) (w : World) : Calls Try.prog 36 #[.agg #[.int .i64 k, .int .i64 n, .int .i64 e, .string s, .slice a len cap]] w fun r w' =>
    PartRet n.natAbs e r ∧ Below w.heap.size w w' := by
  have HX := Lib.hid (OwnAt.new w k n e s (.slice a len cap))
  have HD := decText.spec_any n hn.1 hn.2
  have hi : Lib.itoa n = dg n.natAbs := by
    unfold Lib.itoa dg
    rw [if_neg (by omega)]
    congr 1
    omega
  rw [hi] at HD
  have HN : Hid (n.natAbs ≤ 9223372036854775808) := by unfold Hid; unfold InI at hn; omega
  have HS := Lib.hid (PartAt.start (N := n.natAbs) (e := e) (by omega))
  replace HD := Lib.hid HD
  clear hi hn
  obtain ⟨hl, c0, c1, c2, c3, c4⟩ := HX.out
  have HL := Lib.hid hl
  clear hl
  go_enter Try.func36, Try.ntmps36
  go_upto_region 1 with fail
  go_cut [4, 5] from 6 (fun x y wx => x = .string (str (dg n.natAbs)) ∧ y = .int .i64 e ∧ OwnAt w wx k n e s (.slice a len cap))
  case first =>
    go_region_with (go_at_call 47; refine (HD.out _).mono ?_; rintro r w1 ⟨rfl, rfl⟩)
    all_goals
      go_wp2_with fail
      go_meet
      case rel => exact ⟨rfl, rfl, HX.out.drew⟩
  case rest =>
    obtain ⟨rfl, rfl, hown⟩ := hcut
    clear c0 c1 c2 c3 c4 HX HD HL
    obtain ⟨hl, c0, c1, c2, c3, c4⟩ := hown
    have HL := Lib.hid hl
    clear hl
    have h00 : ¬ n < 0 := by omega
    go_wp2
    go_loop [4, 5] (fun x y => ∃ (S : ByteArray) (m : Nat) (f : Int), x = .string S ∧ y = .int .i64 f ∧ Hid (S = str (dg m)) ∧ PartAt n.natAbs e m f) (fun _ y => (e + 21 - intOf y).toNat)
    case atStart => exact ⟨_, _, _, rfl, rfl, rfl, HS.out⟩
    case round =>
      obtain ⟨S, m, f, rfl, rfl, HSS, HT⟩ := hrel
      obtain ⟨hf1, hf2⟩ := HT.le
      have hle := dg_len_le HT.pos (Nat.le_trans HT.small HN.out)
      obtain ⟨x, b, hx, hb, hz⟩ := dg_end m HT.pos
      rw [hx] at hle
      have hq : S.size = x.length + 1 := size_str (HSS.out.trans (by rw [hx]))
      have hlq := len_le hle
      have hwq := wrap_len hlq
      have hq0 := pos_size hq
      have hlast : ∀ (h : x.length < S.size), S[x.length].toNat = b.toNat := by
        have hS : S = str (x ++ [b]) := by rw [HSS.out, hx]
        subst hS
        exact fun h => str_last x b h
      have hcut : S.extract 0 x.length = str x := by rw [HSS.out, hx]; exact str_cut x b
      by_cases hm : m % 10 = 0
      · have HN2 := Lib.hid (HT.step HN.out hm)
        have hb0 : b.toNat = 48 := by rw [hb, hm]
        have hf3 := HN2.out.le.2
        have HC : Hid (S.extract 0 x.length = str (dg (m / 10))) := by unfold Hid; rw [hcut, hz hm]
        simp only [hb0] at hlast
        clear HT hx hz hle hb hb0 hcut
        go_wp2
        exact ⟨⟨_, m / 10, f + 1, rfl, rfl, HC, HN2.out⟩, by simp only [intOf]; exact meas_less hf3⟩
      · have hb0 : ¬ (b.toNat : Int) = 48 := not48 hb hm
        have HT2 := Lib.hid HT
        clear HT hx hz hle hb hcut
        go_wp2
        go_ret2
        exact ⟨⟨m, f, hm, HT2.out, by rw [← HSS.out]; rfl⟩, HL.out⟩

end Go.Proofs.Ythjholhjkahdkaa.num
/-
  spec.l03Parts at a number below 0.
-/
namespace Go.Proofs.Ythjholhjkahdkaa.num
open Go.ChangeShapes Go.WideShapes Go.ChangeAt Go.RowKit
open Go.Proofs.Ythjholhjkahdkaa.val
set_option maxRecDepth 100000

set_option maxHeartbeats 1000000 in
theorem parts_neg (k n e : Int) (s : ByteArray) (a : Option Addr) (len cap : Nat) (hn : InI n) (h0 : n < 0) (he1 : -20 ≤ e) (he2 : e ≤ 20) (w : World) : Calls Try.prog 36 #[.agg #[.int .i64 k, .int .i64 n, .int .i64 e, .string s, .slice a len cap]] w fun r w' =>
    PartRet n.natAbs e r ∧ Below w.heap.size w w' := by
  have HX := Lib.hid (OwnAt.new w k n e s (.slice a len cap))
  have HD := decText.spec_any n hn.1 hn.2
  have hi : Lib.itoa n = 45 :: dg n.natAbs := by
    unfold Lib.itoa dg
    rw [if_pos h0]
  rw [hi] at HD
  have HN : Hid (n.natAbs ≤ 9223372036854775808) := by unfold Hid; unfold InI at hn; omega
  have HS := Lib.hid (PartAt.start (N := n.natAbs) (e := e) (by omega))
  replace HD := Lib.hid HD
  clear hi hn
  obtain ⟨hl, c0, c1, c2, c3, c4⟩ := HX.out
  have HL := Lib.hid hl
  clear hl
  go_enter Try.func36, Try.ntmps36
  go_upto_region 1 with fail
  go_cut [4, 5] from 6 (fun x y wx => x = .string (str (45 :: dg n.natAbs)) ∧ y = .int .i64 e ∧ OwnAt w wx k n e s (.slice a len cap))
  case first =>
    go_region_with (go_at_call 47; refine (HD.out _).mono ?_; rintro r w1 ⟨rfl, rfl⟩)
    all_goals
      go_wp2_with fail
      go_meet
      case rel => exact ⟨rfl, rfl, HX.out.drew⟩
  case rest =>
    obtain ⟨rfl, rfl, hown⟩ := hcut
    clear c0 c1 c2 c3 c4 HX HD HL
    obtain ⟨hl, c0, c1, c2, c3, c4⟩ := hown
    have HL := Lib.hid hl
    clear hl
    obtain ⟨T, hT⟩ : ∃ T, T = str (45 :: dg n.natAbs) := ⟨_, rfl⟩
    rw [← hT]
    have hT1 : T.size = (dg n.natAbs).length + 1 := by rw [hT]; unfold str; simp [ByteArray.size]
    have hTl : (dg n.natAbs).length ≤ 20 := dg_len_le (by omega) HN.out
    have HX2 : Hid (T.extract 1 T.size = str (dg n.natAbs)) := by unfold Hid; rw [hT1, hT]; exact str_tail _ _
    have hT2 : (1 : Int) ≤ (T.size : Int) := by omega
    clear hT hT1 hTl
    go_wp2
    go_loop [4, 5] (fun x y => ∃ (S : ByteArray) (m : Nat) (f : Int), x = .string S ∧ y = .int .i64 f ∧ Hid (S = str (dg m)) ∧ PartAt n.natAbs e m f) (fun _ y => (e + 21 - intOf y).toNat)
    case atStart => exact ⟨_, _, _, rfl, rfl, HX2, HS.out⟩
    case round =>
      obtain ⟨S, m, f, rfl, rfl, HSS, HT⟩ := hrel
      obtain ⟨hf1, hf2⟩ := HT.le
      have hle := dg_len_le HT.pos (Nat.le_trans HT.small HN.out)
      obtain ⟨x, b, hx, hb, hz⟩ := dg_end m HT.pos
      rw [hx] at hle
      have hq : S.size = x.length + 1 := size_str (HSS.out.trans (by rw [hx]))
      have hlq := len_le hle
      have hwq := wrap_len hlq
      have hq0 := pos_size hq
      have hlast : ∀ (h : x.length < S.size), S[x.length].toNat = b.toNat := by
        have hS : S = str (x ++ [b]) := by rw [HSS.out, hx]
        subst hS
        exact fun h => str_last x b h
      have hcut : S.extract 0 x.length = str x := by rw [HSS.out, hx]; exact str_cut x b
      by_cases hm : m % 10 = 0
      · have HN2 := Lib.hid (HT.step HN.out hm)
        have hb0 : b.toNat = 48 := by rw [hb, hm]
        have hf3 := HN2.out.le.2
        have HC : Hid (S.extract 0 x.length = str (dg (m / 10))) := by unfold Hid; rw [hcut, hz hm]
        simp only [hb0] at hlast
        clear HT hx hz hle hb hb0 hcut
        go_wp2
        exact ⟨⟨_, m / 10, f + 1, rfl, rfl, HC, HN2.out⟩, by simp only [intOf]; exact meas_less hf3⟩
      · have hb0 : ¬ (b.toNat : Int) = 48 := not48 hb hm
        have HT2 := Lib.hid HT
        clear HT hx hz hle hb hcut
        go_wp2
        go_ret2
        exact ⟨⟨m, f, hm, HT2.out, by rw [← HSS.out]; rfl⟩, HL.out⟩

end Go.Proofs.Ythjholhjkahdkaa.num
/-
  spec.l03Parts at 0.
-/
namespace Go.Proofs.Ythjholhjkahdkaa.num
open Go.ChangeShapes Go.WideShapes Go.ChangeAt Go.RowKit
open Go.Proofs.Ythjholhjkahdkaa.val
set_option maxRecDepth 100000

set_option maxHeartbeats 1000000 in
theorem parts_zero (k e : Int) (s : ByteArray) (a : Option Addr) (len cap : Nat) (he1 : -20 ≤ e) (he2 : e ≤ 20) (w : World) : Calls Try.prog 36 #[.agg #[.int .i64 k, .int .i64 0, .int .i64 e, .string s, .slice a len cap]] w fun r w' => r = .returned (.tuple #[.string ⟨#[]⟩, .int .i64 (e + 1)]) ∧ Below w.heap.size w w' := by
  have HX := Lib.hid (OwnAt.new w k 0 e s (.slice a len cap))
  have HD := decText.spec_any 0 (by decide) (by decide)
  have hi : Lib.itoa 0 = [48] := by
    unfold Lib.itoa
    rw [if_neg (by decide)]
    exact Lib.decDigits_one (by decide)
  rw [hi] at HD
  replace HD := Lib.hid HD
  clear hi
  obtain ⟨hl, c0, c1, c2, c3, c4⟩ := HX.out
  go_enter Try.func36, Try.ntmps36
  go_upto_region 1 with fail
  go_cut [4, 5] from 6 (fun x y wx => x = .string ⟨#[48]⟩ ∧ y = .int .i64 e ∧ OwnAt w wx k 0 e s (.slice a len cap))
  case first =>
    go_region_with (go_at_call 47; refine (HD.out _).mono ?_; rintro r w1 ⟨rfl, rfl⟩)
    all_goals
      go_wp2_with fail
      go_meet
      case rel => exact ⟨rfl, rfl, HX.out.drew⟩
  case rest =>
    obtain ⟨rfl, rfl, hown⟩ := hcut
    clear c0 c1 c2 c3 c4 HX HD hl
    obtain ⟨hl, c0, c1, c2, c3, c4⟩ := hown
    have HL := Lib.hid hl
    clear hl
    go_wp2
    go_loop [4, 5] (fun x y => (x = .string ⟨#[48]⟩ ∧ y = .int .i64 e) ∨ (x = .string ⟨#[]⟩ ∧ y = .int .i64 (e + 1))) (fun _ y => (e + 21 - intOf y).toNat)
    case atStart => exact .inl ⟨rfl, rfl⟩
    case round =>
      rcases hrel with ⟨rfl, rfl⟩ | ⟨rfl, rfl⟩
      · go_wp2
        exact ⟨.inr ⟨by first | rfl | decide, rfl⟩, by simp only [intOf]; omega⟩
      · go_wp2
        go_ret2
        exact ⟨rfl, HL.out⟩

end Go.Proofs.Ythjholhjkahdkaa.num
/-
  What spec.l03Size returns: the order of two numbers without their signs.
-/
namespace Go.Proofs.Ythjholhjkahdkaa.num
open Go.ChangeShapes Go.WideShapes Go.ChangeAt Go.RowKit
open Go.Proofs.Ythjholhjkahdkaa.val
set_option maxRecDepth 100000

/-- The digits and the power of a number. -/
structure PartsIs (n e : Int) (D : List UInt8) (f : Int) : Prop where
  ex : (n = 0 ∧ D = []) ∨ ∃ m, m % 10 ≠ 0 ∧ PartAt n.natAbs e m f ∧ D = dg m
  lo : -20 ≤ f
  hi : f ≤ 60
  len : D.length ≤ 20
theorem parts_any (t : LT) (hn : InI t.n) (he1 : -20 ≤ t.e) (he2 : t.e ≤ 20) (w : World) : Calls Try.prog 36 #[.agg #[.int .i64 t.k, .int .i64 t.n, .int .i64 t.e, .string t.s, t.row]] w fun r w' => (∃ D f, PartsIs t.n t.e D f ∧ r = .returned (.tuple #[.string (str D), .int .i64 f])) ∧ Below w.heap.size w w' := by
  obtain ⟨k, n, e, s, a, cap, kids⟩ := t
  have hN : n.natAbs ≤ 9223372036854775808 := by have h := hn; unfold InI LT.n at h; simp only at h; omega
  have key : ∀ (r : Ending) (w' : World), PartRet n.natAbs e r ∧ Below w.heap.size w w' → (∃ D f, PartsIs n e D f ∧ r = .returned (.tuple #[.string (str D), .int .i64 f])) ∧ Below w.heap.size w w' := by
    rintro r w' ⟨⟨m, f, h1, h2, h3⟩, hb⟩
    have hle := h2.le
    have he1' : -20 ≤ e := he1
    have he2' : e ≤ 20 := he2
    exact ⟨⟨dg m, f, ⟨.inr ⟨m, h1, h2, rfl⟩, by omega, by omega, dg_len_le h2.pos (Nat.le_trans h2.small hN)⟩, h3⟩, hb⟩
  rcases Int.lt_trichotomy n 0 with h | h | h
  · exact (parts_neg k n e s a kids.length cap hn h he1 he2 w).mono key
  · subst h
    refine (parts_zero k e s a kids.length cap he1 he2 w).mono ?_
    rintro r w' ⟨h1, hb⟩
    have he1' : -20 ≤ e := he1
    have he2' : e ≤ 20 := he2
    exact ⟨⟨[], e + 1, ⟨.inl ⟨rfl, rfl⟩, by omega, by omega, by simp⟩, h1⟩, hb⟩
  · exact (parts_pos k n e s a kids.length cap hn h he1 he2 w).mono key

def sizeR (D : List UInt8) (e : Int) (E : List UInt8) (f : Int) : Int := if D = [] ∨ E = [] then cmpI D.length E.length else if cmpI (D.length + e) (E.length + f) ≠ 0 then cmpI (D.length + e) (E.length + f) else cmpS (str D) (str E)
def absV (n e : Int) : Int := ((n.natAbs * 10 ^ (e + 60).toNat : Nat) : Int)
theorem parts_some {n e : Int} {D : List UInt8} {f : Int} (h : PartsIs n e D f) (h0 : n ≠ 0) (he : -60 ≤ e) : ∃ m, m % 10 ≠ 0 ∧ D = dg m ∧ D ≠ [] ∧ ((m * 10 ^ (f + 60).toNat : Nat) : Int) = absV n e := by
  rcases h.ex with ⟨h1, _⟩ | ⟨m, h1, h2, h3⟩
  · exact absurd h1 h0
  · refine ⟨m, h1, h3, ?_, ?_⟩
    · rw [h3]; intro h4; have := dg_len_pos m; rw [h4] at this; simp at this
    · unfold absV; rw [h2.fin he]
theorem parts_none {n e : Int} {D : List UInt8} {f : Int} (h : PartsIs n e D f) (h0 : n = 0) : D = [] := by
  rcases h.ex with ⟨_, h1⟩ | ⟨m, _, h2, _⟩
  · exact h1
  · exfalso
    have := h2.pos
    have := h2.small
    omega
theorem absV_pos {n e : Int} (h : n ≠ 0) : 0 < absV n e := by
  unfold absV
  have := Nat.mul_pos (show 0 < n.natAbs by omega) (pow_pos10 (e + 60).toNat)
  omega
theorem absV_zero (e : Int) : absV 0 e = 0 := by unfold absV; simp
theorem sizeR_eq {n e n' e' : Int} {D E : List UInt8} {f f' : Int} (h : PartsIs n e D f) (h' : PartsIs n' e' E f') (he : -60 ≤ e) (he' : -60 ≤ e') : sizeR D f E f' = cmpI (absV n e) (absV n' e') := by
  unfold sizeR
  by_cases h0 : n = 0
  · have hD := parts_none h h0
    rw [if_pos (.inl hD), hD, h0, absV_zero]
    by_cases h0' : n' = 0
    · rw [parts_none h' h0', h0', absV_zero]; rfl
    · obtain ⟨m, _, _, h3, _⟩ := parts_some h' h0' he'
      have hl : 0 < E.length := List.length_pos_iff.2 h3
      rw [cmpI_lt (absV_pos h0'), cmpI_lt (by simp only [List.length_nil]; omega)]
  · obtain ⟨m, hm, h2, h3, h4⟩ := parts_some h h0 he
    by_cases h0' : n' = 0
    · have hE := parts_none h' h0'
      have hl : 0 < D.length := List.length_pos_iff.2 h3
      rw [if_pos (.inr hE), hE, h0', absV_zero, cmpI_gt (absV_pos h0), cmpI_gt (by simp only [List.length_nil]; omega)]
    · obtain ⟨m', hm', h2', h3', h4'⟩ := parts_some h' h0' he'
      rw [if_neg (fun h => h.elim h3 h3'), h2, h2', ← h4, ← h4']
      have hlo := h.lo
      have hlo' := h'.lo
      exact size_eq hm hm' (by omega) (by omega)

theorem isE_false {l : List UInt8} (h : ¬ l = []) : l.isEmpty = false := by cases l with | nil => exact absurd rfl h | cons _ _ => rfl
set_option maxHeartbeats 2000000 in
theorem size_any (t u : LT) (ht : InI t.n) (hu : InI u.n) (h1 : -20 ≤ t.e) (h2 : t.e ≤ 20) (h3 : -20 ≤ u.e) (h4 : u.e ≤ 20) (w : World) : Calls Try.prog 24 #[.agg #[.int .i64 t.k, .int .i64 t.n, .int .i64 t.e, .string t.s, t.row], .agg #[.int .i64 u.k, .int .i64 u.n, .int .i64 u.e, .string u.s, u.row]] w fun r w' => r = .returned (.int .i64 (cmpI (absV t.n t.e) (absV u.n u.e))) ∧ Below w.heap.size w w' := by
  have HB := Lib.hid (((Below.refl w.heap.size w).alloc (Nat.le_refl _) (.cells #[.int .i64 t.k, .int .i64 t.n, .int .i64 t.e, .string t.s, t.row] 26)).alloc (by simp) (.cells #[.int .i64 u.k, .int .i64 u.n, .int .i64 u.e, .string u.s, u.row] 26))
  have HX := Lib.hid (Box2.new w t u 26)
  have hrt : t.row = .slice t.a t.kids.length t.cap := rfl
  have hru : u.row = .slice u.a u.kids.length u.cap := rfl
  have CT := Lib.hid (fun W => parts_any t ht h1 h2 W)
  have CU := Lib.hid (fun W => parts_any u hu h3 h4 W)
  have HR : Hid (∀ D f E f', PartsIs t.n t.e D f → PartsIs u.n u.e E f' → sizeR D f E f' = cmpI (absV t.n t.e) (absV u.n u.e)) := fun D f E f' ha hb => sizeR_eq ha hb (by omega) (by omega)
  have CL := Lib.hid lessS
  have CX := Lib.hid textsS
  generalize cmpI (absV t.n t.e) (absV u.n u.e) = C at *
  simp only [hrt, hru] at CT CU HB HX ⊢
  clear ht hu h1 h2 h3 h4 hrt hru
  go_enter Try.func24, Try.ntmps24
  go_wp2_with fail
  with_reducible refine (CT.out _).mono ?_
  rintro r w1 ⟨⟨D, f, hD, rfl⟩, hb⟩
  replace HB := Lib.hid (below_of2 HB.out hb)
  replace HX : Hid (Box2 w1 w.heap.size t u) := ⟨HX.out.b1.behind hb, HX.out.b2.behind hb⟩
  clear hb
  obtain ⟨⟨p0, p1, p2, p3, p4⟩, ⟨q0, q1, q2, q3, q4⟩⟩ := HX.out
  unfold LT.row at p4 q4
  go_wp2_with fail
  with_reducible refine (CU.out _).mono ?_
  rintro r w2 ⟨⟨E, f', hE, rfl⟩, hb⟩
  replace HB := Lib.hid (below_of2 HB.out hb)
  clear hb p0 p1 p2 p3 p4 q0 q1 q2 q3 q4 CT CU HX
  have HV := Lib.hid (HR.out D f E f' hD hE)
  have hl1 := hD.len
  have hl2 := hE.len
  have ha1 := hD.lo
  have ha2 := hD.hi
  have hb1 := hE.lo
  have hb2 := hE.hi
  clear hD hE HR
  obtain ⟨S, hS⟩ : ∃ S, S = str D := ⟨_, rfl⟩
  obtain ⟨T, hT⟩ : ∃ T, T = str E := ⟨_, rfl⟩
  have hSz : S.size = D.length := by rw [hS]; rfl
  have hTz : T.size = E.length := by rw [hT]; rfl
  have hSl : S.toList = D := by rw [hS, str_list]
  have hTl : T.toList = E := by rw [hT, str_list]
  rw [← hS, ← hT]
  unfold sizeR at HV
  rw [← hS, ← hT, ← hSz, ← hTz, ← hSl, ← hTl] at HV
  rw [← hSz] at hl1
  rw [← hTz] at hl2
  clear hS hT hSz hTz hSl hTl
  by_cases hA : S.toList = []
  · have HV2 := Lib.hid (HV.out)
    rw [if_pos (.inl hA)] at HV2
    clear HV
    go_wp2_with fail
    with_reducible refine (CL.out _ _ _).mono ?_
    rintro r w3 ⟨rfl, rfl⟩
    go_wp2
    go_ret
    exact ⟨by rw [← HV2.out]; rfl, HB.out⟩
  · by_cases hB : T.toList = []
    · have HV2 := Lib.hid (HV.out)
      rw [if_pos (.inr hB)] at HV2
      clear HV
      go_wp2_with fail
      with_reducible refine (CL.out _ _ _).mono ?_
      rintro r w3 ⟨rfl, rfl⟩
      go_wp2
      go_ret
      exact ⟨by rw [← HV2.out]; rfl, HB.out⟩
    · have HV2 := Lib.hid (HV.out)
      rw [if_neg (fun h => h.elim hA hB)] at HV2
      clear HV
      obtain ⟨X, hX⟩ : ∃ X, cmpI ((S.size : Int) + f) ((T.size : Int) + f') = X := ⟨_, rfl⟩
      rw [hX] at HV2
      have CL2 : Hid (∀ W : World, Calls Try.prog 23 #[.int .i64 ((S.size : Int) + f), .int .i64 ((T.size : Int) + f')] W fun e w' => e = .returned (.int .i64 X) ∧ w' = W) := fun W => by rw [← hX]; exact lessS _ _ W
      clear hX CL
      have hA' := isE_false hA
      have hB' := isE_false hB
      by_cases hc : X = 0
      · subst hc
        rw [if_neg (by simp)] at HV2
        go_wp2_with fail
        with_reducible refine (CL2.out _).mono ?_
        rintro r w3 ⟨rfl, rfl⟩
        go_wp2_with fail
        with_reducible refine (CX.out _ _ _).mono ?_
        rintro r w4 ⟨rfl, rfl⟩
        go_wp2
        go_ret
        exact ⟨by rw [← HV2.out]; rfl, HB.out⟩
      · rw [if_pos hc] at HV2
        go_wp2_with fail
        with_reducible refine (CL2.out _).mono ?_
        rintro r w3 ⟨rfl, rfl⟩
        go_wp2
        go_ret
        exact ⟨by rw [← HV2.out]; rfl, HB.out⟩

end Go.Proofs.Ythjholhjkahdkaa.num
/-
  Two values in boxes, carried along.
-/
namespace Go.Proofs.Ythjholhjkahdkaa.val
open Go.ChangeShapes Go.WideShapes Go.ChangeAt Go.RowKit
set_option maxRecDepth 100000
theorem Box2.behind {w w' : World} {N : Nat} {t u : LT} (h : Box2 w N t u) (hb : Below w.heap.size w w') : Box2 w' N t u := ⟨h.b1.behind hb, h.b2.behind hb⟩
/-- Between two statements of a law on two values. -/
structure Lies (w wx : World) (t u : LT) : Prop where
  low : Below w.heap.size w wx
  box : Box2 wx w.heap.size t u
theorem Lies.behind {w wx w' : World} {t u : LT} (h : Lies w wx t u) (hb : Below wx.heap.size wx w') : Lies w w' t u := ⟨below_of2 h.low hb, h.box.behind hb⟩
theorem Lies.drewBehind {w wx w' : World} {t u : LT} (h : Lies w wx t u) (n : Nat) (hb : Below (wx.drewN n).heap.size (wx.drewN n) w') : Lies w w' t u := ⟨below_of2 (belowN h.low n) hb, (show Box2 (wx.drewN n) _ _ _ from ⟨h.box.b1.drewN n, h.box.b2.drewN n⟩).behind hb⟩
theorem Box2.drewN {w : World} {N : Nat} {t u : LT} (h : Box2 w N t u) (n : Nat) : Box2 (w.drewN n) N t u := ⟨h.b1.drewN n, h.b2.drewN n⟩
end Go.Proofs.Ythjholhjkahdkaa.val
/-
  What spec.CompareNum returns: the order of two numbers.
-/
namespace Go.Proofs.Ythjholhjkahdkaa.num
open Go.ChangeShapes Go.WideShapes Go.ChangeAt Go.RowKit
open Go.Proofs.Ythjholhjkahdkaa.val
set_option maxRecDepth 100000

theorem sixty_pos {n e : Int} (h : 0 ≤ n) : sixty n e = absV n e := by
  unfold sixty absV
  rw [Int.natCast_mul]
  congr 1
  omega
theorem sixty_neg {n e : Int} (h : n < 0) : sixty n e = -absV n e := by
  unfold sixty absV
  rw [Int.natCast_mul, ← Int.neg_mul]
  congr 1
  omega
/-- By the signs first, then by the size. -/
theorem by_sign (n e n' e' : Int) : cmpI (sixty n e) (sixty n' e') = if cmpI n 0 ≠ cmpI n' 0 then cmpI (cmpI n 0) (cmpI n' 0) else if cmpI n 0 < 0 then cmpI (absV n' e') (absV n e) else cmpI (absV n e) (absV n' e') := by
  rcases Int.lt_trichotomy n 0 with h | h | h <;> rcases Int.lt_trichotomy n' 0 with h' | h' | h'
  · rw [cmpI_lt h, cmpI_lt h', if_neg (by decide), if_pos (by decide), sixty_neg h, sixty_neg h']
    generalize absV n e = a
    generalize absV n' e' = b
    rcases Int.lt_trichotomy a b with g | g | g
    · rw [cmpI_gt (by omega), cmpI_gt g]
    · rw [cmpI_eq (by omega), cmpI_eq g.symm]
    · rw [cmpI_lt (by omega), cmpI_lt g]
  · rw [cmpI_lt h, cmpI_eq h', if_pos (by decide), sixty_neg h, sixty_pos (by omega), h', absV_zero, cmpI_lt (by have := absV_pos (n := n) (e := e) (by omega); omega)]
    rfl
  · rw [cmpI_lt h, cmpI_gt h', if_pos (by decide), sixty_neg h, sixty_pos (by omega), cmpI_lt (by have := absV_pos (n := n) (e := e) (by omega); have := absV_pos (n := n') (e := e') (by omega); omega)]
    rfl
  · rw [cmpI_eq h, cmpI_lt h', if_pos (by decide), sixty_pos (by omega), sixty_neg h', h, absV_zero, cmpI_gt (by have := absV_pos (n := n') (e := e') (by omega); omega)]
    rfl
  · rw [cmpI_eq h, cmpI_eq h', if_neg (by decide), if_neg (by decide), sixty_pos (by omega), sixty_pos (by omega)]
  · rw [cmpI_eq h, cmpI_gt h', if_pos (by decide), sixty_pos (by omega), sixty_pos (by omega), h, absV_zero, cmpI_lt (absV_pos (by omega))]
    rfl
  · rw [cmpI_gt h, cmpI_lt h', if_pos (by decide), sixty_pos (by omega), sixty_neg h', cmpI_gt (by have := absV_pos (n := n) (e := e) (by omega); have := absV_pos (n := n') (e := e') (by omega); omega)]
    rfl
  · rw [cmpI_gt h, cmpI_eq h', if_pos (by decide), sixty_pos (by omega), sixty_pos (by omega), h', absV_zero, cmpI_gt (absV_pos (by omega))]
    rfl
  · rw [cmpI_gt h, cmpI_gt h', if_neg (by decide), if_neg (by decide), sixty_pos (by omega), sixty_pos (by omega)]

theorem sign_any (t : LT) (w : World) : Calls Try.prog 22 #[.agg #[.int .i64 t.k, .int .i64 t.n, .int .i64 t.e, .string t.s, t.row]] w fun r w' => r = .returned (.int .i64 (cmpI t.n 0)) ∧ Below w.heap.size w w' := by
  have hrow : t.row = .slice t.a t.kids.length t.cap := rfl
  have CL := Lib.hid lessS
  rw [hrow]
  clear hrow
  go_enter Try.func22, Try.ntmps22
  go_wp2_with fail
  with_reducible refine (CL.out _ _ _).mono ?_
  rintro r w3 ⟨rfl, rfl⟩
  go_wp2
  go_ret
  exact ⟨rfl, (Below.refl _ _).alloc (Nat.le_refl _) _⟩

set_option maxHeartbeats 2000000 in
theorem spec_yes (t u : LT) (ht : InI t.n) (hu : InI u.n) (hq : isNum t = true) (hr : isNum u = true) (w : World) : Calls Try.prog 10 #[.agg #[.int .i64 t.k, .int .i64 t.n, .int .i64 t.e, .string t.s, t.row], .agg #[.int .i64 u.k, .int .i64 u.n, .int .i64 u.e, .string u.s, u.row]] w fun r w' => r = .returned (.int .i64 (cmpI (sixty t.n t.e) (sixty u.n u.e))) ∧ Below w.heap.size w w' := by
  have HB := Lib.hid (((Below.refl w.heap.size w).alloc (Nat.le_refl _) (.cells #[.int .i64 t.k, .int .i64 t.n, .int .i64 t.e, .string t.s, t.row] 26)).alloc (by simp) (.cells #[.int .i64 u.k, .int .i64 u.n, .int .i64 u.e, .string u.s, u.row] 26))
  have HX := Lib.hid (Box2.new w t u 26)
  have hrt : t.row = .slice t.a t.kids.length t.cap := rfl
  have hru : u.row = .slice u.a u.kids.length u.cap := rfl
  have CT := fun W => spec_is t W
  rw [hq] at CT
  have CU := fun W => spec_is u W
  rw [hr] at CU
  obtain ⟨ha1, ha2⟩ := isNum_e hq
  obtain ⟨hb1, hb2⟩ := isNum_e hr
  have ST := Lib.hid (sign_any t)
  have SU := Lib.hid (sign_any u)
  have ZT := Lib.hid (size_any t u ht hu ha1 ha2 hb1 hb2)
  have ZU := Lib.hid (size_any u t hu ht hb1 hb2 ha1 ha2)
  have CL := Lib.hid lessS
  replace CT := Lib.hid CT
  replace CU := Lib.hid CU
  have HV := Lib.hid (by_sign t.n t.e u.n u.e)
  obtain ⟨hs1, hs2⟩ := cmpI_small t.n 0
  obtain ⟨hs3, hs4⟩ := cmpI_small u.n 0
  generalize cmpI (sixty t.n t.e) (sixty u.n u.e) = C at *
  generalize cmpI (absV t.n t.e) (absV u.n u.e) = Z1 at *
  generalize cmpI (absV u.n u.e) (absV t.n t.e) = Z2 at *
  generalize cmpI t.n 0 = X at *
  generalize cmpI u.n 0 = Y at *
  simp only [hrt, hru] at CT CU ST SU ZT ZU HB HX ⊢
  clear ht hu hq hr hrt hru ha1 ha2 hb1 hb2
  go_enter Try.func10, Try.ntmps10
  go_wp2_with fail
  with_reducible refine (CT.out _).mono ?_
  rintro r w1 ⟨rfl, hb⟩
  replace HB := Lib.hid (below_of2 HB.out hb)
  replace HX : Hid (Box2 w1 w.heap.size t u) := ⟨HX.out.b1.behind hb, HX.out.b2.behind hb⟩
  clear hb
  obtain ⟨⟨p0, p1, p2, p3, p4⟩, ⟨q0, q1, q2, q3, q4⟩⟩ := HX.out
  unfold LT.row at p4 q4
  go_wp2_with fail
  with_reducible refine (CU.out _).mono ?_
  rintro r w2 ⟨rfl, hb⟩
  replace HB := Lib.hid (below_of2 HB.out hb)
  replace HX : Hid (Box2 w2 w.heap.size t u) := ⟨HX.out.b1.behind hb, HX.out.b2.behind hb⟩
  clear hb p0 p1 p2 p3 p4 q0 q1 q2 q3 q4 CT CU
  obtain ⟨⟨p0, p1, p2, p3, p4⟩, ⟨q0, q1, q2, q3, q4⟩⟩ := HX.out
  unfold LT.row at p4 q4
  have L : Hid (Lies w w2 t u) := ⟨HB.out, HX.out⟩
  clear HB HX
  go_upto_region 3 with fail
  go_cut [17] from 18 (fun v wx => v = .bool (X != Y) ∧ Lies w wx t u)
  case first =>
    have SA := ST
    go_region_with (first
      | (go_at_call 22; refine (SA.out _).mono ?_; rintro r w3 ⟨rfl, hb⟩
         have L3 := Lib.hid (L.out.drewBehind 1 hb)
         obtain ⟨⟨p0, p1, p2, p3, p4⟩, ⟨q0, q1, q2, q3, q4⟩⟩ := L3.out.box
         unfold LT.row at p4 q4
         clear hb SA)
      | (go_at_call 22; refine (SU.out _).mono ?_; rintro r w4 ⟨rfl, hb⟩
         have L4 := Lib.hid (L3.out.behind hb)
         clear hb))
    all_goals
      go_wp2_with fail
      go_meet
      case rel => exact ⟨rfl, L4.out⟩
  case rest =>
    obtain ⟨rfl, L1⟩ := hcut
    clear p0 p1 p2 p3 p4 q0 q1 q2 q3 q4 L
    have L := Lib.hid L1
    clear L1
    obtain ⟨⟨p0, p1, p2, p3, p4⟩, ⟨q0, q1, q2, q3, q4⟩⟩ := L.out.box
    unfold LT.row at p4 q4
    by_cases hxy : X = Y
    · subst hxy
      have HV2 := Lib.hid HV.out
      rw [if_neg (by simp)] at HV2
      clear HV SU
      go_wp2_with fail
      with_reducible refine (ST.out _).mono ?_
      rintro r w5 ⟨rfl, hb⟩
      replace L := Lib.hid (L.out.behind hb)
      clear hb p0 p1 p2 p3 p4 q0 q1 q2 q3 q4
      obtain ⟨⟨p0, p1, p2, p3, p4⟩, ⟨q0, q1, q2, q3, q4⟩⟩ := L.out.box
      unfold LT.row at p4 q4
      by_cases hx : X < 0
      · rw [if_pos hx] at HV2
        go_wp2_with fail
        with_reducible refine (ZU.out _).mono ?_
        rintro r w6 ⟨rfl, hb⟩
        replace L := Lib.hid (L.out.behind hb)
        clear hb p0 p1 p2 p3 p4 q0 q1 q2 q3 q4
        go_wp2
        go_ret
        exact ⟨by rw [HV2.out]; rfl, L.out.low⟩
      · rw [if_neg hx] at HV2
        go_wp2_with fail
        with_reducible refine (ZT.out _).mono ?_
        rintro r w6 ⟨rfl, hb⟩
        replace L := Lib.hid (L.out.behind hb)
        clear hb p0 p1 p2 p3 p4 q0 q1 q2 q3 q4
        go_wp2
        go_ret
        exact ⟨by rw [HV2.out]; rfl, L.out.low⟩
    · have HV2 := Lib.hid HV.out
      rw [if_pos hxy] at HV2
      have hxb : (X != Y) = true := by rw [bne, beq_eq_false_iff_ne.2 hxy]; rfl
      clear HV
      rw [hxb]
      clear hxb
      go_wp2_with fail
      have SA := ST
      go_region_with (first
        | (go_at_call 22; refine (SA.out _).mono ?_; rintro r w3 ⟨rfl, hb⟩
           have L3 := Lib.hid (L.out.drewBehind 1 hb)
           obtain ⟨⟨p0, p1, p2, p3, p4⟩, ⟨q0, q1, q2, q3, q4⟩⟩ := L3.out.box
           unfold LT.row at p4 q4
           clear hb SA)
        | (go_at_call 22; refine (SU.out _).mono ?_; rintro r w4 ⟨rfl, hb⟩
           have L4 := Lib.hid (L3.out.behind hb)
           clear hb)
        | (go_at_call 23; refine (CL.out _ _ _).mono ?_; rintro r w5 ⟨rfl, rfl⟩))
      all_goals
        go_wp2
        go_ret
        exact ⟨by rw [HV2.out]; rfl, L4.out.low⟩

theorem spec_no1 (t u : LT) (hq : isNum t = false) (w : World) : Calls Try.prog 10 #[.agg #[.int .i64 t.k, .int .i64 t.n, .int .i64 t.e, .string t.s, t.row], .agg #[.int .i64 u.k, .int .i64 u.n, .int .i64 u.e, .string u.s, u.row]] w fun r w' => r = .returned (.int .i64 2) ∧ Below w.heap.size w w' := by
  have HB := Lib.hid (((Below.refl w.heap.size w).alloc (Nat.le_refl _) (.cells #[.int .i64 t.k, .int .i64 t.n, .int .i64 t.e, .string t.s, t.row] 26)).alloc (by simp) (.cells #[.int .i64 u.k, .int .i64 u.n, .int .i64 u.e, .string u.s, u.row] 26))
  have HX := Lib.hid (Box2.new w t u 26)
  have hrt : t.row = .slice t.a t.kids.length t.cap := rfl
  have hru : u.row = .slice u.a u.kids.length u.cap := rfl
  have CT := fun W => spec_is t W
  rw [hq] at CT
  replace CT := Lib.hid CT
  simp only [hrt, hru] at CT HB HX ⊢
  clear hq hrt hru
  go_enter Try.func10, Try.ntmps10
  go_wp2_with fail
  with_reducible refine (CT.out _).mono ?_
  rintro r w1 ⟨rfl, hb⟩
  replace HB := Lib.hid (below_of2 HB.out hb)
  replace HX : Hid (Box2 w1 w.heap.size t u) := ⟨HX.out.b1.behind hb, HX.out.b2.behind hb⟩
  clear hb
  obtain ⟨⟨p0, p1, p2, p3, p4⟩, ⟨q0, q1, q2, q3, q4⟩⟩ := HX.out
  unfold LT.row at p4 q4
  go_wp2
  go_ret
  exact ⟨rfl, HB.out⟩
theorem spec_no2 (t u : LT) (hq : isNum t = true) (hr : isNum u = false) (w : World) : Calls Try.prog 10 #[.agg #[.int .i64 t.k, .int .i64 t.n, .int .i64 t.e, .string t.s, t.row], .agg #[.int .i64 u.k, .int .i64 u.n, .int .i64 u.e, .string u.s, u.row]] w fun r w' => r = .returned (.int .i64 2) ∧ Below w.heap.size w w' := by
  have HB := Lib.hid (((Below.refl w.heap.size w).alloc (Nat.le_refl _) (.cells #[.int .i64 t.k, .int .i64 t.n, .int .i64 t.e, .string t.s, t.row] 26)).alloc (by simp) (.cells #[.int .i64 u.k, .int .i64 u.n, .int .i64 u.e, .string u.s, u.row] 26))
  have HX := Lib.hid (Box2.new w t u 26)
  have hrt : t.row = .slice t.a t.kids.length t.cap := rfl
  have hru : u.row = .slice u.a u.kids.length u.cap := rfl
  have CT := fun W => spec_is t W
  rw [hq] at CT
  replace CT := Lib.hid CT
  have CU := fun W => spec_is u W
  rw [hr] at CU
  replace CU := Lib.hid CU
  simp only [hrt, hru] at CT CU HB HX ⊢
  clear hq hr hrt hru
  go_enter Try.func10, Try.ntmps10
  go_wp2_with fail
  with_reducible refine (CT.out _).mono ?_
  rintro r w1 ⟨rfl, hb⟩
  replace HB := Lib.hid (below_of2 HB.out hb)
  replace HX : Hid (Box2 w1 w.heap.size t u) := ⟨HX.out.b1.behind hb, HX.out.b2.behind hb⟩
  clear hb
  obtain ⟨⟨p0, p1, p2, p3, p4⟩, ⟨q0, q1, q2, q3, q4⟩⟩ := HX.out
  unfold LT.row at p4 q4
  go_wp2_with fail
  with_reducible refine (CU.out _).mono ?_
  rintro r w2 ⟨rfl, hb⟩
  replace HB := Lib.hid (below_of2 HB.out hb)
  clear hb p0 p1 p2 p3 p4 q0 q1 q2 q3 q4 CT CU HX
  go_wp2
  go_ret
  exact ⟨rfl, HB.out⟩
theorem spec_cmpnum (t u : LT) (ht : InI t.n) (hu : InI u.n) (w : World) : Calls Try.prog 10 #[.agg #[.int .i64 t.k, .int .i64 t.n, .int .i64 t.e, .string t.s, t.row], .agg #[.int .i64 u.k, .int .i64 u.n, .int .i64 u.e, .string u.s, u.row]] w fun r w' => r = .returned (.int .i64 (cmpNum t u)) ∧ Below w.heap.size w w' := by
  unfold cmpNum
  cases hq : isNum t with
  | false =>
    rw [if_neg (by simp)]
    exact spec_no1 t u hq w
  | true =>
    cases hr : isNum u with
    | false =>
      rw [if_neg (by simp)]
      exact spec_no2 t u hq hr w
    | true =>
      rw [if_pos ⟨rfl, rfl⟩]
      exact spec_yes t u ht hu hq hr w

end Go.Proofs.Ythjholhjkahdkaa.num
