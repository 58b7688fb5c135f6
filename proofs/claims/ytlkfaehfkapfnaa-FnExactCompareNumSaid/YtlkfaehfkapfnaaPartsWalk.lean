/-
  What spec.l03Parts returns: a number's digits without noughts at the end, and its power.
-/
import Derived.Test.YtlkfaehfkapfnaaNumCmpPlain
import Derived.Test.YtlkfaehfkapfnaaSpecNum
import Derived.Test.YtlkfaehfkapfnaaDecTextWalk
namespace Go.Proofs.Ytlkfaehfkapfnaa.num
open Go.ChangeShapes Go.WideShapes Go.ChangeAt Go.RowKit
open Go.Proofs.Ytlkfaehfkapfnaa.val
set_option maxRecDepth 100000

/-- The digits of m, where m * 10^k is N. -/
structure PartAt (N : Nat) (e : Int) (m : Nat) (f : Int) : Prop where
  pos : 0 < m
  ex : ∃ k : Nat, f = e + k ∧ m * 10 ^ k = N ∧ k ≤ 20
theorem PartAt.start {N : Nat} {e : Int} (h : 0 < N) : PartAt N e N e := ⟨h, 0, by omega, by simp, by omega⟩
theorem PartAt.step {N : Nat} {e : Int} {m : Nat} {f : Int} (h : PartAt N e m f) (hN : N ≤ 9223372036854775808) (hm : m % 10 = 0) : PartAt N e (m / 10) (f + 1) := by
  obtain ⟨hp, k, h1, h2, h3⟩ := h
  have e1 : m = m / 10 * 10 := by omega
  have e2 : m / 10 * 10 ^ (k + 1) = N := by rw [Nat.pow_succ, Nat.mul_comm (10 ^ k), ← Nat.mul_assoc, ← e1]; exact h2
  refine ⟨by omega, k + 1, by omega, e2, ?_⟩
  rcases Nat.lt_or_ge k 20 with hk | hk
  · omega
  · exfalso
    have a := ten20 (k + 1) (by omega)
    have b : 10 ^ (k + 1) ≤ m / 10 * 10 ^ (k + 1) := Nat.le_mul_of_pos_left _ (by omega)
    generalize 10 ^ (k + 1) = z at *
    omega
theorem PartAt.le {N : Nat} {e : Int} {m : Nat} {f : Int} (h : PartAt N e m f) : e ≤ f ∧ f ≤ e + 20 := by obtain ⟨_, k, h1, _, h3⟩ := h; omega
theorem PartAt.fin {N : Nat} {e : Int} {m : Nat} {f : Int} (h : PartAt N e m f) (he : -60 ≤ e) : m * 10 ^ (f + 60).toNat = N * 10 ^ (e + 60).toNat := by
  obtain ⟨_, k, h1, h2, _⟩ := h
  have e1 : (f + 60).toNat = k + (e + 60).toNat := by omega
  rw [e1, Nat.pow_add, ← Nat.mul_assoc, h2]

theorem PartAt.small {N : Nat} {e : Int} {m : Nat} {f : Int} (h : PartAt N e m f) : m ≤ N := by
  obtain ⟨_, k, _, h2, _⟩ := h
  rw [← h2]
  exact Nat.le_mul_of_pos_right _ (pow_pos10 k)
theorem dg_len_le {m : Nat} (h0 : 0 < m) (h : m ≤ 9223372036854775808) : (dg m).length ≤ 20 := by
  have h1 := (dg_bounds m).2 h0
  rcases Nat.lt_or_ge (dg m).length 21 with hl | hl
  · omega
  · have := ten20 ((dg m).length - 1) (by omega)
    generalize 10 ^ ((dg m).length - 1) = z at *
    omega
theorem str_data (l : List UInt8) : (str l).data.toList = l := rfl
theorem ba_ext {x y : ByteArray} (h : x.data.toList = y.data.toList) : x = y := by
  cases x; cases y
  congr
  exact Array.toList_inj.1 h
theorem str_cut (x : List UInt8) (b : UInt8) : (str (x ++ [b])).extract 0 x.length = str x := by
  apply ba_ext
  rw [Lib.extract_data, str_data, str_data]
  simp
theorem str_tail (x : List UInt8) (b : UInt8) : (str (b :: x)).extract 1 (x.length + 1) = str x := by
  apply ba_ext
  rw [Lib.extract_data, str_data, str_data]
  simp
/-- The last digit, and what stands ahead of it. -/
theorem dg_end (m : Nat) (hm : 0 < m) : ∃ x b, dg m = x ++ [b] ∧ b.toNat = 48 + m % 10 ∧ (m % 10 = 0 → x = dg (m / 10)) := by
  by_cases h : m < 10
  · refine ⟨[], dig m, dg_small h, ?_, fun h0 => ?_⟩
    · rw [dig_nat h]; omega
    · omega
  · exact ⟨_, _, dg_big h, dig_nat (by omega), fun _ => rfl⟩
theorem str_last (x : List UInt8) (b : UInt8) (h : x.length < (str (x ++ [b])).size) : (str (x ++ [b]))[x.length].toNat = b.toNat := by
  have : (str (x ++ [b]))[x.length] = (x ++ [b])[x.length]'(by simp) := rfl
  rw [this]
  simp

theorem pos_size {S : ByteArray} {q : Nat} (h : S.size = q + 1) : (0 : Int) < (S.size : Int) := by omega
theorem wrap_len {q : Nat} (h : q ≤ 19) : wrap64 (q : Int) = q := wrap_in (by unfold InI; omega)
theorem len_le {x : List UInt8} {b : UInt8} (h : (x ++ [b]).length ≤ 20) : x.length ≤ 19 := by rw [List.length_append] at h; simp only [List.length_cons, List.length_nil] at h; omega
theorem meas_less {e f : Int} (h : f + 1 ≤ e + 20) : (e + 21 - (f + 1)).toNat < (e + 21 - f).toNat := by omega
theorem size_str {S : ByteArray} {x : List UInt8} {b : UInt8} (h : S = str (x ++ [b])) : S.size = x.length + 1 := by rw [h]; unfold str; simp [ByteArray.size]
theorem not48 {b : UInt8} {m : Nat} (hb : b.toNat = 48 + m % 10) (hm : ¬ m % 10 = 0) : ¬ (b.toNat : Int) = 48 := by omega
structure PartRet (N : Nat) (e : Int) (r : Ending) : Prop where
  ex : ∃ m f, m % 10 ≠ 0 ∧ PartAt N e m f ∧ r = .returned (.tuple #[.string (str (dg m)), .int .i64 f])
set_option maxHeartbeats 1000000 in
theorem parts_pos (k n e : Int) (s : ByteArray) (a : Option Addr) (len cap : Nat) (hn : InI n) (h0 : 0 < n) (he1 : -20 ≤ e) (he2 : e ≤ 20) (w : World) : Calls Try.prog 78 #[.agg #[.int .i64 k, .int .i64 n, .int .i64 e, .string s, .slice a len cap]] w fun r w' =>
    PartRet n.natAbs e r ∧ Below w.heap.size w w' := by
  have HX := Lib.hid (OwnAt.new w k n e s (.slice a len cap))
  have HD := decText.spec_any n hn.1 hn.2
  have hi : Lib.itoa n = dg n.natAbs := by
    unfold Lib.itoa dg
    rw [if_neg (by omega)]
    congr 1
    omega
  rw [hi] at HD
  have HN : Hid (n.natAbs ≤ 9223372036854775808) := by unfold Hid; unfold InI at hn; omega
  have HS := Lib.hid (PartAt.start (N := n.natAbs) (e := e) (by omega))
  replace HD := Lib.hid HD
  clear hi hn
  obtain ⟨hl, c0, c1, c2, c3, c4⟩ := HX.out
  have HL := Lib.hid hl
  clear hl
  go_enter Try.func78, Try.ntmps78
  go_upto_region 1 with fail
  go_cut [4, 5] from 6 (fun x y wx => x = .string (str (dg n.natAbs)) ∧ y = .int .i64 e ∧ OwnAt w wx k n e s (.slice a len cap))
  case first =>
    go_region_with (go_at_call 87; refine (HD.out _).mono ?_; rintro r w1 ⟨rfl, rfl⟩)
    all_goals
      go_wp2_with fail
      go_meet
      case rel => exact ⟨rfl, rfl, HX.out.drew⟩
  case rest =>
    obtain ⟨rfl, rfl, hown⟩ := hcut
    clear c0 c1 c2 c3 c4 HX HD HL
    obtain ⟨hl, c0, c1, c2, c3, c4⟩ := hown
    have HL := Lib.hid hl
    clear hl
    have h00 : ¬ n < 0 := by omega
    go_wp2
    go_loop [4, 5] (fun x y => ∃ (S : ByteArray) (m : Nat) (f : Int), x = .string S ∧ y = .int .i64 f ∧ Hid (S = str (dg m)) ∧ PartAt n.natAbs e m f) (fun _ y => (e + 21 - intOf y).toNat)
    case atStart => exact ⟨_, _, _, rfl, rfl, rfl, HS.out⟩
    case round =>
      obtain ⟨S, m, f, rfl, rfl, HSS, HT⟩ := hrel
      obtain ⟨hf1, hf2⟩ := HT.le
      have hle := dg_len_le HT.pos (Nat.le_trans HT.small HN.out)
      obtain ⟨x, b, hx, hb, hz⟩ := dg_end m HT.pos
      rw [hx] at hle
      have hq : S.size = x.length + 1 := size_str (HSS.out.trans (by rw [hx]))
      have hlq := len_le hle
      have hwq := wrap_len hlq
      have hq0 := pos_size hq
      have hlast : ∀ (h : x.length < S.size), S[x.length].toNat = b.toNat := by
        have hS : S = str (x ++ [b]) := by rw [HSS.out, hx]
        subst hS
        exact fun h => str_last x b h
      have hcut : S.extract 0 x.length = str x := by rw [HSS.out, hx]; exact str_cut x b
      by_cases hm : m % 10 = 0
      · have HN2 := Lib.hid (HT.step HN.out hm)
        have hb0 : b.toNat = 48 := by rw [hb, hm]
        have hf3 := HN2.out.le.2
        have HC : Hid (S.extract 0 x.length = str (dg (m / 10))) := by unfold Hid; rw [hcut, hz hm]
        simp only [hb0] at hlast
        clear HT hx hz hle hb hb0 hcut
        go_wp2
        exact ⟨⟨_, m / 10, f + 1, rfl, rfl, HC, HN2.out⟩, by simp only [intOf]; exact meas_less hf3⟩
      · have hb0 : ¬ (b.toNat : Int) = 48 := not48 hb hm
        have HT2 := Lib.hid HT
        clear HT hx hz hle hb hcut
        go_wp2
        go_ret2
        exact ⟨⟨m, f, hm, HT2.out, by rw [← HSS.out]; rfl⟩, HL.out⟩

end Go.Proofs.Ytlkfaehfkapfnaa.num
