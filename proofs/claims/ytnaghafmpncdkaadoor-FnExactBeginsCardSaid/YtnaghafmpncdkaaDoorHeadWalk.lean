/-
  What spec.PutHead and impl.PutHead return: the shortest head of a major type and a number.
-/
import Derived.Test.YtnaghafmpncdkaaDoorRows
import Derived.Test.YtnaghafmpncdkaaDoorHeadPlain
import Derived.Test.YtnaghafmpncdkaaDoorApp2
import Derived.Lib.Hide
import Derived.WalkKit
import Derived.ProofKit
import Derived.OpenShut
import Derived.WalkLawsBesides
import Derived.Laws.BitsLemmas
import Derived.Laws.MakeOwn
namespace Go.Proofs.YtnaghafmpncdkaaDoor.head
open Go.ChangeShapes Go.WideShapes Go.ChangeAt Go.RowKit
set_option maxRecDepth 100000

theorem info8 : (Tryd.prog.info? 5).map (fun i => (i.zero, i.size, i.bytes)) = some (some (.int .u8 0), 1, 1) := by kernel_rfl
theorem oneB (x : UInt8) : (encB x).oneCell' = true := rfl

theorem enc_low (N : Nat) : encB (UInt8.ofNat N) = .int .u8 ((N : Int) % 256) := by
  unfold encB
  rw [UInt8.toNat_ofNat']
  congr 1

set_option maxHeartbeats 400000 in
theorem big_any (n m : Nat) (hn : n < 18446744073709551616) (hm : m ≤ 8) (w : World) :
    Calls Tryd.prog 102 #[.int .u64 n, .int .i64 m] w fun e w' => e = .returned (.string ⟨(bigL n m).toArray⟩) ∧ Below w.heap.size w w' := by
  obtain ⟨i0, hi0, hz0, hz1, hz2⟩ := info_parts info8
  go_enter Tryd.func102, Tryd.ntmps102
  go_wp2
  go_loopw [0, 5, 6] (fun x v i wr => ∃ k N g c : Nat, k ≤ m ∧ i = .int .i64 k ∧ x = .int .u64 N ∧ N < 18446744073709551616 ∧ Hid (N = n / 256 ^ k) ∧ v = .slice (some ⟨g, 0, none⟩) k c ∧ Hid (OwnL wr w.heap.size 5 encB (.slice (some ⟨g, 0, none⟩) k c) (bigL n k)) ∧ Hid (Below w.heap.size w wr) ∧ w.heap.size ≤ wr.heap.size) (fun _ _ i _ => m - (intOf i).toNat)
  case atStart => exact ⟨0, n, w.heap.size, 0, Nat.zero_le _, rfl, rfl, hn, by simp [Hid], rfl, OwnL.empty _ _ _ (Nat.le_refl _), (Below.refl _ _).alloc (Nat.le_refl _) _, by simp⟩
  case round =>
    obtain ⟨k, N, g, c, hk, rfl, rfl, hN, HN, rfl, HO, HB, hsz⟩ := hrel
    by_cases hlt : k < m
    · have hk1 : (k : Int) < (m : Int) := by omega
      have he : encB (UInt8.ofNat N) = .int .u8 ((N : Int) % 256) := enc_low N
      have HL : Hid (OwnL (wr.alloc (.cells #[.int .u8 ((N : Int) % 256)] 5)) w.heap.size 5 encB (.slice (some ⟨wr.heap.size, 0, none⟩) 1 1) [UInt8.ofNat N]) :=
        OwnL.of_block (l := [UInt8.ofNat N]) wr.heap.size _ hsz (heap_alloc_new wr _) (by rw [← he]; rfl) (by simp [maxLen])
      have HQ : Hid (N / 256 = n / 256 ^ (k + 1)) := by unfold Hid; rw [HN.out, Nat.div_div_eq_div_mul, Nat.pow_succ]
      have HC : Hid ([UInt8.ofNat N] ++ bigL n k = bigL n (k + 1)) := by unfold Hid; rw [bigL_cons, HN.out]; rfl
      go_wp2_with (at_builtin; refine wpList_app2 (by rfl) _ _ _ (by rfl) w.heap.size 5 encB i0 _ 1 Tryd.underlying109 hi0 hz0 hz1 hz2 rfl oneB wr.heap.size 1 [UInt8.ofNat N] 1 rfl (by rfl) HL.out w.heap.size g c (bigL n k) k (bigL_len n k) (by rfl) (HO.out.alloc _) (by unfold maxLen; omega) (by omega) (by simp; omega) ?_; intro g' c' w1 hown1 hg1)
      have HO1 : Hid (OwnL w1 w.heap.size 5 encB (.slice (some ⟨g', 0, none⟩) (k + 1) c') (bigL n (k + 1))) := by rw [← HC.out]; rw [Nat.add_comm] at hown1; exact hown1
      have HB1 : Hid (Below w.heap.size w w1) := (HB.out.alloc hsz _).grown hg1 (by simp; omega) (by simp; omega)
      have hz1' : w.heap.size ≤ w1.heap.size := by have := hg1.size; simp at this; omega
      clear hown1 hg1 HL HO HB
      go_wp2
      go_roundw
      case rel => exact ⟨k + 1, N / 256, g', c', by omega, by go_num, by go_num, by omega, HQ, by rw [Nat.add_comm], HO1, HB1, hz1'⟩
      case measure => simp [intOf]; omega
    · have hc := run_string_own (P := Tryd.prog) 109 5 9 Tryd.underlying109 Tryd.underlying5 Tryd.underlying9 HO.out
      have hk1 : ¬ (k : Int) < (m : Int) := by omega
      go_wp2
      go_ret
      have e : k = m := by omega
      exact ⟨by rw [e]; rfl, HB.out⟩

theorem in_any (n lo hi : Int) (w : World) : Calls Tryd.prog 44 #[.int .i64 n, .int .i64 lo, .int .i64 hi] w fun r w' => r = .returned (.bool (decide (lo ≤ n ∧ n ≤ hi))) ∧ w = w' := by
  by_cases h : lo ≤ n ∧ n ≤ hi
  · obtain ⟨h1, h2⟩ := h
    rw [decide_eq_true ⟨h1, h2⟩]
    go_enter Tryd.func44, Tryd.ntmps44
    go_wp2
    go_ret
    exact ⟨by first | rfl | simp [h1, h2], rfl⟩
  · rw [decide_eq_false h]
    by_cases h1 : lo ≤ n
    · have h2 : ¬ n ≤ hi := fun h2 => h ⟨h1, h2⟩
      clear h
      go_enter Tryd.func44, Tryd.ntmps44
      go_wp2
      go_ret
      exact ⟨by first | rfl | simp [h1, h2], rfl⟩
    · clear h
      go_enter Tryd.func44, Tryd.ntmps44
      go_wp2
      go_ret
      exact ⟨by first | rfl | simp [h1], rfl⟩
theorem big_at (x : Int) (n m : Nat) (hx : x = (n : Int)) (k : Int) (hk : k = (m : Int)) (hn : n < 18446744073709551616) (hm : m ≤ 8) (w : World) :
    Calls Tryd.prog 102 #[.int .u64 x, .int .i64 k] w fun e w' => e = .returned (.string ⟨(bigL n m).toArray⟩) ∧ Below w.heap.size w w' := by
  subst hx
  subst hk
  exact big_any n m hn hm w
theorem ret_str {a b : ByteArray} (h : a = b) : Ending.returned (.string a) = .returned (.string b) := by rw [h]
theorem join_bytes (a b : List UInt8) : (⟨a.toArray⟩ : ByteArray) ++ ⟨b.toArray⟩ = ⟨(a ++ b).toArray⟩ := by
  apply ByteArray.ext
  simp
theorem low1 (n : Nat) : bigL n 1 = [UInt8.ofNat n] := rfl
theorem put_out (m : Int) (n : Nat) (h : ¬ (0 ≤ m ∧ m ≤ 7)) (w : World) :
    Calls Tryd.prog 77 #[.int .i64 m, .int .u64 n] w fun e w' => e = .returned (.string (putHead m n)) ∧ Below w.heap.size w w' := by
  have C := fun W => in_any m 0 7 W
  rw [decide_eq_false h] at C
  have HV : Hid (putHead m n = ⟨#[]⟩) := by unfold Hid putHead; rw [if_neg h]
  replace C := Lib.hid C
  clear h
  go_enter Tryd.func77, Tryd.ntmps77
  go_wp2_with (go_at_call 44; with_reducible refine (C.out _).mono ?_; rintro r w2 ⟨rfl, rfl⟩)
  go_ret
  exact ⟨by rw [HV.out]; rfl, Below.refl _ _⟩

set_option maxHeartbeats 1000000 in
theorem put_small (m n : Nat) (hm : m < 8) (hn : n < 24) (w : World) :
    Calls Tryd.prog 77 #[.int .i64 m, .int .u64 n] w fun e w' => e = .returned (.string ⟨(headL m n).toArray⟩) ∧ Below w.heap.size w w' := by
  have C := fun W => in_any m 0 7 W
  rw [decide_eq_true (by omega)] at C
  replace C := Lib.hid C
  have C1 := Lib.hid (fun W => big_at ((m : Int) * 32 + n) (32 * m + n) 1 (by omega) 1 rfl (by omega) (by omega) W)
  have HV : Hid (bigL (32 * m + n) 1 = headL m n) := by unfold Hid; rw [headL_small hn]; rfl
  go_enter Tryd.func77, Tryd.ntmps77
  go_wp2_with (go_at_call 44; with_reducible refine (C.out _).mono ?_; rintro r w2 ⟨rfl, rfl⟩)
  with_reducible refine (C1.out _).mono ?_
  rintro r w1 ⟨rfl, hb⟩
  have HB := Lib.hid hb
  clear hb
  go_wp2
  go_ret
  exact ⟨by rw [← HV.out]; rfl, HB.out⟩
set_option maxHeartbeats 1000000 in
theorem put_1 (m n : Nat) (hm : m < 8) (h1 : 24 ≤ n) (h2 : n < 256) (w : World) :
    Calls Tryd.prog 77 #[.int .i64 m, .int .u64 n] w fun e w' => e = .returned (.string ⟨(headL m n).toArray⟩) ∧ Below w.heap.size w w' := by
  have C := fun W => in_any m 0 7 W
  rw [decide_eq_true (by omega)] at C
  replace C := Lib.hid C
  have hw : wid n = 0 := by unfold wid; rw [if_pos (by omega)]
  have C1 := Lib.hid (fun W => big_at ((m : Int) * 32 + 24) (32 * m + 24) 1 (by omega) 1 rfl (by omega) (by omega) W)
  have C2 := Lib.hid (fun W => big_at (n : Int) n 1 rfl 1 rfl (by omega) (by omega) W)
  have HV : Hid ((⟨(bigL (32 * m + 24) 1).toArray⟩ : ByteArray) ++ ⟨(bigL n 1).toArray⟩ = ⟨(headL m n).toArray⟩) := by unfold Hid; rw [join_bytes, headL_big (by omega), hw]; rfl
  have g0 : decide ((n : Int) < 24) = false := decide_eq_false (by omega)
  have g9 : decide ((n : Int) < 256) = true := decide_eq_true (by omega)
  clear hw h1 h2
  go_enter Tryd.func77, Tryd.ntmps77
  go_wp2_with (go_at_call 44; with_reducible refine (C.out _).mono ?_; rintro r w2 ⟨rfl, rfl⟩)
  with_reducible refine (C1.out _).mono ?_
  rintro r w1 ⟨rfl, hb⟩
  have HB := Lib.hid hb
  clear hb
  go_wp2_with fail
  with_reducible refine (C2.out _).mono ?_
  rintro r w2 ⟨rfl, hb⟩
  replace HB := Lib.hid (HB.out.trans (hb.mono HB.out.size))
  clear hb g0 g9
  go_wp2
  go_ret
  exact ⟨by rw [← HV.out]; rfl, HB.out⟩
set_option maxHeartbeats 1000000 in
theorem put_2 (m n : Nat) (hm : m < 8) (h1 : 256 ≤ n) (h2 : n < 65536) (w : World) :
    Calls Tryd.prog 77 #[.int .i64 m, .int .u64 n] w fun e w' => e = .returned (.string ⟨(headL m n).toArray⟩) ∧ Below w.heap.size w w' := by
  have C := fun W => in_any m 0 7 W
  rw [decide_eq_true (by omega)] at C
  replace C := Lib.hid C
  have hw : wid n = 1 := by unfold wid; rw [if_neg (by omega), if_pos (by omega)]
  have C1 := Lib.hid (fun W => big_at ((m : Int) * 32 + 25) (32 * m + 25) 1 (by omega) 1 rfl (by omega) (by omega) W)
  have C2 := Lib.hid (fun W => big_at (n : Int) n 2 rfl 2 rfl (by omega) (by omega) W)
  have HV : Hid ((⟨(bigL (32 * m + 25) 1).toArray⟩ : ByteArray) ++ ⟨(bigL n 2).toArray⟩ = ⟨(headL m n).toArray⟩) := by unfold Hid; rw [join_bytes, headL_big (by omega), hw]; rfl
  have g0 : decide ((n : Int) < 24) = false := decide_eq_false (by omega)
  have g1 : decide ((n : Int) < 256) = false := decide_eq_false (by omega)
  have g9 : decide ((n : Int) < 65536) = true := decide_eq_true (by omega)
  clear hw h1 h2
  go_enter Tryd.func77, Tryd.ntmps77
  go_wp2_with (go_at_call 44; with_reducible refine (C.out _).mono ?_; rintro r w2 ⟨rfl, rfl⟩)
  with_reducible refine (C1.out _).mono ?_
  rintro r w1 ⟨rfl, hb⟩
  have HB := Lib.hid hb
  clear hb
  go_wp2_with fail
  with_reducible refine (C2.out _).mono ?_
  rintro r w2 ⟨rfl, hb⟩
  replace HB := Lib.hid (HB.out.trans (hb.mono HB.out.size))
  clear hb g0 g1 g9
  go_wp2
  go_ret
  exact ⟨by rw [← HV.out]; rfl, HB.out⟩
set_option maxHeartbeats 1000000 in
theorem put_4 (m n : Nat) (hm : m < 8) (h1 : 65536 ≤ n) (h2 : n < 4294967296) (w : World) :
    Calls Tryd.prog 77 #[.int .i64 m, .int .u64 n] w fun e w' => e = .returned (.string ⟨(headL m n).toArray⟩) ∧ Below w.heap.size w w' := by
  have C := fun W => in_any m 0 7 W
  rw [decide_eq_true (by omega)] at C
  replace C := Lib.hid C
  have hw : wid n = 2 := by unfold wid; rw [if_neg (by omega), if_neg (by omega), if_pos (by omega)]
  have C1 := Lib.hid (fun W => big_at ((m : Int) * 32 + 26) (32 * m + 26) 1 (by omega) 1 rfl (by omega) (by omega) W)
  have C2 := Lib.hid (fun W => big_at (n : Int) n 4 rfl 4 rfl (by omega) (by omega) W)
  have HV : Hid ((⟨(bigL (32 * m + 26) 1).toArray⟩ : ByteArray) ++ ⟨(bigL n 4).toArray⟩ = ⟨(headL m n).toArray⟩) := by unfold Hid; rw [join_bytes, headL_big (by omega), hw]; rfl
  have g0 : decide ((n : Int) < 24) = false := decide_eq_false (by omega)
  have g1 : decide ((n : Int) < 256) = false := decide_eq_false (by omega)
  have g2 : decide ((n : Int) < 65536) = false := decide_eq_false (by omega)
  have g9 : decide ((n : Int) < 4294967296) = true := decide_eq_true (by omega)
  clear hw h1 h2
  go_enter Tryd.func77, Tryd.ntmps77
  go_wp2_with (go_at_call 44; with_reducible refine (C.out _).mono ?_; rintro r w2 ⟨rfl, rfl⟩)
  with_reducible refine (C1.out _).mono ?_
  rintro r w1 ⟨rfl, hb⟩
  have HB := Lib.hid hb
  clear hb
  go_wp2_with fail
  with_reducible refine (C2.out _).mono ?_
  rintro r w2 ⟨rfl, hb⟩
  replace HB := Lib.hid (HB.out.trans (hb.mono HB.out.size))
  clear hb g0 g1 g2 g9
  go_wp2
  go_ret
  exact ⟨by rw [← HV.out]; rfl, HB.out⟩
set_option maxHeartbeats 1000000 in
theorem put_8 (m n : Nat) (hm : m < 8) (h1 : 4294967296 ≤ n) (h2 : n < 18446744073709551616) (w : World) :
    Calls Tryd.prog 77 #[.int .i64 m, .int .u64 n] w fun e w' => e = .returned (.string ⟨(headL m n).toArray⟩) ∧ Below w.heap.size w w' := by
  have C := fun W => in_any m 0 7 W
  rw [decide_eq_true (by omega)] at C
  replace C := Lib.hid C
  have hw : wid n = 3 := by unfold wid; rw [if_neg (by omega), if_neg (by omega), if_neg (by omega)]
  have C1 := Lib.hid (fun W => big_at ((m : Int) * 32 + 27) (32 * m + 27) 1 (by omega) 1 rfl (by omega) (by omega) W)
  have C2 := Lib.hid (fun W => big_at (n : Int) n 8 rfl 8 rfl (by omega) (by omega) W)
  have HV : Hid ((⟨(bigL (32 * m + 27) 1).toArray⟩ : ByteArray) ++ ⟨(bigL n 8).toArray⟩ = ⟨(headL m n).toArray⟩) := by unfold Hid; rw [join_bytes, headL_big (by omega), hw]; rfl
  have g0 : decide ((n : Int) < 24) = false := decide_eq_false (by omega)
  have g1 : decide ((n : Int) < 256) = false := decide_eq_false (by omega)
  have g2 : decide ((n : Int) < 65536) = false := decide_eq_false (by omega)
  have g3 : decide ((n : Int) < 4294967296) = false := decide_eq_false (by omega)
  clear hw h1 h2
  go_enter Tryd.func77, Tryd.ntmps77
  go_wp2_with (go_at_call 44; with_reducible refine (C.out _).mono ?_; rintro r w2 ⟨rfl, rfl⟩)
  with_reducible refine (C1.out _).mono ?_
  rintro r w1 ⟨rfl, hb⟩
  have HB := Lib.hid hb
  clear hb
  go_wp2_with fail
  with_reducible refine (C2.out _).mono ?_
  rintro r w2 ⟨rfl, hb⟩
  replace HB := Lib.hid (HB.out.trans (hb.mono HB.out.size))
  clear hb g0 g1 g2 g3
  go_wp2
  go_ret
  exact ⟨by rw [← HV.out]; rfl, HB.out⟩
theorem spec_nat (m n : Nat) (hm : m < 8) (hn : n < 18446744073709551616) (w : World) :
    Calls Tryd.prog 77 #[.int .i64 m, .int .u64 n] w fun e w' => e = .returned (.string ⟨(headL m n).toArray⟩) ∧ Below w.heap.size w w' := by
  by_cases h1 : n < 24
  · exact put_small m n hm h1 w
  by_cases h2 : n < 256
  · exact put_1 m n hm (by omega) h2 w
  by_cases h3 : n < 65536
  · exact put_2 m n hm (by omega) h3 w
  by_cases h4 : n < 4294967296
  · exact put_4 m n hm (by omega) h4 w
  exact put_8 m n hm (by omega) hn w
theorem spec_any (m : Int) (n : Nat) (hn : n < 18446744073709551616) (w : World) :
    Calls Tryd.prog 77 #[.int .i64 m, .int .u64 n] w fun e w' => e = .returned (.string (putHead m n)) ∧ Below w.heap.size w w' := by
  by_cases h : 0 ≤ m ∧ m ≤ 7
  · obtain ⟨k, rfl⟩ : ∃ k : Nat, m = k := ⟨m.toNat, by omega⟩
    have e : putHead k n = ⟨(headL k n).toArray⟩ := by unfold putHead; rw [if_pos h]; rfl
    rw [e]
    exact spec_nat k n (by omega) hn w
  · exact put_out m n h w

end Go.Proofs.YtnaghafmpncdkaaDoor.head
