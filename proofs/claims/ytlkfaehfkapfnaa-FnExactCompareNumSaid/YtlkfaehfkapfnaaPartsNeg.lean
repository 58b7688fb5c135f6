/-
  spec.l03Parts at a number below 0.
-/
import Derived.Test.YtlkfaehfkapfnaaPartsWalk
namespace Go.Proofs.Ytlkfaehfkapfnaa.num
open Go.ChangeShapes Go.WideShapes Go.ChangeAt Go.RowKit
open Go.Proofs.Ytlkfaehfkapfnaa.val
set_option maxRecDepth 100000

set_option maxHeartbeats 1000000 in
theorem parts_neg (k n e : Int) (s : ByteArray) (a : Option Addr) (len cap : Nat) (hn : InI n) (h0 : n < 0) (he1 : -20 ≤ e) (he2 : e ≤ 20) (w : World) : Calls Try.prog 78 #[.agg #[.int .i64 k, .int .i64 n, .int .i64 e, .string s, .slice a len cap]] w fun r w' =>
    PartRet n.natAbs e r ∧ Below w.heap.size w w' := by
  have HX := Lib.hid (OwnAt.new w k n e s (.slice a len cap))
  have HD := decText.spec_any n hn.1 hn.2
  have hi : Lib.itoa n = 45 :: dg n.natAbs := by
    unfold Lib.itoa dg
    rw [if_pos h0]
  rw [hi] at HD
  have HN : Hid (n.natAbs ≤ 9223372036854775808) := by unfold Hid; unfold InI at hn; omega
  have HS := Lib.hid (PartAt.start (N := n.natAbs) (e := e) (by omega))
  replace HD := Lib.hid HD
  clear hi hn
  obtain ⟨hl, c0, c1, c2, c3, c4⟩ := HX.out
  have HL := Lib.hid hl
  clear hl
  go_enter Try.func78, Try.ntmps78
  go_upto_region 1 with fail
  go_cut [4, 5] from 6 (fun x y wx => x = .string (str (45 :: dg n.natAbs)) ∧ y = .int .i64 e ∧ OwnAt w wx k n e s (.slice a len cap))
  case first =>
    go_region_with (go_at_call 87; refine (HD.out _).mono ?_; rintro r w1 ⟨rfl, rfl⟩)
    all_goals
      go_wp2_with fail
      go_meet
      case rel => exact ⟨rfl, rfl, HX.out.drew⟩
  case rest =>
    obtain ⟨rfl, rfl, hown⟩ := hcut
    clear c0 c1 c2 c3 c4 HX HD HL
    obtain ⟨hl, c0, c1, c2, c3, c4⟩ := hown
    have HL := Lib.hid hl
    clear hl
    obtain ⟨T, hT⟩ : ∃ T, T = str (45 :: dg n.natAbs) := ⟨_, rfl⟩
    rw [← hT]
    have hT1 : T.size = (dg n.natAbs).length + 1 := by rw [hT]; unfold str; simp [ByteArray.size]
    have hTl : (dg n.natAbs).length ≤ 20 := dg_len_le (by omega) HN.out
    have HX2 : Hid (T.extract 1 T.size = str (dg n.natAbs)) := by unfold Hid; rw [hT1, hT]; exact str_tail _ _
    have hT2 : (1 : Int) ≤ (T.size : Int) := by omega
    clear hT hT1 hTl
    go_wp2
    go_loop [4, 5] (fun x y => ∃ (S : ByteArray) (m : Nat) (f : Int), x = .string S ∧ y = .int .i64 f ∧ Hid (S = str (dg m)) ∧ PartAt n.natAbs e m f) (fun _ y => (e + 21 - intOf y).toNat)
    case atStart => exact ⟨_, _, _, rfl, rfl, HX2, HS.out⟩
    case round =>
      obtain ⟨S, m, f, rfl, rfl, HSS, HT⟩ := hrel
      obtain ⟨hf1, hf2⟩ := HT.le
      have hle := dg_len_le HT.pos (Nat.le_trans HT.small HN.out)
      obtain ⟨x, b, hx, hb, hz⟩ := dg_end m HT.pos
      rw [hx] at hle
      have hq : S.size = x.length + 1 := size_str (HSS.out.trans (by rw [hx]))
      have hlq := len_le hle
      have hwq := wrap_len hlq
      have hq0 := pos_size hq
      have hlast : ∀ (h : x.length < S.size), S[x.length].toNat = b.toNat := by
        have hS : S = str (x ++ [b]) := by rw [HSS.out, hx]
        subst hS
        exact fun h => str_last x b h
      have hcut : S.extract 0 x.length = str x := by rw [HSS.out, hx]; exact str_cut x b
      by_cases hm : m % 10 = 0
      · have HN2 := Lib.hid (HT.step HN.out hm)
        have hb0 : b.toNat = 48 := by rw [hb, hm]
        have hf3 := HN2.out.le.2
        have HC : Hid (S.extract 0 x.length = str (dg (m / 10))) := by unfold Hid; rw [hcut, hz hm]
        simp only [hb0] at hlast
        clear HT hx hz hle hb hb0 hcut
        go_wp2
        exact ⟨⟨_, m / 10, f + 1, rfl, rfl, HC, HN2.out⟩, by simp only [intOf]; exact meas_less hf3⟩
      · have hb0 : ¬ (b.toNat : Int) = 48 := not48 hb hm
        have HT2 := Lib.hid HT
        clear HT hx hz hle hb hcut
        go_wp2
        go_ret2
        exact ⟨⟨m, f, hm, HT2.out, by rw [← HSS.out]; rfl⟩, HL.out⟩

end Go.Proofs.Ytlkfaehfkapfnaa.num
