/-
  spec's walk over heads: what stands behind a head.
-/
import Derived.Test.YtnaghafmpncdkaaDoorSpecBeg0
import Derived.Test.YtnaghafmpncdkaaDoorBegPart
import Derived.Deep.Cut
namespace Go.Proofs.YtnaghafmpncdkaaDoor.beg
open Go.ChangeShapes Go.WideShapes Go.ChangeAt Go.RowKit
open Go.Proofs.YtnaghafmpncdkaaDoor.head
set_option maxRecDepth 100000

set_option maxHeartbeats 2000000 in
theorem wtag_D (W : World) (b : Nat) (s : ByteArray) (i left d : Nat) (hs : s.size ≤ 1048576) (hl0 : 0 < left) (hl : left ≤ 2000) (hd : d ≤ 14) (h : LC W b left) (hi : i < s.size) (hlow : low s i = 27) (hmany : i + 1 + 8 ≤ s.size) (m n X : Nat) (he : getHead s i = ((m : Int), n, (X : Int))) (hX : i < X ∧ X ≤ s.size) (hm : m = 6) (hn : n ≤ 1000000) (IH : SW (d + 1)) :
    Calls Tryd.prog 33 #[.string s, .int .i64 i, .int .i64 d, .pointer (some ⟨b, 0, none⟩)] W fun e w' => WRet W w' b (loopW (wk s (14 - d)) 1 X ((left : Int) - 1)) e := by
  have hi0 := hi
  have c0 := h.c0
  have fr := h.fr 0
  have HS := Lib.hid (h.set ((left : Int) - 1))
  have d0 := HS.out.c0
  have df := HS.out.fr 0
  have HO := Lib.hid (set_only W b 0 (.int .i64 ((left : Int) - 1)))
  have e0 : -9223372036854775808 ≤ (left : Int) - 1 := by omega
  have e1 : (left : Int) - 1 ≤ 9223372036854775807 := by omega
  have p0 : ¬ (left : Int) - 1 < 0 := by omega
  have p1 : ¬ (14 : Int) < (d : Int) := by omega
  have p2 : ¬ (s.size : Int) ≤ (i : Int) := by omega
  have p3 : (i : Int) < (s.size : Int) := by omega
  have p4 : (0 : Int) ≤ (i : Int) := by omega
  have p9 : (s.size : Int) ≤ 1048576 := by omega
  obtain ⟨B, hb, hF, hb256⟩ := first_of s i hi
  have p5 : B % 32 = 27 := by rw [← hF.low]; exact hlow
  have p7 : ¬ (s.size : Int) - i - 1 < 8 := by omega
  subst hm
  have q0 : ¬ ((X : Int) < 0) := by omega
  have IHH := Lib.hid IH
  have HSZ := Lib.hid hs
  have HX : Hid (X ≤ s.size ∧ 0 ≤ (left : Int) - 1 ∧ (left : Int) - 1 ≤ 2000) := ⟨by omega, by omega, by omega⟩
  have hd14 : (d : Int) ≤ 14 := by omega
  have q7 : decide ((1000000 : Int) < (n : Int)) = false := decide_eq_false (by omega)
  have CG := Lib.hid (fun W => get_spec s i W hs)
  rw [he] at CG
  unfold triple at CG
  simp only [show ((6 : Nat) : Int) = 6 from rfl] at CG
  have HAL : Below (W.setCell ⟨b, 0, none⟩ (.int .i64 ((left : Int) - 1))).heap.size (W.setCell ⟨b, 0, none⟩ (.int .i64 ((left : Int) - 1))) ((W.setCell ⟨b, 0, none⟩ (.int .i64 ((left : Int) - 1))).alloc (.cells #[.int .i64 1, .int .i64 2, .int .i64 4, .int .i64 8] 3)) := (Below.refl _ _).alloc (Nat.le_refl _) _
  replace HS := Lib.hid (LC.behind HS.out HAL)
  replace HO := Lib.hid (only_below HO.out HAL)
  clear HAL
  clear h hl hd hs hl0 hF hi0 he hX IH hn hlow hmany
  go_enter Tryd.func33, Tryd.ntmps33
  go_wp2_with fail
  with_reducible refine (CG.out _).mono ?_
  rintro r w1 ⟨rfl, hb1⟩
  replace HS := Lib.hid (LC.behind HS.out hb1)
  replace HO := Lib.hid (only_below HO.out hb1)
  clear hb1 CG c0 fr d0 df
  go_upto_region 36 with (fail)
  clear e0 e1 p9
  have HP0 := Lib.hid (Part.start (s := s) (f := wk s (14 - d)) (N := 1) (X := X) (L := (left : Int) - 1) HX.out.1 HX.out.2.1 HX.out.2.2)
  obtain ⟨R, hR⟩ : ∃ R, loopW (wk s (14 - d)) 1 X ((left : Int) - 1) = R := ⟨_, rfl⟩
  rw [hR] at HP0
  replace hR := Lib.hid hR
  go_wp2_with fail
  go_loopw [12, 13] (fun nx kk wr => ∃ (k : Nat) (r l : Int), nx = .int .i64 r ∧ kk = .int .u64 k ∧ k ≤ 1 ∧ Hid (LC wr b l) ∧ Hid (W.grownBy wr (some b)) ∧ Hid (Part s (wk s (14 - d)) 1 R k r l)) (fun _ kk _ => 1 - (intOf kk).toNat)
  case atStart => exact ⟨0, X, (left : Int) - 1, rfl, rfl, Nat.zero_le _, HS, HO, HP0⟩
  case round =>
    clear HP0 HS HO
    obtain ⟨k, r, l, rfl, rfl, hk, HL, HG, HP⟩ := hrel
    have hr2 : -9223372036854775808 ≤ r ∧ r ≤ 9223372036854775807 := by have h1 := HP.out; have h2 := HSZ.out; unfold Part at h1; omega
    obtain ⟨hr3, hr4⟩ := hr2
    by_cases hkN : k < 1
    · have k0 : (k : Int) < 1 := by omega
      by_cases hr : 0 ≤ r
      · obtain ⟨rn, rfl⟩ : ∃ rn : Nat, r = rn := ⟨r.toNat, by omega⟩
        obtain ⟨ln, rfl⟩ : ∃ ln : Nat, l = ln := by
          have := HP.out
          unfold Part at this
          exact ⟨l.toNat, by omega⟩
        have C := IHH.out wr b s rn ln HSZ.out (by have := HP.out; unfold Part at this; omega) (by have := HP.out; unfold Part at this; omega) HL.out
        rw [show ((d + 1 : Nat) : Int) = (d : Int) + 1 by omega, show 15 - (d + 1) = 14 - d by omega] at C
        have HPS := Lib.hid (HP.out.step (wk_good s (14 - d)) hkN)
        generalize wk s (14 - d) rn ln = rl at *
        replace C := Lib.hid C
        clear HP HL hr3 hr4
        go_wp2_with fail
        with_reducible refine C.out.mono ?_
        rintro e w2 ⟨rfl, hl2, ho2⟩
        have HL2 := Lib.hid hl2
        have HG2 := Lib.hid (only_trans HG.out ho2)
        clear C hl2 ho2 HG
        go_wp2
        go_roundw
        case rel => exact ⟨k + 1, rl.1, rl.2, rfl, by go_num, by omega, HL2, HG2, HPS⟩
        case measure => simp [intOf]; omega
      · have HF := Lib.hid (HP.out.done (.inr (by omega)))
        clear HP IHH
        go_wp2
        go_ret
        exact ⟨by rw [hR.out, HF.out]; rfl, by rw [hR.out, HF.out]; exact HL.out, HG.out⟩
    · have k0 : ¬ (k : Int) < 1 := by omega
      have HF := Lib.hid (HP.out.done (.inl (by omega)))
      clear HP IHH
      go_wp2
      go_ret
      exact ⟨by rw [hR.out, HF.out]; rfl, by rw [hR.out, HF.out]; exact HL.out, HG.out⟩
set_option maxHeartbeats 2000000 in
theorem wlist_D (W : World) (b : Nat) (s : ByteArray) (i left d : Nat) (hs : s.size ≤ 1048576) (hl0 : 0 < left) (hl : left ≤ 2000) (hd : d ≤ 14) (h : LC W b left) (hi : i < s.size) (hlow : low s i = 27) (hmany : i + 1 + 8 ≤ s.size) (m n X : Nat) (he : getHead s i = ((m : Int), n, (X : Int))) (hX : i < X ∧ X ≤ s.size) (hm : m = 4) (hn : n ≤ 300) (IH : SW (d + 1)) :
    Calls Tryd.prog 33 #[.string s, .int .i64 i, .int .i64 d, .pointer (some ⟨b, 0, none⟩)] W fun e w' => WRet W w' b (loopW (wk s (14 - d)) n X ((left : Int) - 1)) e := by
  have hi0 := hi
  have c0 := h.c0
  have fr := h.fr 0
  have HS := Lib.hid (h.set ((left : Int) - 1))
  have d0 := HS.out.c0
  have df := HS.out.fr 0
  have HO := Lib.hid (set_only W b 0 (.int .i64 ((left : Int) - 1)))
  have e0 : -9223372036854775808 ≤ (left : Int) - 1 := by omega
  have e1 : (left : Int) - 1 ≤ 9223372036854775807 := by omega
  have p0 : ¬ (left : Int) - 1 < 0 := by omega
  have p1 : ¬ (14 : Int) < (d : Int) := by omega
  have p2 : ¬ (s.size : Int) ≤ (i : Int) := by omega
  have p3 : (i : Int) < (s.size : Int) := by omega
  have p4 : (0 : Int) ≤ (i : Int) := by omega
  have p9 : (s.size : Int) ≤ 1048576 := by omega
  obtain ⟨B, hb, hF, hb256⟩ := first_of s i hi
  have p5 : B % 32 = 27 := by rw [← hF.low]; exact hlow
  have p7 : ¬ (s.size : Int) - i - 1 < 8 := by omega
  subst hm
  have q0 : ¬ ((X : Int) < 0) := by omega
  have IHH := Lib.hid IH
  have HSZ := Lib.hid hs
  have HX : Hid (X ≤ s.size ∧ 0 ≤ (left : Int) - 1 ∧ (left : Int) - 1 ≤ 2000) := ⟨by omega, by omega, by omega⟩
  have hd14 : (d : Int) ≤ 14 := by omega
  have q7 : ¬ (300 : Int) < (n : Int) := by omega
  have CG := Lib.hid (fun W => get_spec s i W hs)
  rw [he] at CG
  unfold triple at CG
  simp only [show ((4 : Nat) : Int) = 4 from rfl] at CG
  have HAL : Below (W.setCell ⟨b, 0, none⟩ (.int .i64 ((left : Int) - 1))).heap.size (W.setCell ⟨b, 0, none⟩ (.int .i64 ((left : Int) - 1))) ((W.setCell ⟨b, 0, none⟩ (.int .i64 ((left : Int) - 1))).alloc (.cells #[.int .i64 1, .int .i64 2, .int .i64 4, .int .i64 8] 3)) := (Below.refl _ _).alloc (Nat.le_refl _) _
  replace HS := Lib.hid (LC.behind HS.out HAL)
  replace HO := Lib.hid (only_below HO.out HAL)
  clear HAL
  clear h hl hd hs hl0 hF hi0 he hX IH hlow hmany
  go_enter Tryd.func33, Tryd.ntmps33
  go_wp2_with fail
  with_reducible refine (CG.out _).mono ?_
  rintro r w1 ⟨rfl, hb1⟩
  replace HS := Lib.hid (LC.behind HS.out hb1)
  replace HO := Lib.hid (only_below HO.out hb1)
  clear hb1 CG c0 fr d0 df
  go_upto_region 36 with (fail)
  clear e0 e1 p9
  have HP0 := Lib.hid (Part.start (s := s) (f := wk s (14 - d)) (N := n) (X := X) (L := (left : Int) - 1) HX.out.1 HX.out.2.1 HX.out.2.2)
  obtain ⟨R, hR⟩ : ∃ R, loopW (wk s (14 - d)) n X ((left : Int) - 1) = R := ⟨_, rfl⟩
  rw [hR] at HP0
  replace hR := Lib.hid hR
  go_wp2_with fail
  go_loopw [12, 13] (fun nx kk wr => ∃ (k : Nat) (r l : Int), nx = .int .i64 r ∧ kk = .int .u64 k ∧ k ≤ n ∧ Hid (LC wr b l) ∧ Hid (W.grownBy wr (some b)) ∧ Hid (Part s (wk s (14 - d)) n R k r l)) (fun _ kk _ => n - (intOf kk).toNat)
  case atStart => exact ⟨0, X, (left : Int) - 1, rfl, rfl, Nat.zero_le _, HS, HO, HP0⟩
  case round =>
    clear HP0 HS HO
    obtain ⟨k, r, l, rfl, rfl, hk, HL, HG, HP⟩ := hrel
    have hr2 : -9223372036854775808 ≤ r ∧ r ≤ 9223372036854775807 := by have h1 := HP.out; have h2 := HSZ.out; unfold Part at h1; omega
    obtain ⟨hr3, hr4⟩ := hr2
    by_cases hkN : k < n
    · have k0 : (k : Int) < (n : Int) := by omega
      by_cases hr : 0 ≤ r
      · obtain ⟨rn, rfl⟩ : ∃ rn : Nat, r = rn := ⟨r.toNat, by omega⟩
        obtain ⟨ln, rfl⟩ : ∃ ln : Nat, l = ln := by
          have := HP.out
          unfold Part at this
          exact ⟨l.toNat, by omega⟩
        have C := IHH.out wr b s rn ln HSZ.out (by have := HP.out; unfold Part at this; omega) (by have := HP.out; unfold Part at this; omega) HL.out
        rw [show ((d + 1 : Nat) : Int) = (d : Int) + 1 by omega, show 15 - (d + 1) = 14 - d by omega] at C
        have HPS := Lib.hid (HP.out.step (wk_good s (14 - d)) hkN)
        generalize wk s (14 - d) rn ln = rl at *
        replace C := Lib.hid C
        clear HP HL hr3 hr4
        go_wp2_with fail
        with_reducible refine C.out.mono ?_
        rintro e w2 ⟨rfl, hl2, ho2⟩
        have HL2 := Lib.hid hl2
        have HG2 := Lib.hid (only_trans HG.out ho2)
        clear C hl2 ho2 HG
        go_wp2
        go_roundw
        case rel => exact ⟨k + 1, rl.1, rl.2, rfl, by go_num, by omega, HL2, HG2, HPS⟩
        case measure => simp [intOf]; omega
      · have HF := Lib.hid (HP.out.done (.inr (by omega)))
        clear HP IHH
        go_wp2
        go_ret
        exact ⟨by rw [hR.out, HF.out]; rfl, by rw [hR.out, HF.out]; exact HL.out, HG.out⟩
    · have k0 : ¬ (k : Int) < (n : Int) := by omega
      have HF := Lib.hid (HP.out.done (.inl (by omega)))
      clear HP IHH
      go_wp2
      go_ret
      exact ⟨by rw [hR.out, HF.out]; rfl, by rw [hR.out, HF.out]; exact HL.out, HG.out⟩
set_option maxHeartbeats 2000000 in
theorem wmap_D (W : World) (b : Nat) (s : ByteArray) (i left d : Nat) (hs : s.size ≤ 1048576) (hl0 : 0 < left) (hl : left ≤ 2000) (hd : d ≤ 14) (h : LC W b left) (hi : i < s.size) (hlow : low s i = 27) (hmany : i + 1 + 8 ≤ s.size) (m n X : Nat) (he : getHead s i = ((m : Int), n, (X : Int))) (hX : i < X ∧ X ≤ s.size) (hm : m = 5) (hn : n ≤ 300) (IH : SW (d + 1)) :
    Calls Tryd.prog 33 #[.string s, .int .i64 i, .int .i64 d, .pointer (some ⟨b, 0, none⟩)] W fun e w' => WRet W w' b (loopW (wk s (14 - d)) (2 * n) X ((left : Int) - 1)) e := by
  have hi0 := hi
  have c0 := h.c0
  have fr := h.fr 0
  have HS := Lib.hid (h.set ((left : Int) - 1))
  have d0 := HS.out.c0
  have df := HS.out.fr 0
  have HO := Lib.hid (set_only W b 0 (.int .i64 ((left : Int) - 1)))
  have e0 : -9223372036854775808 ≤ (left : Int) - 1 := by omega
  have e1 : (left : Int) - 1 ≤ 9223372036854775807 := by omega
  have p0 : ¬ (left : Int) - 1 < 0 := by omega
  have p1 : ¬ (14 : Int) < (d : Int) := by omega
  have p2 : ¬ (s.size : Int) ≤ (i : Int) := by omega
  have p3 : (i : Int) < (s.size : Int) := by omega
  have p4 : (0 : Int) ≤ (i : Int) := by omega
  have p9 : (s.size : Int) ≤ 1048576 := by omega
  obtain ⟨B, hb, hF, hb256⟩ := first_of s i hi
  have p5 : B % 32 = 27 := by rw [← hF.low]; exact hlow
  have p7 : ¬ (s.size : Int) - i - 1 < 8 := by omega
  subst hm
  have q0 : ¬ ((X : Int) < 0) := by omega
  have IHH := Lib.hid IH
  have HSZ := Lib.hid hs
  have HX : Hid (X ≤ s.size ∧ 0 ≤ (left : Int) - 1 ∧ (left : Int) - 1 ≤ 2000) := ⟨by omega, by omega, by omega⟩
  have hd14 : (d : Int) ≤ 14 := by omega
  have q7 : ¬ (300 : Int) < (n : Int) := by omega
  have CG := Lib.hid (fun W => get_spec s i W hs)
  rw [he] at CG
  unfold triple at CG
  simp only [show ((5 : Nat) : Int) = 5 from rfl] at CG
  have HAL : Below (W.setCell ⟨b, 0, none⟩ (.int .i64 ((left : Int) - 1))).heap.size (W.setCell ⟨b, 0, none⟩ (.int .i64 ((left : Int) - 1))) ((W.setCell ⟨b, 0, none⟩ (.int .i64 ((left : Int) - 1))).alloc (.cells #[.int .i64 1, .int .i64 2, .int .i64 4, .int .i64 8] 3)) := (Below.refl _ _).alloc (Nat.le_refl _) _
  replace HS := Lib.hid (LC.behind HS.out HAL)
  replace HO := Lib.hid (only_below HO.out HAL)
  clear HAL
  clear h hl hd hs hl0 hF hi0 he hX IH hlow hmany
  go_enter Tryd.func33, Tryd.ntmps33
  go_wp2_with fail
  with_reducible refine (CG.out _).mono ?_
  rintro r w1 ⟨rfl, hb1⟩
  replace HS := Lib.hid (LC.behind HS.out hb1)
  replace HO := Lib.hid (only_below HO.out hb1)
  clear hb1 CG c0 fr d0 df
  go_upto_region 36 with (fail)
  clear e0 e1 p9
  have HP0 := Lib.hid (Part.start (s := s) (f := wk s (14 - d)) (N := (2 * n)) (X := X) (L := (left : Int) - 1) HX.out.1 HX.out.2.1 HX.out.2.2)
  obtain ⟨R, hR⟩ : ∃ R, loopW (wk s (14 - d)) (2 * n) X ((left : Int) - 1) = R := ⟨_, rfl⟩
  rw [hR] at HP0
  replace hR := Lib.hid hR
  go_wp2_with fail
  go_loopw [12, 13] (fun nx kk wr => ∃ (k : Nat) (r l : Int), nx = .int .i64 r ∧ kk = .int .u64 k ∧ k ≤ (2 * n) ∧ Hid (LC wr b l) ∧ Hid (W.grownBy wr (some b)) ∧ Hid (Part s (wk s (14 - d)) (2 * n) R k r l)) (fun _ kk _ => (2 * n) - (intOf kk).toNat)
  case atStart => exact ⟨0, X, (left : Int) - 1, rfl, rfl, Nat.zero_le _, HS, HO, HP0⟩
  case round =>
    clear HP0 HS HO
    obtain ⟨k, r, l, rfl, rfl, hk, HL, HG, HP⟩ := hrel
    have hr2 : -9223372036854775808 ≤ r ∧ r ≤ 9223372036854775807 := by have h1 := HP.out; have h2 := HSZ.out; unfold Part at h1; omega
    obtain ⟨hr3, hr4⟩ := hr2
    by_cases hkN : k < (2 * n)
    · have k0 : (k : Int) < 2 * (n : Int) := by omega
      by_cases hr : 0 ≤ r
      · obtain ⟨rn, rfl⟩ : ∃ rn : Nat, r = rn := ⟨r.toNat, by omega⟩
        obtain ⟨ln, rfl⟩ : ∃ ln : Nat, l = ln := by
          have := HP.out
          unfold Part at this
          exact ⟨l.toNat, by omega⟩
        have C := IHH.out wr b s rn ln HSZ.out (by have := HP.out; unfold Part at this; omega) (by have := HP.out; unfold Part at this; omega) HL.out
        rw [show ((d + 1 : Nat) : Int) = (d : Int) + 1 by omega, show 15 - (d + 1) = 14 - d by omega] at C
        have HPS := Lib.hid (HP.out.step (wk_good s (14 - d)) hkN)
        generalize wk s (14 - d) rn ln = rl at *
        replace C := Lib.hid C
        clear HP HL hr3 hr4
        go_wp2_with fail
        with_reducible refine C.out.mono ?_
        rintro e w2 ⟨rfl, hl2, ho2⟩
        have HL2 := Lib.hid hl2
        have HG2 := Lib.hid (only_trans HG.out ho2)
        clear C hl2 ho2 HG
        go_wp2
        go_roundw
        case rel => exact ⟨k + 1, rl.1, rl.2, rfl, by go_num, by omega, HL2, HG2, HPS⟩
        case measure => simp [intOf]; omega
      · have HF := Lib.hid (HP.out.done (.inr (by omega)))
        clear HP IHH
        go_wp2
        go_ret
        exact ⟨by rw [hR.out, HF.out]; rfl, by rw [hR.out, HF.out]; exact HL.out, HG.out⟩
    · have k0 : ¬ (k : Int) < 2 * (n : Int) := by omega
      have HF := Lib.hid (HP.out.done (.inl (by omega)))
      clear HP IHH
      go_wp2
      go_ret
      exact ⟨by rw [hR.out, HF.out]; rfl, by rw [hR.out, HF.out]; exact HL.out, HG.out⟩
end Go.Proofs.YtnaghafmpncdkaaDoor.beg
