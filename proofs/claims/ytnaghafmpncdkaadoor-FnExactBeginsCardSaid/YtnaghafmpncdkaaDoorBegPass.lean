/-
  impl's reader of heads: passBytes; what passValue is to tell; passKids.
-/
import Derived.Test.YtnaghafmpncdkaaDoorBegHead
import Derived.Test.YtnaghafmpncdkaaDoorBegPart
import Derived.Deep.Cut
namespace Go.Proofs.YtnaghafmpncdkaaDoor.beg
open Go.ChangeShapes Go.WideShapes Go.ChangeAt Go.RowKit
open Go.Proofs.YtnaghafmpncdkaaDoor.head
set_option maxRecDepth 100000

set_option maxHeartbeats 2000000 in
theorem bytes_cut {W : World} {b : Nat} {s : ByteArray} {X n : Nat} {c : Int} (hs : s.size ≤ 1048576) (hX : X ≤ s.size) (hn : s.size - X < n) (h : PR W b s X false c) :
    Calls Tryd.prog 90 #[.pointer (some ⟨b, 0, none⟩), .int .u64 n] W fun e w' => e = .returned cutE ∧ PX W w' b s X true c := by
  have CT := Lib.hid (take_far s X n b W hs h hX hn)
  clear h hs hX hn
  go_enter Tryd.func90, Tryd.ntmps90
  go_wp2_with fail
  with_reducible refine CT.out.mono ?_
  rintro e w1 ⟨rfl, hr⟩
  have c2 := hr.rd.c2
  have HR := Lib.hid hr
  clear CT hr
  go_wp2
  go_ret
  exact ⟨rfl, HR.out⟩
set_option maxHeartbeats 2000000 in
theorem bytes_pass {W : World} {b : Nat} {s : ByteArray} {X n : Nat} {c : Int} (hs : s.size ≤ 1048576) (hn : X + n ≤ s.size) (h : PR W b s X false c) :
    Calls Tryd.prog 90 #[.pointer (some ⟨b, 0, none⟩), .int .u64 n] W fun e w' => e = .returned .nilIface ∧ PX W w' b s ((X + n : Nat) : Int) false c := by
  have CT := take_yes s X n b W hs h hn
  rw [show ((X : Int) + (n : Int)) = ((X + n : Nat) : Int) by omega] at CT
  replace CT := Lib.hid CT
  clear h hs hn
  go_enter Tryd.func90, Tryd.ntmps90
  go_wp2_with fail
  with_reducible refine CT.out.mono ?_
  rintro e w1 ⟨rfl, hr⟩
  have c2 := hr.rd.c2
  have HR := Lib.hid hr
  clear CT hr
  go_wp2
  go_ret
  exact ⟨rfl, HR.out⟩
/-- What passValue tells, r of what is asked: the place behind, the heads left. -/
structure PRet (W w' : World) (b : Nat) (s : ByteArray) (v : Value) (r : Int × Int) (e : Ending) : Prop where
  ret : e = .returned (errOf v r.1)
  ex : ∃ (J : Int) (bad : Bool) (c : Int), PX W w' b s J bad c ∧ (0 ≤ r.1 → J = r.1 ∧ bad = false ∧ c = 1204 - r.2)
/-- passValue at a level. -/
def PV (d : Nat) : Prop := ∀ (W : World) (b : Nat) (s : ByteArray) (v : Value) (i left : Nat), s.size ≤ 1048576 → i ≤ s.size → left ≤ 1204 → PR W b s i false ((1204 - left : Nat) : Int) → Kit W v → Off b →
  Calls Tryd.prog 66 #[.pointer (some ⟨b, 0, none⟩), .int .i64 d] W fun e w' => PRet W w' b s v (wk s (15 - d) i left) e
theorem err_ok (v : Value) {r : Int} (h : 0 ≤ r) : errOf v r = .nilIface := if_pos h
theorem err_ne (v : Value) {r : Int} (h : r < 0) : ∃ t x, errOf v r = .iface t x := by
  unfold errOf
  rw [if_neg (by omega)]
  split
  · exact ⟨_, _, rfl⟩
  · exact ⟨_, _, rfl⟩
set_option maxHeartbeats 4000000 in
theorem pass_kids {d : Nat} (IH : PV (d + 1)) (W : World) (b : Nat) (s : ByteArray) (v : Value) (X left N : Nat) (hd : d ≤ 14) (hs : s.size ≤ 1048576) (hX : X ≤ s.size) (hl : left ≤ 1204) (hN : N ≤ 600) (h : PR W b s X false ((1204 - left : Nat) : Int)) (hK : Kit W v) (hb : Off b) :
    Calls Tryd.prog 91 #[.pointer (some ⟨b, 0, none⟩), .int .u64 N, .int .i64 ((d : Int) + 1)] W fun e w' => PRet W w' b s v (loopW (wk s (14 - d)) N X left) e := by
  have HP0 := Lib.hid (Part.start (s := s) (f := wk s (14 - d)) (N := N) (X := X) (L := (left : Int)) hX (by omega) (by omega))
  obtain ⟨R, hR⟩ : ∃ R, loopW (wk s (14 - d)) N X left = R := ⟨_, rfl⟩
  rw [hR] at HP0
  replace hR := Lib.hid hR
  have HPR := Lib.hid h
  have HKK := Lib.hid hK
  have IHH := Lib.hid IH
  have HSZ := Lib.hid hs
  have HB := Lib.hid hb
  have HLL : Hid (0 ≤ (left : Int)) := by unfold Hid; omega
  have hlt := h.lt
  clear IH h hK hs hb hX
  rw [hR.out]
  go_enter Tryd.func91, Tryd.ntmps91
  go_wp2_with fail
  go_loopw [9] (fun kk wr => ∃ (k r l : Nat), kk = .int .u64 k ∧ k ≤ N ∧ Hid (l ≤ 1204) ∧ Hid (PX W wr b s r false ((1204 - l : Nat) : Int)) ∧ Hid (Part s (wk s (14 - d)) N R k r l)) (fun kk _ => N - (intOf kk).toNat)
  case atStart => exact ⟨0, X, left, rfl, Nat.zero_le _, hl, PX.refl HPR.out, HP0⟩
  case round =>
    clear HP0 HPR
    obtain ⟨k, r, l, rfl, hk, HL4, HL, HP⟩ := hrel
    have HZ : Hid (r ≤ s.size) := by have h1 := HP.out; unfold Part at h1; unfold Hid; omega
    by_cases hkN : k < N
    · have k0 : (k : Int) < (N : Int) := by omega
      have C := IHH.out wr b s v r l HSZ.out HZ.out HL4.out HL.out.rd (HKK.out.only HL.out.only HB.out) HB.out
      rw [show ((d + 1 : Nat) : Int) = (d : Int) + 1 by omega, show 15 - (d + 1) = 14 - d by omega] at C
      have HPS := Lib.hid (HP.out.step (wk_good s (14 - d)) hkN)
      have HG := Lib.hid (wk_good s (14 - d) r l HZ.out)
      generalize wk s (14 - d) r l = rl at *
      replace C := Lib.hid C
      clear HP
      go_wp2_with fail
      with_reducible refine C.out.mono ?_
      rintro e w2 ⟨rfl, J, bad, c, hx, hj⟩
      by_cases hr : 0 ≤ rl.1
      · obtain ⟨rfl, rfl, rfl⟩ := hj hr
        have HX2 : Hid (∃ r2 l2 : Nat, rl.1 = r2 ∧ rl.2 = l2 ∧ l2 ≤ 1204) := by
          have h1 := HG.out
          have h2 := HL4.out
          exact ⟨rl.1.toNat, rl.2.toNat, by omega, by omega, by omega⟩
        rw [err_ok v hr]
        have HL2 := Lib.hid (HL.out.trans hx)
        clear C hx hj HL HG
        go_wp2
        go_roundw
        case rel =>
          obtain ⟨r2, l2, g1, g2, g3⟩ := HX2.out
          refine ⟨k + 1, r2, l2, by go_num, by omega, g3, ?_, ?_⟩
          · have := HL2.out
            rw [g1, g2] at this
            rw [show ((1204 - l2 : Nat) : Int) = 1204 - (l2 : Int) by omega]
            exact this
          · have := HPS.out
            rw [g1, g2] at this
            exact this
        case measure => simp [intOf]; omega
      · have HF := Lib.hid (HPS.out.done (.inr (by omega)))
        obtain ⟨t, x, he⟩ := err_ne v (r := rl.1) (by omega)
        have HE := Lib.hid he
        rw [he]
        have HL2 := Lib.hid (HL.out.trans hx)
        clear C hx hj HL HG HPS IHH he
        go_wp2
        go_ret
        refine ⟨by rw [HF.out, HE.out]; rfl, ⟨J, bad, c, HL2.out, fun h => ?_⟩⟩
        rw [HF.out] at h
        have h : 0 ≤ rl.1 := h
        omega
    · have k0 : ¬ (k : Int) < (N : Int) := by omega
      have HF := Lib.hid (HP.out.done (.inl (by omega)))
      clear HP IHH
      go_wp2
      go_ret
      refine ⟨by rw [HF.out, err_ok v (by simp)]; rfl, ⟨r, false, _, HL.out, fun _ => ?_⟩⟩
      rw [HF.out]
      have := HL4.out
      exact ⟨rfl, rfl, by simp only; omega⟩
end Go.Proofs.YtnaghafmpncdkaaDoor.beg
