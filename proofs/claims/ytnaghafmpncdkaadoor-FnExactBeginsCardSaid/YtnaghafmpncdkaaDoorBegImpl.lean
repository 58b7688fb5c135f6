/-
  impl.Begins at every text.
-/
import Derived.Test.YtnaghafmpncdkaaDoorBegValue
import Derived.Test.YtnaghafmpncdkaaDoorSpecBegAll
namespace Go.Proofs.YtnaghafmpncdkaaDoor.beg
open Go.ChangeShapes Go.WideShapes Go.ChangeAt Go.RowKit
open Go.Proofs.YtnaghafmpncdkaaDoor.head
set_option maxRecDepth 100000

theorem Kit.off {W : World} {v : Value} (h : Kit W v) {b : Nat} (hb : W.heap.size ≤ b) : Off b := by
  have h1 := World.block_lt_of_cell? W _ h.no
  have h2 : 2 < W.heap.size := World.block_lt_of_cell? W _ h.ty
  have h3 := h.tab.lt
  simp only at h1
  exact ⟨by omega, by omega, by omega⟩
theorem below_join {W w1 w2 : World} (h : Below W.heap.size W w1) (k : Below w1.heap.size w1 w2) : Below W.heap.size W w2 :=
  ⟨k.os.trans h.os, k.tape.trans h.tape, k.output.trans h.output, Nat.le_trans h.size k.size, fun b hb => (k.block b (Nat.lt_of_lt_of_le hb h.size)).trans (h.block b hb)⟩
set_option maxHeartbeats 2000000 in
theorem end_any (s : ByteArray) (W : World) (v : Value) (hs : s.size ≤ 1048576) (hK : Kit W v) :
    Calls Tryd.prog 34 #[.string s] W fun e w' => ∃ J : Int, e = .returned (.tuple #[.int .i64 J, errOf v (wk s 15 0 1204).1]) ∧ (0 ≤ (wk s 15 0 1204).1 → J = (wk s 15 0 1204).1) ∧ Below W.heap.size W w' := by
  have CR := Lib.hid (reader_any s 0 W hs)
  have eb : badAt s 0 = false := by unfold badAt; simp
  rw [eb] at CR
  have HK := Lib.hid hK
  have HS := Lib.hid hs
  have HP := Lib.hid (pv_any 15 0 rfl)
  generalize hR : wk s 15 0 1204 = R
  have HR := Lib.hid hR
  clear hK hs hR
  go_enter Tryd.func34, Tryd.ntmps34
  go_wp2_with fail
  with_reducible refine CR.out.mono ?_
  rintro e w1 ⟨rfl, hb⟩
  have hB1 := hb.alloc hb.size (.cells #[.string s, .int .i64 0, .bool false, .int .i64 0] 96)
  have C := HP.out (w1.alloc (.cells #[.string s, .int .i64 0, .bool false, .int .i64 0] 96)) w1.heap.size s v 0 1204 HS.out (by omega) (by omega) ⟨heap_alloc_new w1 _⟩ (HK.out.below hB1) (HK.out.off hb.size)
  rw [show 15 - 0 = 15 from rfl, HR.out, show ((0 : Nat) : Int) = 0 from rfl] at C
  replace C := Lib.hid C
  have HB := Lib.hid hB1
  have HZ := Lib.hid hb.size
  clear hb CR HP hB1
  go_wp2_with fail
  with_reducible refine C.out.mono ?_
  rintro e w2 ⟨rfl, J, bad, c, hx, hj⟩
  have c1 := hx.rd.c1
  have HX := Lib.hid (below_only HB.out hx.only HZ.out)
  have HJ : Hid (0 ≤ R.1 → J = R.1) := fun h => (hj h).1
  clear C hx hj
  obtain ⟨E, hE⟩ : ∃ E, errOf v R.1 = E := ⟨_, rfl⟩
  rw [hE]
  have HE := Lib.hid hE
  clear hE
  go_wp2
  go_ret2
  exact ⟨J, by rw [HE.out]; rfl, HJ.out, HX.out⟩
theorem isnt (w : World) : Calls Tryd.prog 35 #[.nilIface] w fun e w' => e = .returned (.bool false) ∧ Below w.heap.size w w' := by
  have C := Lib.hid (fun w : World => cut.as_nil (.iface 101 (.pointer (some ⟨w.heap.size, 0, none⟩))) (w.alloc (.cells #[] 99)))
  have HB := Lib.hid ((Below.refl w.heap.size w).alloc (Nat.le_refl _) (.cells #[] 99))
  go_enter Tryd.func35, Tryd.ntmps35
  go_wp2_with fail
  with_reducible refine (C.out _).mono ?_
  rintro e w1 ⟨rfl, hw⟩
  rw [hw]
  clear hw
  go_wp2
  go_ret
  exact ⟨rfl, HB.out⟩
set_option maxHeartbeats 1000000 in
theorem is_cut (w : World) (v : Value) (hK : Kit w v) : Calls Tryd.prog 35 #[cutE] w fun e w' => e = .returned (.bool true) ∧ Below w.heap.size w w' := by
  have hb := (Below.refl w.heap.size w).alloc (Nat.le_refl _) (.cells #[] 99)
  have C := Lib.hid (cut.as_hit ⟨w.heap.size, 0, none⟩ (w.alloc (.cells #[] 99)) (hK.below hb).ty (by simp))
  have HB := Lib.hid hb
  clear hb hK
  unfold cutE
  go_enter Tryd.func35, Tryd.ntmps35
  go_wp2_with fail
  with_reducible refine C.out.mono ?_
  rintro e w1 ⟨rfl, hw⟩
  have HF := Lib.hid (below_join HB.out hw)
  clear C hw
  go_wp2
  go_ret
  exact ⟨rfl, HF.out⟩
set_option maxHeartbeats 1000000 in
theorem is_no (w : World) (v : Value) (hK : Kit w v) : Calls Tryd.prog 35 #[noE v] w fun e w' => e = .returned (.bool false) ∧ Below w.heap.size w w' := by
  have hb := (Below.refl w.heap.size w).alloc (Nat.le_refl _) (.cells #[] 99)
  have C := Lib.hid (cut.as_no v ⟨w.heap.size, 0, none⟩ (w.alloc (.cells #[] 99)) (hK.below hb).ty)
  have HB := Lib.hid hb
  clear hb hK
  unfold noE
  go_enter Tryd.func35, Tryd.ntmps35
  go_wp2_with fail
  with_reducible refine C.out.mono ?_
  rintro e w1 ⟨rfl, hw⟩
  have HF := Lib.hid (below_join HB.out hw)
  clear C hw
  go_wp2
  go_ret
  exact ⟨rfl, HF.out⟩
theorem impl_begins (s : ByteArray) (W : World) (v : Value) (hs : s.size ≤ 1048576) (hK : Kit W v) :
    Calls Tryd.prog 15 #[.string s] W fun e w' => e = .returned (.bool (beginsB s)) ∧ Below W.heap.size W w' := by
  have C := Lib.hid (end_any s W v hs hK)
  have HK := Lib.hid hK
  have g := (wk_good s 15 0 1204 (by omega)).2.2.2
  unfold beginsB
  generalize wk s 15 0 1204 = R at *
  obtain ⟨r, l⟩ := R
  simp only at *
  clear hs hK
  rcases (show 0 ≤ r ∨ r = -2 ∨ r = -1 by omega) with hr | rfl | rfl
  · rw [err_ok v hr] at C
    have hn2 : ¬ r = -2 := by omega
    by_cases hq : r = (s.size : Int)
    · have hF : (decide (r = -2) || decide (r = (s.size : Int))) = true := by simp [hq]
      rw [hF]
      clear hF hn2
      go_enter Tryd.func15, Tryd.ntmps15
      go_wp2_with fail
      with_reducible refine C.out.mono ?_
      rintro e w1 ⟨J, rfl, hj, hb⟩
      obtain rfl := hj hr
      have HB := Lib.hid hb
      clear C hj hb hr g
      go_wp2
      go_ret
      exact ⟨rfl, HB.out⟩
    · have hF : (decide (r = -2) || decide (r = (s.size : Int))) = false := by simp [hq, hn2]
      rw [hF]
      clear hF hn2
      go_enter Tryd.func15, Tryd.ntmps15
      go_wp2_with fail
      with_reducible refine C.out.mono ?_
      rintro e w1 ⟨J, rfl, hj, hb⟩
      obtain rfl := hj hr
      have HB := Lib.hid hb
      have C2 := Lib.hid (isnt w1)
      clear C hj hb hr g
      go_wp2_with fail
      with_reducible refine C2.out.mono ?_
      rintro e w2 ⟨rfl, hw⟩
      have HF := Lib.hid (below_join HB.out hw)
      clear C2 hw
      go_wp2
      go_ret
      exact ⟨rfl, HF.out⟩
  · have hF : (decide ((-2 : Int) = -2) || decide ((-2 : Int) = (s.size : Int))) = true := by simp
    rw [hF]
    clear hF
    have hE : errOf v (-2) = cutE := by unfold errOf; rw [if_neg (by simp), if_pos rfl]
    rw [hE] at C
    have C2 := Lib.hid (fun w hb => is_cut w v (HK.out.below (w' := w) hb))
    unfold cutE at C C2
    clear hE g
    go_enter Tryd.func15, Tryd.ntmps15
    go_wp2_with fail
    with_reducible refine C.out.mono ?_
    rintro e w1 ⟨J, rfl, hj, hb⟩
    have C3 := Lib.hid (C2.out _ hb)
    have HB := Lib.hid hb
    clear C C2 hj hb
    by_cases hq : J = (s.size : Int)
    all_goals
      go_wp2_with fail
      with_reducible refine C3.out.mono ?_
      rintro e w2 ⟨rfl, hw⟩
      have HF := Lib.hid (below_join HB.out hw)
      clear C3 hw
      go_wp2
      go_ret
      exact ⟨rfl, HF.out⟩
  · have hF : (decide ((-1 : Int) = -2) || decide ((-1 : Int) = (s.size : Int))) = false := by simp
    rw [hF]
    clear hF
    have hE : errOf v (-1) = noE v := by unfold errOf; rw [if_neg (by simp), if_neg (by simp)]
    rw [hE] at C
    have C2 := Lib.hid (fun w hb => is_no w v (HK.out.below (w' := w) hb))
    unfold noE at C C2
    clear hE g
    go_enter Tryd.func15, Tryd.ntmps15
    go_wp2_with fail
    with_reducible refine C.out.mono ?_
    rintro e w1 ⟨J, rfl, hj, hb⟩
    have C3 := Lib.hid (C2.out _ hb)
    have HB := Lib.hid hb
    clear C C2 hj hb
    by_cases hq : J = (s.size : Int)
    all_goals
      go_wp2_with fail
      with_reducible refine C3.out.mono ?_
      rintro e w2 ⟨rfl, hw⟩
      have HF := Lib.hid (below_join HB.out hw)
      clear C3 hw
      go_wp2
      go_ret
      exact ⟨rfl, HF.out⟩
end Go.Proofs.YtnaghafmpncdkaaDoor.beg
