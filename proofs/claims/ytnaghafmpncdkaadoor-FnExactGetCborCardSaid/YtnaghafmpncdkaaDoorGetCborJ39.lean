/-
  spec.l05Get where a text's number is beyond the end, and where a list's is beyond 300.
-/
import Derived.Test.YtnaghafmpncdkaaDoorGetCborJ37
namespace Go.Proofs.YtnaghafmpncdkaaDoor.cbor
open Go.ChangeShapes Go.WideShapes Go.ChangeAt Go.RowKit
open Go.Proofs.YtnaghafmpncdkaaDoor.val Go.Proofs.YtnaghafmpncdkaaDoor.head
set_option maxRecDepth 100000

set_option maxHeartbeats 2000000 in
theorem get_cut2 (W : World) (b : Nat) (s : ByteArray) (i left deep : Nat) (n : Nat) (X : Nat) (hs : s.size ≤ 1048576) (hi : i < s.size) (hl0 : 0 < left) (hl : left ≤ 2000) (hd : deep ≤ 14) (h : SR W b s left) (hX : X ≤ s.size) (hn : getHead s i = (2, n, (X : Int))) (hc : s.size - X < n) :
    Calls Tryd.prog 24 #[.pointer (some ⟨b, 0, none⟩), .int .i64 i, .int .i64 deep] W fun e w' => e = .returned (.tuple #[.agg #[.int .i64 0, .int .i64 0, .int .i64 0, .string ⟨#[]⟩, .slice none 0 0], .int .i64 (-1)]) ∧ SR w' b s (left - 1) ∧ W.grownBy w' (some b) := by
  have HA := Lib.hid (h.alloc (.cells #[.int .i64 0, .int .i64 0, .int .i64 0, .string ⟨#[]⟩, .slice none 0 0] 24))
  have hlt := h.lt
  have c0 := HA.out.c0
  have c2 := HA.out.c2
  have fr := HA.out.fr 2
  have HS := Lib.hid ((h.set ((left : Int) - 1)).alloc (.cells #[.int .i64 0, .int .i64 0, .int .i64 0, .string ⟨#[]⟩, .slice none 0 0] 24))
  have HV : Hid (V5 ((W.setCell ⟨b, 2, none⟩ (.int .i64 ((left : Int) - 1))).alloc (.cells #[.int .i64 0, .int .i64 0, .int .i64 0, .string ⟨#[]⟩, .slice none 0 0] 24)) W.heap.size (.int .i64 0) (.int .i64 0) (.int .i64 0) (.string ⟨#[]⟩) (.slice none 0 0)) := by
    have := V5.new (W.setCell ⟨b, 2, none⟩ (.int .i64 ((left : Int) - 1))) (.int .i64 0) (.int .i64 0) (.int .i64 0) (.string ⟨#[]⟩) (.slice none 0 0)
    rwa [val.set_size] at this
  have d0 := HS.out.c0
  have d1 := HS.out.c1
  have d2 := HS.out.c2
  have HO : Hid (W.grownBy ((W.setCell ⟨b, 2, none⟩ (.int .i64 ((left : Int) - 1))).alloc (.cells #[.int .i64 0, .int .i64 0, .int .i64 0, .string ⟨#[]⟩, .slice none 0 0] 24)) (some b)) := only_below (set_only _ _ _ _) ((Below.refl _ _).alloc (Nat.le_refl _) _)
  have CH := Lib.hid (fun W h => spec_head W b s ((left : Int) - 1) i hs h)
  rw [hn] at CH
  unfold triple at CH
  have e0 : -9223372036854775808 ≤ (left : Int) - 1 := by omega
  have e1 : (left : Int) - 1 ≤ 9223372036854775807 := by omega
  have e2 : (s.size : Int) ≤ 1048576 := by omega
  have p0 : ¬ (left : Int) - 1 < 0 := by omega
  have p1 : ¬ (14 : Int) < (deep : Int) := by omega
  have p2 : ¬ (s.size : Int) ≤ (i : Int) := by omega
  have p3 : (i : Int) < (s.size : Int) := by omega
  have p4 : (0 : Int) ≤ (i : Int) := by omega
  have p5 : ¬ (X : Int) < 0 := by omega
  have p6 : (s.size : Int) - (X : Int) < (n : Int) := by omega
  have r0 : -9223372036854775808 ≤ (s.size : Int) - (X : Int) := by omega
  have r1 : (s.size : Int) - (X : Int) ≤ 9223372036854775807 := by omega
  have r2 : 0 ≤ (s.size : Int) - (X : Int) := by omega
  have r3 : (s.size : Int) - (X : Int) < 18446744073709551616 := by omega
  have w0 := Lib.hid (wrapI4 _ r0 r1)
  have w1x := Lib.hid (wrapU _ r2 r3)
  have P6 := Lib.hid p6
  have R2 := Lib.hid r2
  clear r0 r1 r2 r3 p6
  clear h HA hn hl hl0 hd hs hi hX hc
  go_enter Tryd.func24, Tryd.ntmps24
  go_wp2_with fail
  with_reducible refine (CH.out _ HS.out).mono ?_
  rintro r w1 ⟨rfl, hb⟩
  replace HS := Lib.hid (HS.out.behind hb)
  replace HO := Lib.hid (only_below HO.out hb)
  replace HV := Lib.hid (HV.out.behind hb)
  clear hb CH c0 c2 fr d0 d1 d2 e0 e1 e2
  have hN2 : W.heap.size < w1.heap.size := (Array.getElem?_eq_some_iff.1 HV.out.row).1
  have HS2 := Lib.hid (HS.out.alloc (.cells #[.int .i64 0, .int .i64 0, .int .i64 0, .string ⟨#[]⟩, .slice none 0 0] 24))
  have HO2 := Lib.hid (only_below HO.out ((Below.refl _ _).alloc (Nat.le_refl _) (.cells #[.int .i64 0, .int .i64 0, .int .i64 0, .string ⟨#[]⟩, .slice none 0 0] 24)))
  have HV2 := Lib.hid (HV.out.behind ((Below.refl _ _).alloc (Nat.le_refl _) (.cells #[.int .i64 0, .int .i64 0, .int .i64 0, .string ⟨#[]⟩, .slice none 0 0] 24)))
  obtain ⟨f0, f1, f2⟩ : _ ∧ _ ∧ _ := ⟨HS2.out.c0, HS2.out.c1, HS2.out.c2⟩
  have hbV : b ≠ W.heap.size := by omega
  clear HS HO HV
  go_upto_region 12 with (fail)
  generalize w1.alloc (.cells #[.int .i64 0, .int .i64 0, .int .i64 0, .string ⟨#[]⟩, .slice none 0 0] 24) = WA at *
  generalize w1.heap.size = N2 at *
  clear f1 f2 p0 p1 p2 p5
  replace w0 := w0.out
  replace w1x := w1x.out
  have p6 := P6.out
  have r2 := R2.out
  have w2 : IntKind.u64.wrap (IntKind.i64.wrap ((s.size : Int) - (X : Int))) = (s.size : Int) - (X : Int) := by rw [w0, w1x]
  clear P6 R2
  obtain ⟨q0, q1, q2, q3, q4, qf⟩ := HV2.out.c
  have HF := Lib.hid (HV2.out.put (.int .i64 0) (.int .i64 0) (.int .i64 0) (.string ⟨#[]⟩) (.slice none 0 0))
  have HSF := Lib.hid (sr_put HS2.out (N := W.heap.size) hbV (.int .i64 0) (.int .i64 0) (.int .i64 0) (.string ⟨#[]⟩) (.slice none 0 0))
  have HOF := Lib.hid (only_put HO2.out (Nat.le_refl _) (.int .i64 0) (.int .i64 0) (.int .i64 0) (.string ⟨#[]⟩) (.slice none 0 0))
  obtain ⟨k0, k1, k2, k3, k4, _⟩ := HF.out.c
  clear HF HV2 HS2 HO2
  unfold put5v at k0 k1 k2 k3 k4 HSF HOF
  go_wp2
  refine bodyPost_ret (v := .tuple #[.agg #[.int .i64 0, .int .i64 0, .int .i64 0, .string ⟨#[]⟩, .slice none 0 0], .int .i64 (-1)]) (by simp [results, Tryd.results24, go_sem, k0, k1, k2, k3, k4]) rfl ?_
  exact ⟨rfl, HSF.out, HOF.out⟩
set_option maxHeartbeats 2000000 in
theorem get_cut3 (W : World) (b : Nat) (s : ByteArray) (i left deep : Nat) (n : Nat) (X : Nat) (hs : s.size ≤ 1048576) (hi : i < s.size) (hl0 : 0 < left) (hl : left ≤ 2000) (hd : deep ≤ 14) (h : SR W b s left) (hX : X ≤ s.size) (hn : getHead s i = (3, n, (X : Int))) (hc : s.size - X < n) :
    Calls Tryd.prog 24 #[.pointer (some ⟨b, 0, none⟩), .int .i64 i, .int .i64 deep] W fun e w' => e = .returned (.tuple #[.agg #[.int .i64 0, .int .i64 0, .int .i64 0, .string ⟨#[]⟩, .slice none 0 0], .int .i64 (-1)]) ∧ SR w' b s (left - 1) ∧ W.grownBy w' (some b) := by
  have HA := Lib.hid (h.alloc (.cells #[.int .i64 0, .int .i64 0, .int .i64 0, .string ⟨#[]⟩, .slice none 0 0] 24))
  have hlt := h.lt
  have c0 := HA.out.c0
  have c2 := HA.out.c2
  have fr := HA.out.fr 2
  have HS := Lib.hid ((h.set ((left : Int) - 1)).alloc (.cells #[.int .i64 0, .int .i64 0, .int .i64 0, .string ⟨#[]⟩, .slice none 0 0] 24))
  have HV : Hid (V5 ((W.setCell ⟨b, 2, none⟩ (.int .i64 ((left : Int) - 1))).alloc (.cells #[.int .i64 0, .int .i64 0, .int .i64 0, .string ⟨#[]⟩, .slice none 0 0] 24)) W.heap.size (.int .i64 0) (.int .i64 0) (.int .i64 0) (.string ⟨#[]⟩) (.slice none 0 0)) := by
    have := V5.new (W.setCell ⟨b, 2, none⟩ (.int .i64 ((left : Int) - 1))) (.int .i64 0) (.int .i64 0) (.int .i64 0) (.string ⟨#[]⟩) (.slice none 0 0)
    rwa [val.set_size] at this
  have d0 := HS.out.c0
  have d1 := HS.out.c1
  have d2 := HS.out.c2
  have HO : Hid (W.grownBy ((W.setCell ⟨b, 2, none⟩ (.int .i64 ((left : Int) - 1))).alloc (.cells #[.int .i64 0, .int .i64 0, .int .i64 0, .string ⟨#[]⟩, .slice none 0 0] 24)) (some b)) := only_below (set_only _ _ _ _) ((Below.refl _ _).alloc (Nat.le_refl _) _)
  have CH := Lib.hid (fun W h => spec_head W b s ((left : Int) - 1) i hs h)
  rw [hn] at CH
  unfold triple at CH
  have e0 : -9223372036854775808 ≤ (left : Int) - 1 := by omega
  have e1 : (left : Int) - 1 ≤ 9223372036854775807 := by omega
  have e2 : (s.size : Int) ≤ 1048576 := by omega
  have p0 : ¬ (left : Int) - 1 < 0 := by omega
  have p1 : ¬ (14 : Int) < (deep : Int) := by omega
  have p2 : ¬ (s.size : Int) ≤ (i : Int) := by omega
  have p3 : (i : Int) < (s.size : Int) := by omega
  have p4 : (0 : Int) ≤ (i : Int) := by omega
  have p5 : ¬ (X : Int) < 0 := by omega
  have p6 : (s.size : Int) - (X : Int) < (n : Int) := by omega
  have r0 : -9223372036854775808 ≤ (s.size : Int) - (X : Int) := by omega
  have r1 : (s.size : Int) - (X : Int) ≤ 9223372036854775807 := by omega
  have r2 : 0 ≤ (s.size : Int) - (X : Int) := by omega
  have r3 : (s.size : Int) - (X : Int) < 18446744073709551616 := by omega
  have w0 := Lib.hid (wrapI4 _ r0 r1)
  have w1x := Lib.hid (wrapU _ r2 r3)
  have P6 := Lib.hid p6
  have R2 := Lib.hid r2
  clear r0 r1 r2 r3 p6
  clear h HA hn hl hl0 hd hs hi hX hc
  go_enter Tryd.func24, Tryd.ntmps24
  go_wp2_with fail
  with_reducible refine (CH.out _ HS.out).mono ?_
  rintro r w1 ⟨rfl, hb⟩
  replace HS := Lib.hid (HS.out.behind hb)
  replace HO := Lib.hid (only_below HO.out hb)
  replace HV := Lib.hid (HV.out.behind hb)
  clear hb CH c0 c2 fr d0 d1 d2 e0 e1 e2
  have hN2 : W.heap.size < w1.heap.size := (Array.getElem?_eq_some_iff.1 HV.out.row).1
  have HS2 := Lib.hid (HS.out.alloc (.cells #[.int .i64 0, .int .i64 0, .int .i64 0, .string ⟨#[]⟩, .slice none 0 0] 24))
  have HO2 := Lib.hid (only_below HO.out ((Below.refl _ _).alloc (Nat.le_refl _) (.cells #[.int .i64 0, .int .i64 0, .int .i64 0, .string ⟨#[]⟩, .slice none 0 0] 24)))
  have HV2 := Lib.hid (HV.out.behind ((Below.refl _ _).alloc (Nat.le_refl _) (.cells #[.int .i64 0, .int .i64 0, .int .i64 0, .string ⟨#[]⟩, .slice none 0 0] 24)))
  obtain ⟨f0, f1, f2⟩ : _ ∧ _ ∧ _ := ⟨HS2.out.c0, HS2.out.c1, HS2.out.c2⟩
  have hbV : b ≠ W.heap.size := by omega
  clear HS HO HV
  go_upto_region 12 with (fail)
  generalize w1.alloc (.cells #[.int .i64 0, .int .i64 0, .int .i64 0, .string ⟨#[]⟩, .slice none 0 0] 24) = WA at *
  generalize w1.heap.size = N2 at *
  clear f1 f2 p0 p1 p2 p5
  replace w0 := w0.out
  replace w1x := w1x.out
  have p6 := P6.out
  have r2 := R2.out
  have w2 : IntKind.u64.wrap (IntKind.i64.wrap ((s.size : Int) - (X : Int))) = (s.size : Int) - (X : Int) := by rw [w0, w1x]
  clear P6 R2
  obtain ⟨q0, q1, q2, q3, q4, qf⟩ := HV2.out.c
  have HF := Lib.hid (HV2.out.put (.int .i64 0) (.int .i64 0) (.int .i64 0) (.string ⟨#[]⟩) (.slice none 0 0))
  have HSF := Lib.hid (sr_put HS2.out (N := W.heap.size) hbV (.int .i64 0) (.int .i64 0) (.int .i64 0) (.string ⟨#[]⟩) (.slice none 0 0))
  have HOF := Lib.hid (only_put HO2.out (Nat.le_refl _) (.int .i64 0) (.int .i64 0) (.int .i64 0) (.string ⟨#[]⟩) (.slice none 0 0))
  obtain ⟨k0, k1, k2, k3, k4, _⟩ := HF.out.c
  clear HF HV2 HS2 HO2
  unfold put5v at k0 k1 k2 k3 k4 HSF HOF
  go_wp2
  refine bodyPost_ret (v := .tuple #[.agg #[.int .i64 0, .int .i64 0, .int .i64 0, .string ⟨#[]⟩, .slice none 0 0], .int .i64 (-1)]) (by simp [results, Tryd.results24, go_sem, k0, k1, k2, k3, k4]) rfl ?_
  exact ⟨rfl, HSF.out, HOF.out⟩
set_option maxHeartbeats 2000000 in
theorem get_far4 (W : World) (b : Nat) (s : ByteArray) (i left deep : Nat) (n : Nat) (X : Nat) (hs : s.size ≤ 1048576) (hi : i < s.size) (hl0 : 0 < left) (hl : left ≤ 2000) (hd : deep ≤ 14) (h : SR W b s left) (hX : X ≤ s.size) (hn : getHead s i = (4, n, (X : Int))) (hc : 300 < n) :
    Calls Tryd.prog 24 #[.pointer (some ⟨b, 0, none⟩), .int .i64 i, .int .i64 deep] W fun e w' => e = .returned (.tuple #[.agg #[.int .i64 0, .int .i64 0, .int .i64 0, .string ⟨#[]⟩, .slice none 0 0], .int .i64 (-1)]) ∧ SR w' b s (left - 1) ∧ W.grownBy w' (some b) := by
  have HA := Lib.hid (h.alloc (.cells #[.int .i64 0, .int .i64 0, .int .i64 0, .string ⟨#[]⟩, .slice none 0 0] 24))
  have hlt := h.lt
  have c0 := HA.out.c0
  have c2 := HA.out.c2
  have fr := HA.out.fr 2
  have HS := Lib.hid ((h.set ((left : Int) - 1)).alloc (.cells #[.int .i64 0, .int .i64 0, .int .i64 0, .string ⟨#[]⟩, .slice none 0 0] 24))
  have HV : Hid (V5 ((W.setCell ⟨b, 2, none⟩ (.int .i64 ((left : Int) - 1))).alloc (.cells #[.int .i64 0, .int .i64 0, .int .i64 0, .string ⟨#[]⟩, .slice none 0 0] 24)) W.heap.size (.int .i64 0) (.int .i64 0) (.int .i64 0) (.string ⟨#[]⟩) (.slice none 0 0)) := by
    have := V5.new (W.setCell ⟨b, 2, none⟩ (.int .i64 ((left : Int) - 1))) (.int .i64 0) (.int .i64 0) (.int .i64 0) (.string ⟨#[]⟩) (.slice none 0 0)
    rwa [val.set_size] at this
  have d0 := HS.out.c0
  have d1 := HS.out.c1
  have d2 := HS.out.c2
  have HO : Hid (W.grownBy ((W.setCell ⟨b, 2, none⟩ (.int .i64 ((left : Int) - 1))).alloc (.cells #[.int .i64 0, .int .i64 0, .int .i64 0, .string ⟨#[]⟩, .slice none 0 0] 24)) (some b)) := only_below (set_only _ _ _ _) ((Below.refl _ _).alloc (Nat.le_refl _) _)
  have CH := Lib.hid (fun W h => spec_head W b s ((left : Int) - 1) i hs h)
  rw [hn] at CH
  unfold triple at CH
  have e0 : -9223372036854775808 ≤ (left : Int) - 1 := by omega
  have e1 : (left : Int) - 1 ≤ 9223372036854775807 := by omega
  have e2 : (s.size : Int) ≤ 1048576 := by omega
  have p0 : ¬ (left : Int) - 1 < 0 := by omega
  have p1 : ¬ (14 : Int) < (deep : Int) := by omega
  have p2 : ¬ (s.size : Int) ≤ (i : Int) := by omega
  have p3 : (i : Int) < (s.size : Int) := by omega
  have p4 : (0 : Int) ≤ (i : Int) := by omega
  have p5 : ¬ (X : Int) < 0 := by omega
  have P6 : Hid ((300 : Int) < (n : Int)) := by unfold Hid; omega
  clear h HA hn hl hl0 hd hs hi hX hc
  go_enter Tryd.func24, Tryd.ntmps24
  go_wp2_with fail
  with_reducible refine (CH.out _ HS.out).mono ?_
  rintro r w1 ⟨rfl, hb⟩
  replace HS := Lib.hid (HS.out.behind hb)
  replace HO := Lib.hid (only_below HO.out hb)
  replace HV := Lib.hid (HV.out.behind hb)
  clear hb CH c0 c2 fr d0 d1 d2 e0 e1 e2
  have hN2 : W.heap.size < w1.heap.size := (Array.getElem?_eq_some_iff.1 HV.out.row).1
  have HS2 := Lib.hid (HS.out.alloc (.cells #[.int .i64 0, .int .i64 0, .int .i64 0, .string ⟨#[]⟩, .slice none 0 0] 24))
  have HO2 := Lib.hid (only_below HO.out ((Below.refl _ _).alloc (Nat.le_refl _) (.cells #[.int .i64 0, .int .i64 0, .int .i64 0, .string ⟨#[]⟩, .slice none 0 0] 24)))
  have HV2 := Lib.hid (HV.out.behind ((Below.refl _ _).alloc (Nat.le_refl _) (.cells #[.int .i64 0, .int .i64 0, .int .i64 0, .string ⟨#[]⟩, .slice none 0 0] 24)))
  obtain ⟨f0, f1, f2⟩ : _ ∧ _ ∧ _ := ⟨HS2.out.c0, HS2.out.c1, HS2.out.c2⟩
  have hbV : b ≠ W.heap.size := by omega
  clear HS HO HV
  go_upto_region 12 with (fail)
  generalize w1.alloc (.cells #[.int .i64 0, .int .i64 0, .int .i64 0, .string ⟨#[]⟩, .slice none 0 0] 24) = WA at *
  generalize w1.heap.size = N2 at *
  clear f1 f2 p0 p1 p2 p5
  have p6 := P6.out
  clear P6
  obtain ⟨q0, q1, q2, q3, q4, qf⟩ := HV2.out.c
  have HF := Lib.hid (HV2.out.put (.int .i64 0) (.int .i64 0) (.int .i64 0) (.string ⟨#[]⟩) (.slice none 0 0))
  have HSF := Lib.hid (sr_put HS2.out (N := W.heap.size) hbV (.int .i64 0) (.int .i64 0) (.int .i64 0) (.string ⟨#[]⟩) (.slice none 0 0))
  have HOF := Lib.hid (only_put HO2.out (Nat.le_refl _) (.int .i64 0) (.int .i64 0) (.int .i64 0) (.string ⟨#[]⟩) (.slice none 0 0))
  obtain ⟨k0, k1, k2, k3, k4, _⟩ := HF.out.c
  clear HF HV2 HS2 HO2
  unfold put5v at k0 k1 k2 k3 k4 HSF HOF
  go_wp2
  refine bodyPost_ret (v := .tuple #[.agg #[.int .i64 0, .int .i64 0, .int .i64 0, .string ⟨#[]⟩, .slice none 0 0], .int .i64 (-1)]) (by simp [results, Tryd.results24, go_sem, k0, k1, k2, k3, k4]) rfl ?_
  exact ⟨rfl, HSF.out, HOF.out⟩
set_option maxHeartbeats 2000000 in
theorem get_far5 (W : World) (b : Nat) (s : ByteArray) (i left deep : Nat) (n : Nat) (X : Nat) (hs : s.size ≤ 1048576) (hi : i < s.size) (hl0 : 0 < left) (hl : left ≤ 2000) (hd : deep ≤ 14) (h : SR W b s left) (hX : X ≤ s.size) (hn : getHead s i = (5, n, (X : Int))) (hc : 300 < n) :
    Calls Tryd.prog 24 #[.pointer (some ⟨b, 0, none⟩), .int .i64 i, .int .i64 deep] W fun e w' => e = .returned (.tuple #[.agg #[.int .i64 0, .int .i64 0, .int .i64 0, .string ⟨#[]⟩, .slice none 0 0], .int .i64 (-1)]) ∧ SR w' b s (left - 1) ∧ W.grownBy w' (some b) := by
  have HA := Lib.hid (h.alloc (.cells #[.int .i64 0, .int .i64 0, .int .i64 0, .string ⟨#[]⟩, .slice none 0 0] 24))
  have hlt := h.lt
  have c0 := HA.out.c0
  have c2 := HA.out.c2
  have fr := HA.out.fr 2
  have HS := Lib.hid ((h.set ((left : Int) - 1)).alloc (.cells #[.int .i64 0, .int .i64 0, .int .i64 0, .string ⟨#[]⟩, .slice none 0 0] 24))
  have HV : Hid (V5 ((W.setCell ⟨b, 2, none⟩ (.int .i64 ((left : Int) - 1))).alloc (.cells #[.int .i64 0, .int .i64 0, .int .i64 0, .string ⟨#[]⟩, .slice none 0 0] 24)) W.heap.size (.int .i64 0) (.int .i64 0) (.int .i64 0) (.string ⟨#[]⟩) (.slice none 0 0)) := by
    have := V5.new (W.setCell ⟨b, 2, none⟩ (.int .i64 ((left : Int) - 1))) (.int .i64 0) (.int .i64 0) (.int .i64 0) (.string ⟨#[]⟩) (.slice none 0 0)
    rwa [val.set_size] at this
  have d0 := HS.out.c0
  have d1 := HS.out.c1
  have d2 := HS.out.c2
  have HO : Hid (W.grownBy ((W.setCell ⟨b, 2, none⟩ (.int .i64 ((left : Int) - 1))).alloc (.cells #[.int .i64 0, .int .i64 0, .int .i64 0, .string ⟨#[]⟩, .slice none 0 0] 24)) (some b)) := only_below (set_only _ _ _ _) ((Below.refl _ _).alloc (Nat.le_refl _) _)
  have CH := Lib.hid (fun W h => spec_head W b s ((left : Int) - 1) i hs h)
  rw [hn] at CH
  unfold triple at CH
  have e0 : -9223372036854775808 ≤ (left : Int) - 1 := by omega
  have e1 : (left : Int) - 1 ≤ 9223372036854775807 := by omega
  have e2 : (s.size : Int) ≤ 1048576 := by omega
  have p0 : ¬ (left : Int) - 1 < 0 := by omega
  have p1 : ¬ (14 : Int) < (deep : Int) := by omega
  have p2 : ¬ (s.size : Int) ≤ (i : Int) := by omega
  have p3 : (i : Int) < (s.size : Int) := by omega
  have p4 : (0 : Int) ≤ (i : Int) := by omega
  have p5 : ¬ (X : Int) < 0 := by omega
  have P6 : Hid ((300 : Int) < (n : Int)) := by unfold Hid; omega
  clear h HA hn hl hl0 hd hs hi hX hc
  go_enter Tryd.func24, Tryd.ntmps24
  go_wp2_with fail
  with_reducible refine (CH.out _ HS.out).mono ?_
  rintro r w1 ⟨rfl, hb⟩
  replace HS := Lib.hid (HS.out.behind hb)
  replace HO := Lib.hid (only_below HO.out hb)
  replace HV := Lib.hid (HV.out.behind hb)
  clear hb CH c0 c2 fr d0 d1 d2 e0 e1 e2
  have hN2 : W.heap.size < w1.heap.size := (Array.getElem?_eq_some_iff.1 HV.out.row).1
  have HS2 := Lib.hid (HS.out.alloc (.cells #[.int .i64 0, .int .i64 0, .int .i64 0, .string ⟨#[]⟩, .slice none 0 0] 24))
  have HO2 := Lib.hid (only_below HO.out ((Below.refl _ _).alloc (Nat.le_refl _) (.cells #[.int .i64 0, .int .i64 0, .int .i64 0, .string ⟨#[]⟩, .slice none 0 0] 24)))
  have HV2 := Lib.hid (HV.out.behind ((Below.refl _ _).alloc (Nat.le_refl _) (.cells #[.int .i64 0, .int .i64 0, .int .i64 0, .string ⟨#[]⟩, .slice none 0 0] 24)))
  obtain ⟨f0, f1, f2⟩ : _ ∧ _ ∧ _ := ⟨HS2.out.c0, HS2.out.c1, HS2.out.c2⟩
  have hbV : b ≠ W.heap.size := by omega
  clear HS HO HV
  go_upto_region 12 with (fail)
  generalize w1.alloc (.cells #[.int .i64 0, .int .i64 0, .int .i64 0, .string ⟨#[]⟩, .slice none 0 0] 24) = WA at *
  generalize w1.heap.size = N2 at *
  clear f1 f2 p0 p1 p2 p5
  have p6 := P6.out
  clear P6
  obtain ⟨q0, q1, q2, q3, q4, qf⟩ := HV2.out.c
  have HF := Lib.hid (HV2.out.put (.int .i64 0) (.int .i64 0) (.int .i64 0) (.string ⟨#[]⟩) (.slice none 0 0))
  have HSF := Lib.hid (sr_put HS2.out (N := W.heap.size) hbV (.int .i64 0) (.int .i64 0) (.int .i64 0) (.string ⟨#[]⟩) (.slice none 0 0))
  have HOF := Lib.hid (only_put HO2.out (Nat.le_refl _) (.int .i64 0) (.int .i64 0) (.int .i64 0) (.string ⟨#[]⟩) (.slice none 0 0))
  obtain ⟨k0, k1, k2, k3, k4, _⟩ := HF.out.c
  clear HF HV2 HS2 HO2
  unfold put5v at k0 k1 k2 k3 k4 HSF HOF
  go_wp2
  refine bodyPost_ret (v := .tuple #[.agg #[.int .i64 0, .int .i64 0, .int .i64 0, .string ⟨#[]⟩, .slice none 0 0], .int .i64 (-1)]) (by simp [results, Tryd.results24, go_sem, k0, k1, k2, k3, k4]) rfl ?_
  exact ⟨rfl, HSF.out, HOF.out⟩
end Go.Proofs.YtnaghafmpncdkaaDoor.cbor
