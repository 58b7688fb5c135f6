/-
  spec.l05Get at texts and bytes.
-/
import Derived.Test.YtnaghafmpncdkaaDoorGetCborJ31
namespace Go.Proofs.YtnaghafmpncdkaaDoor.cbor
open Go.ChangeShapes Go.WideShapes Go.ChangeAt Go.RowKit
open Go.Proofs.YtnaghafmpncdkaaDoor.val Go.Proofs.YtnaghafmpncdkaaDoor.head
set_option maxRecDepth 100000

theorem wrap644 (x : Int) (h0 : -9223372036854775808 ≤ x) (h1 : x ≤ 9223372036854775807) : wrap64 x = x := by unfold wrap64; omega
theorem wrapI4 (x : Int) (h0 : -9223372036854775808 ≤ x) (h1 : x ≤ 9223372036854775807) : IntKind.i64.wrap x = x := by rw [IntKind.wrap_i64]; omega
set_option maxHeartbeats 2000000 in
theorem get_bytes (W : World) (b : Nat) (s : ByteArray) (i left deep : Nat) (n : Nat) (X : Nat) (hs : s.size ≤ 1048576) (hi : i < s.size) (hl0 : 0 < left) (hl : left ≤ 2000) (hd : deep ≤ 14) (h : SR W b s left) (hX : X + n ≤ s.size) (hn : getHead s i = (2, n, (X : Int))) :
    Calls Tryd.prog 24 #[.pointer (some ⟨b, 0, none⟩), .int .i64 i, .int .i64 deep] W fun e w' => e = .returned (.tuple #[.agg #[.int .i64 6, .int .i64 0, .int .i64 0, .string (s.extract X (X + n)), .slice none 0 0], .int .i64 ((X : Int) + n)]) ∧ SR w' b s (left - 1) ∧ W.grownBy w' (some b) := by
  have HA := Lib.hid (h.alloc (.cells #[.int .i64 0, .int .i64 0, .int .i64 0, .string ⟨#[]⟩, .slice none 0 0] 24))
  have hlt := h.lt
  have c0 := HA.out.c0
  have c2 := HA.out.c2
  have fr := HA.out.fr 2
  have HS := Lib.hid ((h.set ((left : Int) - 1)).alloc (.cells #[.int .i64 0, .int .i64 0, .int .i64 0, .string ⟨#[]⟩, .slice none 0 0] 24))
  have HV : Hid (V5 ((W.setCell ⟨b, 2, none⟩ (.int .i64 ((left : Int) - 1))).alloc (.cells #[.int .i64 0, .int .i64 0, .int .i64 0, .string ⟨#[]⟩, .slice none 0 0] 24)) W.heap.size (.int .i64 0) (.int .i64 0) (.int .i64 0) (.string ⟨#[]⟩) (.slice none 0 0)) := by
    have := V5.new (W.setCell ⟨b, 2, none⟩ (.int .i64 ((left : Int) - 1))) (.int .i64 0) (.int .i64 0) (.int .i64 0) (.string ⟨#[]⟩) (.slice none 0 0)
    rwa [val.set_size] at this
  have d0 := HS.out.c0
  have d1 := HS.out.c1
  have d2 := HS.out.c2
  have HO : Hid (W.grownBy ((W.setCell ⟨b, 2, none⟩ (.int .i64 ((left : Int) - 1))).alloc (.cells #[.int .i64 0, .int .i64 0, .int .i64 0, .string ⟨#[]⟩, .slice none 0 0] 24)) (some b)) := only_below (set_only _ _ _ _) ((Below.refl _ _).alloc (Nat.le_refl _) _)
  have CH := Lib.hid (fun W h => spec_head W b s ((left : Int) - 1) i hs h)
  rw [hn] at CH
  unfold triple at CH
  have e0 : -9223372036854775808 ≤ (left : Int) - 1 := by omega
  have e1 : (left : Int) - 1 ≤ 9223372036854775807 := by omega
  have e2 : (s.size : Int) ≤ 1048576 := by omega
  have p0 : ¬ (left : Int) - 1 < 0 := by omega
  have p1 : ¬ (14 : Int) < (deep : Int) := by omega
  have p2 : ¬ (s.size : Int) ≤ (i : Int) := by omega
  have p3 : (i : Int) < (s.size : Int) := by omega
  have p4 : (0 : Int) ≤ (i : Int) := by omega
  have p5 : ¬ (X : Int) < 0 := by omega
  have p6 : ¬ (s.size : Int) - (X : Int) < (n : Int) := by omega
  have p7 : (0 : Int) ≤ (s.size : Int) - (X : Int) := by omega
  have p8 : (X : Int) + (n : Int) ≤ (s.size : Int) := by omega
  have p9 : (0 : Int) ≤ (X : Int) + (n : Int) := by omega
  have p10 : (X : Int) ≤ (X : Int) + (n : Int) := by omega
  have p11 : (n : Int) ≤ 1048576 := by omega
  have p12 : (0 : Int) ≤ (n : Int) := by omega
  have HNUM := Lib.hid (And.intro p6 (And.intro p7 (And.intro p8 (And.intro p9 (And.intro p10 (And.intro p11 (And.intro p12 e2)))))))
  clear p6 p7 p8 p9 p10 p11 p12
  clear h HA hn hl hl0 hd hs hi hX
  go_enter Tryd.func24, Tryd.ntmps24
  go_wp2_with fail
  with_reducible refine (CH.out _ HS.out).mono ?_
  rintro r w1 ⟨rfl, hb⟩
  replace HS := Lib.hid (HS.out.behind hb)
  replace HO := Lib.hid (only_below HO.out hb)
  replace HV := Lib.hid (HV.out.behind hb)
  clear hb CH c0 c2 fr d0 d1 d2 e0 e1 e2
  have hN2 : W.heap.size < w1.heap.size := (Array.getElem?_eq_some_iff.1 HV.out.row).1
  have hNb : b < w1.heap.size := HS.out.lt
  have HL := Lib.hid (V5.new w1 (.int .i64 0) (.int .i64 0) (.int .i64 0) (.string ⟨#[]⟩) (.slice none 0 0))
  have HS2 := Lib.hid (HS.out.alloc (.cells #[.int .i64 0, .int .i64 0, .int .i64 0, .string ⟨#[]⟩, .slice none 0 0] 24))
  have HO2 := Lib.hid (only_below HO.out ((Below.refl _ _).alloc (Nat.le_refl _) (.cells #[.int .i64 0, .int .i64 0, .int .i64 0, .string ⟨#[]⟩, .slice none 0 0] 24)))
  have HV2 := Lib.hid (HV.out.behind ((Below.refl _ _).alloc (Nat.le_refl _) (.cells #[.int .i64 0, .int .i64 0, .int .i64 0, .string ⟨#[]⟩, .slice none 0 0] 24)))
  obtain ⟨f0, f1, f2⟩ : _ ∧ _ ∧ _ := ⟨HS2.out.c0, HS2.out.c1, HS2.out.c2⟩
  clear HS HO HV
  have hbV : b ≠ W.heap.size := by omega
  go_upto_region 12 with (fail)
  have hN3 : w1.heap.size < (w1.alloc (.cells #[.int .i64 0, .int .i64 0, .int .i64 0, .string ⟨#[]⟩, .slice none 0 0] 24)).heap.size := by simp
  generalize w1.alloc (.cells #[.int .i64 0, .int .i64 0, .int .i64 0, .string ⟨#[]⟩, .slice none 0 0] 24) = WA at *
  generalize w1.heap.size = N2 at *
  clear f1 f2 p0 p1 p2 p5
  obtain ⟨p6, p7, p8, p9, p10, p11, p12, p13⟩ := HNUM.out
  clear HNUM
  have r0 : -9223372036854775808 ≤ (n : Int) := by omega
  have r1 : (n : Int) ≤ 9223372036854775807 := by omega
  have r2 : -9223372036854775808 ≤ (X : Int) + (n : Int) := by omega
  have r3 : (X : Int) + (n : Int) ≤ 9223372036854775807 := by omega
  have w6 := Lib.hid (wrapI4 (n : Int) r0 r1)
  have w4 := Lib.hid (wrap644 _ r2 r3)
  have w7 := Lib.hid (wrap644 _ r0 r1)
  have w0 : IntKind.i64.wrap ((s.size : Int) - (X : Int)) = (s.size : Int) - (X : Int) := wrapI4 _ (by omega) (by omega)
  have w1x : IntKind.u64.wrap ((s.size : Int) - (X : Int)) = (s.size : Int) - (X : Int) := wrapU _ (by omega) (by omega)
  have w2 : IntKind.u64.wrap (IntKind.i64.wrap ((s.size : Int) - (X : Int))) = (s.size : Int) - (X : Int) := by rw [w0, w1x]
  have w3 : IntKind.i64.wrap ((X : Int) + (n : Int)) = (X : Int) + (n : Int) := wrapI4 _ (by omega) (by omega)
  obtain ⟨l0, l1, l2, l3, l4, lf⟩ := HL.out.c
  go_upto_region 21 with (fail)
  clear w0 w1x w2 p6 p7
  replace w4 := w4.out
  replace w6 := w6.out
  replace w7 := w7.out
  have hb1 : b < WA.heap.size := HS2.out.lt
  have hb2 : N2 < WA.heap.size := by omega
  have hAL := (Below.refl WA.heap.size WA).alloc (Nat.le_refl _) (.cells #[.int .i64 6, .int .i64 5] 3)
  have HSA := Lib.hid (HS2.out.behind hAL)
  have HLA := Lib.hid (HL.out.behind hAL)
  have fa := HSA.out.c0
  obtain ⟨m0, m1, m2, m3, m4, mf⟩ := HLA.out.c
  have hlN : W.heap.size ≠ N2 := by have := hN2; omega
  have hbN : b ≠ N2 := by omega
  have HLP := Lib.hid (HL.out.put (.int .i64 6) (.int .i64 0) (.int .i64 0) (.string (s.extract X (X + n))) (.slice none 0 0))
  have HSP := Lib.hid (sr_put HS2.out (N := N2) hbN (.int .i64 6) (.int .i64 0) (.int .i64 0) (.string (s.extract X (X + n))) (.slice none 0 0))
  have HOP := Lib.hid (only_put HO2.out (Nat.le_of_lt hN2) (.int .i64 6) (.int .i64 0) (.int .i64 0) (.string (s.extract X (X + n))) (.slice none 0 0))
  have HVP : Hid (V5 (put5v WA N2 (.int .i64 6) (.int .i64 0) (.int .i64 0) (.string (s.extract X (X + n))) (.slice none 0 0)) W.heap.size (.int .i64 0) (.int .i64 0) (.int .i64 0) (.string ⟨#[]⟩) (.slice none 0 0)) := ⟨(put5v_other _ _ _ _ _ _ _ _ hlN).trans HV2.out.row⟩
  have hBP := (Below.refl (put5v WA N2 (.int .i64 6) (.int .i64 0) (.int .i64 0) (.string (s.extract X (X + n))) (.slice none 0 0)).heap.size (put5v WA N2 (.int .i64 6) (.int .i64 0) (.int .i64 0) (.string (s.extract X (X + n))) (.slice none 0 0))).alloc (Nat.le_refl _) (.cells #[.int .i64 6, .int .i64 5] 3)
  have HL4 : Hid (V5 ((put5v WA N2 (.int .i64 6) (.int .i64 0) (.int .i64 0) (.string (s.extract X (X + n))) (.slice none 0 0)).alloc (.cells #[.int .i64 6, .int .i64 5] 3)).drew N2 (.int .i64 6) (.int .i64 0) (.int .i64 0) (.string (s.extract X (X + n))) (.slice none 0 0)) := ⟨(HLP.out.behind hBP).row⟩
  have HS4 : Hid (SR ((put5v WA N2 (.int .i64 6) (.int .i64 0) (.int .i64 0) (.string (s.extract X (X + n))) (.slice none 0 0)).alloc (.cells #[.int .i64 6, .int .i64 5] 3)).drew b s ((left : Int) - 1)) := (HSP.out.behind hBP).drew
  have HO4 : Hid (W.grownBy ((put5v WA N2 (.int .i64 6) (.int .i64 0) (.int .i64 0) (.string (s.extract X (X + n))) (.slice none 0 0)).alloc (.cells #[.int .i64 6, .int .i64 5] 3)).drew (some b)) := only_below HOP.out ⟨rfl, rfl, rfl, hBP.size, hBP.block⟩
  have HV4 : Hid (V5 ((put5v WA N2 (.int .i64 6) (.int .i64 0) (.int .i64 0) (.string (s.extract X (X + n))) (.slice none 0 0)).alloc (.cells #[.int .i64 6, .int .i64 5] 3)).drew W.heap.size (.int .i64 0) (.int .i64 0) (.int .i64 0) (.string ⟨#[]⟩) (.slice none 0 0)) := ⟨(HVP.out.behind hBP).row⟩
  have hWN : W.heap.size ≤ W.heap.size := Nat.le_refl _
  clear hlt HL HS2 HO2 HV2 r0 r1 r2 r3 hAL HSA HLA HLP HSP HOP HVP hBP hlN hbN
  go_region
  all_goals
    unfold put5v at HL4 HS4 HO4 HV4
    generalize ((((((WA.setCell ⟨N2, 0, none⟩ (.int .i64 6)).setCell ⟨N2, 1, none⟩ (.int .i64 0)).setCell ⟨N2, 2, none⟩ (.int .i64 0)).setCell ⟨N2, 3, none⟩ (.string (s.extract X (X + n)))).setCell ⟨N2, 4, none⟩ (.slice none 0 0)).alloc (.cells #[.int .i64 6, .int .i64 5] 3)).drew = WB at *
    clear fa f0 l0 l1 l2 l3 l4 lf m0 m1 m2 m3 m4 mf hb1 hb2 p8 p9 p10 p11 p12 p13 w3 w6
    obtain ⟨q0, q1, q2, q3, q4, qf⟩ := HV4.out.c
    obtain ⟨y0, y1, y2, y3, y4, yf⟩ := HL4.out.c
    have hbW := HS4.out.lt
    have HF := Lib.hid (HV4.out.put (.int .i64 6) (.int .i64 0) (.int .i64 0) (.string (s.extract X (X + n))) (.slice none 0 0))
    have HSF := Lib.hid (sr_put HS4.out (N := W.heap.size) hbV (.int .i64 6) (.int .i64 0) (.int .i64 0) (.string (s.extract X (X + n))) (.slice none 0 0))
    have HOF := Lib.hid (only_put HO4.out hWN (.int .i64 6) (.int .i64 0) (.int .i64 0) (.string (s.extract X (X + n))) (.slice none 0 0))
    obtain ⟨k0, k1, k2, k3, k4, _⟩ := HF.out.c
    clear HF HV4 HS4 HO4 HL4
    unfold put5v at k0 k1 k2 k3 k4 HSF HOF
    go_wp2
    refine bodyPost_ret (v := .tuple #[.agg #[.int .i64 6, .int .i64 0, .int .i64 0, .string (s.extract X (X + n)), .slice none 0 0], .int .i64 ((X : Int) + n)]) (by simp [results, Tryd.results24, go_sem, k0, k1, k2, k3, k4, w7, w4]) rfl ?_
    exact ⟨rfl, HSF.out, HOF.out⟩
set_option maxHeartbeats 2000000 in
theorem get_text (W : World) (b : Nat) (s : ByteArray) (i left deep : Nat) (n : Nat) (X : Nat) (hs : s.size ≤ 1048576) (hi : i < s.size) (hl0 : 0 < left) (hl : left ≤ 2000) (hd : deep ≤ 14) (h : SR W b s left) (hX : X + n ≤ s.size) (hn : getHead s i = (3, n, (X : Int))) :
    Calls Tryd.prog 24 #[.pointer (some ⟨b, 0, none⟩), .int .i64 i, .int .i64 deep] W fun e w' => e = .returned (.tuple #[.agg #[.int .i64 5, .int .i64 0, .int .i64 0, .string (s.extract X (X + n)), .slice none 0 0], .int .i64 ((X : Int) + n)]) ∧ SR w' b s (left - 1) ∧ W.grownBy w' (some b) := by
  have HA := Lib.hid (h.alloc (.cells #[.int .i64 0, .int .i64 0, .int .i64 0, .string ⟨#[]⟩, .slice none 0 0] 24))
  have hlt := h.lt
  have c0 := HA.out.c0
  have c2 := HA.out.c2
  have fr := HA.out.fr 2
  have HS := Lib.hid ((h.set ((left : Int) - 1)).alloc (.cells #[.int .i64 0, .int .i64 0, .int .i64 0, .string ⟨#[]⟩, .slice none 0 0] 24))
  have HV : Hid (V5 ((W.setCell ⟨b, 2, none⟩ (.int .i64 ((left : Int) - 1))).alloc (.cells #[.int .i64 0, .int .i64 0, .int .i64 0, .string ⟨#[]⟩, .slice none 0 0] 24)) W.heap.size (.int .i64 0) (.int .i64 0) (.int .i64 0) (.string ⟨#[]⟩) (.slice none 0 0)) := by
    have := V5.new (W.setCell ⟨b, 2, none⟩ (.int .i64 ((left : Int) - 1))) (.int .i64 0) (.int .i64 0) (.int .i64 0) (.string ⟨#[]⟩) (.slice none 0 0)
    rwa [val.set_size] at this
  have d0 := HS.out.c0
  have d1 := HS.out.c1
  have d2 := HS.out.c2
  have HO : Hid (W.grownBy ((W.setCell ⟨b, 2, none⟩ (.int .i64 ((left : Int) - 1))).alloc (.cells #[.int .i64 0, .int .i64 0, .int .i64 0, .string ⟨#[]⟩, .slice none 0 0] 24)) (some b)) := only_below (set_only _ _ _ _) ((Below.refl _ _).alloc (Nat.le_refl _) _)
  have CH := Lib.hid (fun W h => spec_head W b s ((left : Int) - 1) i hs h)
  rw [hn] at CH
  unfold triple at CH
  have e0 : -9223372036854775808 ≤ (left : Int) - 1 := by omega
  have e1 : (left : Int) - 1 ≤ 9223372036854775807 := by omega
  have e2 : (s.size : Int) ≤ 1048576 := by omega
  have p0 : ¬ (left : Int) - 1 < 0 := by omega
  have p1 : ¬ (14 : Int) < (deep : Int) := by omega
  have p2 : ¬ (s.size : Int) ≤ (i : Int) := by omega
  have p3 : (i : Int) < (s.size : Int) := by omega
  have p4 : (0 : Int) ≤ (i : Int) := by omega
  have p5 : ¬ (X : Int) < 0 := by omega
  have p6 : ¬ (s.size : Int) - (X : Int) < (n : Int) := by omega
  have p7 : (0 : Int) ≤ (s.size : Int) - (X : Int) := by omega
  have p8 : (X : Int) + (n : Int) ≤ (s.size : Int) := by omega
  have p9 : (0 : Int) ≤ (X : Int) + (n : Int) := by omega
  have p10 : (X : Int) ≤ (X : Int) + (n : Int) := by omega
  have p11 : (n : Int) ≤ 1048576 := by omega
  have p12 : (0 : Int) ≤ (n : Int) := by omega
  have HNUM := Lib.hid (And.intro p6 (And.intro p7 (And.intro p8 (And.intro p9 (And.intro p10 (And.intro p11 (And.intro p12 e2)))))))
  clear p6 p7 p8 p9 p10 p11 p12
  clear h HA hn hl hl0 hd hs hi hX
  go_enter Tryd.func24, Tryd.ntmps24
  go_wp2_with fail
  with_reducible refine (CH.out _ HS.out).mono ?_
  rintro r w1 ⟨rfl, hb⟩
  replace HS := Lib.hid (HS.out.behind hb)
  replace HO := Lib.hid (only_below HO.out hb)
  replace HV := Lib.hid (HV.out.behind hb)
  clear hb CH c0 c2 fr d0 d1 d2 e0 e1 e2
  have hN2 : W.heap.size < w1.heap.size := (Array.getElem?_eq_some_iff.1 HV.out.row).1
  have hNb : b < w1.heap.size := HS.out.lt
  have HL := Lib.hid (V5.new w1 (.int .i64 0) (.int .i64 0) (.int .i64 0) (.string ⟨#[]⟩) (.slice none 0 0))
  have HS2 := Lib.hid (HS.out.alloc (.cells #[.int .i64 0, .int .i64 0, .int .i64 0, .string ⟨#[]⟩, .slice none 0 0] 24))
  have HO2 := Lib.hid (only_below HO.out ((Below.refl _ _).alloc (Nat.le_refl _) (.cells #[.int .i64 0, .int .i64 0, .int .i64 0, .string ⟨#[]⟩, .slice none 0 0] 24)))
  have HV2 := Lib.hid (HV.out.behind ((Below.refl _ _).alloc (Nat.le_refl _) (.cells #[.int .i64 0, .int .i64 0, .int .i64 0, .string ⟨#[]⟩, .slice none 0 0] 24)))
  obtain ⟨f0, f1, f2⟩ : _ ∧ _ ∧ _ := ⟨HS2.out.c0, HS2.out.c1, HS2.out.c2⟩
  clear HS HO HV
  have hbV : b ≠ W.heap.size := by omega
  go_upto_region 12 with (fail)
  have hN3 : w1.heap.size < (w1.alloc (.cells #[.int .i64 0, .int .i64 0, .int .i64 0, .string ⟨#[]⟩, .slice none 0 0] 24)).heap.size := by simp
  generalize w1.alloc (.cells #[.int .i64 0, .int .i64 0, .int .i64 0, .string ⟨#[]⟩, .slice none 0 0] 24) = WA at *
  generalize w1.heap.size = N2 at *
  clear f1 f2 p0 p1 p2 p5
  obtain ⟨p6, p7, p8, p9, p10, p11, p12, p13⟩ := HNUM.out
  clear HNUM
  have r0 : -9223372036854775808 ≤ (n : Int) := by omega
  have r1 : (n : Int) ≤ 9223372036854775807 := by omega
  have r2 : -9223372036854775808 ≤ (X : Int) + (n : Int) := by omega
  have r3 : (X : Int) + (n : Int) ≤ 9223372036854775807 := by omega
  have w6 := Lib.hid (wrapI4 (n : Int) r0 r1)
  have w4 := Lib.hid (wrap644 _ r2 r3)
  have w7 := Lib.hid (wrap644 _ r0 r1)
  have w0 : IntKind.i64.wrap ((s.size : Int) - (X : Int)) = (s.size : Int) - (X : Int) := wrapI4 _ (by omega) (by omega)
  have w1x : IntKind.u64.wrap ((s.size : Int) - (X : Int)) = (s.size : Int) - (X : Int) := wrapU _ (by omega) (by omega)
  have w2 : IntKind.u64.wrap (IntKind.i64.wrap ((s.size : Int) - (X : Int))) = (s.size : Int) - (X : Int) := by rw [w0, w1x]
  have w3 : IntKind.i64.wrap ((X : Int) + (n : Int)) = (X : Int) + (n : Int) := wrapI4 _ (by omega) (by omega)
  obtain ⟨l0, l1, l2, l3, l4, lf⟩ := HL.out.c
  go_upto_region 21 with (fail)
  clear w0 w1x w2 p6 p7
  replace w4 := w4.out
  replace w6 := w6.out
  replace w7 := w7.out
  have hb1 : b < WA.heap.size := HS2.out.lt
  have hb2 : N2 < WA.heap.size := by omega
  have hAL := (Below.refl WA.heap.size WA).alloc (Nat.le_refl _) (.cells #[.int .i64 6, .int .i64 5] 3)
  have HSA := Lib.hid (HS2.out.behind hAL)
  have HLA := Lib.hid (HL.out.behind hAL)
  have fa := HSA.out.c0
  obtain ⟨m0, m1, m2, m3, m4, mf⟩ := HLA.out.c
  have hlN : W.heap.size ≠ N2 := by have := hN2; omega
  have hbN : b ≠ N2 := by omega
  have HLP := Lib.hid (HL.out.put (.int .i64 5) (.int .i64 0) (.int .i64 0) (.string (s.extract X (X + n))) (.slice none 0 0))
  have HSP := Lib.hid (sr_put HS2.out (N := N2) hbN (.int .i64 5) (.int .i64 0) (.int .i64 0) (.string (s.extract X (X + n))) (.slice none 0 0))
  have HOP := Lib.hid (only_put HO2.out (Nat.le_of_lt hN2) (.int .i64 5) (.int .i64 0) (.int .i64 0) (.string (s.extract X (X + n))) (.slice none 0 0))
  have HVP : Hid (V5 (put5v WA N2 (.int .i64 5) (.int .i64 0) (.int .i64 0) (.string (s.extract X (X + n))) (.slice none 0 0)) W.heap.size (.int .i64 0) (.int .i64 0) (.int .i64 0) (.string ⟨#[]⟩) (.slice none 0 0)) := ⟨(put5v_other _ _ _ _ _ _ _ _ hlN).trans HV2.out.row⟩
  have hBP := (Below.refl (put5v WA N2 (.int .i64 5) (.int .i64 0) (.int .i64 0) (.string (s.extract X (X + n))) (.slice none 0 0)).heap.size (put5v WA N2 (.int .i64 5) (.int .i64 0) (.int .i64 0) (.string (s.extract X (X + n))) (.slice none 0 0))).alloc (Nat.le_refl _) (.cells #[.int .i64 6, .int .i64 5] 3)
  have HL4 : Hid (V5 ((put5v WA N2 (.int .i64 5) (.int .i64 0) (.int .i64 0) (.string (s.extract X (X + n))) (.slice none 0 0)).alloc (.cells #[.int .i64 6, .int .i64 5] 3)).drew N2 (.int .i64 5) (.int .i64 0) (.int .i64 0) (.string (s.extract X (X + n))) (.slice none 0 0)) := ⟨(HLP.out.behind hBP).row⟩
  have HS4 : Hid (SR ((put5v WA N2 (.int .i64 5) (.int .i64 0) (.int .i64 0) (.string (s.extract X (X + n))) (.slice none 0 0)).alloc (.cells #[.int .i64 6, .int .i64 5] 3)).drew b s ((left : Int) - 1)) := (HSP.out.behind hBP).drew
  have HO4 : Hid (W.grownBy ((put5v WA N2 (.int .i64 5) (.int .i64 0) (.int .i64 0) (.string (s.extract X (X + n))) (.slice none 0 0)).alloc (.cells #[.int .i64 6, .int .i64 5] 3)).drew (some b)) := only_below HOP.out ⟨rfl, rfl, rfl, hBP.size, hBP.block⟩
  have HV4 : Hid (V5 ((put5v WA N2 (.int .i64 5) (.int .i64 0) (.int .i64 0) (.string (s.extract X (X + n))) (.slice none 0 0)).alloc (.cells #[.int .i64 6, .int .i64 5] 3)).drew W.heap.size (.int .i64 0) (.int .i64 0) (.int .i64 0) (.string ⟨#[]⟩) (.slice none 0 0)) := ⟨(HVP.out.behind hBP).row⟩
  have hWN : W.heap.size ≤ W.heap.size := Nat.le_refl _
  clear hlt HL HS2 HO2 HV2 r0 r1 r2 r3 hAL HSA HLA HLP HSP HOP HVP hBP hlN hbN
  go_region
  all_goals
    unfold put5v at HL4 HS4 HO4 HV4
    generalize ((((((WA.setCell ⟨N2, 0, none⟩ (.int .i64 5)).setCell ⟨N2, 1, none⟩ (.int .i64 0)).setCell ⟨N2, 2, none⟩ (.int .i64 0)).setCell ⟨N2, 3, none⟩ (.string (s.extract X (X + n)))).setCell ⟨N2, 4, none⟩ (.slice none 0 0)).alloc (.cells #[.int .i64 6, .int .i64 5] 3)).drew = WB at *
    clear fa f0 l0 l1 l2 l3 l4 lf m0 m1 m2 m3 m4 mf hb1 hb2 p8 p9 p10 p11 p12 p13 w3 w6
    obtain ⟨q0, q1, q2, q3, q4, qf⟩ := HV4.out.c
    obtain ⟨y0, y1, y2, y3, y4, yf⟩ := HL4.out.c
    have hbW := HS4.out.lt
    have HF := Lib.hid (HV4.out.put (.int .i64 5) (.int .i64 0) (.int .i64 0) (.string (s.extract X (X + n))) (.slice none 0 0))
    have HSF := Lib.hid (sr_put HS4.out (N := W.heap.size) hbV (.int .i64 5) (.int .i64 0) (.int .i64 0) (.string (s.extract X (X + n))) (.slice none 0 0))
    have HOF := Lib.hid (only_put HO4.out hWN (.int .i64 5) (.int .i64 0) (.int .i64 0) (.string (s.extract X (X + n))) (.slice none 0 0))
    obtain ⟨k0, k1, k2, k3, k4, _⟩ := HF.out.c
    clear HF HV4 HS4 HO4 HL4
    unfold put5v at k0 k1 k2 k3 k4 HSF HOF
    go_wp2
    refine bodyPost_ret (v := .tuple #[.agg #[.int .i64 5, .int .i64 0, .int .i64 0, .string (s.extract X (X + n)), .slice none 0 0], .int .i64 ((X : Int) + n)]) (by simp [results, Tryd.results24, go_sem, k0, k1, k2, k3, k4, w7, w4]) rfl ?_
    exact ⟨rfl, HSF.out, HOF.out⟩
end Go.Proofs.YtnaghafmpncdkaaDoor.cbor
