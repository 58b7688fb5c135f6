/-
  spec.l05Get at the heads of numbers and words.
-/
import Derived.Test.YtnaghafmpncdkaaDoorGetCborJ30
namespace Go.Proofs.YtnaghafmpncdkaaDoor.cbor
open Go.ChangeShapes Go.WideShapes Go.ChangeAt Go.RowKit
open Go.Proofs.YtnaghafmpncdkaaDoor.val Go.Proofs.YtnaghafmpncdkaaDoor.head
set_option maxRecDepth 100000

set_option maxHeartbeats 2000000 in
theorem get_nat (W : World) (b : Nat) (s : ByteArray) (i left deep : Nat) (n : Nat) (X : Int) (hs : s.size ≤ 1048576) (hi : i < s.size) (hl0 : 0 < left) (hl : left ≤ 2000) (hd : deep ≤ 14) (h : SR W b s left) (hX : 0 ≤ X) (hn : getHead s i = (0, n, X)) (hw : n ≤ 9223372036854775807) :
    Calls Tryd.prog 24 #[.pointer (some ⟨b, 0, none⟩), .int .i64 i, .int .i64 deep] W fun e w' => e = .returned (.tuple #[.agg #[.int .i64 3, .int .i64 n, .int .i64 0, .string ⟨#[]⟩, .slice none 0 0], .int .i64 X]) ∧ SR w' b s (left - 1) ∧ W.grownBy w' (some b) := by
  have HA := Lib.hid (h.alloc (.cells #[.int .i64 0, .int .i64 0, .int .i64 0, .string ⟨#[]⟩, .slice none 0 0] 24))
  have hlt := h.lt
  have c0 := HA.out.c0
  have c2 := HA.out.c2
  have fr := HA.out.fr 2
  have HS := Lib.hid ((h.set ((left : Int) - 1)).alloc (.cells #[.int .i64 0, .int .i64 0, .int .i64 0, .string ⟨#[]⟩, .slice none 0 0] 24))
  have HV : Hid (V5 ((W.setCell ⟨b, 2, none⟩ (.int .i64 ((left : Int) - 1))).alloc (.cells #[.int .i64 0, .int .i64 0, .int .i64 0, .string ⟨#[]⟩, .slice none 0 0] 24)) W.heap.size (.int .i64 0) (.int .i64 0) (.int .i64 0) (.string ⟨#[]⟩) (.slice none 0 0)) := by
    have := V5.new (W.setCell ⟨b, 2, none⟩ (.int .i64 ((left : Int) - 1))) (.int .i64 0) (.int .i64 0) (.int .i64 0) (.string ⟨#[]⟩) (.slice none 0 0)
    rwa [val.set_size] at this
  have d0 := HS.out.c0
  have d1 := HS.out.c1
  have d2 := HS.out.c2
  have HO : Hid (W.grownBy ((W.setCell ⟨b, 2, none⟩ (.int .i64 ((left : Int) - 1))).alloc (.cells #[.int .i64 0, .int .i64 0, .int .i64 0, .string ⟨#[]⟩, .slice none 0 0] 24)) (some b)) := only_below (set_only _ _ _ _) ((Below.refl _ _).alloc (Nat.le_refl _) _)
  have CH := Lib.hid (fun W h => spec_head W b s ((left : Int) - 1) i hs h)
  rw [hn] at CH
  unfold triple at CH
  have e0 : -9223372036854775808 ≤ (left : Int) - 1 := by omega
  have e1 : (left : Int) - 1 ≤ 9223372036854775807 := by omega
  have e2 : (s.size : Int) ≤ 1048576 := by omega
  have p0 : ¬ (left : Int) - 1 < 0 := by omega
  have p1 : ¬ (14 : Int) < (deep : Int) := by omega
  have p2 : ¬ (s.size : Int) ≤ (i : Int) := by omega
  have p3 : (i : Int) < (s.size : Int) := by omega
  have p4 : (0 : Int) ≤ (i : Int) := by omega
  have p5 : ¬ (X : Int) < 0 := by omega
  clear h HA hn hl hl0 hd hs hi hX
  have CW : Hid (∀ W, Calls Tryd.prog 47 #[.int .i64 0, .int .u64 n] W fun e w' => e = .returned (.tuple #[.agg #[.int .i64 3, .int .i64 n, .int .i64 0, .string ⟨#[]⟩, .slice none 0 0], .bool true]) ∧ Below W.heap.size W w') := fun W => whole_yes 0 n (.inl rfl) hw W
  clear hw
  go_enter Tryd.func24, Tryd.ntmps24
  go_wp2_with fail
  with_reducible refine (CH.out _ HS.out).mono ?_
  rintro r w1 ⟨rfl, hb⟩
  replace HS := Lib.hid (HS.out.behind hb)
  replace HO := Lib.hid (only_below HO.out hb)
  replace HV := Lib.hid (HV.out.behind hb)
  clear hb CH c0 c2 fr d0 d1 d2 e0 e1 e2
  generalize hz : (n : Int) = z at *
  replace hz := Lib.hid hz
  have hN2 : W.heap.size < w1.heap.size := (Array.getElem?_eq_some_iff.1 HV.out.row).1
  have hNb : b < w1.heap.size := HS.out.lt
  have HL := Lib.hid (V5.new w1 (.int .i64 0) (.int .i64 0) (.int .i64 0) (.string ⟨#[]⟩) (.slice none 0 0))
  replace HS := Lib.hid (HS.out.alloc (.cells #[.int .i64 0, .int .i64 0, .int .i64 0, .string ⟨#[]⟩, .slice none 0 0] 24))
  replace HO := Lib.hid (only_below HO.out ((Below.refl _ _).alloc (Nat.le_refl _) (.cells #[.int .i64 0, .int .i64 0, .int .i64 0, .string ⟨#[]⟩, .slice none 0 0] 24)))
  replace HV := Lib.hid (HV.out.behind ((Below.refl _ _).alloc (Nat.le_refl _) (.cells #[.int .i64 0, .int .i64 0, .int .i64 0, .string ⟨#[]⟩, .slice none 0 0] 24)))
  go_wp2_with fail
  with_reducible refine (CW.out _).mono ?_
  rintro r w2 ⟨rfl, hb2⟩
  replace HS := Lib.hid (HS.out.behind hb2)
  replace HO := Lib.hid (only_below HO.out hb2)
  replace HV := Lib.hid (HV.out.behind hb2)
  replace HL := Lib.hid (HL.out.behind hb2)
  clear hb2 CW
  generalize w1.heap.size = N2 at *
  obtain ⟨q0, q1, q2, q3, q4, qf⟩ := HV.out.c
  obtain ⟨l0, l1, l2, l3, l4, lf⟩ := HL.out.c
  have HLF := Lib.hid (HL.out.put (.int .i64 3) (.int .i64 z) (.int .i64 0) (.string ⟨#[]⟩) (.slice none 0 0))
  obtain ⟨y0, y1, y2, y3, y4, yf⟩ := HLF.out.c
  have HV2 : Hid (V5 (put5v w2 N2 (.int .i64 3) (.int .i64 z) (.int .i64 0) (.string ⟨#[]⟩) (.slice none 0 0)) W.heap.size (.int .i64 0) (.int .i64 0) (.int .i64 0) (.string ⟨#[]⟩) (.slice none 0 0)) := ⟨(put5v_other _ _ _ _ _ _ _ _ (by omega)).trans HV.out.row⟩
  have HF := Lib.hid (HV2.out.put (.int .i64 3) (.int .i64 z) (.int .i64 0) (.string ⟨#[]⟩) (.slice none 0 0))
  have HSF := Lib.hid (sr_put (sr_put HS.out (N := N2) (by omega) (.int .i64 3) (.int .i64 z) (.int .i64 0) (.string ⟨#[]⟩) (.slice none 0 0)) (N := W.heap.size) (by omega) (.int .i64 3) (.int .i64 z) (.int .i64 0) (.string ⟨#[]⟩) (.slice none 0 0))
  have HOF := Lib.hid (only_put (only_put HO.out (Nat.le_of_lt hN2) (.int .i64 3) (.int .i64 z) (.int .i64 0) (.string ⟨#[]⟩) (.slice none 0 0)) (Nat.le_refl _) (.int .i64 3) (.int .i64 z) (.int .i64 0) (.string ⟨#[]⟩) (.slice none 0 0))
  obtain ⟨k0, k1, k2, k3, k4, _⟩ := HF.out.c
  clear HF HV HS HO HL HLF HV2
  unfold put5v at k0 k1 k2 k3 k4 HSF HOF y0 y1 y2 y3 y4 yf
  go_wp2
  refine bodyPost_ret (v := .tuple #[.agg #[.int .i64 3, .int .i64 z, .int .i64 0, .string ⟨#[]⟩, .slice none 0 0], .int .i64 X]) (by simp [results, Tryd.results24, go_sem, k0, k1, k2, k3, k4]) rfl ?_
  exact ⟨by first | rfl | (rw [hz.out]), HSF.out, HOF.out⟩
set_option maxHeartbeats 2000000 in
theorem get_neg (W : World) (b : Nat) (s : ByteArray) (i left deep : Nat) (n : Nat) (X : Int) (hs : s.size ≤ 1048576) (hi : i < s.size) (hl0 : 0 < left) (hl : left ≤ 2000) (hd : deep ≤ 14) (h : SR W b s left) (hX : 0 ≤ X) (hn : getHead s i = (1, n, X)) (hw : n ≤ 9223372036854775807) :
    Calls Tryd.prog 24 #[.pointer (some ⟨b, 0, none⟩), .int .i64 i, .int .i64 deep] W fun e w' => e = .returned (.tuple #[.agg #[.int .i64 3, .int .i64 (-1 - (n : Int)), .int .i64 0, .string ⟨#[]⟩, .slice none 0 0], .int .i64 X]) ∧ SR w' b s (left - 1) ∧ W.grownBy w' (some b) := by
  have HA := Lib.hid (h.alloc (.cells #[.int .i64 0, .int .i64 0, .int .i64 0, .string ⟨#[]⟩, .slice none 0 0] 24))
  have hlt := h.lt
  have c0 := HA.out.c0
  have c2 := HA.out.c2
  have fr := HA.out.fr 2
  have HS := Lib.hid ((h.set ((left : Int) - 1)).alloc (.cells #[.int .i64 0, .int .i64 0, .int .i64 0, .string ⟨#[]⟩, .slice none 0 0] 24))
  have HV : Hid (V5 ((W.setCell ⟨b, 2, none⟩ (.int .i64 ((left : Int) - 1))).alloc (.cells #[.int .i64 0, .int .i64 0, .int .i64 0, .string ⟨#[]⟩, .slice none 0 0] 24)) W.heap.size (.int .i64 0) (.int .i64 0) (.int .i64 0) (.string ⟨#[]⟩) (.slice none 0 0)) := by
    have := V5.new (W.setCell ⟨b, 2, none⟩ (.int .i64 ((left : Int) - 1))) (.int .i64 0) (.int .i64 0) (.int .i64 0) (.string ⟨#[]⟩) (.slice none 0 0)
    rwa [val.set_size] at this
  have d0 := HS.out.c0
  have d1 := HS.out.c1
  have d2 := HS.out.c2
  have HO : Hid (W.grownBy ((W.setCell ⟨b, 2, none⟩ (.int .i64 ((left : Int) - 1))).alloc (.cells #[.int .i64 0, .int .i64 0, .int .i64 0, .string ⟨#[]⟩, .slice none 0 0] 24)) (some b)) := only_below (set_only _ _ _ _) ((Below.refl _ _).alloc (Nat.le_refl _) _)
  have CH := Lib.hid (fun W h => spec_head W b s ((left : Int) - 1) i hs h)
  rw [hn] at CH
  unfold triple at CH
  have e0 : -9223372036854775808 ≤ (left : Int) - 1 := by omega
  have e1 : (left : Int) - 1 ≤ 9223372036854775807 := by omega
  have e2 : (s.size : Int) ≤ 1048576 := by omega
  have p0 : ¬ (left : Int) - 1 < 0 := by omega
  have p1 : ¬ (14 : Int) < (deep : Int) := by omega
  have p2 : ¬ (s.size : Int) ≤ (i : Int) := by omega
  have p3 : (i : Int) < (s.size : Int) := by omega
  have p4 : (0 : Int) ≤ (i : Int) := by omega
  have p5 : ¬ (X : Int) < 0 := by omega
  clear h HA hn hl hl0 hd hs hi hX
  have CW : Hid (∀ W, Calls Tryd.prog 47 #[.int .i64 1, .int .u64 n] W fun e w' => e = .returned (.tuple #[.agg #[.int .i64 3, .int .i64 (-1 - (n : Int)), .int .i64 0, .string ⟨#[]⟩, .slice none 0 0], .bool true]) ∧ Below W.heap.size W w') := fun W => whole_yes 1 n (.inr rfl) hw W
  clear hw
  go_enter Tryd.func24, Tryd.ntmps24
  go_wp2_with fail
  with_reducible refine (CH.out _ HS.out).mono ?_
  rintro r w1 ⟨rfl, hb⟩
  replace HS := Lib.hid (HS.out.behind hb)
  replace HO := Lib.hid (only_below HO.out hb)
  replace HV := Lib.hid (HV.out.behind hb)
  clear hb CH c0 c2 fr d0 d1 d2 e0 e1 e2
  generalize hz : -1 - (n : Int) = z at *
  replace hz := Lib.hid hz
  have hN2 : W.heap.size < w1.heap.size := (Array.getElem?_eq_some_iff.1 HV.out.row).1
  have hNb : b < w1.heap.size := HS.out.lt
  have HL := Lib.hid (V5.new w1 (.int .i64 0) (.int .i64 0) (.int .i64 0) (.string ⟨#[]⟩) (.slice none 0 0))
  replace HS := Lib.hid (HS.out.alloc (.cells #[.int .i64 0, .int .i64 0, .int .i64 0, .string ⟨#[]⟩, .slice none 0 0] 24))
  replace HO := Lib.hid (only_below HO.out ((Below.refl _ _).alloc (Nat.le_refl _) (.cells #[.int .i64 0, .int .i64 0, .int .i64 0, .string ⟨#[]⟩, .slice none 0 0] 24)))
  replace HV := Lib.hid (HV.out.behind ((Below.refl _ _).alloc (Nat.le_refl _) (.cells #[.int .i64 0, .int .i64 0, .int .i64 0, .string ⟨#[]⟩, .slice none 0 0] 24)))
  go_wp2_with fail
  with_reducible refine (CW.out _).mono ?_
  rintro r w2 ⟨rfl, hb2⟩
  replace HS := Lib.hid (HS.out.behind hb2)
  replace HO := Lib.hid (only_below HO.out hb2)
  replace HV := Lib.hid (HV.out.behind hb2)
  replace HL := Lib.hid (HL.out.behind hb2)
  clear hb2 CW
  generalize w1.heap.size = N2 at *
  obtain ⟨q0, q1, q2, q3, q4, qf⟩ := HV.out.c
  obtain ⟨l0, l1, l2, l3, l4, lf⟩ := HL.out.c
  have HLF := Lib.hid (HL.out.put (.int .i64 3) (.int .i64 z) (.int .i64 0) (.string ⟨#[]⟩) (.slice none 0 0))
  obtain ⟨y0, y1, y2, y3, y4, yf⟩ := HLF.out.c
  have HV2 : Hid (V5 (put5v w2 N2 (.int .i64 3) (.int .i64 z) (.int .i64 0) (.string ⟨#[]⟩) (.slice none 0 0)) W.heap.size (.int .i64 0) (.int .i64 0) (.int .i64 0) (.string ⟨#[]⟩) (.slice none 0 0)) := ⟨(put5v_other _ _ _ _ _ _ _ _ (by omega)).trans HV.out.row⟩
  have HF := Lib.hid (HV2.out.put (.int .i64 3) (.int .i64 z) (.int .i64 0) (.string ⟨#[]⟩) (.slice none 0 0))
  have HSF := Lib.hid (sr_put (sr_put HS.out (N := N2) (by omega) (.int .i64 3) (.int .i64 z) (.int .i64 0) (.string ⟨#[]⟩) (.slice none 0 0)) (N := W.heap.size) (by omega) (.int .i64 3) (.int .i64 z) (.int .i64 0) (.string ⟨#[]⟩) (.slice none 0 0))
  have HOF := Lib.hid (only_put (only_put HO.out (Nat.le_of_lt hN2) (.int .i64 3) (.int .i64 z) (.int .i64 0) (.string ⟨#[]⟩) (.slice none 0 0)) (Nat.le_refl _) (.int .i64 3) (.int .i64 z) (.int .i64 0) (.string ⟨#[]⟩) (.slice none 0 0))
  obtain ⟨k0, k1, k2, k3, k4, _⟩ := HF.out.c
  clear HF HV HS HO HL HLF HV2
  unfold put5v at k0 k1 k2 k3 k4 HSF HOF y0 y1 y2 y3 y4 yf
  go_wp2
  refine bodyPost_ret (v := .tuple #[.agg #[.int .i64 3, .int .i64 z, .int .i64 0, .string ⟨#[]⟩, .slice none 0 0], .int .i64 X]) (by simp [results, Tryd.results24, go_sem, k0, k1, k2, k3, k4]) rfl ?_
  exact ⟨by first | rfl | (rw [hz.out]), HSF.out, HOF.out⟩
set_option maxHeartbeats 2000000 in
theorem get_big0 (W : World) (b : Nat) (s : ByteArray) (i left deep : Nat) (n : Nat) (X : Int) (hs : s.size ≤ 1048576) (hi : i < s.size) (hl0 : 0 < left) (hl : left ≤ 2000) (hd : deep ≤ 14) (h : SR W b s left) (hX : 0 ≤ X) (hn : getHead s i = (0, n, X)) (hw : 9223372036854775807 < n) :
    Calls Tryd.prog 24 #[.pointer (some ⟨b, 0, none⟩), .int .i64 i, .int .i64 deep] W fun e w' => e = .returned (.tuple #[.agg #[.int .i64 0, .int .i64 0, .int .i64 0, .string ⟨#[]⟩, .slice none 0 0], .int .i64 (-1)]) ∧ SR w' b s (left - 1) ∧ W.grownBy w' (some b) := by
  have HA := Lib.hid (h.alloc (.cells #[.int .i64 0, .int .i64 0, .int .i64 0, .string ⟨#[]⟩, .slice none 0 0] 24))
  have hlt := h.lt
  have c0 := HA.out.c0
  have c2 := HA.out.c2
  have fr := HA.out.fr 2
  have HS := Lib.hid ((h.set ((left : Int) - 1)).alloc (.cells #[.int .i64 0, .int .i64 0, .int .i64 0, .string ⟨#[]⟩, .slice none 0 0] 24))
  have HV : Hid (V5 ((W.setCell ⟨b, 2, none⟩ (.int .i64 ((left : Int) - 1))).alloc (.cells #[.int .i64 0, .int .i64 0, .int .i64 0, .string ⟨#[]⟩, .slice none 0 0] 24)) W.heap.size (.int .i64 0) (.int .i64 0) (.int .i64 0) (.string ⟨#[]⟩) (.slice none 0 0)) := by
    have := V5.new (W.setCell ⟨b, 2, none⟩ (.int .i64 ((left : Int) - 1))) (.int .i64 0) (.int .i64 0) (.int .i64 0) (.string ⟨#[]⟩) (.slice none 0 0)
    rwa [val.set_size] at this
  have d0 := HS.out.c0
  have d1 := HS.out.c1
  have d2 := HS.out.c2
  have HO : Hid (W.grownBy ((W.setCell ⟨b, 2, none⟩ (.int .i64 ((left : Int) - 1))).alloc (.cells #[.int .i64 0, .int .i64 0, .int .i64 0, .string ⟨#[]⟩, .slice none 0 0] 24)) (some b)) := only_below (set_only _ _ _ _) ((Below.refl _ _).alloc (Nat.le_refl _) _)
  have CH := Lib.hid (fun W h => spec_head W b s ((left : Int) - 1) i hs h)
  rw [hn] at CH
  unfold triple at CH
  have e0 : -9223372036854775808 ≤ (left : Int) - 1 := by omega
  have e1 : (left : Int) - 1 ≤ 9223372036854775807 := by omega
  have e2 : (s.size : Int) ≤ 1048576 := by omega
  have p0 : ¬ (left : Int) - 1 < 0 := by omega
  have p1 : ¬ (14 : Int) < (deep : Int) := by omega
  have p2 : ¬ (s.size : Int) ≤ (i : Int) := by omega
  have p3 : (i : Int) < (s.size : Int) := by omega
  have p4 : (0 : Int) ≤ (i : Int) := by omega
  have p5 : ¬ (X : Int) < 0 := by omega
  clear h HA hn hl hl0 hd hs hi hX
  have CW : Hid (∀ W, Calls Tryd.prog 47 #[.int .i64 0, .int .u64 n] W fun e w' => e = .returned (.tuple #[.agg #[.int .i64 0, .int .i64 0, .int .i64 0, .string ⟨#[]⟩, .slice none 0 0], .bool false]) ∧ Below W.heap.size W w') := fun W => whole_no 0 n hw W
  clear hw
  go_enter Tryd.func24, Tryd.ntmps24
  go_wp2_with fail
  with_reducible refine (CH.out _ HS.out).mono ?_
  rintro r w1 ⟨rfl, hb⟩
  replace HS := Lib.hid (HS.out.behind hb)
  replace HO := Lib.hid (only_below HO.out hb)
  replace HV := Lib.hid (HV.out.behind hb)
  clear hb CH c0 c2 fr d0 d1 d2 e0 e1 e2
  have hN2 : W.heap.size < w1.heap.size := (Array.getElem?_eq_some_iff.1 HV.out.row).1
  have hNb : b < w1.heap.size := HS.out.lt
  have HL := Lib.hid (V5.new w1 (.int .i64 0) (.int .i64 0) (.int .i64 0) (.string ⟨#[]⟩) (.slice none 0 0))
  replace HS := Lib.hid (HS.out.alloc (.cells #[.int .i64 0, .int .i64 0, .int .i64 0, .string ⟨#[]⟩, .slice none 0 0] 24))
  replace HO := Lib.hid (only_below HO.out ((Below.refl _ _).alloc (Nat.le_refl _) (.cells #[.int .i64 0, .int .i64 0, .int .i64 0, .string ⟨#[]⟩, .slice none 0 0] 24)))
  replace HV := Lib.hid (HV.out.behind ((Below.refl _ _).alloc (Nat.le_refl _) (.cells #[.int .i64 0, .int .i64 0, .int .i64 0, .string ⟨#[]⟩, .slice none 0 0] 24)))
  go_wp2_with fail
  with_reducible refine (CW.out _).mono ?_
  rintro r w2 ⟨rfl, hb2⟩
  replace HS := Lib.hid (HS.out.behind hb2)
  replace HO := Lib.hid (only_below HO.out hb2)
  replace HV := Lib.hid (HV.out.behind hb2)
  replace HL := Lib.hid (HL.out.behind hb2)
  clear hb2 CW
  generalize w1.heap.size = N2 at *
  obtain ⟨q0, q1, q2, q3, q4, qf⟩ := HV.out.c
  obtain ⟨l0, l1, l2, l3, l4, lf⟩ := HL.out.c
  have HLF := Lib.hid (HL.out.put (.int .i64 0) (.int .i64 0) (.int .i64 0) (.string ⟨#[]⟩) (.slice none 0 0))
  obtain ⟨y0, y1, y2, y3, y4, yf⟩ := HLF.out.c
  have HV2 : Hid (V5 (put5v w2 N2 (.int .i64 0) (.int .i64 0) (.int .i64 0) (.string ⟨#[]⟩) (.slice none 0 0)) W.heap.size (.int .i64 0) (.int .i64 0) (.int .i64 0) (.string ⟨#[]⟩) (.slice none 0 0)) := ⟨(put5v_other _ _ _ _ _ _ _ _ (by omega)).trans HV.out.row⟩
  have HF := Lib.hid (HV2.out.put (.int .i64 0) (.int .i64 0) (.int .i64 0) (.string ⟨#[]⟩) (.slice none 0 0))
  have HSF := Lib.hid (sr_put (sr_put HS.out (N := N2) (by omega) (.int .i64 0) (.int .i64 0) (.int .i64 0) (.string ⟨#[]⟩) (.slice none 0 0)) (N := W.heap.size) (by omega) (.int .i64 0) (.int .i64 0) (.int .i64 0) (.string ⟨#[]⟩) (.slice none 0 0))
  have HOF := Lib.hid (only_put (only_put HO.out (Nat.le_of_lt hN2) (.int .i64 0) (.int .i64 0) (.int .i64 0) (.string ⟨#[]⟩) (.slice none 0 0)) (Nat.le_refl _) (.int .i64 0) (.int .i64 0) (.int .i64 0) (.string ⟨#[]⟩) (.slice none 0 0))
  obtain ⟨k0, k1, k2, k3, k4, _⟩ := HF.out.c
  clear HF HV HS HO HL HLF HV2
  unfold put5v at k0 k1 k2 k3 k4 HSF HOF y0 y1 y2 y3 y4 yf
  go_wp2
  refine bodyPost_ret (v := .tuple #[.agg #[.int .i64 0, .int .i64 0, .int .i64 0, .string ⟨#[]⟩, .slice none 0 0], .int .i64 (-1)]) (by simp [results, Tryd.results24, go_sem, k0, k1, k2, k3, k4]) rfl ?_
  exact ⟨by first | rfl | (rw [hz.out]), HSF.out, HOF.out⟩
set_option maxHeartbeats 2000000 in
theorem get_big1 (W : World) (b : Nat) (s : ByteArray) (i left deep : Nat) (n : Nat) (X : Int) (hs : s.size ≤ 1048576) (hi : i < s.size) (hl0 : 0 < left) (hl : left ≤ 2000) (hd : deep ≤ 14) (h : SR W b s left) (hX : 0 ≤ X) (hn : getHead s i = (1, n, X)) (hw : 9223372036854775807 < n) :
    Calls Tryd.prog 24 #[.pointer (some ⟨b, 0, none⟩), .int .i64 i, .int .i64 deep] W fun e w' => e = .returned (.tuple #[.agg #[.int .i64 0, .int .i64 0, .int .i64 0, .string ⟨#[]⟩, .slice none 0 0], .int .i64 (-1)]) ∧ SR w' b s (left - 1) ∧ W.grownBy w' (some b) := by
  have HA := Lib.hid (h.alloc (.cells #[.int .i64 0, .int .i64 0, .int .i64 0, .string ⟨#[]⟩, .slice none 0 0] 24))
  have hlt := h.lt
  have c0 := HA.out.c0
  have c2 := HA.out.c2
  have fr := HA.out.fr 2
  have HS := Lib.hid ((h.set ((left : Int) - 1)).alloc (.cells #[.int .i64 0, .int .i64 0, .int .i64 0, .string ⟨#[]⟩, .slice none 0 0] 24))
  have HV : Hid (V5 ((W.setCell ⟨b, 2, none⟩ (.int .i64 ((left : Int) - 1))).alloc (.cells #[.int .i64 0, .int .i64 0, .int .i64 0, .string ⟨#[]⟩, .slice none 0 0] 24)) W.heap.size (.int .i64 0) (.int .i64 0) (.int .i64 0) (.string ⟨#[]⟩) (.slice none 0 0)) := by
    have := V5.new (W.setCell ⟨b, 2, none⟩ (.int .i64 ((left : Int) - 1))) (.int .i64 0) (.int .i64 0) (.int .i64 0) (.string ⟨#[]⟩) (.slice none 0 0)
    rwa [val.set_size] at this
  have d0 := HS.out.c0
  have d1 := HS.out.c1
  have d2 := HS.out.c2
  have HO : Hid (W.grownBy ((W.setCell ⟨b, 2, none⟩ (.int .i64 ((left : Int) - 1))).alloc (.cells #[.int .i64 0, .int .i64 0, .int .i64 0, .string ⟨#[]⟩, .slice none 0 0] 24)) (some b)) := only_below (set_only _ _ _ _) ((Below.refl _ _).alloc (Nat.le_refl _) _)
  have CH := Lib.hid (fun W h => spec_head W b s ((left : Int) - 1) i hs h)
  rw [hn] at CH
  unfold triple at CH
  have e0 : -9223372036854775808 ≤ (left : Int) - 1 := by omega
  have e1 : (left : Int) - 1 ≤ 9223372036854775807 := by omega
  have e2 : (s.size : Int) ≤ 1048576 := by omega
  have p0 : ¬ (left : Int) - 1 < 0 := by omega
  have p1 : ¬ (14 : Int) < (deep : Int) := by omega
  have p2 : ¬ (s.size : Int) ≤ (i : Int) := by omega
  have p3 : (i : Int) < (s.size : Int) := by omega
  have p4 : (0 : Int) ≤ (i : Int) := by omega
  have p5 : ¬ (X : Int) < 0 := by omega
  clear h HA hn hl hl0 hd hs hi hX
  have CW : Hid (∀ W, Calls Tryd.prog 47 #[.int .i64 1, .int .u64 n] W fun e w' => e = .returned (.tuple #[.agg #[.int .i64 0, .int .i64 0, .int .i64 0, .string ⟨#[]⟩, .slice none 0 0], .bool false]) ∧ Below W.heap.size W w') := fun W => whole_no 1 n hw W
  clear hw
  go_enter Tryd.func24, Tryd.ntmps24
  go_wp2_with fail
  with_reducible refine (CH.out _ HS.out).mono ?_
  rintro r w1 ⟨rfl, hb⟩
  replace HS := Lib.hid (HS.out.behind hb)
  replace HO := Lib.hid (only_below HO.out hb)
  replace HV := Lib.hid (HV.out.behind hb)
  clear hb CH c0 c2 fr d0 d1 d2 e0 e1 e2
  have hN2 : W.heap.size < w1.heap.size := (Array.getElem?_eq_some_iff.1 HV.out.row).1
  have hNb : b < w1.heap.size := HS.out.lt
  have HL := Lib.hid (V5.new w1 (.int .i64 0) (.int .i64 0) (.int .i64 0) (.string ⟨#[]⟩) (.slice none 0 0))
  replace HS := Lib.hid (HS.out.alloc (.cells #[.int .i64 0, .int .i64 0, .int .i64 0, .string ⟨#[]⟩, .slice none 0 0] 24))
  replace HO := Lib.hid (only_below HO.out ((Below.refl _ _).alloc (Nat.le_refl _) (.cells #[.int .i64 0, .int .i64 0, .int .i64 0, .string ⟨#[]⟩, .slice none 0 0] 24)))
  replace HV := Lib.hid (HV.out.behind ((Below.refl _ _).alloc (Nat.le_refl _) (.cells #[.int .i64 0, .int .i64 0, .int .i64 0, .string ⟨#[]⟩, .slice none 0 0] 24)))
  go_wp2_with fail
  with_reducible refine (CW.out _).mono ?_
  rintro r w2 ⟨rfl, hb2⟩
  replace HS := Lib.hid (HS.out.behind hb2)
  replace HO := Lib.hid (only_below HO.out hb2)
  replace HV := Lib.hid (HV.out.behind hb2)
  replace HL := Lib.hid (HL.out.behind hb2)
  clear hb2 CW
  generalize w1.heap.size = N2 at *
  obtain ⟨q0, q1, q2, q3, q4, qf⟩ := HV.out.c
  obtain ⟨l0, l1, l2, l3, l4, lf⟩ := HL.out.c
  have HLF := Lib.hid (HL.out.put (.int .i64 0) (.int .i64 0) (.int .i64 0) (.string ⟨#[]⟩) (.slice none 0 0))
  obtain ⟨y0, y1, y2, y3, y4, yf⟩ := HLF.out.c
  have HV2 : Hid (V5 (put5v w2 N2 (.int .i64 0) (.int .i64 0) (.int .i64 0) (.string ⟨#[]⟩) (.slice none 0 0)) W.heap.size (.int .i64 0) (.int .i64 0) (.int .i64 0) (.string ⟨#[]⟩) (.slice none 0 0)) := ⟨(put5v_other _ _ _ _ _ _ _ _ (by omega)).trans HV.out.row⟩
  have HF := Lib.hid (HV2.out.put (.int .i64 0) (.int .i64 0) (.int .i64 0) (.string ⟨#[]⟩) (.slice none 0 0))
  have HSF := Lib.hid (sr_put (sr_put HS.out (N := N2) (by omega) (.int .i64 0) (.int .i64 0) (.int .i64 0) (.string ⟨#[]⟩) (.slice none 0 0)) (N := W.heap.size) (by omega) (.int .i64 0) (.int .i64 0) (.int .i64 0) (.string ⟨#[]⟩) (.slice none 0 0))
  have HOF := Lib.hid (only_put (only_put HO.out (Nat.le_of_lt hN2) (.int .i64 0) (.int .i64 0) (.int .i64 0) (.string ⟨#[]⟩) (.slice none 0 0)) (Nat.le_refl _) (.int .i64 0) (.int .i64 0) (.int .i64 0) (.string ⟨#[]⟩) (.slice none 0 0))
  obtain ⟨k0, k1, k2, k3, k4, _⟩ := HF.out.c
  clear HF HV HS HO HL HLF HV2
  unfold put5v at k0 k1 k2 k3 k4 HSF HOF y0 y1 y2 y3 y4 yf
  go_wp2
  refine bodyPost_ret (v := .tuple #[.agg #[.int .i64 0, .int .i64 0, .int .i64 0, .string ⟨#[]⟩, .slice none 0 0], .int .i64 (-1)]) (by simp [results, Tryd.results24, go_sem, k0, k1, k2, k3, k4]) rfl ?_
  exact ⟨by first | rfl | (rw [hz.out]), HSF.out, HOF.out⟩
set_option maxHeartbeats 2000000 in
theorem get_word20 (W : World) (b : Nat) (s : ByteArray) (i left deep : Nat) (n : Nat) (X : Int) (hs : s.size ≤ 1048576) (hi : i < s.size) (hl0 : 0 < left) (hl : left ≤ 2000) (hd : deep ≤ 14) (h : SR W b s left) (hX : 0 ≤ X) (hn : getHead s i = (7, n, X)) (hw : n = 20) :
    Calls Tryd.prog 24 #[.pointer (some ⟨b, 0, none⟩), .int .i64 i, .int .i64 deep] W fun e w' => e = .returned (.tuple #[.agg #[.int .i64 1, .int .i64 0, .int .i64 0, .string ⟨#[]⟩, .slice none 0 0], .int .i64 X]) ∧ SR w' b s (left - 1) ∧ W.grownBy w' (some b) := by
  have HA := Lib.hid (h.alloc (.cells #[.int .i64 0, .int .i64 0, .int .i64 0, .string ⟨#[]⟩, .slice none 0 0] 24))
  have hlt := h.lt
  have c0 := HA.out.c0
  have c2 := HA.out.c2
  have fr := HA.out.fr 2
  have HS := Lib.hid ((h.set ((left : Int) - 1)).alloc (.cells #[.int .i64 0, .int .i64 0, .int .i64 0, .string ⟨#[]⟩, .slice none 0 0] 24))
  have HV : Hid (V5 ((W.setCell ⟨b, 2, none⟩ (.int .i64 ((left : Int) - 1))).alloc (.cells #[.int .i64 0, .int .i64 0, .int .i64 0, .string ⟨#[]⟩, .slice none 0 0] 24)) W.heap.size (.int .i64 0) (.int .i64 0) (.int .i64 0) (.string ⟨#[]⟩) (.slice none 0 0)) := by
    have := V5.new (W.setCell ⟨b, 2, none⟩ (.int .i64 ((left : Int) - 1))) (.int .i64 0) (.int .i64 0) (.int .i64 0) (.string ⟨#[]⟩) (.slice none 0 0)
    rwa [val.set_size] at this
  have d0 := HS.out.c0
  have d1 := HS.out.c1
  have d2 := HS.out.c2
  have HO : Hid (W.grownBy ((W.setCell ⟨b, 2, none⟩ (.int .i64 ((left : Int) - 1))).alloc (.cells #[.int .i64 0, .int .i64 0, .int .i64 0, .string ⟨#[]⟩, .slice none 0 0] 24)) (some b)) := only_below (set_only _ _ _ _) ((Below.refl _ _).alloc (Nat.le_refl _) _)
  have CH := Lib.hid (fun W h => spec_head W b s ((left : Int) - 1) i hs h)
  rw [hn] at CH
  unfold triple at CH
  have e0 : -9223372036854775808 ≤ (left : Int) - 1 := by omega
  have e1 : (left : Int) - 1 ≤ 9223372036854775807 := by omega
  have e2 : (s.size : Int) ≤ 1048576 := by omega
  have p0 : ¬ (left : Int) - 1 < 0 := by omega
  have p1 : ¬ (14 : Int) < (deep : Int) := by omega
  have p2 : ¬ (s.size : Int) ≤ (i : Int) := by omega
  have p3 : (i : Int) < (s.size : Int) := by omega
  have p4 : (0 : Int) ≤ (i : Int) := by omega
  have p5 : ¬ (X : Int) < 0 := by omega
  clear h HA hn hl hl0 hd hs hi hX
  have CW : Hid (∀ W, SR W b s ((left : Int) - 1) → Calls Tryd.prog 50 #[.pointer (some ⟨b, 0, none⟩), .int .u64 n] W fun e w' => e = .returned (.tuple #[.agg #[.int .i64 1, .int .i64 0, .int .i64 0, .string ⟨#[]⟩, .slice none 0 0], .bool true]) ∧ Below W.heap.size W w') := fun W h => by have := spec_simple W b s _ n h; rw [hw] at this; rw [hw]; exact this
  clear hw
  go_enter Tryd.func24, Tryd.ntmps24
  go_wp2_with fail
  with_reducible refine (CH.out _ HS.out).mono ?_
  rintro r w1 ⟨rfl, hb⟩
  replace HS := Lib.hid (HS.out.behind hb)
  replace HO := Lib.hid (only_below HO.out hb)
  replace HV := Lib.hid (HV.out.behind hb)
  clear hb CH c0 c2 fr d0 d1 d2 e0 e1 e2
  have hN2 : W.heap.size < w1.heap.size := (Array.getElem?_eq_some_iff.1 HV.out.row).1
  have hNb : b < w1.heap.size := HS.out.lt
  have HL := Lib.hid (V5.new w1 (.int .i64 0) (.int .i64 0) (.int .i64 0) (.string ⟨#[]⟩) (.slice none 0 0))
  replace HS := Lib.hid (HS.out.alloc (.cells #[.int .i64 0, .int .i64 0, .int .i64 0, .string ⟨#[]⟩, .slice none 0 0] 24))
  replace HO := Lib.hid (only_below HO.out ((Below.refl _ _).alloc (Nat.le_refl _) (.cells #[.int .i64 0, .int .i64 0, .int .i64 0, .string ⟨#[]⟩, .slice none 0 0] 24)))
  replace HV := Lib.hid (HV.out.behind ((Below.refl _ _).alloc (Nat.le_refl _) (.cells #[.int .i64 0, .int .i64 0, .int .i64 0, .string ⟨#[]⟩, .slice none 0 0] 24)))
  go_wp2_with fail
  with_reducible refine (CW.out _ HS.out).mono ?_
  rintro r w2 ⟨rfl, hb2⟩
  replace HS := Lib.hid (HS.out.behind hb2)
  replace HO := Lib.hid (only_below HO.out hb2)
  replace HV := Lib.hid (HV.out.behind hb2)
  replace HL := Lib.hid (HL.out.behind hb2)
  clear hb2 CW
  generalize w1.heap.size = N2 at *
  obtain ⟨q0, q1, q2, q3, q4, qf⟩ := HV.out.c
  obtain ⟨l0, l1, l2, l3, l4, lf⟩ := HL.out.c
  have HLF := Lib.hid (HL.out.put (.int .i64 1) (.int .i64 0) (.int .i64 0) (.string ⟨#[]⟩) (.slice none 0 0))
  obtain ⟨y0, y1, y2, y3, y4, yf⟩ := HLF.out.c
  have HV2 : Hid (V5 (put5v w2 N2 (.int .i64 1) (.int .i64 0) (.int .i64 0) (.string ⟨#[]⟩) (.slice none 0 0)) W.heap.size (.int .i64 0) (.int .i64 0) (.int .i64 0) (.string ⟨#[]⟩) (.slice none 0 0)) := ⟨(put5v_other _ _ _ _ _ _ _ _ (by omega)).trans HV.out.row⟩
  have HF := Lib.hid (HV2.out.put (.int .i64 1) (.int .i64 0) (.int .i64 0) (.string ⟨#[]⟩) (.slice none 0 0))
  have HSF := Lib.hid (sr_put (sr_put HS.out (N := N2) (by omega) (.int .i64 1) (.int .i64 0) (.int .i64 0) (.string ⟨#[]⟩) (.slice none 0 0)) (N := W.heap.size) (by omega) (.int .i64 1) (.int .i64 0) (.int .i64 0) (.string ⟨#[]⟩) (.slice none 0 0))
  have HOF := Lib.hid (only_put (only_put HO.out (Nat.le_of_lt hN2) (.int .i64 1) (.int .i64 0) (.int .i64 0) (.string ⟨#[]⟩) (.slice none 0 0)) (Nat.le_refl _) (.int .i64 1) (.int .i64 0) (.int .i64 0) (.string ⟨#[]⟩) (.slice none 0 0))
  obtain ⟨k0, k1, k2, k3, k4, _⟩ := HF.out.c
  clear HF HV HS HO HL HLF HV2
  unfold put5v at k0 k1 k2 k3 k4 HSF HOF y0 y1 y2 y3 y4 yf
  go_wp2
  refine bodyPost_ret (v := .tuple #[.agg #[.int .i64 1, .int .i64 0, .int .i64 0, .string ⟨#[]⟩, .slice none 0 0], .int .i64 X]) (by simp [results, Tryd.results24, go_sem, k0, k1, k2, k3, k4]) rfl ?_
  exact ⟨by first | rfl | (rw [hz.out]), HSF.out, HOF.out⟩
set_option maxHeartbeats 2000000 in
theorem get_word21 (W : World) (b : Nat) (s : ByteArray) (i left deep : Nat) (n : Nat) (X : Int) (hs : s.size ≤ 1048576) (hi : i < s.size) (hl0 : 0 < left) (hl : left ≤ 2000) (hd : deep ≤ 14) (h : SR W b s left) (hX : 0 ≤ X) (hn : getHead s i = (7, n, X)) (hw : n = 21) :
    Calls Tryd.prog 24 #[.pointer (some ⟨b, 0, none⟩), .int .i64 i, .int .i64 deep] W fun e w' => e = .returned (.tuple #[.agg #[.int .i64 2, .int .i64 0, .int .i64 0, .string ⟨#[]⟩, .slice none 0 0], .int .i64 X]) ∧ SR w' b s (left - 1) ∧ W.grownBy w' (some b) := by
  have HA := Lib.hid (h.alloc (.cells #[.int .i64 0, .int .i64 0, .int .i64 0, .string ⟨#[]⟩, .slice none 0 0] 24))
  have hlt := h.lt
  have c0 := HA.out.c0
  have c2 := HA.out.c2
  have fr := HA.out.fr 2
  have HS := Lib.hid ((h.set ((left : Int) - 1)).alloc (.cells #[.int .i64 0, .int .i64 0, .int .i64 0, .string ⟨#[]⟩, .slice none 0 0] 24))
  have HV : Hid (V5 ((W.setCell ⟨b, 2, none⟩ (.int .i64 ((left : Int) - 1))).alloc (.cells #[.int .i64 0, .int .i64 0, .int .i64 0, .string ⟨#[]⟩, .slice none 0 0] 24)) W.heap.size (.int .i64 0) (.int .i64 0) (.int .i64 0) (.string ⟨#[]⟩) (.slice none 0 0)) := by
    have := V5.new (W.setCell ⟨b, 2, none⟩ (.int .i64 ((left : Int) - 1))) (.int .i64 0) (.int .i64 0) (.int .i64 0) (.string ⟨#[]⟩) (.slice none 0 0)
    rwa [val.set_size] at this
  have d0 := HS.out.c0
  have d1 := HS.out.c1
  have d2 := HS.out.c2
  have HO : Hid (W.grownBy ((W.setCell ⟨b, 2, none⟩ (.int .i64 ((left : Int) - 1))).alloc (.cells #[.int .i64 0, .int .i64 0, .int .i64 0, .string ⟨#[]⟩, .slice none 0 0] 24)) (some b)) := only_below (set_only _ _ _ _) ((Below.refl _ _).alloc (Nat.le_refl _) _)
  have CH := Lib.hid (fun W h => spec_head W b s ((left : Int) - 1) i hs h)
  rw [hn] at CH
  unfold triple at CH
  have e0 : -9223372036854775808 ≤ (left : Int) - 1 := by omega
  have e1 : (left : Int) - 1 ≤ 9223372036854775807 := by omega
  have e2 : (s.size : Int) ≤ 1048576 := by omega
  have p0 : ¬ (left : Int) - 1 < 0 := by omega
  have p1 : ¬ (14 : Int) < (deep : Int) := by omega
  have p2 : ¬ (s.size : Int) ≤ (i : Int) := by omega
  have p3 : (i : Int) < (s.size : Int) := by omega
  have p4 : (0 : Int) ≤ (i : Int) := by omega
  have p5 : ¬ (X : Int) < 0 := by omega
  clear h HA hn hl hl0 hd hs hi hX
  have CW : Hid (∀ W, SR W b s ((left : Int) - 1) → Calls Tryd.prog 50 #[.pointer (some ⟨b, 0, none⟩), .int .u64 n] W fun e w' => e = .returned (.tuple #[.agg #[.int .i64 2, .int .i64 0, .int .i64 0, .string ⟨#[]⟩, .slice none 0 0], .bool true]) ∧ Below W.heap.size W w') := fun W h => by have := spec_simple W b s _ n h; rw [hw] at this; rw [hw]; exact this
  clear hw
  go_enter Tryd.func24, Tryd.ntmps24
  go_wp2_with fail
  with_reducible refine (CH.out _ HS.out).mono ?_
  rintro r w1 ⟨rfl, hb⟩
  replace HS := Lib.hid (HS.out.behind hb)
  replace HO := Lib.hid (only_below HO.out hb)
  replace HV := Lib.hid (HV.out.behind hb)
  clear hb CH c0 c2 fr d0 d1 d2 e0 e1 e2
  have hN2 : W.heap.size < w1.heap.size := (Array.getElem?_eq_some_iff.1 HV.out.row).1
  have hNb : b < w1.heap.size := HS.out.lt
  have HL := Lib.hid (V5.new w1 (.int .i64 0) (.int .i64 0) (.int .i64 0) (.string ⟨#[]⟩) (.slice none 0 0))
  replace HS := Lib.hid (HS.out.alloc (.cells #[.int .i64 0, .int .i64 0, .int .i64 0, .string ⟨#[]⟩, .slice none 0 0] 24))
  replace HO := Lib.hid (only_below HO.out ((Below.refl _ _).alloc (Nat.le_refl _) (.cells #[.int .i64 0, .int .i64 0, .int .i64 0, .string ⟨#[]⟩, .slice none 0 0] 24)))
  replace HV := Lib.hid (HV.out.behind ((Below.refl _ _).alloc (Nat.le_refl _) (.cells #[.int .i64 0, .int .i64 0, .int .i64 0, .string ⟨#[]⟩, .slice none 0 0] 24)))
  go_wp2_with fail
  with_reducible refine (CW.out _ HS.out).mono ?_
  rintro r w2 ⟨rfl, hb2⟩
  replace HS := Lib.hid (HS.out.behind hb2)
  replace HO := Lib.hid (only_below HO.out hb2)
  replace HV := Lib.hid (HV.out.behind hb2)
  replace HL := Lib.hid (HL.out.behind hb2)
  clear hb2 CW
  generalize w1.heap.size = N2 at *
  obtain ⟨q0, q1, q2, q3, q4, qf⟩ := HV.out.c
  obtain ⟨l0, l1, l2, l3, l4, lf⟩ := HL.out.c
  have HLF := Lib.hid (HL.out.put (.int .i64 2) (.int .i64 0) (.int .i64 0) (.string ⟨#[]⟩) (.slice none 0 0))
  obtain ⟨y0, y1, y2, y3, y4, yf⟩ := HLF.out.c
  have HV2 : Hid (V5 (put5v w2 N2 (.int .i64 2) (.int .i64 0) (.int .i64 0) (.string ⟨#[]⟩) (.slice none 0 0)) W.heap.size (.int .i64 0) (.int .i64 0) (.int .i64 0) (.string ⟨#[]⟩) (.slice none 0 0)) := ⟨(put5v_other _ _ _ _ _ _ _ _ (by omega)).trans HV.out.row⟩
  have HF := Lib.hid (HV2.out.put (.int .i64 2) (.int .i64 0) (.int .i64 0) (.string ⟨#[]⟩) (.slice none 0 0))
  have HSF := Lib.hid (sr_put (sr_put HS.out (N := N2) (by omega) (.int .i64 2) (.int .i64 0) (.int .i64 0) (.string ⟨#[]⟩) (.slice none 0 0)) (N := W.heap.size) (by omega) (.int .i64 2) (.int .i64 0) (.int .i64 0) (.string ⟨#[]⟩) (.slice none 0 0))
  have HOF := Lib.hid (only_put (only_put HO.out (Nat.le_of_lt hN2) (.int .i64 2) (.int .i64 0) (.int .i64 0) (.string ⟨#[]⟩) (.slice none 0 0)) (Nat.le_refl _) (.int .i64 2) (.int .i64 0) (.int .i64 0) (.string ⟨#[]⟩) (.slice none 0 0))
  obtain ⟨k0, k1, k2, k3, k4, _⟩ := HF.out.c
  clear HF HV HS HO HL HLF HV2
  unfold put5v at k0 k1 k2 k3 k4 HSF HOF y0 y1 y2 y3 y4 yf
  go_wp2
  refine bodyPost_ret (v := .tuple #[.agg #[.int .i64 2, .int .i64 0, .int .i64 0, .string ⟨#[]⟩, .slice none 0 0], .int .i64 X]) (by simp [results, Tryd.results24, go_sem, k0, k1, k2, k3, k4]) rfl ?_
  exact ⟨by first | rfl | (rw [hz.out]), HSF.out, HOF.out⟩
set_option maxHeartbeats 2000000 in
theorem get_word22 (W : World) (b : Nat) (s : ByteArray) (i left deep : Nat) (n : Nat) (X : Int) (hs : s.size ≤ 1048576) (hi : i < s.size) (hl0 : 0 < left) (hl : left ≤ 2000) (hd : deep ≤ 14) (h : SR W b s left) (hX : 0 ≤ X) (hn : getHead s i = (7, n, X)) (hw : n = 22) :
    Calls Tryd.prog 24 #[.pointer (some ⟨b, 0, none⟩), .int .i64 i, .int .i64 deep] W fun e w' => e = .returned (.tuple #[.agg #[.int .i64 0, .int .i64 0, .int .i64 0, .string ⟨#[]⟩, .slice none 0 0], .int .i64 X]) ∧ SR w' b s (left - 1) ∧ W.grownBy w' (some b) := by
  have HA := Lib.hid (h.alloc (.cells #[.int .i64 0, .int .i64 0, .int .i64 0, .string ⟨#[]⟩, .slice none 0 0] 24))
  have hlt := h.lt
  have c0 := HA.out.c0
  have c2 := HA.out.c2
  have fr := HA.out.fr 2
  have HS := Lib.hid ((h.set ((left : Int) - 1)).alloc (.cells #[.int .i64 0, .int .i64 0, .int .i64 0, .string ⟨#[]⟩, .slice none 0 0] 24))
  have HV : Hid (V5 ((W.setCell ⟨b, 2, none⟩ (.int .i64 ((left : Int) - 1))).alloc (.cells #[.int .i64 0, .int .i64 0, .int .i64 0, .string ⟨#[]⟩, .slice none 0 0] 24)) W.heap.size (.int .i64 0) (.int .i64 0) (.int .i64 0) (.string ⟨#[]⟩) (.slice none 0 0)) := by
    have := V5.new (W.setCell ⟨b, 2, none⟩ (.int .i64 ((left : Int) - 1))) (.int .i64 0) (.int .i64 0) (.int .i64 0) (.string ⟨#[]⟩) (.slice none 0 0)
    rwa [val.set_size] at this
  have d0 := HS.out.c0
  have d1 := HS.out.c1
  have d2 := HS.out.c2
  have HO : Hid (W.grownBy ((W.setCell ⟨b, 2, none⟩ (.int .i64 ((left : Int) - 1))).alloc (.cells #[.int .i64 0, .int .i64 0, .int .i64 0, .string ⟨#[]⟩, .slice none 0 0] 24)) (some b)) := only_below (set_only _ _ _ _) ((Below.refl _ _).alloc (Nat.le_refl _) _)
  have CH := Lib.hid (fun W h => spec_head W b s ((left : Int) - 1) i hs h)
  rw [hn] at CH
  unfold triple at CH
  have e0 : -9223372036854775808 ≤ (left : Int) - 1 := by omega
  have e1 : (left : Int) - 1 ≤ 9223372036854775807 := by omega
  have e2 : (s.size : Int) ≤ 1048576 := by omega
  have p0 : ¬ (left : Int) - 1 < 0 := by omega
  have p1 : ¬ (14 : Int) < (deep : Int) := by omega
  have p2 : ¬ (s.size : Int) ≤ (i : Int) := by omega
  have p3 : (i : Int) < (s.size : Int) := by omega
  have p4 : (0 : Int) ≤ (i : Int) := by omega
  have p5 : ¬ (X : Int) < 0 := by omega
  clear h HA hn hl hl0 hd hs hi hX
  have CW : Hid (∀ W, SR W b s ((left : Int) - 1) → Calls Tryd.prog 50 #[.pointer (some ⟨b, 0, none⟩), .int .u64 n] W fun e w' => e = .returned (.tuple #[.agg #[.int .i64 0, .int .i64 0, .int .i64 0, .string ⟨#[]⟩, .slice none 0 0], .bool true]) ∧ Below W.heap.size W w') := fun W h => by have := spec_simple W b s _ n h; rw [hw] at this; rw [hw]; exact this
  clear hw
  go_enter Tryd.func24, Tryd.ntmps24
  go_wp2_with fail
  with_reducible refine (CH.out _ HS.out).mono ?_
  rintro r w1 ⟨rfl, hb⟩
  replace HS := Lib.hid (HS.out.behind hb)
  replace HO := Lib.hid (only_below HO.out hb)
  replace HV := Lib.hid (HV.out.behind hb)
  clear hb CH c0 c2 fr d0 d1 d2 e0 e1 e2
  have hN2 : W.heap.size < w1.heap.size := (Array.getElem?_eq_some_iff.1 HV.out.row).1
  have hNb : b < w1.heap.size := HS.out.lt
  have HL := Lib.hid (V5.new w1 (.int .i64 0) (.int .i64 0) (.int .i64 0) (.string ⟨#[]⟩) (.slice none 0 0))
  replace HS := Lib.hid (HS.out.alloc (.cells #[.int .i64 0, .int .i64 0, .int .i64 0, .string ⟨#[]⟩, .slice none 0 0] 24))
  replace HO := Lib.hid (only_below HO.out ((Below.refl _ _).alloc (Nat.le_refl _) (.cells #[.int .i64 0, .int .i64 0, .int .i64 0, .string ⟨#[]⟩, .slice none 0 0] 24)))
  replace HV := Lib.hid (HV.out.behind ((Below.refl _ _).alloc (Nat.le_refl _) (.cells #[.int .i64 0, .int .i64 0, .int .i64 0, .string ⟨#[]⟩, .slice none 0 0] 24)))
  go_wp2_with fail
  with_reducible refine (CW.out _ HS.out).mono ?_
  rintro r w2 ⟨rfl, hb2⟩
  replace HS := Lib.hid (HS.out.behind hb2)
  replace HO := Lib.hid (only_below HO.out hb2)
  replace HV := Lib.hid (HV.out.behind hb2)
  replace HL := Lib.hid (HL.out.behind hb2)
  clear hb2 CW
  generalize w1.heap.size = N2 at *
  obtain ⟨q0, q1, q2, q3, q4, qf⟩ := HV.out.c
  obtain ⟨l0, l1, l2, l3, l4, lf⟩ := HL.out.c
  have HLF := Lib.hid (HL.out.put (.int .i64 0) (.int .i64 0) (.int .i64 0) (.string ⟨#[]⟩) (.slice none 0 0))
  obtain ⟨y0, y1, y2, y3, y4, yf⟩ := HLF.out.c
  have HV2 : Hid (V5 (put5v w2 N2 (.int .i64 0) (.int .i64 0) (.int .i64 0) (.string ⟨#[]⟩) (.slice none 0 0)) W.heap.size (.int .i64 0) (.int .i64 0) (.int .i64 0) (.string ⟨#[]⟩) (.slice none 0 0)) := ⟨(put5v_other _ _ _ _ _ _ _ _ (by omega)).trans HV.out.row⟩
  have HF := Lib.hid (HV2.out.put (.int .i64 0) (.int .i64 0) (.int .i64 0) (.string ⟨#[]⟩) (.slice none 0 0))
  have HSF := Lib.hid (sr_put (sr_put HS.out (N := N2) (by omega) (.int .i64 0) (.int .i64 0) (.int .i64 0) (.string ⟨#[]⟩) (.slice none 0 0)) (N := W.heap.size) (by omega) (.int .i64 0) (.int .i64 0) (.int .i64 0) (.string ⟨#[]⟩) (.slice none 0 0))
  have HOF := Lib.hid (only_put (only_put HO.out (Nat.le_of_lt hN2) (.int .i64 0) (.int .i64 0) (.int .i64 0) (.string ⟨#[]⟩) (.slice none 0 0)) (Nat.le_refl _) (.int .i64 0) (.int .i64 0) (.int .i64 0) (.string ⟨#[]⟩) (.slice none 0 0))
  obtain ⟨k0, k1, k2, k3, k4, _⟩ := HF.out.c
  clear HF HV HS HO HL HLF HV2
  unfold put5v at k0 k1 k2 k3 k4 HSF HOF y0 y1 y2 y3 y4 yf
  go_wp2
  refine bodyPost_ret (v := .tuple #[.agg #[.int .i64 0, .int .i64 0, .int .i64 0, .string ⟨#[]⟩, .slice none 0 0], .int .i64 X]) (by simp [results, Tryd.results24, go_sem, k0, k1, k2, k3, k4]) rfl ?_
  exact ⟨by first | rfl | (rw [hz.out]), HSF.out, HOF.out⟩
set_option maxHeartbeats 2000000 in
theorem get_wordno (W : World) (b : Nat) (s : ByteArray) (i left deep : Nat) (n : Nat) (X : Int) (hs : s.size ≤ 1048576) (hi : i < s.size) (hl0 : 0 < left) (hl : left ≤ 2000) (hd : deep ≤ 14) (h : SR W b s left) (hX : 0 ≤ X) (hn : getHead s i = (7, n, X)) (hw : n ≠ 20 ∧ n ≠ 21 ∧ n ≠ 22) :
    Calls Tryd.prog 24 #[.pointer (some ⟨b, 0, none⟩), .int .i64 i, .int .i64 deep] W fun e w' => e = .returned (.tuple #[.agg #[.int .i64 0, .int .i64 0, .int .i64 0, .string ⟨#[]⟩, .slice none 0 0], .int .i64 (-1)]) ∧ SR w' b s (left - 1) ∧ W.grownBy w' (some b) := by
  have HA := Lib.hid (h.alloc (.cells #[.int .i64 0, .int .i64 0, .int .i64 0, .string ⟨#[]⟩, .slice none 0 0] 24))
  have hlt := h.lt
  have c0 := HA.out.c0
  have c2 := HA.out.c2
  have fr := HA.out.fr 2
  have HS := Lib.hid ((h.set ((left : Int) - 1)).alloc (.cells #[.int .i64 0, .int .i64 0, .int .i64 0, .string ⟨#[]⟩, .slice none 0 0] 24))
  have HV : Hid (V5 ((W.setCell ⟨b, 2, none⟩ (.int .i64 ((left : Int) - 1))).alloc (.cells #[.int .i64 0, .int .i64 0, .int .i64 0, .string ⟨#[]⟩, .slice none 0 0] 24)) W.heap.size (.int .i64 0) (.int .i64 0) (.int .i64 0) (.string ⟨#[]⟩) (.slice none 0 0)) := by
    have := V5.new (W.setCell ⟨b, 2, none⟩ (.int .i64 ((left : Int) - 1))) (.int .i64 0) (.int .i64 0) (.int .i64 0) (.string ⟨#[]⟩) (.slice none 0 0)
    rwa [val.set_size] at this
  have d0 := HS.out.c0
  have d1 := HS.out.c1
  have d2 := HS.out.c2
  have HO : Hid (W.grownBy ((W.setCell ⟨b, 2, none⟩ (.int .i64 ((left : Int) - 1))).alloc (.cells #[.int .i64 0, .int .i64 0, .int .i64 0, .string ⟨#[]⟩, .slice none 0 0] 24)) (some b)) := only_below (set_only _ _ _ _) ((Below.refl _ _).alloc (Nat.le_refl _) _)
  have CH := Lib.hid (fun W h => spec_head W b s ((left : Int) - 1) i hs h)
  rw [hn] at CH
  unfold triple at CH
  have e0 : -9223372036854775808 ≤ (left : Int) - 1 := by omega
  have e1 : (left : Int) - 1 ≤ 9223372036854775807 := by omega
  have e2 : (s.size : Int) ≤ 1048576 := by omega
  have p0 : ¬ (left : Int) - 1 < 0 := by omega
  have p1 : ¬ (14 : Int) < (deep : Int) := by omega
  have p2 : ¬ (s.size : Int) ≤ (i : Int) := by omega
  have p3 : (i : Int) < (s.size : Int) := by omega
  have p4 : (0 : Int) ≤ (i : Int) := by omega
  have p5 : ¬ (X : Int) < 0 := by omega
  clear h HA hn hl hl0 hd hs hi hX
  have CW : Hid (∀ W, SR W b s ((left : Int) - 1) → Calls Tryd.prog 50 #[.pointer (some ⟨b, 0, none⟩), .int .u64 n] W fun e w' => e = .returned (.tuple #[.agg #[.int .i64 0, .int .i64 0, .int .i64 0, .string ⟨#[]⟩, .slice none 0 0], .bool false]) ∧ Below W.heap.size W w') := fun W h => by have := spec_simple W b s _ n h; unfold simpOf at this; rw [if_neg hw.1, if_neg hw.2.1, if_neg hw.2.2] at this; exact this
  clear hw
  go_enter Tryd.func24, Tryd.ntmps24
  go_wp2_with fail
  with_reducible refine (CH.out _ HS.out).mono ?_
  rintro r w1 ⟨rfl, hb⟩
  replace HS := Lib.hid (HS.out.behind hb)
  replace HO := Lib.hid (only_below HO.out hb)
  replace HV := Lib.hid (HV.out.behind hb)
  clear hb CH c0 c2 fr d0 d1 d2 e0 e1 e2
  have hN2 : W.heap.size < w1.heap.size := (Array.getElem?_eq_some_iff.1 HV.out.row).1
  have hNb : b < w1.heap.size := HS.out.lt
  have HL := Lib.hid (V5.new w1 (.int .i64 0) (.int .i64 0) (.int .i64 0) (.string ⟨#[]⟩) (.slice none 0 0))
  replace HS := Lib.hid (HS.out.alloc (.cells #[.int .i64 0, .int .i64 0, .int .i64 0, .string ⟨#[]⟩, .slice none 0 0] 24))
  replace HO := Lib.hid (only_below HO.out ((Below.refl _ _).alloc (Nat.le_refl _) (.cells #[.int .i64 0, .int .i64 0, .int .i64 0, .string ⟨#[]⟩, .slice none 0 0] 24)))
  replace HV := Lib.hid (HV.out.behind ((Below.refl _ _).alloc (Nat.le_refl _) (.cells #[.int .i64 0, .int .i64 0, .int .i64 0, .string ⟨#[]⟩, .slice none 0 0] 24)))
  go_wp2_with fail
  with_reducible refine (CW.out _ HS.out).mono ?_
  rintro r w2 ⟨rfl, hb2⟩
  replace HS := Lib.hid (HS.out.behind hb2)
  replace HO := Lib.hid (only_below HO.out hb2)
  replace HV := Lib.hid (HV.out.behind hb2)
  replace HL := Lib.hid (HL.out.behind hb2)
  clear hb2 CW
  generalize w1.heap.size = N2 at *
  obtain ⟨q0, q1, q2, q3, q4, qf⟩ := HV.out.c
  obtain ⟨l0, l1, l2, l3, l4, lf⟩ := HL.out.c
  have HLF := Lib.hid (HL.out.put (.int .i64 0) (.int .i64 0) (.int .i64 0) (.string ⟨#[]⟩) (.slice none 0 0))
  obtain ⟨y0, y1, y2, y3, y4, yf⟩ := HLF.out.c
  have HV2 : Hid (V5 (put5v w2 N2 (.int .i64 0) (.int .i64 0) (.int .i64 0) (.string ⟨#[]⟩) (.slice none 0 0)) W.heap.size (.int .i64 0) (.int .i64 0) (.int .i64 0) (.string ⟨#[]⟩) (.slice none 0 0)) := ⟨(put5v_other _ _ _ _ _ _ _ _ (by omega)).trans HV.out.row⟩
  have HF := Lib.hid (HV2.out.put (.int .i64 0) (.int .i64 0) (.int .i64 0) (.string ⟨#[]⟩) (.slice none 0 0))
  have HSF := Lib.hid (sr_put (sr_put HS.out (N := N2) (by omega) (.int .i64 0) (.int .i64 0) (.int .i64 0) (.string ⟨#[]⟩) (.slice none 0 0)) (N := W.heap.size) (by omega) (.int .i64 0) (.int .i64 0) (.int .i64 0) (.string ⟨#[]⟩) (.slice none 0 0))
  have HOF := Lib.hid (only_put (only_put HO.out (Nat.le_of_lt hN2) (.int .i64 0) (.int .i64 0) (.int .i64 0) (.string ⟨#[]⟩) (.slice none 0 0)) (Nat.le_refl _) (.int .i64 0) (.int .i64 0) (.int .i64 0) (.string ⟨#[]⟩) (.slice none 0 0))
  obtain ⟨k0, k1, k2, k3, k4, _⟩ := HF.out.c
  clear HF HV HS HO HL HLF HV2
  unfold put5v at k0 k1 k2 k3 k4 HSF HOF y0 y1 y2 y3 y4 yf
  go_wp2
  refine bodyPost_ret (v := .tuple #[.agg #[.int .i64 0, .int .i64 0, .int .i64 0, .string ⟨#[]⟩, .slice none 0 0], .int .i64 (-1)]) (by simp [results, Tryd.results24, go_sem, k0, k1, k2, k3, k4]) rfl ?_
  exact ⟨by first | rfl | (rw [hz.out]), HSF.out, HOF.out⟩
end Go.Proofs.YtnaghafmpncdkaaDoor.cbor
