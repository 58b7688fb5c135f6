/-
  spec.l05Get at a list, a map (draft).
-/
import Derived.Test.YtnaghafmpncdkaaDoorGetCborJ39
import Derived.Test.YtnaghafmpncdkaaDoorGetCborJ35
import Derived.Test.YtnaghafmpncdkaaDoorGetCborJ38
import Derived.Test.YtnaghafmpncdkaaDoorGetCborJ32
namespace Go.Proofs.YtnaghafmpncdkaaDoor.cbor
open Go.ChangeShapes Go.WideShapes Go.ChangeAt Go.RowKit
open Go.Proofs.YtnaghafmpncdkaaDoor.val Go.Proofs.YtnaghafmpncdkaaDoor.head
set_option maxRecDepth 100000

/-- What l05Get tells at a list or a map. -/
structure LRet (W w' : World) (b : Nat) (s : ByteArray) (X left deep N : Nat) (k : Int) (e : Ending) : Prop where
  ex : ∃ (t : LT) (next left' : Int), e = .returned (.tuple #[.agg #[.int .i64 t.k, .int .i64 t.n, .int .i64 t.e, .string t.s, t.row], .int .i64 next]) ∧ SR w' b s left' ∧ W.grownBy w' (some b) ∧
    ((next = -1 ∧ NoMany s X left deep N) ∨ ∃ (j l : Nat) (done : List LT), next = j ∧ left' = l ∧ done.length = N ∧ ManyS s X left deep (done.map er) j l ∧ er t = .mk k 0 0 ⟨#[]⟩ (done.map er) ∧ X ≤ j ∧ j ≤ s.size ∧ FreshO W w' b t ∧ (t.sz : Int) ≤ (j : Int) - X ∧ l ≤ left)
set_option maxHeartbeats 2000000 in
theorem get_list (W : World) (b : Nat) (s : ByteArray) (i left deep : Nat) (n : Nat) (X : Nat) (hs : s.size ≤ 1048576) (hi : i < s.size) (hl0 : 0 < left) (hl : left ≤ 2000) (hd : deep ≤ 14) (h : SR W b s left) (hX : X ≤ s.size) (hn : getHead s i = (4, n, (X : Int))) (hc : n ≤ 300)
    (CT : ∀ W', SR W' b s ((left : Int) - 1) → Calls Tryd.prog 48 #[.pointer (some ⟨b, 0, none⟩), .int .i64 X, .int .i64 (n), .int .i64 deep] W' fun e w' => SKRet W' w' b s X (left - 1) deep (n) e) :
    Calls Tryd.prog 24 #[.pointer (some ⟨b, 0, none⟩), .int .i64 i, .int .i64 deep] W fun e w' => LRet W w' b s X (left - 1) deep (n) 7 e := by
  have HA := Lib.hid (h.alloc (.cells #[.int .i64 0, .int .i64 0, .int .i64 0, .string ⟨#[]⟩, .slice none 0 0] 24))
  have hlt := h.lt
  have c0 := HA.out.c0
  have c2 := HA.out.c2
  have fr := HA.out.fr 2
  have HS := Lib.hid ((h.set ((left : Int) - 1)).alloc (.cells #[.int .i64 0, .int .i64 0, .int .i64 0, .string ⟨#[]⟩, .slice none 0 0] 24))
  have HV : Hid (V5 ((W.setCell ⟨b, 2, none⟩ (.int .i64 ((left : Int) - 1))).alloc (.cells #[.int .i64 0, .int .i64 0, .int .i64 0, .string ⟨#[]⟩, .slice none 0 0] 24)) W.heap.size (.int .i64 0) (.int .i64 0) (.int .i64 0) (.string ⟨#[]⟩) (.slice none 0 0)) := by
    have := V5.new (W.setCell ⟨b, 2, none⟩ (.int .i64 ((left : Int) - 1))) (.int .i64 0) (.int .i64 0) (.int .i64 0) (.string ⟨#[]⟩) (.slice none 0 0)
    rwa [val.set_size] at this
  have d0 := HS.out.c0
  have d1 := HS.out.c1
  have d2 := HS.out.c2
  have HO : Hid (W.grownBy ((W.setCell ⟨b, 2, none⟩ (.int .i64 ((left : Int) - 1))).alloc (.cells #[.int .i64 0, .int .i64 0, .int .i64 0, .string ⟨#[]⟩, .slice none 0 0] 24)) (some b)) := only_below (set_only _ _ _ _) ((Below.refl _ _).alloc (Nat.le_refl _) _)
  have CH := Lib.hid (fun W h => spec_head W b s ((left : Int) - 1) i hs h)
  rw [hn] at CH
  unfold triple at CH
  have e0 : -9223372036854775808 ≤ (left : Int) - 1 := by omega
  have e1 : (left : Int) - 1 ≤ 9223372036854775807 := by omega
  have e2 : (s.size : Int) ≤ 1048576 := by omega
  have p0 : ¬ (left : Int) - 1 < 0 := by omega
  have p1 : ¬ (14 : Int) < (deep : Int) := by omega
  have p2 : ¬ (s.size : Int) ≤ (i : Int) := by omega
  have p3 : (i : Int) < (s.size : Int) := by omega
  have p4 : (0 : Int) ≤ (i : Int) := by omega
  have p5 : ¬ (X : Int) < 0 := by omega
  have P6 : Hid (¬ (300 : Int) < (n : Int)) := by unfold Hid; omega
  have CK := Lib.hid CT
  clear CT
  clear h HA hn hl hl0 hd hs hi hX hc
  go_enter Tryd.func24, Tryd.ntmps24
  go_wp2_with fail
  with_reducible refine (CH.out _ HS.out).mono ?_
  rintro r w1 ⟨rfl, hb⟩
  replace HS := Lib.hid (HS.out.behind hb)
  replace HO := Lib.hid (only_below HO.out hb)
  replace HV := Lib.hid (HV.out.behind hb)
  clear hb CH c0 c2 fr d0 d1 d2 e0 e1 e2
  have hN2 : W.heap.size < w1.heap.size := (Array.getElem?_eq_some_iff.1 HV.out.row).1
  have HS2 := Lib.hid (HS.out.alloc (.cells #[.int .i64 0, .int .i64 0, .int .i64 0, .string ⟨#[]⟩, .slice none 0 0] 24))
  have HO2 := Lib.hid (only_below HO.out ((Below.refl _ _).alloc (Nat.le_refl _) (.cells #[.int .i64 0, .int .i64 0, .int .i64 0, .string ⟨#[]⟩, .slice none 0 0] 24)))
  have HV2 := Lib.hid (HV.out.behind ((Below.refl _ _).alloc (Nat.le_refl _) (.cells #[.int .i64 0, .int .i64 0, .int .i64 0, .string ⟨#[]⟩, .slice none 0 0] 24)))
  obtain ⟨f0, f1, f2⟩ : _ ∧ _ ∧ _ := ⟨HS2.out.c0, HS2.out.c1, HS2.out.c2⟩
  have hbV : b ≠ W.heap.size := by omega
  have HL := Lib.hid (V5.new w1 (.int .i64 0) (.int .i64 0) (.int .i64 0) (.string ⟨#[]⟩) (.slice none 0 0))
  have hNb : b < w1.heap.size := HS.out.lt
  go_upto_region 12 with (fail)
  generalize w1.alloc (.cells #[.int .i64 0, .int .i64 0, .int .i64 0, .string ⟨#[]⟩, .slice none 0 0] 24) = WA at *
  generalize w1.heap.size = N2 at *
  clear f1 f2 p0 p1 p2 p5
  have p6 := P6.out
  clear P6
  clear HS HO HV
  go_upto_region 27 with (fail)
  have HN2A : N2 < WA.heap.size := (Array.getElem?_eq_some_iff.1 HL.out.row).1
  have hN2b : b ≠ N2 := by omega
  have HLC : Hid (V5 ((WA.setCell ⟨N2, 0, none⟩ (.int .i64 7)).alloc (.cells #[.int .i64 7, .int .i64 8] 3)) N2 (.int .i64 7) (.int .i64 0) (.int .i64 0) (.string ⟨#[]⟩) (.slice none 0 0)) := V5.behind (W := (WA.setCell ⟨N2, 0, none⟩ (.int .i64 7))) ⟨by have := val.blk_set (o := 0) HL.out.row (.int .i64 7); simpa using this⟩ ((Below.refl _ _).alloc (Nat.le_refl _) _)
  replace HL := Lib.hid (HL.out.behind ((Below.refl _ WA).alloc (Nat.le_refl _) (.cells #[.int .i64 7, .int .i64 8] 3)))
  obtain ⟨l0, l1, l2, l3, l4, lf⟩ := HL.out.c
  have HSW : SR (WA.setCell ⟨N2, 0, none⟩ (.int .i64 7)) b s ((left : Int) - 1) := ⟨(val.blk_other _ hN2b).trans HS2.out.row⟩
  have HSC : Hid (SR ((WA.setCell ⟨N2, 0, none⟩ (.int .i64 7)).alloc (.cells #[.int .i64 7, .int .i64 8] 3)) b s ((left : Int) - 1)) := HSW.alloc _
  have HOC := Lib.hid (only_below (only_set (o := 0) HO2.out (Nat.le_of_lt hN2) (.int .i64 7)) ((Below.refl _ _).alloc (Nat.le_refl _) (.cells #[.int .i64 7, .int .i64 8] 3)))
  have HVC : Hid (V5 ((WA.setCell ⟨N2, 0, none⟩ (.int .i64 7)).alloc (.cells #[.int .i64 7, .int .i64 8] 3)) W.heap.size (.int .i64 0) (.int .i64 0) (.int .i64 0) (.string ⟨#[]⟩) (.slice none 0 0)) := V5.behind (W := (WA.setCell ⟨N2, 0, none⟩ (.int .i64 7))) ⟨(val.blk_other _ (by omega)).trans HV2.out.row⟩ ((Below.refl _ _).alloc (Nat.le_refl _) _)
  have HZC : ((WA.setCell ⟨N2, 0, none⟩ (.int .i64 7)).alloc (.cells #[.int .i64 7, .int .i64 8] 3)).heap.size = WA.heap.size + 1 := by simp [val.set_size]
  clear HSW
  have HZ := Lib.hid HZC
  clear HL HS2 HO2 HV2 HZC
  go_wp2_with fail
  with_reducible refine (CK.out _ HSC.out).mono ?_
  clear l0 l1 l2 l3 l4 lf CK HSC
  generalize ((WA.setCell ⟨N2, 0, none⟩ (.int .i64 7)).alloc (.cells #[.int .i64 7, .int .i64 8] 3)) = WC at *
  rintro r w2 ⟨⟨g, cap, done, j, l, rfl, hD, hM, hS, hMA, b1, b2, b3, b4⟩ | ⟨l, rfl, hS, hO, hNM⟩⟩
  · have HS := Lib.hid hS
    have hzw := hM.only.size
    have HO := Lib.hid (only_trans HOC.out hM.only)
    have HV := Lib.hid (HVC.out.only hM.only (by omega))
    have HL := Lib.hid (HLC.out.only hM.only (Ne.symm hN2b))
    have HT := Lib.hid (hM.list 7 (by unfold InI; decide))
    have HB := Lib.hid (And.intro hD (And.intro hMA (And.intro b1 (And.intro b2 (And.intro b3 b4)))))
    have hZ := HZ.out
    clear hM hS hD hMA b1 b2 b3 b4 HVC HLC HOC
    have HLE : Hid (V5 (w2.setCell ⟨N2, 4, none⟩ (.slice (some ⟨g, 0, none⟩) (n) cap)) N2 (.int .i64 7) (.int .i64 0) (.int .i64 0) (.string ⟨#[]⟩) (.slice (some ⟨g, 0, none⟩) (n) cap)) := ⟨by have := val.blk_set (o := 4) HL.out.row (.slice (some ⟨g, 0, none⟩) (n) cap); simpa using this⟩
    have HVE : Hid (V5 (w2.setCell ⟨N2, 4, none⟩ (.slice (some ⟨g, 0, none⟩) (n) cap)) W.heap.size (.int .i64 0) (.int .i64 0) (.int .i64 0) (.string ⟨#[]⟩) (.slice none 0 0)) := ⟨(val.blk_other _ (by omega)).trans HV.out.row⟩
    have HSE : Hid (SR (w2.setCell ⟨N2, 4, none⟩ (.slice (some ⟨g, 0, none⟩) (n) cap)) b s l) := ⟨(val.blk_other _ (by omega)).trans HS.out.row⟩
    have HOE := Lib.hid (only_set (o := 4) HO.out (Nat.le_of_lt hN2) (.slice (some ⟨g, 0, none⟩) (n) cap))
    obtain ⟨q0, q1, q2, q3, q4, qf⟩ := HVE.out.c
    obtain ⟨y0, y1, y2, y3, y4, yf⟩ := HLE.out.c
    obtain ⟨l0, l1, l2, l3, l4, lf⟩ := HL.out.c
    have HF := Lib.hid (HVE.out.put (.int .i64 7) (.int .i64 0) (.int .i64 0) (.string ⟨#[]⟩) (.slice (some ⟨g, 0, none⟩) (n) cap))
    have HSF := Lib.hid (sr_put HSE.out (N := W.heap.size) (by omega) (.int .i64 7) (.int .i64 0) (.int .i64 0) (.string ⟨#[]⟩) (.slice (some ⟨g, 0, none⟩) (n) cap))
    have HOF := Lib.hid (only_put HOE.out (Nat.le_refl _) (.int .i64 7) (.int .i64 0) (.int .i64 0) (.string ⟨#[]⟩) (.slice (some ⟨g, 0, none⟩) (n) cap))
    have HE : Hid (LRet W (put5v (w2.setCell ⟨N2, 4, none⟩ (.slice (some ⟨g, 0, none⟩) (n) cap)) W.heap.size (.int .i64 7) (.int .i64 0) (.int .i64 0) (.string ⟨#[]⟩) (.slice (some ⟨g, 0, none⟩) (n) cap)) b s X (left - 1) deep (n) 7 (.returned (.tuple #[.agg #[.int .i64 7, .int .i64 0, .int .i64 0, .string ⟨#[]⟩, .slice (some ⟨g, 0, none⟩) (n) cap], .int .i64 j]))) := by
      obtain ⟨d1, d2, d3, d4, d5, d6⟩ := HB.out
      refine ⟨⟨.mk 7 0 0 ⟨#[]⟩ (some ⟨g, 0, none⟩) cap done, j, l, by rw [← d1]; rfl, HSF.out, HOF.out, .inr ⟨j, l, done, rfl, rfl, d1, d2, by rw [er_mk]; rfl, d3, d4, ?_, by rw [szL_kids]; have e0 : (⟨#[]⟩ : ByteArray).size = 0 := rfl; omega, d6⟩⟩⟩
      refine ⟨HT.out.tr.kept fun k hk => ?_, fun k hk => ?_, HT.out.nodup, HOF.out⟩
      · have := HT.out.new k hk
        rw [put5v_other _ _ _ _ _ _ _ _ (by omega), val.blk_other _ (by omega)]
      · have := HT.out.new k hk; omega
    clear HT HB hZ
    obtain ⟨k0, k1, k2, k3, k4, _⟩ := HF.out.c
    clear HF HV HO HL HLE HVE HSE HOE HS HSF HOF
    unfold put5v at k0 k1 k2 k3 k4 HE
    go_wp2
    refine bodyPost_ret (v := .tuple #[.agg #[.int .i64 7, .int .i64 0, .int .i64 0, .string ⟨#[]⟩, .slice (some ⟨g, 0, none⟩) (n) cap], .int .i64 j]) (by simp [results, Tryd.results24, go_sem, k0, k1, k2, k3, k4]) rfl ?_
    exact HE.out
  · have HS := Lib.hid hS
    have hzw := hO.size
    have HO := Lib.hid (only_trans HOC.out hO)
    have HV := Lib.hid (HVC.out.only hO (by omega))
    have HL := Lib.hid (HLC.out.only hO (Ne.symm hN2b))
    have HNM := Lib.hid hNM
    have hZ := HZ.out
    clear hS hO hNM HVC HLC HOC
    have HLE : Hid (V5 (w2.setCell ⟨N2, 4, none⟩ (.slice none 0 0)) N2 (.int .i64 7) (.int .i64 0) (.int .i64 0) (.string ⟨#[]⟩) (.slice none 0 0)) := ⟨by have := val.blk_set (o := 4) HL.out.row (.slice none 0 0); simpa using this⟩
    have HVE : Hid (V5 (w2.setCell ⟨N2, 4, none⟩ (.slice none 0 0)) W.heap.size (.int .i64 0) (.int .i64 0) (.int .i64 0) (.string ⟨#[]⟩) (.slice none 0 0)) := ⟨(val.blk_other _ (by omega)).trans HV.out.row⟩
    have HSE : Hid (SR (w2.setCell ⟨N2, 4, none⟩ (.slice none 0 0)) b s l) := ⟨(val.blk_other _ (by omega)).trans HS.out.row⟩
    have HOE := Lib.hid (only_set (o := 4) HO.out (Nat.le_of_lt hN2) (.slice none 0 0))
    obtain ⟨q0, q1, q2, q3, q4, qf⟩ := HVE.out.c
    obtain ⟨y0, y1, y2, y3, y4, yf⟩ := HLE.out.c
    obtain ⟨l0, l1, l2, l3, l4, lf⟩ := HL.out.c
    have HF := Lib.hid (HVE.out.put (.int .i64 7) (.int .i64 0) (.int .i64 0) (.string ⟨#[]⟩) (.slice none 0 0))
    have HSF := Lib.hid (sr_put HSE.out (N := W.heap.size) (by omega) (.int .i64 7) (.int .i64 0) (.int .i64 0) (.string ⟨#[]⟩) (.slice none 0 0))
    have HOF := Lib.hid (only_put HOE.out (Nat.le_refl _) (.int .i64 7) (.int .i64 0) (.int .i64 0) (.string ⟨#[]⟩) (.slice none 0 0))
    have HE : Hid (LRet W (put5v (w2.setCell ⟨N2, 4, none⟩ (.slice none 0 0)) W.heap.size (.int .i64 7) (.int .i64 0) (.int .i64 0) (.string ⟨#[]⟩) (.slice none 0 0)) b s X (left - 1) deep (n) 7 (.returned (.tuple #[.agg #[.int .i64 7, .int .i64 0, .int .i64 0, .string ⟨#[]⟩, .slice none 0 0], .int .i64 (-1)]))) :=
      ⟨⟨.mk 7 0 0 ⟨#[]⟩ none 0 [], -1, l, rfl, HSF.out, HOF.out, .inl ⟨rfl, HNM.out⟩⟩⟩
    clear HNM
    obtain ⟨k0, k1, k2, k3, k4, _⟩ := HF.out.c
    clear HF HV HO HL HLE HVE HSE HOE HS HSF HOF
    unfold put5v at k0 k1 k2 k3 k4 HE
    go_wp2
    refine bodyPost_ret (v := .tuple #[.agg #[.int .i64 7, .int .i64 0, .int .i64 0, .string ⟨#[]⟩, .slice none 0 0], .int .i64 (-1)]) (by simp [results, Tryd.results24, go_sem, k0, k1, k2, k3, k4]) rfl ?_
    exact HE.out
end Go.Proofs.YtnaghafmpncdkaaDoor.cbor
/-
  spec.l05Get at a list, a map (draft).
-/
namespace Go.Proofs.YtnaghafmpncdkaaDoor.cbor
open Go.ChangeShapes Go.WideShapes Go.ChangeAt Go.RowKit
open Go.Proofs.YtnaghafmpncdkaaDoor.val Go.Proofs.YtnaghafmpncdkaaDoor.head
set_option maxRecDepth 100000

set_option maxHeartbeats 2000000 in
theorem get_map (W : World) (b : Nat) (s : ByteArray) (i left deep : Nat) (n : Nat) (X : Nat) (hs : s.size ≤ 1048576) (hi : i < s.size) (hl0 : 0 < left) (hl : left ≤ 2000) (hd : deep ≤ 14) (h : SR W b s left) (hX : X ≤ s.size) (hn : getHead s i = (5, n, (X : Int))) (hc : n ≤ 300)
    (CT : ∀ W', SR W' b s ((left : Int) - 1) → Calls Tryd.prog 48 #[.pointer (some ⟨b, 0, none⟩), .int .i64 X, .int .i64 ((n : Int) * 2), .int .i64 deep] W' fun e w' => SKRet W' w' b s X (left - 1) deep (2 * n) e) :
    Calls Tryd.prog 24 #[.pointer (some ⟨b, 0, none⟩), .int .i64 i, .int .i64 deep] W fun e w' => LRet W w' b s X (left - 1) deep (2 * n) 8 e := by
  have HA := Lib.hid (h.alloc (.cells #[.int .i64 0, .int .i64 0, .int .i64 0, .string ⟨#[]⟩, .slice none 0 0] 24))
  have hlt := h.lt
  have c0 := HA.out.c0
  have c2 := HA.out.c2
  have fr := HA.out.fr 2
  have HS := Lib.hid ((h.set ((left : Int) - 1)).alloc (.cells #[.int .i64 0, .int .i64 0, .int .i64 0, .string ⟨#[]⟩, .slice none 0 0] 24))
  have HV : Hid (V5 ((W.setCell ⟨b, 2, none⟩ (.int .i64 ((left : Int) - 1))).alloc (.cells #[.int .i64 0, .int .i64 0, .int .i64 0, .string ⟨#[]⟩, .slice none 0 0] 24)) W.heap.size (.int .i64 0) (.int .i64 0) (.int .i64 0) (.string ⟨#[]⟩) (.slice none 0 0)) := by
    have := V5.new (W.setCell ⟨b, 2, none⟩ (.int .i64 ((left : Int) - 1))) (.int .i64 0) (.int .i64 0) (.int .i64 0) (.string ⟨#[]⟩) (.slice none 0 0)
    rwa [val.set_size] at this
  have d0 := HS.out.c0
  have d1 := HS.out.c1
  have d2 := HS.out.c2
  have HO : Hid (W.grownBy ((W.setCell ⟨b, 2, none⟩ (.int .i64 ((left : Int) - 1))).alloc (.cells #[.int .i64 0, .int .i64 0, .int .i64 0, .string ⟨#[]⟩, .slice none 0 0] 24)) (some b)) := only_below (set_only _ _ _ _) ((Below.refl _ _).alloc (Nat.le_refl _) _)
  have CH := Lib.hid (fun W h => spec_head W b s ((left : Int) - 1) i hs h)
  rw [hn] at CH
  unfold triple at CH
  have e0 : -9223372036854775808 ≤ (left : Int) - 1 := by omega
  have e1 : (left : Int) - 1 ≤ 9223372036854775807 := by omega
  have e2 : (s.size : Int) ≤ 1048576 := by omega
  have p0 : ¬ (left : Int) - 1 < 0 := by omega
  have p1 : ¬ (14 : Int) < (deep : Int) := by omega
  have p2 : ¬ (s.size : Int) ≤ (i : Int) := by omega
  have p3 : (i : Int) < (s.size : Int) := by omega
  have p4 : (0 : Int) ≤ (i : Int) := by omega
  have p5 : ¬ (X : Int) < 0 := by omega
  have P6 : Hid (¬ (300 : Int) < (n : Int)) := by unfold Hid; omega
  have CK := Lib.hid CT
  clear CT
  clear h HA hn hl hl0 hd hs hi hX hc
  go_enter Tryd.func24, Tryd.ntmps24
  go_wp2_with fail
  with_reducible refine (CH.out _ HS.out).mono ?_
  rintro r w1 ⟨rfl, hb⟩
  replace HS := Lib.hid (HS.out.behind hb)
  replace HO := Lib.hid (only_below HO.out hb)
  replace HV := Lib.hid (HV.out.behind hb)
  clear hb CH c0 c2 fr d0 d1 d2 e0 e1 e2
  have hN2 : W.heap.size < w1.heap.size := (Array.getElem?_eq_some_iff.1 HV.out.row).1
  have HS2 := Lib.hid (HS.out.alloc (.cells #[.int .i64 0, .int .i64 0, .int .i64 0, .string ⟨#[]⟩, .slice none 0 0] 24))
  have HO2 := Lib.hid (only_below HO.out ((Below.refl _ _).alloc (Nat.le_refl _) (.cells #[.int .i64 0, .int .i64 0, .int .i64 0, .string ⟨#[]⟩, .slice none 0 0] 24)))
  have HV2 := Lib.hid (HV.out.behind ((Below.refl _ _).alloc (Nat.le_refl _) (.cells #[.int .i64 0, .int .i64 0, .int .i64 0, .string ⟨#[]⟩, .slice none 0 0] 24)))
  obtain ⟨f0, f1, f2⟩ : _ ∧ _ ∧ _ := ⟨HS2.out.c0, HS2.out.c1, HS2.out.c2⟩
  have hbV : b ≠ W.heap.size := by omega
  have HL := Lib.hid (V5.new w1 (.int .i64 0) (.int .i64 0) (.int .i64 0) (.string ⟨#[]⟩) (.slice none 0 0))
  have hNb : b < w1.heap.size := HS.out.lt
  go_upto_region 12 with (fail)
  generalize w1.alloc (.cells #[.int .i64 0, .int .i64 0, .int .i64 0, .string ⟨#[]⟩, .slice none 0 0] 24) = WA at *
  generalize w1.heap.size = N2 at *
  clear f1 f2 p0 p1 p2 p5
  have p6 := P6.out
  clear P6
  clear HS HO HV
  go_upto_region 27 with (fail)
  have HN2A : N2 < WA.heap.size := (Array.getElem?_eq_some_iff.1 HL.out.row).1
  have hN2b : b ≠ N2 := by omega
  have HLC : Hid (V5 ((WA.setCell ⟨N2, 0, none⟩ (.int .i64 8)).alloc (.cells #[.int .i64 7, .int .i64 8] 3)) N2 (.int .i64 8) (.int .i64 0) (.int .i64 0) (.string ⟨#[]⟩) (.slice none 0 0)) := V5.behind (W := (WA.setCell ⟨N2, 0, none⟩ (.int .i64 8))) ⟨by have := val.blk_set (o := 0) HL.out.row (.int .i64 8); simpa using this⟩ ((Below.refl _ _).alloc (Nat.le_refl _) _)
  replace HL := Lib.hid (HL.out.behind ((Below.refl _ WA).alloc (Nat.le_refl _) (.cells #[.int .i64 7, .int .i64 8] 3)))
  obtain ⟨l0, l1, l2, l3, l4, lf⟩ := HL.out.c
  have HSW : SR (WA.setCell ⟨N2, 0, none⟩ (.int .i64 8)) b s ((left : Int) - 1) := ⟨(val.blk_other _ hN2b).trans HS2.out.row⟩
  have HSC : Hid (SR ((WA.setCell ⟨N2, 0, none⟩ (.int .i64 8)).alloc (.cells #[.int .i64 7, .int .i64 8] 3)) b s ((left : Int) - 1)) := HSW.alloc _
  have HOC := Lib.hid (only_below (only_set (o := 0) HO2.out (Nat.le_of_lt hN2) (.int .i64 8)) ((Below.refl _ _).alloc (Nat.le_refl _) (.cells #[.int .i64 7, .int .i64 8] 3)))
  have HVC : Hid (V5 ((WA.setCell ⟨N2, 0, none⟩ (.int .i64 8)).alloc (.cells #[.int .i64 7, .int .i64 8] 3)) W.heap.size (.int .i64 0) (.int .i64 0) (.int .i64 0) (.string ⟨#[]⟩) (.slice none 0 0)) := V5.behind (W := (WA.setCell ⟨N2, 0, none⟩ (.int .i64 8))) ⟨(val.blk_other _ (by omega)).trans HV2.out.row⟩ ((Below.refl _ _).alloc (Nat.le_refl _) _)
  have HZC : ((WA.setCell ⟨N2, 0, none⟩ (.int .i64 8)).alloc (.cells #[.int .i64 7, .int .i64 8] 3)).heap.size = WA.heap.size + 1 := by simp [val.set_size]
  clear HSW
  have HZ := Lib.hid HZC
  clear HL HS2 HO2 HV2 HZC
  go_wp2_with fail
  with_reducible refine (CK.out _ HSC.out).mono ?_
  clear l0 l1 l2 l3 l4 lf CK HSC
  generalize ((WA.setCell ⟨N2, 0, none⟩ (.int .i64 8)).alloc (.cells #[.int .i64 7, .int .i64 8] 3)) = WC at *
  rintro r w2 ⟨⟨g, cap, done, j, l, rfl, hD, hM, hS, hMA, b1, b2, b3, b4⟩ | ⟨l, rfl, hS, hO, hNM⟩⟩
  · have HS := Lib.hid hS
    have hzw := hM.only.size
    have HO := Lib.hid (only_trans HOC.out hM.only)
    have HV := Lib.hid (HVC.out.only hM.only (by omega))
    have HL := Lib.hid (HLC.out.only hM.only (Ne.symm hN2b))
    have HT := Lib.hid (hM.list 8 (by unfold InI; decide))
    have HB := Lib.hid (And.intro hD (And.intro hMA (And.intro b1 (And.intro b2 (And.intro b3 b4)))))
    have hZ := HZ.out
    clear hM hS hD hMA b1 b2 b3 b4 HVC HLC HOC
    have HLE : Hid (V5 (w2.setCell ⟨N2, 4, none⟩ (.slice (some ⟨g, 0, none⟩) (2 * n) cap)) N2 (.int .i64 8) (.int .i64 0) (.int .i64 0) (.string ⟨#[]⟩) (.slice (some ⟨g, 0, none⟩) (2 * n) cap)) := ⟨by have := val.blk_set (o := 4) HL.out.row (.slice (some ⟨g, 0, none⟩) (2 * n) cap); simpa using this⟩
    have HVE : Hid (V5 (w2.setCell ⟨N2, 4, none⟩ (.slice (some ⟨g, 0, none⟩) (2 * n) cap)) W.heap.size (.int .i64 0) (.int .i64 0) (.int .i64 0) (.string ⟨#[]⟩) (.slice none 0 0)) := ⟨(val.blk_other _ (by omega)).trans HV.out.row⟩
    have HSE : Hid (SR (w2.setCell ⟨N2, 4, none⟩ (.slice (some ⟨g, 0, none⟩) (2 * n) cap)) b s l) := ⟨(val.blk_other _ (by omega)).trans HS.out.row⟩
    have HOE := Lib.hid (only_set (o := 4) HO.out (Nat.le_of_lt hN2) (.slice (some ⟨g, 0, none⟩) (2 * n) cap))
    obtain ⟨q0, q1, q2, q3, q4, qf⟩ := HVE.out.c
    obtain ⟨y0, y1, y2, y3, y4, yf⟩ := HLE.out.c
    obtain ⟨l0, l1, l2, l3, l4, lf⟩ := HL.out.c
    have HF := Lib.hid (HVE.out.put (.int .i64 8) (.int .i64 0) (.int .i64 0) (.string ⟨#[]⟩) (.slice (some ⟨g, 0, none⟩) (2 * n) cap))
    have HSF := Lib.hid (sr_put HSE.out (N := W.heap.size) (by omega) (.int .i64 8) (.int .i64 0) (.int .i64 0) (.string ⟨#[]⟩) (.slice (some ⟨g, 0, none⟩) (2 * n) cap))
    have HOF := Lib.hid (only_put HOE.out (Nat.le_refl _) (.int .i64 8) (.int .i64 0) (.int .i64 0) (.string ⟨#[]⟩) (.slice (some ⟨g, 0, none⟩) (2 * n) cap))
    have HE : Hid (LRet W (put5v (w2.setCell ⟨N2, 4, none⟩ (.slice (some ⟨g, 0, none⟩) (2 * n) cap)) W.heap.size (.int .i64 8) (.int .i64 0) (.int .i64 0) (.string ⟨#[]⟩) (.slice (some ⟨g, 0, none⟩) (2 * n) cap)) b s X (left - 1) deep (2 * n) 8 (.returned (.tuple #[.agg #[.int .i64 8, .int .i64 0, .int .i64 0, .string ⟨#[]⟩, .slice (some ⟨g, 0, none⟩) (2 * n) cap], .int .i64 j]))) := by
      obtain ⟨d1, d2, d3, d4, d5, d6⟩ := HB.out
      refine ⟨⟨.mk 8 0 0 ⟨#[]⟩ (some ⟨g, 0, none⟩) cap done, j, l, by rw [← d1]; rfl, HSF.out, HOF.out, .inr ⟨j, l, done, rfl, rfl, d1, d2, by rw [er_mk]; rfl, d3, d4, ?_, by rw [szL_kids]; have e0 : (⟨#[]⟩ : ByteArray).size = 0 := rfl; omega, d6⟩⟩⟩
      refine ⟨HT.out.tr.kept fun k hk => ?_, fun k hk => ?_, HT.out.nodup, HOF.out⟩
      · have := HT.out.new k hk
        rw [put5v_other _ _ _ _ _ _ _ _ (by omega), val.blk_other _ (by omega)]
      · have := HT.out.new k hk; omega
    clear HT HB hZ
    obtain ⟨k0, k1, k2, k3, k4, _⟩ := HF.out.c
    clear HF HV HO HL HLE HVE HSE HOE HS HSF HOF
    unfold put5v at k0 k1 k2 k3 k4 HE
    go_wp2
    refine bodyPost_ret (v := .tuple #[.agg #[.int .i64 8, .int .i64 0, .int .i64 0, .string ⟨#[]⟩, .slice (some ⟨g, 0, none⟩) (2 * n) cap], .int .i64 j]) (by simp [results, Tryd.results24, go_sem, k0, k1, k2, k3, k4]) rfl ?_
    exact HE.out
  · have HS := Lib.hid hS
    have hzw := hO.size
    have HO := Lib.hid (only_trans HOC.out hO)
    have HV := Lib.hid (HVC.out.only hO (by omega))
    have HL := Lib.hid (HLC.out.only hO (Ne.symm hN2b))
    have HNM := Lib.hid hNM
    have hZ := HZ.out
    clear hS hO hNM HVC HLC HOC
    have HLE : Hid (V5 (w2.setCell ⟨N2, 4, none⟩ (.slice none 0 0)) N2 (.int .i64 8) (.int .i64 0) (.int .i64 0) (.string ⟨#[]⟩) (.slice none 0 0)) := ⟨by have := val.blk_set (o := 4) HL.out.row (.slice none 0 0); simpa using this⟩
    have HVE : Hid (V5 (w2.setCell ⟨N2, 4, none⟩ (.slice none 0 0)) W.heap.size (.int .i64 0) (.int .i64 0) (.int .i64 0) (.string ⟨#[]⟩) (.slice none 0 0)) := ⟨(val.blk_other _ (by omega)).trans HV.out.row⟩
    have HSE : Hid (SR (w2.setCell ⟨N2, 4, none⟩ (.slice none 0 0)) b s l) := ⟨(val.blk_other _ (by omega)).trans HS.out.row⟩
    have HOE := Lib.hid (only_set (o := 4) HO.out (Nat.le_of_lt hN2) (.slice none 0 0))
    obtain ⟨q0, q1, q2, q3, q4, qf⟩ := HVE.out.c
    obtain ⟨y0, y1, y2, y3, y4, yf⟩ := HLE.out.c
    obtain ⟨l0, l1, l2, l3, l4, lf⟩ := HL.out.c
    have HF := Lib.hid (HVE.out.put (.int .i64 8) (.int .i64 0) (.int .i64 0) (.string ⟨#[]⟩) (.slice none 0 0))
    have HSF := Lib.hid (sr_put HSE.out (N := W.heap.size) (by omega) (.int .i64 8) (.int .i64 0) (.int .i64 0) (.string ⟨#[]⟩) (.slice none 0 0))
    have HOF := Lib.hid (only_put HOE.out (Nat.le_refl _) (.int .i64 8) (.int .i64 0) (.int .i64 0) (.string ⟨#[]⟩) (.slice none 0 0))
    have HE : Hid (LRet W (put5v (w2.setCell ⟨N2, 4, none⟩ (.slice none 0 0)) W.heap.size (.int .i64 8) (.int .i64 0) (.int .i64 0) (.string ⟨#[]⟩) (.slice none 0 0)) b s X (left - 1) deep (2 * n) 8 (.returned (.tuple #[.agg #[.int .i64 8, .int .i64 0, .int .i64 0, .string ⟨#[]⟩, .slice none 0 0], .int .i64 (-1)]))) :=
      ⟨⟨.mk 8 0 0 ⟨#[]⟩ none 0 [], -1, l, rfl, HSF.out, HOF.out, .inl ⟨rfl, HNM.out⟩⟩⟩
    clear HNM
    obtain ⟨k0, k1, k2, k3, k4, _⟩ := HF.out.c
    clear HF HV HO HL HLE HVE HSE HOE HS HSF HOF
    unfold put5v at k0 k1 k2 k3 k4 HE
    go_wp2
    refine bodyPost_ret (v := .tuple #[.agg #[.int .i64 8, .int .i64 0, .int .i64 0, .string ⟨#[]⟩, .slice none 0 0], .int .i64 (-1)]) (by simp [results, Tryd.results24, go_sem, k0, k1, k2, k3, k4]) rfl ?_
    exact HE.out
end Go.Proofs.YtnaghafmpncdkaaDoor.cbor
/-
  What is known behind a tag's head, told at the head's place.
-/
namespace Go.Proofs.YtnaghafmpncdkaaDoor.cbor
open Go.Proofs.YtnaghafmpncdkaaDoor.val Go.Proofs.YtnaghafmpncdkaaDoor.head

theorem ba_nil {s : ByteArray} (h : s.size = 0) : s = ⟨#[]⟩ := by
  obtain ⟨d⟩ := s
  have h : d.size = 0 := h
  rw [Array.size_eq_zero_iff.1 h]
theorem fitV_int {x : VT} (h : FitV x) : IntP x := by
  obtain ⟨k, n, e, s, l⟩ := x
  intro h3
  rw [FitV] at h
  subst h3
  obtain ⟨h1, _⟩ := h
  generalize hl : l.length = m at h1
  cases h1 with
  | word hk _ => omega
  | int _ hs => exact ⟨rfl, ba_nil hs, List.length_eq_zero_iff.1 hl⟩
theorem fitV_list {v : VT} (h : FitV v) : ListP v := by
  obtain ⟨k, n, e, s, l⟩ := v
  intro h7
  rw [FitV] at h
  subst h7
  obtain ⟨h1, h2⟩ := h
  have hl : ∀ (l : List VT), FitVL l → ∀ x ∈ l, IntP x := by
    intro l
    induction l with
    | nil => intro _ x hx; cases hx
    | cons y ys ih =>
      intro hf x hx
      rw [FitVL] at hf
      rcases List.mem_cons.1 hx with rfl | hx
      · exact fitV_int hf.1
      · exact ih hf.2 x hx
  have hk := hl l h2
  clear hl h2
  generalize hm : l.length = m at h1
  cases h1 with
  | word hk _ => omega
  | list hs _ => exact ⟨rfl, rfl, ba_nil hs, hk⟩
theorem whole_pair {s : ByteArray} {i left deep : Nat} {t x y : LT} {j l : Int} (h7 : t.k = 7) (hk : t.kids = [x, y]) (hx : x.k = 3) (hy : y.k = 3) (h : Whole s i left deep (er t) j l) : Whole s i left deep (pairV x.n y.n) j l := fun v0 r0 hf hd hh hL hp => by
  obtain ⟨h1, h2, h3⟩ := h v0 r0 hf hd hh hL hp
  refine ⟨?_, h2, h3⟩
  rw [← pair_of (h1 ▸ fitV_list hf) h7 hk hx hy, h1]
theorem whole_tagged {s : ByteArray} {i left deep n : Nat} {v : VT} {next left' : Int} (hm : maj s i = 6) (hN : num s i = n) (hleft : 0 < left) (h : TagW s (i + (1 + many s i)) (left - 1) deep n v next left') : Whole s i left deep v next left' := by
  cases h with
  | far h => exact whole_tag_far hm hN h v next left'
  | fail kid l h => exact whole_tag_no hm hN hleft h v next left'
  | tag h4 kid hv h => subst hv; exact whole_tag hm hN h4 hleft h
  | dec h4 kid x y h7 hk hx hy hv h => subst h4; subst hv; exact whole_dec hm hN hleft (whole_pair h7 hk hx hy h)
  | no h4 kid j l h hk => subst h4; exact whole_dec_no hm hN hleft h (fun e n _ _ he => hk (scaled_pair he)) v next left'
end Go.Proofs.YtnaghafmpncdkaaDoor.cbor
