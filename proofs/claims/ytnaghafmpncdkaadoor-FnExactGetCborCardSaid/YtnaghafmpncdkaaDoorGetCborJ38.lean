/-
  spec's reader of CBOR behind the head of a tag.
-/
import Derived.Test.YtnaghafmpncdkaaDoorGetCborJ35
import Derived.Test.YtnaghafmpncdkaaDoorGetCborJ36
import Derived.Test.YtnaghafmpncdkaaDoorGetCborJ37
import Derived.Test.YtnaghafmpncdkaaDoorGetCborJ31
namespace Go.Proofs.YtnaghafmpncdkaaDoor.cbor
open Go.ChangeShapes Go.WideShapes Go.ChangeAt Go.RowKit
open Go.Proofs.YtnaghafmpncdkaaDoor.val Go.Proofs.YtnaghafmpncdkaaDoor.head
set_option maxRecDepth 100000

/-- What is known of the value behind the head of a tag. -/
inductive TagW (s : ByteArray) (i left deep n : Nat) (v : VT) (next left' : Int) : Prop where
  | far (h : 1000000 < n)
  | fail (kid : LT) (l : Int) (h : Whole s i left (deep + 1) (er kid) (-1) l)
  | tag (h4 : n ≠ 4) (kid : LT) (hv : v = .mk 9 n 0 ⟨#[]⟩ [er kid]) (h : Whole s i left (deep + 1) (er kid) next left')
  | dec (h4 : n = 4) (kid x y : LT) (h7 : kid.k = 7) (hk : kid.kids = [x, y]) (hx : x.k = 3) (hy : y.k = 3) (hv : v = .mk 4 y.n x.n ⟨#[]⟩ []) (h : Whole s i left (deep + 1) (er kid) next left')
  | no (h4 : n = 4) (kid : LT) (j l : Int) (h : Whole s i left (deep + 1) (er kid) j l) (hk : ¬ scaledP kid)
structure TRet (W w' : World) (b : Nat) (s : ByteArray) (i left deep n : Nat) (e : Ending) : Prop where
  ex : ∃ (t : LT) (next left' : Int), e = .returned (.tuple #[.agg #[.int .i64 t.k, .int .i64 t.n, .int .i64 t.e, .string t.s, t.row], .int .i64 next]) ∧ SR w' b s left' ∧ W.grownBy w' (some b) ∧ TagW s i left deep n (er t) next left' ∧
    (next = -1 ∨ ((i : Int) < next ∧ next ≤ s.size ∧ FreshO W w' b t ∧ (t.sz : Int) ≤ next - i ∧ 0 ≤ left' ∧ left' < left))
theorem FreshO.tag2 {W WX : World} {b N1 : Nat} {t : LT} {N : Int} (hT : Tr WX t) (hnew : ∀ k, k ∈ t.blks → N1 < k) (hnd : t.blks.Nodup) (ho : W.grownBy WX (some b)) (hN1 : W.heap.size ≤ N1) (hlt : N1 < WX.heap.size) (hN : InI N) (x0 x1 x2 x3 x4 : Value) :
    FreshO W (put5v (WX.alloc (.cells #[.int .i64 t.k, .int .i64 t.n, .int .i64 t.e, .string t.s, t.row] 24)) N1 x0 x1 x2 x3 x4) b (.mk 9 N 0 ⟨#[]⟩ (some ⟨WX.heap.size, 0, none⟩) 1 [t]) := by
  have hg : (put5v (WX.alloc (.cells #[.int .i64 t.k, .int .i64 t.n, .int .i64 t.e, .string t.s, t.row] 24)) N1 x0 x1 x2 x3 x4).heap[WX.heap.size]? = some (.cells #[.int .i64 t.k, .int .i64 t.n, .int .i64 t.e, .string t.s, t.row] 24 (0, 0)) := by
    rw [put5v_other _ _ _ _ _ _ _ _ (by omega)]; exact heap_alloc_new WX _
  have hk : ∀ k, k ∈ t.blks → (put5v (WX.alloc (.cells #[.int .i64 t.k, .int .i64 t.n, .int .i64 t.e, .string t.s, t.row] 24)) N1 x0 x1 x2 x3 x4).heap[k]? = WX.heap[k]? := fun k hk => by
    have := hnew k hk
    rw [put5v_other _ _ _ _ _ _ _ _ (by omega), Below.heap_alloc _ _ _ (hT.lt k hk)]
  refine ⟨.mk _ (by unfold InI; decide) hN (by unfold InI; decide) (by decide) ⟨by simp, by omega⟩ hg (by simp) (fun i hi => ?_) (fun i hi => ?_), fun k hkk => ?_, ?_, ?_⟩
  · obtain rfl : i = 0 := by simp at hi; omega
    exact ⟨cell_of_row _ _ 0 _ _ (0, 0) hg, cell_of_row _ _ 1 _ _ (0, 0) hg, cell_of_row _ _ 2 _ _ (0, 0) hg, cell_of_row _ _ 3 _ _ (0, 0) hg, cell_of_row _ _ 4 _ _ (0, 0) hg⟩
  · obtain rfl : i = 0 := by simp at hi; omega
    exact hT.kept hk
  · rw [blks_some, blksL_one] at hkk
    rcases List.mem_cons.1 hkk with rfl | hkk
    · show W.heap.size ≤ WX.heap.size; omega
    · have := hnew k hkk; omega
  · rw [blks_some, blksL_one]
    exact List.nodup_cons.2 ⟨fun hm => Nat.lt_irrefl _ (hT.lt _ hm), hnd⟩
  · unfold put5v
    have h1 := only_below ho ((Below.refl _ WX).alloc (Nat.le_refl _) (.cells #[.int .i64 t.k, .int .i64 t.n, .int .i64 t.e, .string t.s, t.row] 24))
    exact only_set (only_set (only_set (only_set (only_set h1 hN1 _) hN1 _) hN1 _) hN1 _) hN1 _
theorem stag_far (W : World) (b : Nat) (s : ByteArray) (i left d n : Nat) (h : SR W b s left) (hn : 1000000 < n) :
    Calls Tryd.prog 49 #[.pointer (some ⟨b, 0, none⟩), .int .i64 i, .int .u64 n, .int .i64 d] W fun e w' => TRet W w' b s i left d n e := by
  have HF : Hid (∀ w', Below W.heap.size W w' → TRet W w' b s i left d n (.returned (.tuple #[.agg #[.int .i64 0, .int .i64 0, .int .i64 0, .string ⟨#[]⟩, .slice none 0 0], .int .i64 (-1)]))) := fun w' hb =>
    ⟨⟨.mk 0 0 0 ⟨#[]⟩ none 0 [], -1, left, rfl, h.behind hb, only_of hb, .far hn, .inl rfl⟩⟩
  have p : decide ((1000000 : Int) < (n : Int)) = true := by rw [decide_eq_true_eq]; omega
  clear h hn
  go_enter Tryd.func49, Tryd.ntmps49
  go_wp2_with fail
  obtain ⟨k0, k1, k2, k3, k4⟩ := cells5 W (.int .i64 0) (.int .i64 0) (.int .i64 0) (.string ⟨#[]⟩) (.slice none 0 0) 24
  refine bodyPost_ret (v := .tuple #[.agg #[.int .i64 0, .int .i64 0, .int .i64 0, .string ⟨#[]⟩, .slice none 0 0], .int .i64 (-1)]) (by simp [results, Tryd.results49, go_sem, k0, k1, k2, k3, k4]) rfl ?_
  exact HF.out _ ((Below.refl _ _).alloc (Nat.le_refl _) _)
set_option maxHeartbeats 4000000 in
theorem stag_near {d : Nat} (hd : d ≤ 100) (HG : SG (d + 1)) (W : World) (b : Nat) (s : ByteArray) (i left n : Nat) (hs : s.size ≤ 1048576) (hi : i ≤ s.size) (hl : left ≤ 2000) (h : SR W b s left) (hn : n ≤ 1000000) (h4 : n ≠ 4) :
    Calls Tryd.prog 49 #[.pointer (some ⟨b, 0, none⟩), .int .i64 i, .int .u64 n, .int .i64 d] W fun e w' => TRet W w' b s i left d n e := by
  have hlt := h.lt
  have CG := Lib.hid (HG (W.alloc (.cells #[.int .i64 0, .int .i64 0, .int .i64 0, .string ⟨#[]⟩, .slice none 0 0] 24)) b s i left hs hi hl (h.alloc _))
  have HV0 := Lib.hid (V5.new W (.int .i64 0) (.int .i64 0) (.int .i64 0) (.string ⟨#[]⟩) (.slice none 0 0))
  rw [show ((d + 1 : Nat) : Int) = (d : Int) + 1 by omega] at CG
  have hd1 : (0 : Int) ≤ (d : Int) + 1 := by omega
  have hd2 : (d : Int) + 1 ≤ 9223372036854775807 := by omega
  have p : decide ((1000000 : Int) < (n : Int)) = false := by rw [decide_eq_false_iff_not]; omega
  have p4 : ((n : Int) == 4) = false := by rw [beq_eq_false_iff_ne]; omega
  have HN := Lib.hid hn
  have H4 := Lib.hid h4
  clear HG h hn hs hi hl h4 hd
  go_enter Tryd.func49, Tryd.ntmps49
  go_wp2_with fail
  with_reducible refine CG.out.mono ?_
  rintro r w1 ⟨t', next, left', rfl, hR2, hO2, hW2, hx⟩
  have HW2 := Lib.hid hW2
  have hrow' : t'.row = .slice t'.a t'.kids.length t'.cap := rfl
  clear hd1 hd2 CG hW2
  have hbV : b ≠ W.heap.size := by omega
  have hz0 : (W.alloc (.cells #[.int .i64 0, .int .i64 0, .int .i64 0, .string ⟨#[]⟩, .slice none 0 0] 24)).heap.size = W.heap.size + 1 := by simp
  have hz1 := hO2.size
  rw [hz0] at hz1
  have hAL : Below w1.heap.size w1 (w1.alloc (.cells #[.int .i64 t'.k, .int .i64 t'.n, .int .i64 t'.e, .string t'.s, .slice t'.a t'.kids.length t'.cap] 24)) := (Below.refl _ w1).alloc (Nat.le_refl _) _
  have hzA : (w1.alloc (.cells #[.int .i64 t'.k, .int .i64 t'.n, .int .i64 t'.e, .string t'.s, .slice t'.a t'.kids.length t'.cap] 24)).heap.size = w1.heap.size + 1 := by simp
  have HRX := Lib.hid ((HV0.out.only hO2 (Ne.symm hbV)).behind hAL)
  have HSX := Lib.hid (hR2.behind hAL)
  have HOX := Lib.hid (only_below (only_out hO2) hAL)
  clear HV0
  rcases hx with rfl | ⟨n1, n2, n3, n4, n5, n6⟩
  · obtain ⟨q0, q1, q2, q3, q4, qf⟩ := HRX.out.c
    have HF := Lib.hid (HRX.out.put (.int .i64 0) (.int .i64 0) (.int .i64 0) (.string ⟨#[]⟩) (.slice none 0 0))
    have HSF := Lib.hid (sr_put HSX.out (N := W.heap.size) hbV (.int .i64 0) (.int .i64 0) (.int .i64 0) (.string ⟨#[]⟩) (.slice none 0 0))
    have HOF := Lib.hid (only_put HOX.out (Nat.le_refl _) (.int .i64 0) (.int .i64 0) (.int .i64 0) (.string ⟨#[]⟩) (.slice none 0 0))
    obtain ⟨k0, k1, k2, k3, k4, _⟩ := HF.out.c
    clear HF HRX HSX HOX hR2 hO2 hAL hzA hz0 hz1
    unfold put5v at k0 k1 k2 k3 k4 HSF HOF
    rw [hrow']
    clear hrow'
    go_wp2
    refine bodyPost_ret (v := .tuple #[.agg #[.int .i64 0, .int .i64 0, .int .i64 0, .string ⟨#[]⟩, .slice none 0 0], .int .i64 (-1)]) (by simp [results, Tryd.results49, go_sem, k0, k1, k2, k3, k4]) rfl ?_
    exact ⟨⟨.mk 0 0 0 ⟨#[]⟩ none 0 [], -1, left', rfl, HSF.out, HOF.out, .fail _ _ HW2.out, .inl rfl⟩⟩
  · obtain ⟨nx, rfl⟩ : ∃ nx : Nat, next = nx := ⟨next.toNat, by omega⟩
    have hnn : ¬ ((nx : Int) < 0) := by omega
    have HX := Lib.hid (And.intro n1 (And.intro n2 (And.intro n4 (And.intro n5 n6))))
    have HTX := Lib.hid (n3.tr.behind hAL)
    have HNEW : Hid (∀ k, k ∈ t'.blks → W.heap.size < k) := fun k hk => by have := n3.new k hk; rw [hz0] at this; omega
    have HND := Lib.hid n3.nodup
    have HZ : Hid (W.heap.size < (w1.alloc (.cells #[.int .i64 t'.k, .int .i64 t'.n, .int .i64 t'.e, .string t'.s, .slice t'.a t'.kids.length t'.cap] 24)).heap.size) := by unfold Hid; rw [hzA]; omega
    have hnI : InI (n : Int) := by have := HN.out; unfold InI; omega
    have hb := (Box.new w1 t' 24)
    rw [hrow'] at hb
    have HBX := Lib.hid hb
    have HWR : Hid (wrap64 (n : Int) = (n : Int)) := wrap644 _ (by omega) (by have := HN.out; omega)
    have HNI := Lib.hid hnI
    have HRW := Lib.hid hrow'
    clear hb hR2 hO2 hAL hzA hz0 hz1 n1 n2 n3 n4 n5 n6 hnI
    rw [hrow']
    clear hrow'
    go_upto_region 7 with (fail)
    generalize (w1.alloc (.cells #[.int .i64 t'.k, .int .i64 t'.n, .int .i64 t'.e, .string t'.s, .slice t'.a t'.kids.length t'.cap] 24)) = WA at *
    generalize w1.heap.size = N5 at *
    have hAL2 : Below WA.heap.size WA (WA.alloc (.cells #[.int .i64 t'.k, .int .i64 t'.n, .int .i64 t'.e, .string t'.s, .slice t'.a t'.kids.length t'.cap] 24)) := (Below.refl _ _).alloc (Nat.le_refl _) _
    have HRY := Lib.hid (HRX.out.behind hAL2)
    have HSY := Lib.hid (HSX.out.behind hAL2)
    have HOY := Lib.hid (only_below HOX.out hAL2)
    have HFO : Hid (FreshO W (put5v (WA.alloc (.cells #[.int .i64 t'.k, .int .i64 t'.n, .int .i64 t'.e, .string t'.s, .slice t'.a t'.kids.length t'.cap] 24)) W.heap.size (.int .i64 9) (.int .i64 n) (.int .i64 0) (.string ⟨#[]⟩) (.slice (some ⟨WA.heap.size, 0, none⟩) 1 1)) b (.mk 9 n 0 ⟨#[]⟩ (some ⟨WA.heap.size, 0, none⟩) 1 [t'])) :=
      FreshO.tag2 (N := n) HTX.out HNEW.out HND.out HOX.out (Nat.le_refl _) HZ.out HNI.out (.int .i64 9) (.int .i64 n) (.int .i64 0) (.string ⟨#[]⟩) (.slice (some ⟨WA.heap.size, 0, none⟩) 1 1)
    obtain ⟨q0, q1, q2, q3, q4, qf⟩ := HRY.out.c
    have HF := Lib.hid (HRY.out.put (.int .i64 9) (.int .i64 n) (.int .i64 0) (.string ⟨#[]⟩) (.slice (some ⟨WA.heap.size, 0, none⟩) 1 1))
    have HSF := Lib.hid (sr_put HSY.out (N := W.heap.size) hbV (.int .i64 9) (.int .i64 n) (.int .i64 0) (.string ⟨#[]⟩) (.slice (some ⟨WA.heap.size, 0, none⟩) 1 1))
    have HOF := Lib.hid (only_put HOY.out (Nat.le_refl _) (.int .i64 9) (.int .i64 n) (.int .i64 0) (.string ⟨#[]⟩) (.slice (some ⟨WA.heap.size, 0, none⟩) 1 1))
    obtain ⟨k0, k1, k2, k3, k4, _⟩ := HF.out.c
    obtain ⟨e0, e1, e2, e3, e4⟩ := HBX.out
    rw [HRW.out] at e4
    have hwr := HWR.out
    clear HF HRX HRY HSX HSY HOX HOY hAL2 HTX HNEW HND HBX HWR HNI HRW HZ
    unfold put5v at k0 k1 k2 k3 k4 HSF HOF HFO
    go_wp2
    refine bodyPost_ret (v := .tuple #[.agg #[.int .i64 9, .int .i64 n, .int .i64 0, .string ⟨#[]⟩, .slice (some ⟨WA.heap.size, 0, none⟩) 1 1], .int .i64 nx]) (by simp [results, Tryd.results49, go_sem, k0, k1, k2, k3, k4]) rfl ?_
    refine ⟨⟨.mk 9 n 0 ⟨#[]⟩ (some ⟨WA.heap.size, 0, none⟩) 1 [t'], nx, left', rfl, HSF.out, HOF.out, .tag H4.out t' (by rw [er_mk]; rfl) HW2.out, .inr ?_⟩⟩
    obtain ⟨b1, b2, b3, b4, b5⟩ := HX.out
    refine ⟨b1, b2, HFO.out, ?_, b4, b5⟩
    rw [szL_kids, LT.szL, LT.szL]
    have e0 : (⟨#[]⟩ : ByteArray).size = 0 := rfl
    omega
end Go.Proofs.YtnaghafmpncdkaaDoor.cbor
/-
  spec's reader of CBOR behind the head of a decimal's tag.
-/
namespace Go.Proofs.YtnaghafmpncdkaaDoor.cbor
open Go.ChangeShapes Go.WideShapes Go.ChangeAt Go.RowKit
open Go.Proofs.YtnaghafmpncdkaaDoor.val Go.Proofs.YtnaghafmpncdkaaDoor.head
set_option maxRecDepth 100000

set_option maxHeartbeats 4000000 in
theorem stag_four {d : Nat} (hd : d ≤ 100) (HG : SG (d + 1)) (W : World) (b : Nat) (s : ByteArray) (i left : Nat) (hs : s.size ≤ 1048576) (hi : i ≤ s.size) (hl : left ≤ 2000) (h : SR W b s left) :
    Calls Tryd.prog 49 #[.pointer (some ⟨b, 0, none⟩), .int .i64 i, .int .u64 4, .int .i64 d] W fun e w' => TRet W w' b s i left d 4 e := by
  have hlt := h.lt
  have CG := Lib.hid (HG (W.alloc (.cells #[.int .i64 0, .int .i64 0, .int .i64 0, .string ⟨#[]⟩, .slice none 0 0] 24)) b s i left hs hi hl (h.alloc _))
  have HV0 := Lib.hid (V5.new W (.int .i64 0) (.int .i64 0) (.int .i64 0) (.string ⟨#[]⟩) (.slice none 0 0))
  rw [show ((d + 1 : Nat) : Int) = (d : Int) + 1 by omega] at CG
  have hd1 : (0 : Int) ≤ (d : Int) + 1 := by omega
  have hd2 : (d : Int) + 1 ≤ 9223372036854775807 := by omega
  clear HG h hs hi hl hd
  go_enter Tryd.func49, Tryd.ntmps49
  go_wp2_with fail
  with_reducible refine CG.out.mono ?_
  rintro r w1 ⟨t', next, left', rfl, hR2, hO2, hW2, hx⟩
  have HW2 := Lib.hid hW2
  have hrow' : t'.row = .slice t'.a t'.kids.length t'.cap := rfl
  clear hd1 hd2 CG hW2
  have hbV : b ≠ W.heap.size := by omega
  have hz0 : (W.alloc (.cells #[.int .i64 0, .int .i64 0, .int .i64 0, .string ⟨#[]⟩, .slice none 0 0] 24)).heap.size = W.heap.size + 1 := by simp
  have hz1 := hO2.size
  rw [hz0] at hz1
  have hAL : Below w1.heap.size w1 (w1.alloc (.cells #[.int .i64 t'.k, .int .i64 t'.n, .int .i64 t'.e, .string t'.s, .slice t'.a t'.kids.length t'.cap] 24)) := (Below.refl _ w1).alloc (Nat.le_refl _) _
  have hzA : (w1.alloc (.cells #[.int .i64 t'.k, .int .i64 t'.n, .int .i64 t'.e, .string t'.s, .slice t'.a t'.kids.length t'.cap] 24)).heap.size = w1.heap.size + 1 := by simp
  have HRX := Lib.hid ((HV0.out.only hO2 (Ne.symm hbV)).behind hAL)
  have HSX := Lib.hid (hR2.behind hAL)
  have HOX := Lib.hid (only_below (only_out hO2) hAL)
  clear HV0
  rcases hx with rfl | ⟨n1, n2, n3, n4, n5, n6⟩
  · obtain ⟨q0, q1, q2, q3, q4, qf⟩ := HRX.out.c
    have HF := Lib.hid (HRX.out.put (.int .i64 0) (.int .i64 0) (.int .i64 0) (.string ⟨#[]⟩) (.slice none 0 0))
    have HSF := Lib.hid (sr_put HSX.out (N := W.heap.size) hbV (.int .i64 0) (.int .i64 0) (.int .i64 0) (.string ⟨#[]⟩) (.slice none 0 0))
    have HOF := Lib.hid (only_put HOX.out (Nat.le_refl _) (.int .i64 0) (.int .i64 0) (.int .i64 0) (.string ⟨#[]⟩) (.slice none 0 0))
    obtain ⟨k0, k1, k2, k3, k4, _⟩ := HF.out.c
    clear HF HRX HSX HOX hR2 hO2 hAL hzA hz0 hz1
    unfold put5v at k0 k1 k2 k3 k4 HSF HOF
    rw [hrow']
    clear hrow'
    go_wp2
    refine bodyPost_ret (v := .tuple #[.agg #[.int .i64 0, .int .i64 0, .int .i64 0, .string ⟨#[]⟩, .slice none 0 0], .int .i64 (-1)]) (by simp [results, Tryd.results49, go_sem, k0, k1, k2, k3, k4]) rfl ?_
    exact ⟨⟨.mk 0 0 0 ⟨#[]⟩ none 0 [], -1, left', rfl, HSF.out, HOF.out, .fail _ _ HW2.out, .inl rfl⟩⟩
  · obtain ⟨nx, rfl⟩ : ∃ nx : Nat, next = nx := ⟨next.toNat, by omega⟩
    have hnn : ¬ ((nx : Int) < 0) := by omega
    have HX := Lib.hid (And.intro n1 (And.intro n2 (And.intro n4 (And.intro n5 n6))))
    have HTX := Lib.hid (n3.tr.behind hAL)
    have HNEW : Hid (∀ k, k ∈ t'.blks → W.heap.size < k) := fun k hk => by have := n3.new k hk; rw [hz0] at this; omega
    have HND := Lib.hid n3.nodup
    have hb := (Box.new w1 t' 24)
    rw [hrow'] at hb
    have HBX := Lib.hid hb
    have HRW := Lib.hid hrow'
    clear hb hR2 hO2 hAL hzA hz0 hz1 n1 n2 n3 n4 n5 n6
    rw [hrow']
    clear hrow'
    go_upto_region 8 with (fail)
    generalize (w1.alloc (.cells #[.int .i64 t'.k, .int .i64 t'.n, .int .i64 t'.e, .string t'.s, .slice t'.a t'.kids.length t'.cap] 24)) = WA at *
    generalize w1.heap.size = N5 at *
    obtain ⟨q0, q1, q2, q3, q4, qf⟩ := HRX.out.c
    obtain ⟨e0, e1, e2, e3, e4⟩ := HBX.out
    have hrow := HRW.out
    rw [hrow] at e4
    clear HBX HRW
    by_cases h7 : t'.k = 7
    · rw [h7] at e0
      by_cases h2 : t'.kids.length = 2
      · obtain ⟨x, y, hxy⟩ : ∃ x y, t'.kids = [x, y] := by
          match hkk : t'.kids, h2 with
          | [x, y], _ => exact ⟨x, y, rfl⟩
        obtain ⟨g, ha, hg, hx, hy⟩ := two_at HTX.out hxy
        have HXY : Hid (InI x.n ∧ InI y.n) := by
          have hin := tr_in HTX.out
          cases hin
          rename_i k n e s a cap kids _ _ _ _ _ hc hkids
          have hkk : kids = [x, y] := hxy
          subst hkk
          exact ⟨(in_ne (hkids 0 (by simp))).1, (in_ne (hkids 1 (by simp))).1⟩
        obtain ⟨x0, x1, _, _, _⟩ := hx
        obtain ⟨y0, y1, _, _, _⟩ := hy
        rw [ha, h2] at e4
        by_cases hx3 : x.k = 3
        · by_cases hy3 : y.k = 3
          · rw [hx3] at x0
            rw [hy3] at y0
            have z1 : WA.cell? ⟨g, 6, none⟩ = some (.int .i64 y.n) := y1
            have zx : WA.cell? ⟨g, 1, none⟩ = some (.int .i64 x.n) := x1
            clear h2 hg ha x1 y1
            have H7 := Lib.hid h7
            have HK := Lib.hid hxy
            have HX3 := Lib.hid hx3
            have HY3 := Lib.hid hy3
            have HI : Hid (InI x.n ∧ InI y.n) := HXY
            clear h7 hxy hx3 hy3 hrow HXY
            go_upto_region 10 with (fail)
            have HF := Lib.hid (HRX.out.put (.int .i64 4) (.int .i64 y.n) (.int .i64 x.n) (.string ⟨#[]⟩) (.slice none 0 0))
            have HSF := Lib.hid (sr_put HSX.out (N := W.heap.size) hbV (.int .i64 4) (.int .i64 y.n) (.int .i64 x.n) (.string ⟨#[]⟩) (.slice none 0 0))
            have HOF := Lib.hid (only_put HOX.out (Nat.le_refl _) (.int .i64 4) (.int .i64 y.n) (.int .i64 x.n) (.string ⟨#[]⟩) (.slice none 0 0))
            obtain ⟨k0, k1, k2, k3, k4, _⟩ := HF.out.c
            clear HF HRX HSX HOX HTX HND HNEW x0 y0
            unfold put5v at k0 k1 k2 k3 k4 HSF HOF
            go_wp2
            go_region
            all_goals
              go_wp2
              refine bodyPost_ret (v := .tuple #[.agg #[.int .i64 4, .int .i64 y.n, .int .i64 x.n, .string ⟨#[]⟩, .slice none 0 0], .int .i64 nx]) (by simp [results, Tryd.results49, go_sem, k0, k1, k2, k3, k4]) rfl ?_
              obtain ⟨b1, b2, b3, b4, b5⟩ := HX.out
              refine ⟨⟨.mk 4 y.n x.n ⟨#[]⟩ none 0 [], nx, left', rfl, ⟨HSF.out.row⟩, only_drew HOF.out, .dec rfl t' x y H7.out HK.out HX3.out HY3.out (by rw [er_mk]; rfl) HW2.out, .inr ⟨b1, b2, FreshO.leaf (by unfold InI; decide) HI.out.2 HI.out.1 (by decide) (only_drew HOF.out), ?_, b4, b5⟩⟩⟩
              rw [szL_kids, LT.szL]
              have e0 : (⟨#[]⟩ : ByteArray).size = 0 := rfl
              omega
          · have f1 : (y.k == 3) = false := by rw [beq_eq_false_iff_ne]; exact hy3
            rw [hx3] at x0
            have HNP : Hid (¬ scaledP t') := fun ⟨_, x', y', e, h1, h2⟩ => hy3 (by rw [hxy] at e; injection e with e1 e2; injection e2 with e2 _; rw [e2]; exact h2)
            clear h7 hx3 hxy h2 hg ha hrow HXY f1
            go_upto_region 9 with (fail)
            have HF := Lib.hid (HRX.out.put (.int .i64 0) (.int .i64 0) (.int .i64 0) (.string ⟨#[]⟩) (.slice none 0 0))
            have HSF := Lib.hid (sr_put HSX.out (N := W.heap.size) hbV (.int .i64 0) (.int .i64 0) (.int .i64 0) (.string ⟨#[]⟩) (.slice none 0 0))
            have HOF := Lib.hid (only_put HOX.out (Nat.le_refl _) (.int .i64 0) (.int .i64 0) (.int .i64 0) (.string ⟨#[]⟩) (.slice none 0 0))
            obtain ⟨k0, k1, k2, k3, k4, _⟩ := HF.out.c
            clear HF HRX HSX HOX HTX HX HND HNEW
            unfold put5v at k0 k1 k2 k3 k4 HSF HOF
            go_wp2
            refine bodyPost_ret (v := .tuple #[.agg #[.int .i64 0, .int .i64 0, .int .i64 0, .string ⟨#[]⟩, .slice none 0 0], .int .i64 (-1)]) (by simp [results, Tryd.results49, go_sem, k0, k1, k2, k3, k4]) rfl ?_
            exact ⟨⟨.mk 0 0 0 ⟨#[]⟩ none 0 [], -1, left', rfl, HSF.out, HOF.out, .no rfl t' _ _ HW2.out HNP.out, .inl rfl⟩⟩
        · have f1 : (x.k == 3) = false := by rw [beq_eq_false_iff_ne]; exact hx3
          have HNP : Hid (¬ scaledP t') := fun ⟨_, x', y', e, h1, h2⟩ => hx3 (by rw [hxy] at e; injection e with e1 e2; rw [e1]; exact h1)
          clear h7 hxy h2 hg ha hrow HXY f1
          go_upto_region 9 with (fail)
          have HF := Lib.hid (HRX.out.put (.int .i64 0) (.int .i64 0) (.int .i64 0) (.string ⟨#[]⟩) (.slice none 0 0))
          have HSF := Lib.hid (sr_put HSX.out (N := W.heap.size) hbV (.int .i64 0) (.int .i64 0) (.int .i64 0) (.string ⟨#[]⟩) (.slice none 0 0))
          have HOF := Lib.hid (only_put HOX.out (Nat.le_refl _) (.int .i64 0) (.int .i64 0) (.int .i64 0) (.string ⟨#[]⟩) (.slice none 0 0))
          obtain ⟨k0, k1, k2, k3, k4, _⟩ := HF.out.c
          clear HF HRX HSX HOX HTX HX HND HNEW
          unfold put5v at k0 k1 k2 k3 k4 HSF HOF
          go_wp2
          refine bodyPost_ret (v := .tuple #[.agg #[.int .i64 0, .int .i64 0, .int .i64 0, .string ⟨#[]⟩, .slice none 0 0], .int .i64 (-1)]) (by simp [results, Tryd.results49, go_sem, k0, k1, k2, k3, k4]) rfl ?_
          exact ⟨⟨.mk 0 0 0 ⟨#[]⟩ none 0 [], -1, left', rfl, HSF.out, HOF.out, .no rfl t' _ _ HW2.out HNP.out, .inl rfl⟩⟩
      · have f1 : ¬ ((t'.kids.length : Int) = 2) := by omega
        have HNP : Hid (¬ scaledP t') := fun ⟨_, x', y', e, _, _⟩ => h2 (by rw [e]; rfl)
        clear h7 h2 hrow
        go_upto_region 9 with (fail)
        have HF := Lib.hid (HRX.out.put (.int .i64 0) (.int .i64 0) (.int .i64 0) (.string ⟨#[]⟩) (.slice none 0 0))
        have HSF := Lib.hid (sr_put HSX.out (N := W.heap.size) hbV (.int .i64 0) (.int .i64 0) (.int .i64 0) (.string ⟨#[]⟩) (.slice none 0 0))
        have HOF := Lib.hid (only_put HOX.out (Nat.le_refl _) (.int .i64 0) (.int .i64 0) (.int .i64 0) (.string ⟨#[]⟩) (.slice none 0 0))
        obtain ⟨k0, k1, k2, k3, k4, _⟩ := HF.out.c
        clear HF HRX HSX HOX HTX HX HND HNEW
        unfold put5v at k0 k1 k2 k3 k4 HSF HOF
        go_wp2
        refine bodyPost_ret (v := .tuple #[.agg #[.int .i64 0, .int .i64 0, .int .i64 0, .string ⟨#[]⟩, .slice none 0 0], .int .i64 (-1)]) (by simp [results, Tryd.results49, go_sem, k0, k1, k2, k3, k4]) rfl ?_
        exact ⟨⟨.mk 0 0 0 ⟨#[]⟩ none 0 [], -1, left', rfl, HSF.out, HOF.out, .no rfl t' _ _ HW2.out HNP.out, .inl rfl⟩⟩
    · have f1 : (t'.k == 7) = false := by rw [beq_eq_false_iff_ne]; exact h7
      have HNP : Hid (¬ scaledP t') := fun h => h7 h.1
      clear hrow
      go_upto_region 9 with (fail)
      have HF := Lib.hid (HRX.out.put (.int .i64 0) (.int .i64 0) (.int .i64 0) (.string ⟨#[]⟩) (.slice none 0 0))
      have HSF := Lib.hid (sr_put HSX.out (N := W.heap.size) hbV (.int .i64 0) (.int .i64 0) (.int .i64 0) (.string ⟨#[]⟩) (.slice none 0 0))
      have HOF := Lib.hid (only_put HOX.out (Nat.le_refl _) (.int .i64 0) (.int .i64 0) (.int .i64 0) (.string ⟨#[]⟩) (.slice none 0 0))
      obtain ⟨k0, k1, k2, k3, k4, _⟩ := HF.out.c
      clear HF HRX HSX HOX HTX HX HND HNEW
      unfold put5v at k0 k1 k2 k3 k4 HSF HOF
      go_wp2
      refine bodyPost_ret (v := .tuple #[.agg #[.int .i64 0, .int .i64 0, .int .i64 0, .string ⟨#[]⟩, .slice none 0 0], .int .i64 (-1)]) (by simp [results, Tryd.results49, go_sem, k0, k1, k2, k3, k4]) rfl ?_
      exact ⟨⟨.mk 0 0 0 ⟨#[]⟩ none 0 [], -1, left', rfl, HSF.out, HOF.out, .no rfl t' _ _ HW2.out HNP.out, .inl rfl⟩⟩
end Go.Proofs.YtnaghafmpncdkaaDoor.cbor
/-
  spec.l05Get at a tag.
-/
namespace Go.Proofs.YtnaghafmpncdkaaDoor.cbor
open Go.ChangeShapes Go.WideShapes Go.ChangeAt Go.RowKit
open Go.Proofs.YtnaghafmpncdkaaDoor.val Go.Proofs.YtnaghafmpncdkaaDoor.head
set_option maxRecDepth 100000

set_option maxHeartbeats 2000000 in
theorem get_tag (W : World) (b : Nat) (s : ByteArray) (i left deep : Nat) (n : Nat) (X : Nat) (hs : s.size ≤ 1048576) (hi : i < s.size) (hl0 : 0 < left) (hl : left ≤ 2000) (hd : deep ≤ 14) (h : SR W b s left) (hn : getHead s i = (6, n, (X : Int)))
    (CT : ∀ W', SR W' b s ((left : Int) - 1) → Calls Tryd.prog 49 #[.pointer (some ⟨b, 0, none⟩), .int .i64 X, .int .u64 n, .int .i64 deep] W' fun e w' => TRet W' w' b s X (left - 1) deep n e) :
    Calls Tryd.prog 24 #[.pointer (some ⟨b, 0, none⟩), .int .i64 i, .int .i64 deep] W fun e w' => TRet W w' b s X (left - 1) deep n e := by
  have HA := Lib.hid (h.alloc (.cells #[.int .i64 0, .int .i64 0, .int .i64 0, .string ⟨#[]⟩, .slice none 0 0] 24))
  have hlt := h.lt
  have c0 := HA.out.c0
  have c2 := HA.out.c2
  have fr := HA.out.fr 2
  have HS := Lib.hid ((h.set ((left : Int) - 1)).alloc (.cells #[.int .i64 0, .int .i64 0, .int .i64 0, .string ⟨#[]⟩, .slice none 0 0] 24))
  have HV : Hid (V5 ((W.setCell ⟨b, 2, none⟩ (.int .i64 ((left : Int) - 1))).alloc (.cells #[.int .i64 0, .int .i64 0, .int .i64 0, .string ⟨#[]⟩, .slice none 0 0] 24)) W.heap.size (.int .i64 0) (.int .i64 0) (.int .i64 0) (.string ⟨#[]⟩) (.slice none 0 0)) := by
    have := V5.new (W.setCell ⟨b, 2, none⟩ (.int .i64 ((left : Int) - 1))) (.int .i64 0) (.int .i64 0) (.int .i64 0) (.string ⟨#[]⟩) (.slice none 0 0)
    rwa [val.set_size] at this
  have d0 := HS.out.c0
  have d1 := HS.out.c1
  have d2 := HS.out.c2
  have HO : Hid (W.grownBy ((W.setCell ⟨b, 2, none⟩ (.int .i64 ((left : Int) - 1))).alloc (.cells #[.int .i64 0, .int .i64 0, .int .i64 0, .string ⟨#[]⟩, .slice none 0 0] 24)) (some b)) := only_below (set_only _ _ _ _) ((Below.refl _ _).alloc (Nat.le_refl _) _)
  have CH := Lib.hid (fun W h => spec_head W b s ((left : Int) - 1) i hs h)
  rw [hn] at CH
  unfold triple at CH
  have e0 : -9223372036854775808 ≤ (left : Int) - 1 := by omega
  have e1 : (left : Int) - 1 ≤ 9223372036854775807 := by omega
  have e2 : (s.size : Int) ≤ 1048576 := by omega
  have p0 : ¬ (left : Int) - 1 < 0 := by omega
  have p1 : ¬ (14 : Int) < (deep : Int) := by omega
  have p2 : ¬ (s.size : Int) ≤ (i : Int) := by omega
  have p3 : (i : Int) < (s.size : Int) := by omega
  have p4 : (0 : Int) ≤ (i : Int) := by omega
  have p5 : ¬ (X : Int) < 0 := by omega
  clear h HA hn hl hl0 hd hs hi
  have CW := Lib.hid CT
  clear CT
  go_enter Tryd.func24, Tryd.ntmps24
  go_wp2_with fail
  with_reducible refine (CH.out _ HS.out).mono ?_
  rintro r w1 ⟨rfl, hb⟩
  replace HS := Lib.hid (HS.out.behind hb)
  replace HO := Lib.hid (only_below HO.out hb)
  replace HV := Lib.hid (HV.out.behind hb)
  clear hb CH c0 c2 fr d0 d1 d2 e0 e1 e2
  have hN2 : W.heap.size < w1.heap.size := (Array.getElem?_eq_some_iff.1 HV.out.row).1
  have hNb : b < w1.heap.size := HS.out.lt
  have HL := Lib.hid (V5.new w1 (.int .i64 0) (.int .i64 0) (.int .i64 0) (.string ⟨#[]⟩) (.slice none 0 0))
  replace HS := Lib.hid (HS.out.alloc (.cells #[.int .i64 0, .int .i64 0, .int .i64 0, .string ⟨#[]⟩, .slice none 0 0] 24))
  replace HO := Lib.hid (only_below HO.out ((Below.refl _ _).alloc (Nat.le_refl _) (.cells #[.int .i64 0, .int .i64 0, .int .i64 0, .string ⟨#[]⟩, .slice none 0 0] 24)))
  replace HV := Lib.hid (HV.out.behind ((Below.refl _ _).alloc (Nat.le_refl _) (.cells #[.int .i64 0, .int .i64 0, .int .i64 0, .string ⟨#[]⟩, .slice none 0 0] 24)))
  go_wp2_with fail
  with_reducible refine (CW.out _ HS.out).mono ?_
  rintro r w2 ⟨t', next, left', rfl, hS2, hG2, hW2, hx⟩
  have hzA : (w1.alloc (.cells #[.int .i64 0, .int .i64 0, .int .i64 0, .string ⟨#[]⟩, .slice none 0 0] 24)).heap.size = w1.heap.size + 1 := by simp
  have hzg := hG2.size
  rw [hzA] at hzg
  have HW2 := Lib.hid hW2
  have HS2 := Lib.hid hS2
  replace HO := Lib.hid (only_trans HO.out hG2)
  replace HV := Lib.hid (HV.out.only hG2 (by omega))
  replace HL := Lib.hid (HL.out.only hG2 (by omega))
  have HX : Hid (next = -1 ∨ ((X : Int) < next ∧ next ≤ s.size ∧ (Tr w2 t' ∧ (∀ k, k ∈ t'.blks → w1.heap.size < k) ∧ t'.blks.Nodup) ∧ (t'.sz : Int) ≤ next - X ∧ 0 ≤ left' ∧ left' < (left - 1 : Nat))) := by
    rcases hx with h | ⟨a1, a2, a3, a4, a5, a6⟩
    · exact .inl h
    · exact .inr ⟨a1, a2, ⟨a3.tr, fun k hk => by have := a3.new k hk; rw [hzA] at this; omega, a3.nodup⟩, a4, a5, a6⟩
  have hrow' : t'.row = .slice t'.a t'.kids.length t'.cap := rfl
  clear CW hS2 hG2 hW2 hx HS hzA hzg
  rw [hrow']
  generalize w1.heap.size = N2 at *
  obtain ⟨q0, q1, q2, q3, q4, qf⟩ := HV.out.c
  obtain ⟨l0, l1, l2, l3, l4, lf⟩ := HL.out.c
  have HLF := Lib.hid (HL.out.put (.int .i64 t'.k) (.int .i64 t'.n) (.int .i64 t'.e) (.string t'.s) (.slice t'.a t'.kids.length t'.cap))
  obtain ⟨y0, y1, y2, y3, y4, yf⟩ := HLF.out.c
  have HV2 : Hid (V5 (put5v w2 N2 (.int .i64 t'.k) (.int .i64 t'.n) (.int .i64 t'.e) (.string t'.s) (.slice t'.a t'.kids.length t'.cap)) W.heap.size (.int .i64 0) (.int .i64 0) (.int .i64 0) (.string ⟨#[]⟩) (.slice none 0 0)) := ⟨(put5v_other _ _ _ _ _ _ _ _ (by omega)).trans HV.out.row⟩
  have HF := Lib.hid (HV2.out.put (.int .i64 t'.k) (.int .i64 t'.n) (.int .i64 t'.e) (.string t'.s) (.slice t'.a t'.kids.length t'.cap))
  have HSF := Lib.hid (sr_put (sr_put HS2.out (N := N2) (by omega) (.int .i64 t'.k) (.int .i64 t'.n) (.int .i64 t'.e) (.string t'.s) (.slice t'.a t'.kids.length t'.cap)) (N := W.heap.size) (by omega) (.int .i64 t'.k) (.int .i64 t'.n) (.int .i64 t'.e) (.string t'.s) (.slice t'.a t'.kids.length t'.cap))
  have HOF := Lib.hid (only_put (only_put HO.out (Nat.le_of_lt hN2) (.int .i64 t'.k) (.int .i64 t'.n) (.int .i64 t'.e) (.string t'.s) (.slice t'.a t'.kids.length t'.cap)) (Nat.le_refl _) (.int .i64 t'.k) (.int .i64 t'.n) (.int .i64 t'.e) (.string t'.s) (.slice t'.a t'.kids.length t'.cap))
  have HE : Hid (TRet W (put5v (put5v w2 N2 (.int .i64 t'.k) (.int .i64 t'.n) (.int .i64 t'.e) (.string t'.s) (.slice t'.a t'.kids.length t'.cap)) W.heap.size (.int .i64 t'.k) (.int .i64 t'.n) (.int .i64 t'.e) (.string t'.s) (.slice t'.a t'.kids.length t'.cap)) b s X (left - 1) deep n (.returned (.tuple #[.agg #[.int .i64 t'.k, .int .i64 t'.n, .int .i64 t'.e, .string t'.s, .slice t'.a t'.kids.length t'.cap], .int .i64 next]))) := by
    refine ⟨⟨t', next, left', rfl, HSF.out, HOF.out, HW2.out, ?_⟩⟩
    rcases HX.out with h | ⟨a1, a2, ⟨a3, a4, a5⟩, a6, a7, a8⟩
    · exact .inl h
    · refine .inr ⟨a1, a2, ⟨a3.kept fun k hk => ?_, fun k hk => ?_, a5, HOF.out⟩, a6, a7, a8⟩
      · have := a4 k hk
        rw [put5v_other _ _ _ _ _ _ _ _ (by omega), put5v_other _ _ _ _ _ _ _ _ (by omega)]
      · have := a4 k hk; omega
  obtain ⟨k0, k1, k2, k3, k4, _⟩ := HF.out.c
  clear HF HV HO HL HLF HV2 HX HW2 HS2 HSF HOF hrow'
  unfold put5v at k0 k1 k2 k3 k4 HE y0 y1 y2 y3 y4 yf
  go_wp2
  refine bodyPost_ret (v := .tuple #[.agg #[.int .i64 t'.k, .int .i64 t'.n, .int .i64 t'.e, .string t'.s, .slice t'.a t'.kids.length t'.cap], .int .i64 next]) (by simp [results, Tryd.results24, go_sem, k0, k1, k2, k3, k4]) rfl ?_
  exact HE.out
end Go.Proofs.YtnaghafmpncdkaaDoor.cbor
