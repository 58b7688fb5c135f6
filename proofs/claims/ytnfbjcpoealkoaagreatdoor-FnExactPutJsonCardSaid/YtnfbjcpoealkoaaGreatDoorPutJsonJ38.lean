/-
  impl's writer of JSON at maps: what stands between the braces.
-/
import Derived.Test.YtnfbjcpoealkoaaGreatDoorPutJsonJ37
namespace Go.Proofs.YtnfbjcpoealkoaaGreatDoor.json
open Go.ChangeShapes Go.WideShapes Go.ChangeAt Go.RowKit Go.Proofs.YtnfbjcpoealkoaaGreatDoor.val Go.Proofs.YtnfbjcpoealkoaaGreatDoor.num Go.Proofs.YtnfbjcpoealkoaaGreatDoor.node
set_option maxRecDepth 100000

set_option maxHeartbeats 4000000 in
theorem items_8 {w : World} {B : Nat} (W : World) (b : Nat) (v : Value) (l : List UInt8) (p : Bool) (n e : Int) (s : ByteArray) (a : Option Addr) (cap lv : Nat) (kids : List LT)
    (hc : ∀ i (h : i < kids.length), ∃ x, a = some x ∧ x.block < B ∧ At5 w (x.add (i * 5)) kids[i]) (ih : ∀ i (h : i < kids.length), IPutC w B p kids[i])
    (hl : l.length + (itemsT p 8 lv 0 kids).length ≤ 999990000) (hlv : lv + LT.nodesL kids + 1 ≤ 1000) (hk : kids.length ≤ 1048576) (hpos : 0 < kids.length) (hb : Below B w W) (hB : B ≤ b) (hw : Wj W b v l p) :
    Calls Tryz.prog 164 #[.pointer (some ⟨b, 0, none⟩), .agg #[.int .i64 8, .int .i64 n, .int .i64 e, .string s, .slice a kids.length cap], .int .i64 lv] W (PutR W b (l ++ itemsT p 8 lv 0 kids ++ lineL p lv) p) := by
  obtain ⟨i0, hi0, hz0, hz1, hz2⟩ := info_parts info8
  have hlt := hw.lt
  have HC := Lib.hid hc
  have IH := Lib.hid ih
  have HB := Lib.hid hb
  have HLV := Lib.hid hlv
  have HLEN := Lib.hid hl
  have HA : Hid (Bk b W (W.alloc (.cells #[.int .i64 8, .int .i64 n, .int .i64 e, .string s, .slice a kids.length cap] 46))) := (Bk.refl b W).alloc (Nat.le_of_lt hlt) _
  have HW0 := Lib.hid (hw.alloc (.cells #[.int .i64 8, .int .i64 n, .int .i64 e, .string s, .slice a kids.length cap] 46))
  clear hw hc ih hb hlv hl
  go_enter Tryz.func164, Tryz.ntmps164
  go_wp2_with fail
  go_loopw [11] (fun x wr => ∃ (j : Nat) (v2 : Value), x = .int .i64 j ∧ j ≤ kids.length ∧ Hid (Wj wr b v2 (l ++ itemsT p 8 lv 0 (kids.take j)) p) ∧ Hid (Bk b (W.alloc (.cells #[.int .i64 8, .int .i64 n, .int .i64 e, .string s, .slice a kids.length cap] 46)) wr)) (fun x _ => kids.length - (intOf x).toNat)
  case atStart => exact ⟨0, _, rfl, Nat.zero_le _, by simpa [itemsT] using HW0, Bk.refl _ _⟩
  case round =>
    obtain ⟨j, v2, rfl, hj, HW, HK⟩ := hrel
    have x0 : wr.cell? ⟨W.heap.size, 0, none⟩ = some (.int .i64 8) := cell_of_row wr _ 0 _ _ (0, 0) (HK.out.keep W.heap.size _ 46 (0, 0) (by omega) (by decide) (heap_alloc_new W _))
    have x4 : wr.cell? ⟨W.heap.size, 4, none⟩ = some (.slice a kids.length cap) := cell_of_row wr _ 4 _ _ (0, 0) (HK.out.keep W.heap.size _ 46 (0, 0) (by omega) (by decide) (heap_alloc_new W _))
    have hlt2 := HW.out.lt
    have hsz : W.heap.size + 1 ≤ wr.heap.size := by have := HK.out.low.size; simpa using this
    by_cases hjl : j < kids.length
    · have hj0 : (0 : Int) ≤ (j : Int) := by omega
      have hj1 : (j : Int) < (kids.length : Int) := by omega
      obtain ⟨x, rfl, hx, h5⟩ := HC.out j hjl
      have hbr := HB.out.trans ((HA.out.low.trans HK.out.low).mono hB)
      obtain ⟨c0, c1, c2, c3, c4⟩ := h5.below (by rw [add_block]; exact hx) hbr
      have hkn := kid_nodes kids j hjl
      have hTl : (l ++ itemsT p 8 lv 0 (kids.take j)).length + ((sepL p 8 lv j).length + (jsonT p (lv + 1) kids[j]).length) ≤ 999990000 := by
        have h1 := itemsT_take p 8 lv kids 0 j hjl
        have h2 := itemsT_len p 8 lv kids 0 (j + 1)
        have h3 := HLEN.out
        rw [h1, Nat.zero_add] at h2
        simp only [List.length_append] at h2 ⊢
        omega
      have HL2 := Lib.hid (by have := HLV.out; omega : lv + 1 + kids[j].nodes ≤ 1000)
      have C := Lib.hid (IH.out j hjl)
      have HST := Lib.hid (itemsT_take p 8 lv kids 0 j hjl)
      have HPO := Lib.hid (HK.out.alloc (by omega) (.cells #[.int .i64 kids[j].k, .int .i64 kids[j].n, .int .i64 kids[j].e, .string kids[j].s, kids[j].row] 46))
      have HWA := Lib.hid (HW.out.alloc (.cells #[.int .i64 kids[j].k, .int .i64 kids[j].n, .int .i64 kids[j].e, .string kids[j].s, kids[j].row] 46))
      have HN := Lib.hid (heap_alloc_new wr (.cells #[.int .i64 kids[j].k, .int .i64 kids[j].n, .int .i64 kids[j].e, .string kids[j].s, kids[j].row] 46))
      generalize kids[j] = t at *
      have hrow : t.row = .slice t.a t.kids.length t.cap := rfl
      rw [hrow] at c4 HPO HWA HN
      have hsz' : W.heap.size < wr.heap.size := hsz
      have hw1 : IntKind.i64.wrap ((lv : Int) + 1) = (lv : Int) + 1 := by have := HLV.out; rw [IntKind.wrap_i64] <;> omega
      have hc1 : ((lv + 1 : Nat) : Int) = (lv : Int) + 1 := by omega
      have hlv1 : lv + 1 ≤ 1000 := by have := HLV.out; omega
      by_cases hodd : j % 2 = 1
      · have em : (j : Int).tmod 2 = 1 := by rw [Int.tmod_eq_emod_of_nonneg (by omega)]; omega
        have hS : sepL p 8 lv j = colonL p := by unfold sepL; rw [if_pos ⟨rfl, hodd⟩]
        rw [hS] at hTl
        have HST' := Lib.hid (HST.out.trans (by rw [Nat.zero_add, hS]))
        clear hS hodd HST h5 hbr
        generalize hLL : l ++ itemsT p 8 lv 0 (kids.take j) = L at *
        have CL := Lib.hid (colon_any _ b _ L p (by omega) HWA.out)
        go_wp2_with fail
        with_reducible refine CL.out.mono ?_
        rintro r w1 ⟨⟨u, rfl⟩, ⟨v3, hw3⟩, hbk⟩
        have k := hbk.keep wr.heap.size _ _ _ (by omega) (by decide) HN.out
        have k0 := cell_of_row w1 _ 0 _ _ (0, 0) k
        have k1 := cell_of_row w1 _ 1 _ _ (0, 0) k
        have k2 := cell_of_row w1 _ 2 _ _ (0, 0) k
        have k3 := cell_of_row w1 _ 3 _ _ (0, 0) k
        have k4 := cell_of_row w1 _ 4 _ _ (0, 0) k
        simp at k0 k1 k2 k3 k4
        replace HPO := Lib.hid (HPO.out.trans hbk)
        have C1 := C.out (lv + 1) b v3 _ w1 HL2.out (by rw [List.length_append]; omega) (HB.out.trans ((HA.out.low.trans HPO.out.low).mono hB)) hB hw3
        rw [hc1, hrow] at C1
        replace C1 := Lib.hid C1
        clear C hbk hw3 c0 c1 c2 c3 c4 x0 x4 CL HWA HN k
        go_wp2_with fail
        with_reducible refine C1.out.mono ?_
        rintro r w2 ⟨⟨u, rfl⟩, ⟨v4, hw4⟩, hbk⟩
        replace HPO := Lib.hid (HPO.out.trans hbk)
        have HW4 := Lib.hid hw4
        clear C1 hw4 hbk k0 k1 k2 k3 k4
        go_wp2
        go_roundw
        case rel => exact ⟨j + 1, v4, by go_num, by omega, by rw [HST'.out, ← List.append_assoc, hLL, ← List.append_assoc]; exact HW4, HPO⟩
        case measure => simp [intOf]; omega
      by_cases hj00 : j = 0
      · have e0 : ¬ (0 : Int) < (j : Int) := by omega
        have em : (j : Int).tmod 2 = 0 := by rw [Int.tmod_eq_emod_of_nonneg (by omega)]; omega
        have em1 : ¬ (j : Int).tmod 2 = 1 := by omega
        have hS : sepL p 8 lv j = lineL p (lv + 1) := by subst hj00; rfl
        rw [hS] at hTl
        have HST' := Lib.hid (HST.out.trans (by rw [Nat.zero_add, hS]))
        clear hS hj00 hodd HST h5 hbr
        generalize hLL : l ++ itemsT p 8 lv 0 (kids.take j) = L at *
        have CL := Lib.hid (line_any _ b (lv + 1) _ L p (by omega) hlv1 HWA.out)
        rw [hc1] at CL
        go_wp2_with fail
        with_reducible refine CL.out.mono ?_
        rintro r w1 ⟨⟨u, rfl⟩, ⟨v3, hw3⟩, hbk⟩
        have k := hbk.keep wr.heap.size _ _ _ (by omega) (by decide) HN.out
        have k0 := cell_of_row w1 _ 0 _ _ (0, 0) k
        have k1 := cell_of_row w1 _ 1 _ _ (0, 0) k
        have k2 := cell_of_row w1 _ 2 _ _ (0, 0) k
        have k3 := cell_of_row w1 _ 3 _ _ (0, 0) k
        have k4 := cell_of_row w1 _ 4 _ _ (0, 0) k
        simp at k0 k1 k2 k3 k4
        replace HPO := Lib.hid (HPO.out.trans hbk)
        have C1 := C.out (lv + 1) b v3 _ w1 HL2.out (by rw [List.length_append]; omega) (HB.out.trans ((HA.out.low.trans HPO.out.low).mono hB)) hB hw3
        rw [hc1, hrow] at C1
        replace C1 := Lib.hid C1
        clear C hbk hw3 c0 c1 c2 c3 c4 x0 x4 CL HWA HN k
        go_wp2_with fail
        with_reducible refine C1.out.mono ?_
        rintro r w2 ⟨⟨u, rfl⟩, ⟨v4, hw4⟩, hbk⟩
        replace HPO := Lib.hid (HPO.out.trans hbk)
        have HW4 := Lib.hid hw4
        clear C1 hw4 hbk k0 k1 k2 k3 k4
        go_wp2
        go_roundw
        case rel => exact ⟨j + 1, v4, by go_num, by omega, by rw [HST'.out, ← List.append_assoc, hLL, ← List.append_assoc]; exact HW4, HPO⟩
        case measure => simp [intOf]; omega
      · have e0 : (0 : Int) < (j : Int) := by omega
        have em : (j : Int).tmod 2 = 0 := by rw [Int.tmod_eq_emod_of_nonneg (by omega)]; omega
        have em1 : ¬ (j : Int).tmod 2 = 1 := by omega
        have hS : sepL p 8 lv j = [44] ++ lineL p (lv + 1) := by unfold sepL; rw [if_neg (by omega), if_pos (by omega)]
        rw [hS] at hTl
        have HST' := Lib.hid (HST.out.trans (by rw [Nat.zero_add, hS]))
        clear hS hj00 hodd HST h5 hbr
        generalize hLL : l ++ itemsT p 8 lv 0 (kids.take j) = L at *
        obtain ⟨a2, d2, rfl, _⟩ := HW.out.own.shape
        have o0 := HW.out.c0
        have of := HW.out.fr 0
        go_wp2_with (at_builtin; refine wpList_app (by rfl) _ _ _ (by rfl) (b + 1) 5 encB i0 _ 1 Tryz.underlying22 hi0 hz0 hz1 hz2 rfl oneB _ L (by rfl) (HWA.out.own.alloc _) (wr.heap.size + 1) 1 1 [44] (by rfl) (by rfl) _ (new_at _ _ _ (by simp)) (by rfl) (by unfold maxLen; omega) (by omega) (by simp; omega) ?_; intro v3 w0 hown3 hg3; obtain ⟨KW, KB, kc, kf⟩ := add_one _ HWA.out 44 w0 v3 hown3 hg3; obtain ⟨a3, d3, rfl, _⟩ := hown3.shape; have CL := Lib.hid (line_any _ b (lv + 1) _ _ p (by simp only [List.length_append, List.length_singleton] at hTl ⊢; omega) hlv1 KW); rw [hc1] at CL; rw [List.length_append, List.length_singleton] at KW KB CL; replace KW := Lib.hid KW; replace KB := Lib.hid KB; clear hown3 hg3 c0 c1 c2 c3 c4)
        with_reducible refine CL.out.mono ?_
        rintro r w1 ⟨⟨u, rfl⟩, ⟨v3, hw3⟩, hbk⟩
        replace hbk := KB.out.trans hbk
        clear KW KB o0 of
        have k := hbk.keep wr.heap.size _ _ _ (by omega) (by decide) HN.out
        have k0 := cell_of_row w1 _ 0 _ _ (0, 0) k
        have k1 := cell_of_row w1 _ 1 _ _ (0, 0) k
        have k2 := cell_of_row w1 _ 2 _ _ (0, 0) k
        have k3 := cell_of_row w1 _ 3 _ _ (0, 0) k
        have k4 := cell_of_row w1 _ 4 _ _ (0, 0) k
        simp at k0 k1 k2 k3 k4
        replace HPO := Lib.hid (HPO.out.trans hbk)
        have C1 := C.out (lv + 1) b v3 _ w1 HL2.out (by simp only [List.length_append, List.length_singleton] at hTl ⊢; omega) (HB.out.trans ((HA.out.low.trans HPO.out.low).mono hB)) hB hw3
        rw [hc1, hrow] at C1
        replace C1 := Lib.hid C1
        clear C hbk hw3 x0 x4 CL HWA HN k kc kf
        go_wp2_with fail
        with_reducible refine C1.out.mono ?_
        rintro r w2 ⟨⟨u, rfl⟩, ⟨v4, hw4⟩, hbk⟩
        replace HPO := Lib.hid (HPO.out.trans hbk)
        have HW4 := Lib.hid hw4
        clear C1 hw4 hbk k0 k1 k2 k3 k4
        go_wp2
        go_roundw
        case rel => exact ⟨j + 1, v4, by go_num, by omega, by rw [HST'.out, ← List.append_assoc, hLL, ← List.append_assoc, ← List.append_assoc]; exact HW4, HPO⟩
        case measure => simp [intOf]; omega
    · have hj1 : ¬ (j : Int) < (kids.length : Int) := by omega
      have he : j = kids.length := by omega
      subst he
      have hp : (0 : Int) < (kids.length : Int) := by omega
      have hWe := HW.out
      rw [List.take_length] at hWe
      have CL := Lib.hid (line_any wr b lv _ _ p (by have := HLEN.out; rw [List.length_append]; omega) (by have := HLV.out; omega) hWe)
      clear hWe HW HC IH
      go_wp2_with fail
      with_reducible refine CL.out.mono ?_
      rintro r w1 ⟨⟨u, rfl⟩, ⟨v3, hw3⟩, hbk⟩
      have HW3 := Lib.hid hw3
      have HF := Lib.hid ((HA.out.trans HK.out).trans hbk)
      clear hw3 hbk CL
      go_wp2
      refine bodyPost_ret (results_none rfl _ _ _) rfl ?_
      exact ⟨⟨_, rfl⟩, ⟨_, HW3.out⟩, HF.out⟩
end Go.Proofs.YtnfbjcpoealkoaaGreatDoor.json
/-
  impl's writer of JSON at lists and maps: the brackets.
-/
namespace Go.Proofs.YtnfbjcpoealkoaaGreatDoor.json
open Go.ChangeShapes Go.WideShapes Go.ChangeAt Go.RowKit Go.Proofs.YtnfbjcpoealkoaaGreatDoor.val
set_option maxRecDepth 100000

set_option maxHeartbeats 4000000 in
theorem brack_7 (W : World) (b : Nat) (v : Value) (l R : List UInt8) (p : Bool) (n e : Int) (s : ByteArray) (a : Option Addr) (m cap lv : Nat) (hl : l.length + R.length ≤ 999990000) (hw : Wj W b v l p)
    (C : ∀ w' v', Bk b W w' → Wj w' b v' (l ++ [91]) p → Calls Tryz.prog 164 #[.pointer (some ⟨b, 0, none⟩), .agg #[.int .i64 7, .int .i64 n, .int .i64 e, .string s, .slice a m cap], .int .i64 lv] w' (PutR w' b (l ++ [91] ++ R) p)) :
    Calls Tryz.prog 114 #[.pointer (some ⟨b, 0, none⟩), .agg #[.int .i64 7, .int .i64 n, .int .i64 e, .string s, .slice a m cap], .int .i64 lv] W (PutR W b (l ++ ([91] ++ R ++ [93])) p) := by
  obtain ⟨i0, hi0, hz0, hz1, hz2⟩ := info_parts info8
  obtain ⟨va, vc, rfl, _⟩ := hw.own.shape
  have hlt := hw.lt
  have HA : Hid (Bk b W (W.alloc (.cells #[.int .i64 7, .int .i64 n, .int .i64 e, .string s, .slice a m cap] 46))) := (Bk.refl b W).alloc (Nat.le_of_lt hlt) _
  have HN := Lib.hid (heap_alloc_new W (.cells #[.int .i64 7, .int .i64 n, .int .i64 e, .string s, .slice a m cap] 46))
  have HWA := Lib.hid (hw.alloc (.cells #[.int .i64 7, .int .i64 n, .int .i64 e, .string s, .slice a m cap] 46))
  have c0 := hw.c0
  have f0 := hw.fr 0
  replace C := Lib.hid C
  have hkk := Lib.hid hlt
  clear hw
  have HE : Hid (l ++ [91] ++ R ++ [93] = l ++ ([91] ++ R ++ [93])) := by unfold Hid; simp
  generalize l ++ ([91] ++ R ++ [93]) = L5 at *
  go_enter Tryz.func114, Tryz.ntmps114
  go_wp2_with (at_builtin; refine wpList_app (by rfl) _ _ _ (by rfl) (b + 1) 5 encB i0 _ 1 Tryz.underlying22 hi0 hz0 hz1 hz2 rfl oneB _ l (by rfl) (HWA.out.own.alloc _) (W.heap.size + 1) 1 1 [91] (by rfl) (by rfl) _ (new_at _ _ _ (by simp)) (by rfl) (by unfold maxLen; omega) (by omega) (by simp; omega) ?_; intro v3 w0 hown3 hg3; obtain ⟨KW, KB, kc, kf⟩ := add_one _ HWA.out 91 w0 v3 hown3 hg3; obtain ⟨a3, d3, rfl, _⟩ := hown3.shape; have C1 := Lib.hid (C.out _ _ (HA.out.trans KB) KW); have k := KB.keep W.heap.size _ _ _ (by omega) (by decide) HN.out; have k0 := cell_of_row _ _ 0 _ _ (0, 0) k; have k1 := cell_of_row _ _ 1 _ _ (0, 0) k; have k2 := cell_of_row _ _ 2 _ _ (0, 0) k; have k3 := cell_of_row _ _ 3 _ _ (0, 0) k; have k4 := cell_of_row _ _ 4 _ _ (0, 0) k; simp at k0 k1 k2 k3 k4; rw [List.length_append, List.length_singleton] at KB C1; replace KB := Lib.hid (HA.out.trans KB); clear hown3 hg3 c0 f0 k KW C)
  with_reducible refine C1.out.mono ?_
  rintro r w1 ⟨⟨u, rfl⟩, ⟨v4, hw4⟩, hbk⟩
  obtain ⟨a4, d4, rfl, _⟩ := hw4.own.shape
  have hlt4 := hw4.lt
  have q0 := hw4.c0
  have qf := hw4.fr 0
  have HW4 := Lib.hid hw4
  replace KB := Lib.hid (KB.out.trans hbk)
  clear hw4 hbk C1 kc kf k0 k1 k2 k3 k4
  have hln : (l ++ [91] ++ R).length ≤ 999990001 := by simp; omega
  generalize l ++ [91] ++ R = L4 at *
  go_wp2_with (at_builtin; refine wpList_app (by rfl) _ _ _ (by rfl) (b + 1) 5 encB i0 _ 1 Tryz.underlying22 hi0 hz0 hz1 hz2 rfl oneB _ L4 (by rfl) (HW4.out.own.alloc _) w1.heap.size 1 1 [93] (by rfl) (by rfl) _ (heap_alloc_new w1 _) (by rfl) (by unfold maxLen; omega) (by omega) (by simp; omega) ?_; intro v5 w5 hown5 hg5; obtain ⟨KW, KB5, kc, kf⟩ := add_one _ HW4.out 93 w5 v5 hown5 hg5; obtain ⟨a5, d5, rfl, _⟩ := hown5.shape; rw [List.length_append, List.length_singleton] at KB5 KW; replace KB := Lib.hid (KB.out.trans KB5); rw [HE.out] at KW; replace KW := Lib.hid KW; clear hown5 hg5 KB5)
  refine bodyPost_ret (results_none rfl _ _ _) rfl ?_
  exact ⟨⟨_, rfl⟩, ⟨_, KW.out⟩, KB.out⟩
set_option maxHeartbeats 4000000 in
theorem brack_8 (W : World) (b : Nat) (v : Value) (l R : List UInt8) (p : Bool) (n e : Int) (s : ByteArray) (a : Option Addr) (m cap lv : Nat) (hl : l.length + R.length ≤ 999990000) (hw : Wj W b v l p)
    (C : ∀ w' v', Bk b W w' → Wj w' b v' (l ++ [123]) p → Calls Tryz.prog 164 #[.pointer (some ⟨b, 0, none⟩), .agg #[.int .i64 8, .int .i64 n, .int .i64 e, .string s, .slice a m cap], .int .i64 lv] w' (PutR w' b (l ++ [123] ++ R) p)) :
    Calls Tryz.prog 114 #[.pointer (some ⟨b, 0, none⟩), .agg #[.int .i64 8, .int .i64 n, .int .i64 e, .string s, .slice a m cap], .int .i64 lv] W (PutR W b (l ++ ([123] ++ R ++ [125])) p) := by
  obtain ⟨i0, hi0, hz0, hz1, hz2⟩ := info_parts info8
  obtain ⟨va, vc, rfl, _⟩ := hw.own.shape
  have hlt := hw.lt
  have HA : Hid (Bk b W (W.alloc (.cells #[.int .i64 8, .int .i64 n, .int .i64 e, .string s, .slice a m cap] 46))) := (Bk.refl b W).alloc (Nat.le_of_lt hlt) _
  have HN := Lib.hid (heap_alloc_new W (.cells #[.int .i64 8, .int .i64 n, .int .i64 e, .string s, .slice a m cap] 46))
  have HWA := Lib.hid (hw.alloc (.cells #[.int .i64 8, .int .i64 n, .int .i64 e, .string s, .slice a m cap] 46))
  have c0 := hw.c0
  have f0 := hw.fr 0
  replace C := Lib.hid C
  have hkk := Lib.hid hlt
  clear hw
  have HE : Hid (l ++ [123] ++ R ++ [125] = l ++ ([123] ++ R ++ [125])) := by unfold Hid; simp
  generalize l ++ ([123] ++ R ++ [125]) = L5 at *
  go_enter Tryz.func114, Tryz.ntmps114
  go_wp2_with (at_builtin; refine wpList_app (by rfl) _ _ _ (by rfl) (b + 1) 5 encB i0 _ 1 Tryz.underlying22 hi0 hz0 hz1 hz2 rfl oneB _ l (by rfl) (HWA.out.own.alloc _) (W.heap.size + 1) 1 1 [123] (by rfl) (by rfl) _ (new_at _ _ _ (by simp)) (by rfl) (by unfold maxLen; omega) (by omega) (by simp; omega) ?_; intro v3 w0 hown3 hg3; obtain ⟨KW, KB, kc, kf⟩ := add_one _ HWA.out 123 w0 v3 hown3 hg3; obtain ⟨a3, d3, rfl, _⟩ := hown3.shape; have C1 := Lib.hid (C.out _ _ (HA.out.trans KB) KW); have k := KB.keep W.heap.size _ _ _ (by omega) (by decide) HN.out; have k0 := cell_of_row _ _ 0 _ _ (0, 0) k; have k1 := cell_of_row _ _ 1 _ _ (0, 0) k; have k2 := cell_of_row _ _ 2 _ _ (0, 0) k; have k3 := cell_of_row _ _ 3 _ _ (0, 0) k; have k4 := cell_of_row _ _ 4 _ _ (0, 0) k; simp at k0 k1 k2 k3 k4; rw [List.length_append, List.length_singleton] at KB C1; replace KB := Lib.hid (HA.out.trans KB); clear hown3 hg3 c0 f0 k KW C)
  with_reducible refine C1.out.mono ?_
  rintro r w1 ⟨⟨u, rfl⟩, ⟨v4, hw4⟩, hbk⟩
  obtain ⟨a4, d4, rfl, _⟩ := hw4.own.shape
  have hlt4 := hw4.lt
  have q0 := hw4.c0
  have qf := hw4.fr 0
  have HW4 := Lib.hid hw4
  replace KB := Lib.hid (KB.out.trans hbk)
  clear hw4 hbk C1 kc kf k0 k1 k2 k3 k4
  have hln : (l ++ [123] ++ R).length ≤ 999990001 := by simp; omega
  generalize l ++ [123] ++ R = L4 at *
  go_wp2_with (at_builtin; refine wpList_app (by rfl) _ _ _ (by rfl) (b + 1) 5 encB i0 _ 1 Tryz.underlying22 hi0 hz0 hz1 hz2 rfl oneB _ L4 (by rfl) (HW4.out.own.alloc _) w1.heap.size 1 1 [125] (by rfl) (by rfl) _ (heap_alloc_new w1 _) (by rfl) (by unfold maxLen; omega) (by omega) (by simp; omega) ?_; intro v5 w5 hown5 hg5; obtain ⟨KW, KB5, kc, kf⟩ := add_one _ HW4.out 125 w5 v5 hown5 hg5; obtain ⟨a5, d5, rfl, _⟩ := hown5.shape; rw [List.length_append, List.length_singleton] at KB5 KW; replace KB := Lib.hid (KB.out.trans KB5); rw [HE.out] at KW; replace KW := Lib.hid KW; clear hown5 hg5 KB5)
  refine bodyPost_ret (results_none rfl _ _ _) rfl ?_
  exact ⟨⟨_, rfl⟩, ⟨_, KW.out⟩, KB.out⟩
end Go.Proofs.YtnfbjcpoealkoaaGreatDoor.json
