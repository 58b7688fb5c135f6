/-
  What spec.l04Put returns at every value that fits.
-/
import Derived.Test.YtnfbjcpoealkoaaGreatDoorPrettyJ37
namespace Go.Proofs.YtnfbjcpoealkoaaGreatDoor.json
open Go.ChangeShapes Go.WideShapes Go.ChangeAt Go.RowKit
open Go.Proofs.YtnfbjcpoealkoaaGreatDoor.val Go.Proofs.YtnfbjcpoealkoaaGreatDoor.num Go.Proofs.YtnfbjcpoealkoaaGreatDoor.node
set_option maxRecDepth 100000

def SPutC (w : World) (B : Nat) (t : LT) : Prop := GoodT t → t.sz ≤ 1048576 → ∀ (p : Bool) (lv : Nat), lv + t.nodes ≤ 1000 → (jsonT p lv t).length ≤ 999990000 → ∀ w', Below B w w' → B ≤ w'.heap.size →
  Calls Tryz.prog 77 #[.agg #[.int .i64 t.k, .int .i64 t.n, .int .i64 t.e, .string t.s, t.row], .int .i64 (deepOf p lv)] w' fun r w'' => r = .returned (.string ⟨(jsonT p lv t).toArray⟩) ∧ Below w'.heap.size w' w''
theorem line_at (p : Bool) (lv : Nat) (x : Int) (hx : x = deepOf p lv) (hlv : lv ≤ 1000) (w : World) : Calls Tryz.prog 112 #[.int .i64 x] w fun r w' => r = .returned (.string ⟨(lineL p lv).toArray⟩) ∧ w = w' := by subst hx; exact spec_line p lv hlv w
theorem line_len (p : Bool) (lv : Nat) : (lineL p lv).length ≤ 2 * lv + 1 := by unfold lineL; cases p <;> simp
/-- A round: the text so far, what stands ahead of the element, the element. -/
structure Grow (p : Bool) (k : Int) (lv : Nat) (kids : List LT) (o : UInt8) (j : Nat) (L : List UInt8) : Prop where
  eq : L = [o] ++ itemsT p k lv 0 (kids.take j)
theorem Grow.step {p : Bool} {k : Int} {lv : Nat} {kids : List LT} {o : UInt8} {j : Nat} {L S T : List UInt8} (h : Grow p k lv kids o j L) (hj : j < kids.length) (hS : sepL p k lv j = S) (hT : jsonT p (lv + 1) kids[j] = T) : Grow p k lv kids o (j + 1) (L ++ S ++ T) := by
  refine ⟨?_⟩
  have := itemsT_take p k lv kids 0 j hj
  rw [Nat.zero_add] at this
  rw [this, h.eq, hS, hT]
  simp
theorem Grow.len {p : Bool} {k : Int} {lv : Nat} {kids : List LT} {o : UInt8} {j : Nat} {L : List UInt8} (h : Grow p k lv kids o j L) (hl : (itemsT p k lv 0 kids).length ≤ 999990000) : L.length ≤ 999990001 := by
  have := itemsT_len p k lv kids 0 j
  rw [h.eq, List.length_append, List.length_singleton]
  omega
set_option maxHeartbeats 4000000 in
theorem put_7_false {w : World} {B : Nat} {n e : Int} {s : ByteArray} {a : Option Addr} {cap : Nat} {kids : List LT} (hc : ∀ i (h : i < kids.length), ∃ x, a = some x ∧ x.block < B ∧ At5 w (x.add (i * 5)) kids[i]) (ih : ∀ i (h : i < kids.length), SPutC w B kids[i])
    (hgl : GoodTL kids) (hz : LT.szL kids ≤ 1048576) (lv : Nat) (hlv : lv + LT.nodesL kids + 1 ≤ 1000) (hpos : 0 < kids.length) (hlen : (itemsT false 7 lv 0 kids).length ≤ 999990000) (w' : World) (hb : Below B w w') (hB : B ≤ w'.heap.size) :
    Calls Tryz.prog 77 #[.agg #[.int .i64 7, .int .i64 n, .int .i64 e, .string s, .slice a kids.length cap], .int .i64 (-1)] w' fun r w'' => r = .returned (.string ⟨([91] ++ itemsT false 7 lv 0 kids ++ lineL false lv ++ [93]).toArray⟩) ∧ Below w'.heap.size w' w'' := by
  have HC := Lib.hid hc
  have IH := Lib.hid ih
  have HB := Lib.hid hb
  have HGL := Lib.hid hgl
  have HZ := Lib.hid hz
  have HLV := Lib.hid hlv
  have HLEN := Lib.hid hlen
  have hkl : kids.length ≤ 1048576 := Nat.le_trans (len_sz kids) hz
  have hk0 : ((kids.length : Int) == 0) = false := by rw [beq_eq_false_iff_ne]; omega
  have hlv1 : lv ≤ 1000 := by omega
  have HA : Hid (Below w'.heap.size w' (w'.alloc (.cells #[.int .i64 7, .int .i64 n, .int .i64 e, .string s, .slice a kids.length cap] 46))) := (Below.refl _ _).alloc (Nat.le_refl _) _
  have HBA : Hid (Below (w'.heap.size + 1) (w'.alloc (.cells #[.int .i64 7, .int .i64 n, .int .i64 e, .string s, .slice a kids.length cap] 46)) (w'.alloc (.cells #[.int .i64 7, .int .i64 n, .int .i64 e, .string s, .slice a kids.length cap] 46))) := Below.refl _ _
  have CL := Lib.hid (fun W => line_at false (lv + 1) (-1) (rfl) (by omega) W)
  have CE := Lib.hid (fun W => line_at false lv (-1) rfl (by omega) W)
  have hll := line_len false (lv + 1)
  have hle := line_len false lv
  have HLL : Hid (lineL false (lv + 1) = lineL false (lv + 1)) := rfl
  generalize hR : ([91] ++ itemsT false 7 lv 0 kids ++ lineL false lv ++ [93]) = R
  have HR := Lib.hid hR
  clear hc ih hb hR hgl hz hlv hlen
  go_enter Tryz.func77, Tryz.ntmps77
  go_wp2_with fail
  go_loopw [8, 9] (fun x i wr => ∃ (j : Nat) (L : List UInt8), i = .int .i64 j ∧ j ≤ kids.length ∧ x = .string ⟨L.toArray⟩ ∧ Hid (Grow false 7 lv kids 91 j L) ∧ w'.heap.size + 1 ≤ wr.heap.size ∧ Hid (Below (w'.heap.size + 1) (w'.alloc (.cells #[.int .i64 7, .int .i64 n, .int .i64 e, .string s, .slice a kids.length cap] 46)) wr)) (fun _ i _ => kids.length - (intOf i).toNat)
  case atStart => exact ⟨0, [91], rfl, by omega, rfl, ⟨by simp [itemsT]⟩, by simp, HBA⟩
  case round =>
    clear HBA
    obtain ⟨j, L, rfl, hj, rfl, HG, hwz, HW⟩ := hrel
    obtain ⟨x0, x4⟩ := held4_of HW.out
    have hLl := HG.out.len HLEN.out
    by_cases hlt : j < kids.length
    · have hj0 : (0 : Int) ≤ (j : Int) := by omega
      have hj1 : (j : Int) < (kids.length : Int) := by omega
      have hmod : ((j : Int)).tmod 2 = ((j % 2 : Nat) : Int) := by rw [Int.tmod_eq_emod_of_nonneg (by omega)]; omega
      obtain ⟨x, rfl, hx, h5⟩ := HC.out j hlt
      have hbr := HB.out.trans ((HA.out.trans (HW.out.mono (by omega))).mono hB)
      obtain ⟨c0, c1, c2, c3, c4⟩ := h5.below (by rw [add_block]; exact hx) hbr
      have hdp : deepOf false (lv + 1) = -1 := rfl
      have hkn := kid_nodes kids j hlt
      have hTl : (jsonT false (lv + 1) kids[j]).length ≤ 999990000 := by
        have h1 := itemsT_take false 7 lv kids 0 j hlt
        have h2 := itemsT_len false 7 lv kids 0 (j + 1)
        have h3 := HLEN.out
        rw [h1] at h2
        simp only [List.length_append] at h2
        omega
      have C := IH.out j hlt (goodTL_mem HGL.out j hlt) (by have := (kid_sz kids j hlt).1; have := HZ.out; omega) false (lv + 1) (by have := HLV.out; omega) (by omega) wr hbr (by omega)
      rw [hdp] at C
      have HST := Lib.hid (fun S (hS : sepL false 7 lv j = S) => HG.out.step hlt hS rfl)
      have HJN : Hid (∀ A T : List UInt8, (⟨A.toArray⟩ : ByteArray) ++ ⟨T.toArray⟩ = ⟨(A ++ T).toArray⟩) := numtext.join_bytes
      generalize jsonT false (lv + 1) kids[j] = T at *
      generalize kids[j] = t at *
      have hrow : t.row = .slice t.a t.kids.length t.cap := rfl
      rw [hrow] at C c4
      replace C := Lib.hid C
      clear h5 hbr HC IH HB hrow HGL HZ HG HLEN hkn hdp
      by_cases hj00 : j = 0
      · have hS : sepL false 7 lv j = [] ++ lineL false (lv + 1) := by subst hj00; rfl
        have HG2 := Lib.hid (HST.out _ hS)
        have e0 : ¬ (0 : Int) < (j : Int) := by omega
        have em : ((j : Int)).tmod 2 = 0 := by rw [hmod]; omega
        have em1 : ¬ ((j : Int)).tmod 2 = 1 := by omega
        have em2 : (((j : Int)).tmod 2 == 1) = false := by rw [beq_eq_false_iff_ne]; exact em1
        clear hS HST hj00
        generalize lineL false (lv + 1) = S at *
        go_wp2_with fail
        with_reducible refine (CL.out _).mono ?_
        rintro r w1 ⟨rfl, rfl⟩
        clear CL
        go_wp2_with fail
        with_reducible refine C.out.mono ?_
        rintro r w1 ⟨rfl, hb1⟩
        have HW1 := Lib.hid (HW.out.trans (hb1.mono (by omega)))
        have hz1 := Nat.le_trans hwz hb1.size
        clear C hb1 c0 c1 c2 c3 c4 HW x0 x4
        go_wp2
        go_roundw
        case rel => exact ⟨j + 1, _, by go_num, by omega, by rw [List.nil_append, ← HJN.out, ← HJN.out] <;> rfl, HG2, hz1, HW1⟩
        case measure => simp [intOf]; omega
      · have hS : sepL false 7 lv j = [44] ++ lineL false (lv + 1) := by unfold sepL; rw [if_neg (by omega), if_pos (by omega)]
        have HG2 := Lib.hid (HST.out _ hS)
        have e0 : (0 : Int) < (j : Int) := by omega
        clear hS HST
        generalize lineL false (lv + 1) = S at *
        go_wp2_with fail
        with_reducible refine (CL.out _).mono ?_
        rintro r w1 ⟨rfl, rfl⟩
        clear CL
        go_wp2_with fail
        with_reducible refine C.out.mono ?_
        rintro r w1 ⟨rfl, hb1⟩
        have HW1 := Lib.hid (HW.out.trans (hb1.mono (by omega)))
        have hz1 := Nat.le_trans hwz hb1.size
        clear C hb1 c0 c1 c2 c3 c4 HW x0 x4
        go_wp2
        go_roundw
        case rel => exact ⟨j + 1, _, by go_num, by omega, by rw [← HJN.out, ← List.append_assoc, ← HJN.out, ← HJN.out] <;> rfl, HG2, hz1, HW1⟩
        case measure => simp [intOf]; omega
    · have hj1 : ¬ (j : Int) < (kids.length : Int) := by omega
      have he : j = kids.length := by omega
      subst he
      have HF : Hid ((⟨L.toArray⟩ : ByteArray) ++ ⟨(lineL false lv).toArray⟩ ++ ⟨[93].toArray⟩ = ⟨R.toArray⟩) := by
        unfold Hid
        rw [numtext.join_bytes, numtext.join_bytes, HG.out.eq, List.take_length, ← HR.out]
      have HBF := Lib.hid (HA.out.trans (HW.out.mono (by omega)))
      clear HC IH HB HG HGL
      generalize lineL false lv = S at *
      go_wp2_with fail
      with_reducible refine (CE.out _).mono ?_
      rintro r w1 ⟨rfl, rfl⟩
      go_wp2
      go_ret
      exact ⟨by rw [← HF.out]; rfl, HBF.out⟩
set_option maxHeartbeats 4000000 in
theorem put_7_true {w : World} {B : Nat} {n e : Int} {s : ByteArray} {a : Option Addr} {cap : Nat} {kids : List LT} (hc : ∀ i (h : i < kids.length), ∃ x, a = some x ∧ x.block < B ∧ At5 w (x.add (i * 5)) kids[i]) (ih : ∀ i (h : i < kids.length), SPutC w B kids[i])
    (hgl : GoodTL kids) (hz : LT.szL kids ≤ 1048576) (lv : Nat) (hlv : lv + LT.nodesL kids + 1 ≤ 1000) (hpos : 0 < kids.length) (hlen : (itemsT true 7 lv 0 kids).length ≤ 999990000) (w' : World) (hb : Below B w w') (hB : B ≤ w'.heap.size) :
    Calls Tryz.prog 77 #[.agg #[.int .i64 7, .int .i64 n, .int .i64 e, .string s, .slice a kids.length cap], .int .i64 (lv : Int)] w' fun r w'' => r = .returned (.string ⟨([91] ++ itemsT true 7 lv 0 kids ++ lineL true lv ++ [93]).toArray⟩) ∧ Below w'.heap.size w' w'' := by
  have HC := Lib.hid hc
  have IH := Lib.hid ih
  have HB := Lib.hid hb
  have HGL := Lib.hid hgl
  have HZ := Lib.hid hz
  have HLV := Lib.hid hlv
  have HLEN := Lib.hid hlen
  have hkl : kids.length ≤ 1048576 := Nat.le_trans (len_sz kids) hz
  have hk0 : ((kids.length : Int) == 0) = false := by rw [beq_eq_false_iff_ne]; omega
  have hlv1 : lv ≤ 1000 := by omega
  have HA : Hid (Below w'.heap.size w' (w'.alloc (.cells #[.int .i64 7, .int .i64 n, .int .i64 e, .string s, .slice a kids.length cap] 46))) := (Below.refl _ _).alloc (Nat.le_refl _) _
  have HBA : Hid (Below (w'.heap.size + 1) (w'.alloc (.cells #[.int .i64 7, .int .i64 n, .int .i64 e, .string s, .slice a kids.length cap] 46)) (w'.alloc (.cells #[.int .i64 7, .int .i64 n, .int .i64 e, .string s, .slice a kids.length cap] 46))) := Below.refl _ _
  have CL := Lib.hid (fun W => line_at true (lv + 1) ((lv : Int) + 1) (by show (lv : Int) + 1 = ((lv + 1 : Nat) : Int); omega) (by omega) W)
  have CE := Lib.hid (fun W => line_at true lv ((lv : Int)) rfl (by omega) W)
  have hll := line_len true (lv + 1)
  have hle := line_len true lv
  have HLL : Hid (lineL true (lv + 1) = lineL true (lv + 1)) := rfl
  generalize hR : ([91] ++ itemsT true 7 lv 0 kids ++ lineL true lv ++ [93]) = R
  have HR := Lib.hid hR
  clear hc ih hb hR hgl hz hlv hlen
  go_enter Tryz.func77, Tryz.ntmps77
  go_wp2_with fail
  go_loopw [8, 9] (fun x i wr => ∃ (j : Nat) (L : List UInt8), i = .int .i64 j ∧ j ≤ kids.length ∧ x = .string ⟨L.toArray⟩ ∧ Hid (Grow true 7 lv kids 91 j L) ∧ w'.heap.size + 1 ≤ wr.heap.size ∧ Hid (Below (w'.heap.size + 1) (w'.alloc (.cells #[.int .i64 7, .int .i64 n, .int .i64 e, .string s, .slice a kids.length cap] 46)) wr)) (fun _ i _ => kids.length - (intOf i).toNat)
  case atStart => exact ⟨0, [91], rfl, by omega, rfl, ⟨by simp [itemsT]⟩, by simp, HBA⟩
  case round =>
    clear HBA
    obtain ⟨j, L, rfl, hj, rfl, HG, hwz, HW⟩ := hrel
    obtain ⟨x0, x4⟩ := held4_of HW.out
    have hLl := HG.out.len HLEN.out
    by_cases hlt : j < kids.length
    · have hj0 : (0 : Int) ≤ (j : Int) := by omega
      have hj1 : (j : Int) < (kids.length : Int) := by omega
      have hmod : ((j : Int)).tmod 2 = ((j % 2 : Nat) : Int) := by rw [Int.tmod_eq_emod_of_nonneg (by omega)]; omega
      obtain ⟨x, rfl, hx, h5⟩ := HC.out j hlt
      have hbr := HB.out.trans ((HA.out.trans (HW.out.mono (by omega))).mono hB)
      obtain ⟨c0, c1, c2, c3, c4⟩ := h5.below (by rw [add_block]; exact hx) hbr
      have hdp : deepOf true (lv + 1) = (lv : Int) + 1 := by show ((lv + 1 : Nat) : Int) = (lv : Int) + 1; omega
      have hkn := kid_nodes kids j hlt
      have hTl : (jsonT true (lv + 1) kids[j]).length ≤ 999990000 := by
        have h1 := itemsT_take true 7 lv kids 0 j hlt
        have h2 := itemsT_len true 7 lv kids 0 (j + 1)
        have h3 := HLEN.out
        rw [h1] at h2
        simp only [List.length_append] at h2
        omega
      have C := IH.out j hlt (goodTL_mem HGL.out j hlt) (by have := (kid_sz kids j hlt).1; have := HZ.out; omega) true (lv + 1) (by have := HLV.out; omega) (by omega) wr hbr (by omega)
      rw [hdp] at C
      have HST := Lib.hid (fun S (hS : sepL true 7 lv j = S) => HG.out.step hlt hS rfl)
      have HJN : Hid (∀ A T : List UInt8, (⟨A.toArray⟩ : ByteArray) ++ ⟨T.toArray⟩ = ⟨(A ++ T).toArray⟩) := numtext.join_bytes
      generalize jsonT true (lv + 1) kids[j] = T at *
      generalize kids[j] = t at *
      have hrow : t.row = .slice t.a t.kids.length t.cap := rfl
      rw [hrow] at C c4
      replace C := Lib.hid C
      clear h5 hbr HC IH HB hrow HGL HZ HG HLEN hkn hdp
      by_cases hj00 : j = 0
      · have hS : sepL true 7 lv j = [] ++ lineL true (lv + 1) := by subst hj00; rfl
        have HG2 := Lib.hid (HST.out _ hS)
        have e0 : ¬ (0 : Int) < (j : Int) := by omega
        have em : ((j : Int)).tmod 2 = 0 := by rw [hmod]; omega
        have em1 : ¬ ((j : Int)).tmod 2 = 1 := by omega
        have em2 : (((j : Int)).tmod 2 == 1) = false := by rw [beq_eq_false_iff_ne]; exact em1
        clear hS HST hj00
        generalize lineL true (lv + 1) = S at *
        go_wp2_with fail
        with_reducible refine (CL.out _).mono ?_
        rintro r w1 ⟨rfl, rfl⟩
        clear CL
        go_wp2_with fail
        with_reducible refine C.out.mono ?_
        rintro r w1 ⟨rfl, hb1⟩
        have HW1 := Lib.hid (HW.out.trans (hb1.mono (by omega)))
        have hz1 := Nat.le_trans hwz hb1.size
        clear C hb1 c0 c1 c2 c3 c4 HW x0 x4
        go_wp2
        go_roundw
        case rel => exact ⟨j + 1, _, by go_num, by omega, by rw [List.nil_append, ← HJN.out, ← HJN.out] <;> rfl, HG2, hz1, HW1⟩
        case measure => simp [intOf]; omega
      · have hS : sepL true 7 lv j = [44] ++ lineL true (lv + 1) := by unfold sepL; rw [if_neg (by omega), if_pos (by omega)]
        have HG2 := Lib.hid (HST.out _ hS)
        have e0 : (0 : Int) < (j : Int) := by omega
        clear hS HST
        generalize lineL true (lv + 1) = S at *
        go_wp2_with fail
        with_reducible refine (CL.out _).mono ?_
        rintro r w1 ⟨rfl, rfl⟩
        clear CL
        go_wp2_with fail
        with_reducible refine C.out.mono ?_
        rintro r w1 ⟨rfl, hb1⟩
        have HW1 := Lib.hid (HW.out.trans (hb1.mono (by omega)))
        have hz1 := Nat.le_trans hwz hb1.size
        clear C hb1 c0 c1 c2 c3 c4 HW x0 x4
        go_wp2
        go_roundw
        case rel => exact ⟨j + 1, _, by go_num, by omega, by rw [← HJN.out, ← List.append_assoc, ← HJN.out, ← HJN.out] <;> rfl, HG2, hz1, HW1⟩
        case measure => simp [intOf]; omega
    · have hj1 : ¬ (j : Int) < (kids.length : Int) := by omega
      have he : j = kids.length := by omega
      subst he
      have HF : Hid ((⟨L.toArray⟩ : ByteArray) ++ ⟨(lineL true lv).toArray⟩ ++ ⟨[93].toArray⟩ = ⟨R.toArray⟩) := by
        unfold Hid
        rw [numtext.join_bytes, numtext.join_bytes, HG.out.eq, List.take_length, ← HR.out]
      have HBF := Lib.hid (HA.out.trans (HW.out.mono (by omega)))
      clear HC IH HB HG HGL
      generalize lineL true lv = S at *
      go_wp2_with fail
      with_reducible refine (CE.out _).mono ?_
      rintro r w1 ⟨rfl, rfl⟩
      go_wp2
      go_ret
      exact ⟨by rw [← HF.out]; rfl, HBF.out⟩
set_option maxHeartbeats 4000000 in
theorem put_8_false {w : World} {B : Nat} {n e : Int} {s : ByteArray} {a : Option Addr} {cap : Nat} {kids : List LT} (hc : ∀ i (h : i < kids.length), ∃ x, a = some x ∧ x.block < B ∧ At5 w (x.add (i * 5)) kids[i]) (ih : ∀ i (h : i < kids.length), SPutC w B kids[i])
    (hgl : GoodTL kids) (hz : LT.szL kids ≤ 1048576) (lv : Nat) (hlv : lv + LT.nodesL kids + 1 ≤ 1000) (hpos : 0 < kids.length) (hlen : (itemsT false 8 lv 0 kids).length ≤ 999990000) (w' : World) (hb : Below B w w') (hB : B ≤ w'.heap.size) :
    Calls Tryz.prog 77 #[.agg #[.int .i64 8, .int .i64 n, .int .i64 e, .string s, .slice a kids.length cap], .int .i64 (-1)] w' fun r w'' => r = .returned (.string ⟨([123] ++ itemsT false 8 lv 0 kids ++ lineL false lv ++ [125]).toArray⟩) ∧ Below w'.heap.size w' w'' := by
  have HC := Lib.hid hc
  have IH := Lib.hid ih
  have HB := Lib.hid hb
  have HGL := Lib.hid hgl
  have HZ := Lib.hid hz
  have HLV := Lib.hid hlv
  have HLEN := Lib.hid hlen
  have hkl : kids.length ≤ 1048576 := Nat.le_trans (len_sz kids) hz
  have hk0 : ((kids.length : Int) == 0) = false := by rw [beq_eq_false_iff_ne]; omega
  have hlv1 : lv ≤ 1000 := by omega
  have HA : Hid (Below w'.heap.size w' (w'.alloc (.cells #[.int .i64 8, .int .i64 n, .int .i64 e, .string s, .slice a kids.length cap] 46))) := (Below.refl _ _).alloc (Nat.le_refl _) _
  have HBA : Hid (Below (w'.heap.size + 1) (w'.alloc (.cells #[.int .i64 8, .int .i64 n, .int .i64 e, .string s, .slice a kids.length cap] 46)) (w'.alloc (.cells #[.int .i64 8, .int .i64 n, .int .i64 e, .string s, .slice a kids.length cap] 46))) := Below.refl _ _
  have CL := Lib.hid (fun W => line_at false (lv + 1) (-1) (rfl) (by omega) W)
  have CE := Lib.hid (fun W => line_at false lv (-1) rfl (by omega) W)
  have hll := line_len false (lv + 1)
  have hle := line_len false lv
  have HLL : Hid (lineL false (lv + 1) = lineL false (lv + 1)) := rfl
  generalize hR : ([123] ++ itemsT false 8 lv 0 kids ++ lineL false lv ++ [125]) = R
  have HR := Lib.hid hR
  clear hc ih hb hR hgl hz hlv hlen
  go_enter Tryz.func77, Tryz.ntmps77
  go_wp2_with fail
  go_loopw [8, 9] (fun x i wr => ∃ (j : Nat) (L : List UInt8), i = .int .i64 j ∧ j ≤ kids.length ∧ x = .string ⟨L.toArray⟩ ∧ Hid (Grow false 8 lv kids 123 j L) ∧ w'.heap.size + 1 ≤ wr.heap.size ∧ Hid (Below (w'.heap.size + 1) (w'.alloc (.cells #[.int .i64 8, .int .i64 n, .int .i64 e, .string s, .slice a kids.length cap] 46)) wr)) (fun _ i _ => kids.length - (intOf i).toNat)
  case atStart => exact ⟨0, [123], rfl, by omega, rfl, ⟨by simp [itemsT]⟩, by simp, HBA⟩
  case round =>
    clear HBA
    obtain ⟨j, L, rfl, hj, rfl, HG, hwz, HW⟩ := hrel
    obtain ⟨x0, x4⟩ := held4_of HW.out
    have hLl := HG.out.len HLEN.out
    by_cases hlt : j < kids.length
    · have hj0 : (0 : Int) ≤ (j : Int) := by omega
      have hj1 : (j : Int) < (kids.length : Int) := by omega
      have hmod : ((j : Int)).tmod 2 = ((j % 2 : Nat) : Int) := by rw [Int.tmod_eq_emod_of_nonneg (by omega)]; omega
      obtain ⟨x, rfl, hx, h5⟩ := HC.out j hlt
      have hbr := HB.out.trans ((HA.out.trans (HW.out.mono (by omega))).mono hB)
      obtain ⟨c0, c1, c2, c3, c4⟩ := h5.below (by rw [add_block]; exact hx) hbr
      have hdp : deepOf false (lv + 1) = -1 := rfl
      have hkn := kid_nodes kids j hlt
      have hTl : (jsonT false (lv + 1) kids[j]).length ≤ 999990000 := by
        have h1 := itemsT_take false 8 lv kids 0 j hlt
        have h2 := itemsT_len false 8 lv kids 0 (j + 1)
        have h3 := HLEN.out
        rw [h1] at h2
        simp only [List.length_append] at h2
        omega
      have C := IH.out j hlt (goodTL_mem HGL.out j hlt) (by have := (kid_sz kids j hlt).1; have := HZ.out; omega) false (lv + 1) (by have := HLV.out; omega) (by omega) wr hbr (by omega)
      rw [hdp] at C
      have HST := Lib.hid (fun S (hS : sepL false 8 lv j = S) => HG.out.step hlt hS rfl)
      have HJN : Hid (∀ A T : List UInt8, (⟨A.toArray⟩ : ByteArray) ++ ⟨T.toArray⟩ = ⟨(A ++ T).toArray⟩) := numtext.join_bytes
      generalize jsonT false (lv + 1) kids[j] = T at *
      generalize kids[j] = t at *
      have hrow : t.row = .slice t.a t.kids.length t.cap := rfl
      rw [hrow] at C c4
      replace C := Lib.hid C
      clear h5 hbr HC IH HB hrow HGL HZ HG HLEN hkn hdp
      by_cases hj00 : j = 0
      · have hS : sepL false 8 lv j = [] ++ lineL false (lv + 1) := by subst hj00; rfl
        have HG2 := Lib.hid (HST.out _ hS)
        have e0 : ¬ (0 : Int) < (j : Int) := by omega
        have em : ((j : Int)).tmod 2 = 0 := by rw [hmod]; omega
        have em1 : ¬ ((j : Int)).tmod 2 = 1 := by omega
        have em2 : (((j : Int)).tmod 2 == 1) = false := by rw [beq_eq_false_iff_ne]; exact em1
        clear hS HST hj00
        generalize lineL false (lv + 1) = S at *
        go_wp2_with fail
        with_reducible refine (CL.out _).mono ?_
        rintro r w1 ⟨rfl, rfl⟩
        clear CL
        go_wp2_with fail
        with_reducible refine C.out.mono ?_
        rintro r w1 ⟨rfl, hb1⟩
        have HW1 := Lib.hid (HW.out.trans (hb1.mono (by omega)))
        have hz1 := Nat.le_trans hwz hb1.size
        clear C hb1 c0 c1 c2 c3 c4 HW x0 x4
        go_wp2
        go_roundw
        case rel => exact ⟨j + 1, _, by go_num, by omega, by rw [List.nil_append, ← HJN.out, ← HJN.out] <;> rfl, HG2, hz1, HW1⟩
        case measure => simp [intOf]; omega
      · by_cases hj2 : j % 2 = 1
        · have hS : sepL false 8 lv j = [58] := by unfold sepL; rw [if_pos ⟨rfl, hj2⟩]; rfl
          have HG2 := Lib.hid (HST.out _ hS)
          have e0 : (0 : Int) < (j : Int) := by omega
          have em : ((j : Int)).tmod 2 = 1 := by rw [hmod]; omega
          have em0 : ¬ ((j : Int)).tmod 2 = 0 := by omega
          have em2 : (((j : Int)).tmod 2 == 0) = false := by rw [beq_eq_false_iff_ne]; exact em0
          clear hS HST CL
          go_wp2_with fail
          with_reducible refine C.out.mono ?_
          rintro r w1 ⟨rfl, hb1⟩
          have HW1 := Lib.hid (HW.out.trans (hb1.mono (by omega)))
          have hz1 := Nat.le_trans hwz hb1.size
          clear C hb1 c0 c1 c2 c3 c4 HW x0 x4
          go_wp2
          go_roundw
          case rel => exact ⟨j + 1, _, by go_num, by omega, by rw [← HJN.out, ← HJN.out] <;> rfl, HG2, hz1, HW1⟩
          case measure => simp [intOf]; omega
        · have hS : sepL false 8 lv j = [44] ++ lineL false (lv + 1) := by unfold sepL; rw [if_neg (by omega), if_pos (by omega)]
          have em : ((j : Int)).tmod 2 = 0 := by rw [hmod]; omega
          have em1 : ¬ ((j : Int)).tmod 2 = 1 := by omega
          have em2 : (((j : Int)).tmod 2 == 1) = false := by rw [beq_eq_false_iff_ne]; exact em1
          have HG2 := Lib.hid (HST.out _ hS)
          have e0 : (0 : Int) < (j : Int) := by omega
          clear hS HST
          generalize lineL false (lv + 1) = S at *
          go_wp2_with fail
          with_reducible refine (CL.out _).mono ?_
          rintro r w1 ⟨rfl, rfl⟩
          clear CL
          go_wp2_with fail
          with_reducible refine C.out.mono ?_
          rintro r w1 ⟨rfl, hb1⟩
          have HW1 := Lib.hid (HW.out.trans (hb1.mono (by omega)))
          have hz1 := Nat.le_trans hwz hb1.size
          clear C hb1 c0 c1 c2 c3 c4 HW x0 x4
          go_wp2
          go_roundw
          case rel => exact ⟨j + 1, _, by go_num, by omega, by rw [← HJN.out, ← List.append_assoc, ← HJN.out, ← HJN.out] <;> rfl, HG2, hz1, HW1⟩
          case measure => simp [intOf]; omega
    · have hj1 : ¬ (j : Int) < (kids.length : Int) := by omega
      have he : j = kids.length := by omega
      subst he
      have HF : Hid ((⟨L.toArray⟩ : ByteArray) ++ ⟨(lineL false lv).toArray⟩ ++ ⟨[125].toArray⟩ = ⟨R.toArray⟩) := by
        unfold Hid
        rw [numtext.join_bytes, numtext.join_bytes, HG.out.eq, List.take_length, ← HR.out]
      have HBF := Lib.hid (HA.out.trans (HW.out.mono (by omega)))
      clear HC IH HB HG HGL
      generalize lineL false lv = S at *
      go_wp2_with fail
      with_reducible refine (CE.out _).mono ?_
      rintro r w1 ⟨rfl, rfl⟩
      go_wp2
      go_ret
      exact ⟨by rw [← HF.out]; rfl, HBF.out⟩
set_option maxHeartbeats 4000000 in
theorem put_8_true {w : World} {B : Nat} {n e : Int} {s : ByteArray} {a : Option Addr} {cap : Nat} {kids : List LT} (hc : ∀ i (h : i < kids.length), ∃ x, a = some x ∧ x.block < B ∧ At5 w (x.add (i * 5)) kids[i]) (ih : ∀ i (h : i < kids.length), SPutC w B kids[i])
    (hgl : GoodTL kids) (hz : LT.szL kids ≤ 1048576) (lv : Nat) (hlv : lv + LT.nodesL kids + 1 ≤ 1000) (hpos : 0 < kids.length) (hlen : (itemsT true 8 lv 0 kids).length ≤ 999990000) (w' : World) (hb : Below B w w') (hB : B ≤ w'.heap.size) :
    Calls Tryz.prog 77 #[.agg #[.int .i64 8, .int .i64 n, .int .i64 e, .string s, .slice a kids.length cap], .int .i64 (lv : Int)] w' fun r w'' => r = .returned (.string ⟨([123] ++ itemsT true 8 lv 0 kids ++ lineL true lv ++ [125]).toArray⟩) ∧ Below w'.heap.size w' w'' := by
  have HC := Lib.hid hc
  have IH := Lib.hid ih
  have HB := Lib.hid hb
  have HGL := Lib.hid hgl
  have HZ := Lib.hid hz
  have HLV := Lib.hid hlv
  have HLEN := Lib.hid hlen
  have hkl : kids.length ≤ 1048576 := Nat.le_trans (len_sz kids) hz
  have hk0 : ((kids.length : Int) == 0) = false := by rw [beq_eq_false_iff_ne]; omega
  have hlv1 : lv ≤ 1000 := by omega
  have HA : Hid (Below w'.heap.size w' (w'.alloc (.cells #[.int .i64 8, .int .i64 n, .int .i64 e, .string s, .slice a kids.length cap] 46))) := (Below.refl _ _).alloc (Nat.le_refl _) _
  have HBA : Hid (Below (w'.heap.size + 1) (w'.alloc (.cells #[.int .i64 8, .int .i64 n, .int .i64 e, .string s, .slice a kids.length cap] 46)) (w'.alloc (.cells #[.int .i64 8, .int .i64 n, .int .i64 e, .string s, .slice a kids.length cap] 46))) := Below.refl _ _
  have CL := Lib.hid (fun W => line_at true (lv + 1) ((lv : Int) + 1) (by show (lv : Int) + 1 = ((lv + 1 : Nat) : Int); omega) (by omega) W)
  have CE := Lib.hid (fun W => line_at true lv ((lv : Int)) rfl (by omega) W)
  have hll := line_len true (lv + 1)
  have hle := line_len true lv
  have HLL : Hid (lineL true (lv + 1) = lineL true (lv + 1)) := rfl
  generalize hR : ([123] ++ itemsT true 8 lv 0 kids ++ lineL true lv ++ [125]) = R
  have HR := Lib.hid hR
  clear hc ih hb hR hgl hz hlv hlen
  go_enter Tryz.func77, Tryz.ntmps77
  go_wp2_with fail
  go_loopw [8, 9] (fun x i wr => ∃ (j : Nat) (L : List UInt8), i = .int .i64 j ∧ j ≤ kids.length ∧ x = .string ⟨L.toArray⟩ ∧ Hid (Grow true 8 lv kids 123 j L) ∧ w'.heap.size + 1 ≤ wr.heap.size ∧ Hid (Below (w'.heap.size + 1) (w'.alloc (.cells #[.int .i64 8, .int .i64 n, .int .i64 e, .string s, .slice a kids.length cap] 46)) wr)) (fun _ i _ => kids.length - (intOf i).toNat)
  case atStart => exact ⟨0, [123], rfl, by omega, rfl, ⟨by simp [itemsT]⟩, by simp, HBA⟩
  case round =>
    clear HBA
    obtain ⟨j, L, rfl, hj, rfl, HG, hwz, HW⟩ := hrel
    obtain ⟨x0, x4⟩ := held4_of HW.out
    have hLl := HG.out.len HLEN.out
    by_cases hlt : j < kids.length
    · have hj0 : (0 : Int) ≤ (j : Int) := by omega
      have hj1 : (j : Int) < (kids.length : Int) := by omega
      have hmod : ((j : Int)).tmod 2 = ((j % 2 : Nat) : Int) := by rw [Int.tmod_eq_emod_of_nonneg (by omega)]; omega
      obtain ⟨x, rfl, hx, h5⟩ := HC.out j hlt
      have hbr := HB.out.trans ((HA.out.trans (HW.out.mono (by omega))).mono hB)
      obtain ⟨c0, c1, c2, c3, c4⟩ := h5.below (by rw [add_block]; exact hx) hbr
      have hdp : deepOf true (lv + 1) = (lv : Int) + 1 := by show ((lv + 1 : Nat) : Int) = (lv : Int) + 1; omega
      have hkn := kid_nodes kids j hlt
      have hTl : (jsonT true (lv + 1) kids[j]).length ≤ 999990000 := by
        have h1 := itemsT_take true 8 lv kids 0 j hlt
        have h2 := itemsT_len true 8 lv kids 0 (j + 1)
        have h3 := HLEN.out
        rw [h1] at h2
        simp only [List.length_append] at h2
        omega
      have C := IH.out j hlt (goodTL_mem HGL.out j hlt) (by have := (kid_sz kids j hlt).1; have := HZ.out; omega) true (lv + 1) (by have := HLV.out; omega) (by omega) wr hbr (by omega)
      rw [hdp] at C
      have HST := Lib.hid (fun S (hS : sepL true 8 lv j = S) => HG.out.step hlt hS rfl)
      have HJN : Hid (∀ A T : List UInt8, (⟨A.toArray⟩ : ByteArray) ++ ⟨T.toArray⟩ = ⟨(A ++ T).toArray⟩) := numtext.join_bytes
      generalize jsonT true (lv + 1) kids[j] = T at *
      generalize kids[j] = t at *
      have hrow : t.row = .slice t.a t.kids.length t.cap := rfl
      rw [hrow] at C c4
      replace C := Lib.hid C
      clear h5 hbr HC IH HB hrow HGL HZ HG HLEN hkn hdp
      by_cases hj00 : j = 0
      · have hS : sepL true 8 lv j = [] ++ lineL true (lv + 1) := by subst hj00; rfl
        have HG2 := Lib.hid (HST.out _ hS)
        have e0 : ¬ (0 : Int) < (j : Int) := by omega
        have em : ((j : Int)).tmod 2 = 0 := by rw [hmod]; omega
        have em1 : ¬ ((j : Int)).tmod 2 = 1 := by omega
        have em2 : (((j : Int)).tmod 2 == 1) = false := by rw [beq_eq_false_iff_ne]; exact em1
        clear hS HST hj00
        generalize lineL true (lv + 1) = S at *
        go_wp2_with fail
        with_reducible refine (CL.out _).mono ?_
        rintro r w1 ⟨rfl, rfl⟩
        clear CL
        go_wp2_with fail
        with_reducible refine C.out.mono ?_
        rintro r w1 ⟨rfl, hb1⟩
        have HW1 := Lib.hid (HW.out.trans (hb1.mono (by omega)))
        have hz1 := Nat.le_trans hwz hb1.size
        clear C hb1 c0 c1 c2 c3 c4 HW x0 x4
        go_wp2
        go_roundw
        case rel => exact ⟨j + 1, _, by go_num, by omega, by rw [List.nil_append, ← HJN.out, ← HJN.out] <;> rfl, HG2, hz1, HW1⟩
        case measure => simp [intOf]; omega
      · by_cases hj2 : j % 2 = 1
        · have hS : sepL true 8 lv j = [58, 32] := by unfold sepL; rw [if_pos ⟨rfl, hj2⟩]; rfl
          have HG2 := Lib.hid (HST.out _ hS)
          have e0 : (0 : Int) < (j : Int) := by omega
          have em : ((j : Int)).tmod 2 = 1 := by rw [hmod]; omega
          have em0 : ¬ ((j : Int)).tmod 2 = 0 := by omega
          have em2 : (((j : Int)).tmod 2 == 0) = false := by rw [beq_eq_false_iff_ne]; exact em0
          clear hS HST CL
          go_wp2_with fail
          with_reducible refine C.out.mono ?_
          rintro r w1 ⟨rfl, hb1⟩
          have HW1 := Lib.hid (HW.out.trans (hb1.mono (by omega)))
          have hz1 := Nat.le_trans hwz hb1.size
          clear C hb1 c0 c1 c2 c3 c4 HW x0 x4
          go_wp2
          go_roundw
          case rel => exact ⟨j + 1, _, by go_num, by omega, by rw [← HJN.out, ← HJN.out] <;> rfl, HG2, hz1, HW1⟩
          case measure => simp [intOf]; omega
        · have hS : sepL true 8 lv j = [44] ++ lineL true (lv + 1) := by unfold sepL; rw [if_neg (by omega), if_pos (by omega)]
          have em : ((j : Int)).tmod 2 = 0 := by rw [hmod]; omega
          have em1 : ¬ ((j : Int)).tmod 2 = 1 := by omega
          have em2 : (((j : Int)).tmod 2 == 1) = false := by rw [beq_eq_false_iff_ne]; exact em1
          have HG2 := Lib.hid (HST.out _ hS)
          have e0 : (0 : Int) < (j : Int) := by omega
          clear hS HST
          generalize lineL true (lv + 1) = S at *
          go_wp2_with fail
          with_reducible refine (CL.out _).mono ?_
          rintro r w1 ⟨rfl, rfl⟩
          clear CL
          go_wp2_with fail
          with_reducible refine C.out.mono ?_
          rintro r w1 ⟨rfl, hb1⟩
          have HW1 := Lib.hid (HW.out.trans (hb1.mono (by omega)))
          have hz1 := Nat.le_trans hwz hb1.size
          clear C hb1 c0 c1 c2 c3 c4 HW x0 x4
          go_wp2
          go_roundw
          case rel => exact ⟨j + 1, _, by go_num, by omega, by rw [← HJN.out, ← List.append_assoc, ← HJN.out, ← HJN.out] <;> rfl, HG2, hz1, HW1⟩
          case measure => simp [intOf]; omega
    · have hj1 : ¬ (j : Int) < (kids.length : Int) := by omega
      have he : j = kids.length := by omega
      subst he
      have HF : Hid ((⟨L.toArray⟩ : ByteArray) ++ ⟨(lineL true lv).toArray⟩ ++ ⟨[125].toArray⟩ = ⟨R.toArray⟩) := by
        unfold Hid
        rw [numtext.join_bytes, numtext.join_bytes, HG.out.eq, List.take_length, ← HR.out]
      have HBF := Lib.hid (HA.out.trans (HW.out.mono (by omega)))
      clear HC IH HB HG HGL
      generalize lineL true lv = S at *
      go_wp2_with fail
      with_reducible refine (CE.out _).mono ?_
      rintro r w1 ⟨rfl, rfl⟩
      go_wp2
      go_ret
      exact ⟨by rw [← HF.out]; rfl, HBF.out⟩
set_option maxHeartbeats 1000000 in
theorem put_empty (k n e : Int) (s : ByteArray) (a : Option Addr) (cap : Nat) (d : Int) (hd : d = -1 ∨ (0 ≤ d ∧ d ≤ 1000)) (hk : k = 7 ∨ k = 8) (R : List UInt8) (hR : (if k = 8 then [123] else [91]) ++ (if k = 8 then [125] else [93]) = R) (w : World) :
    Calls Tryz.prog 77 #[.agg #[.int .i64 k, .int .i64 n, .int .i64 e, .string s, .slice a 0 cap], .int .i64 d] w fun r w' => r = .returned (.string ⟨R.toArray⟩) ∧ Below w.heap.size w w' := by
  have HA := Lib.hid ((Below.refl w.heap.size w).alloc (Nat.le_refl _) (.cells #[.int .i64 k, .int .i64 n, .int .i64 e, .string s, .slice a 0 cap] 46))
  rcases hd with rfl | ⟨hd0, hd1⟩
  all_goals
    rcases hk with rfl | rfl
    all_goals
      subst hR
      go_enter Tryz.func77, Tryz.ntmps77
      go_wp2
      go_ret
      exact ⟨rfl, HA.out⟩
theorem json_kids (p : Bool) (lv : Nat) (k n e : Int) (s : ByteArray) (a : Option Addr) (cap : Nat) (kids : List LT) (hk : k = 7 ∨ k = 8) : jsonT p lv (.mk k n e s a cap kids) = (if k = 8 then [123] else [91]) ++ itemsT p k lv 0 kids ++ (if kids.length = 0 then [] else lineL p lv) ++ (if k = 8 then [125] else [93]) := by
  rw [jsonT, if_neg (by omega), if_neg (by omega), if_neg (by omega)]
theorem put_any {w : World} {B : Nat} {t : LT} (h : In w B t) : SPutC w B t := by
  induction h with
  | mk hk hn he hs hl hc hkids ih =>
    rename_i k n e s a cap kids
    intro hg hz p lv hlv hlen w' hb hB
    have hIn : In w B (.mk k n e s a cap kids) := .mk hk hn he hs hl hc hkids
    rw [GoodT] at hg
    obtain ⟨hkind, hgl⟩ := hg
    have hz' : s.size + LT.szL kids ≤ 1048576 := by rw [LT.sz] at hz; exact hz
    have hnd : lv + LT.nodesL kids + 1 ≤ 1000 := by rw [LT.nodes] at hlv; omega
    show Calls Tryz.prog 77 #[.agg #[.int .i64 k, .int .i64 n, .int .i64 e, .string s, .slice a kids.length cap], .int .i64 (deepOf p lv)] w' fun r w'' => r = .returned (.string ⟨(jsonT p lv (.mk k n e s a cap kids)).toArray⟩) ∧ Below w'.heap.size w' w''
    have word : (k = 0 ∨ k = 1 ∨ k = 2) → Calls Tryz.prog 77 #[.agg #[.int .i64 k, .int .i64 n, .int .i64 e, .string s, .slice a kids.length cap], .int .i64 (deepOf p lv)] w' fun r w'' => r = .returned (.string ⟨(jsonT p lv (.mk k n e s a cap kids)).toArray⟩) ∧ Below w'.heap.size w' w'' := fun h => by
      rw [jsonT, if_pos h]
      exact put_word _ _ k h
    have cont : (k = 7 ∨ k = 8) → Calls Tryz.prog 77 #[.agg #[.int .i64 k, .int .i64 n, .int .i64 e, .string s, .slice a kids.length cap], .int .i64 (deepOf p lv)] w' fun r w'' => r = .returned (.string ⟨(jsonT p lv (.mk k n e s a cap kids)).toArray⟩) ∧ Below w'.heap.size w' w'' := fun h => by
      rw [json_kids p lv k n e s a cap kids h] at hlen ⊢
      have hd : deepOf p lv = -1 ∨ (0 ≤ deepOf p lv ∧ deepOf p lv ≤ 1000) := by
        cases p with
        | false => exact .inl rfl
        | true => exact .inr ⟨by show (0 : Int) ≤ (lv : Int); omega, by show (lv : Int) ≤ 1000; omega⟩
      by_cases h0 : kids.length = 0
      · have hnil : kids = [] := List.eq_nil_of_length_eq_zero h0
        subst hnil
        have e0 : (if ([] : List LT).length = 0 then ([] : List UInt8) else lineL p lv) = [] := rfl
        rw [itemsT, e0, List.append_nil, List.append_nil]
        exact put_empty k n e s a cap _ hd h _ rfl w'
      · rw [if_neg h0] at hlen ⊢
        have hil : (itemsT p k lv 0 kids).length ≤ 999990000 := by simp only [List.length_append] at hlen; omega
        rcases h with rfl | rfl
        · rw [if_neg (by decide), if_neg (by decide)]
          cases p with
          | false => exact put_7_false hc ih hgl (by omega) lv hnd (by omega) hil w' hb hB
          | true => exact put_7_true hc ih hgl (by omega) lv hnd (by omega) hil w' hb hB
        · rw [if_pos rfl, if_pos rfl]
          cases p with
          | false => exact put_8_false hc ih hgl (by omega) lv hnd (by omega) hil w' hb hB
          | true => exact put_8_true hc ih hgl (by omega) lv hnd (by omega) hil w' hb hB
    rcases hkind with h | h | h | ⟨h, hok⟩ | h | h | h
    · exact word (.inl h)
    · exact word (.inr (.inl h))
    · exact word (.inr (.inr h))
    · rw [jsonT, if_neg (by omega), if_pos h]
      have e1 : numtext.numText (.mk k n e s a cap kids) = ⟨(numtext.textL n e).toArray⟩ := numtext.numText_yes h hok
      refine put_num _ _ k h _ (fun W hW => ?_)
      have := numtext.spec_numtext hIn hz (by rw [LT.nodes]; omega) W (hb.trans (hW.mono hB)) (Nat.le_trans hB hW.size)
      rw [e1] at this
      exact this
    · subst h
      rw [jsonT, if_neg (by omega), if_neg (by omega), if_pos rfl]
      have := put_text (n := n) (e := e) (s := s) (a := a) (m := kids.length) (cap := cap) (deepOf p lv) w' (by omega)
      have e1 : (⟨(quote.quoteOf s).data.toList.toArray⟩ : ByteArray) = quote.quoteOf s := by apply ByteArray.ext; simp
      rw [e1]
      exact this
    · exact cont (.inl h)
    · exact cont (.inr h)
end Go.Proofs.YtnfbjcpoealkoaaGreatDoor.json
