/-
  What spec.l05Put returns at lists, maps, tags.
-/
import Derived.Test.YtnaghafmpncdkaaDoorGetCborJ15
import Derived.Test.YtnaghafmpncdkaaDoorGetCborJ22
import Derived.Deep.RegionHeld3
import Derived.Test.YtnaghafmpncdkaaDoorGetCborJ21
namespace Go.Proofs.YtnaghafmpncdkaaDoor.cbor
open Go.ChangeShapes Go.WideShapes Go.ChangeAt Go.RowKit
open Go.Proofs.YtnaghafmpncdkaaDoor.val Go.Proofs.YtnaghafmpncdkaaDoor.head
set_option maxRecDepth 100000

def CPutC (w : World) (B : Nat) (t : LT) : Prop := FitV (er t) → t.sz ≤ 1048576 → ∀ w', Below B w w' → B ≤ w'.heap.size →
  PutS 51 #[.agg #[.int .i64 t.k, .int .i64 t.n, .int .i64 t.e, .string t.s, t.row]] (cborT (er t)) w'
theorem joinC (A T : List UInt8) : (⟨A.toArray⟩ : ByteArray) ++ ⟨T.toArray⟩ = ⟨(A ++ T).toArray⟩ := by
  apply ByteArray.ext
  simp
theorem sizeC (A : List UInt8) : (⟨A.toArray⟩ : ByteArray).size = A.length := by
  show A.toArray.size = A.length
  simp
/-- A round: the head, and the elements so far. -/
structure GrowC (H : List UInt8) (kids : List LT) (j : Nat) (L : List UInt8) : Prop where
  eq : L = H ++ cborTL ((kids.map er).take j)
theorem GrowC.start {H : List UInt8} {kids : List LT} : GrowC H kids 0 H := ⟨by rw [List.take_zero, cborTL, List.append_nil]⟩
theorem GrowC.step {H : List UInt8} {kids : List LT} {j : Nat} {L : List UInt8} (h : GrowC H kids j L) (hj : j < kids.length) : GrowC H kids (j + 1) (L ++ cborT (er kids[j])) := by
  refine ⟨?_⟩
  rw [h.eq, List.take_add_one, cborTL_append, List.getElem?_map, List.getElem?_eq_getElem hj, Option.map_some, Option.toList_some, cborTL, cborTL, List.append_nil, List.append_assoc]
theorem cborTL_take (l : List VT) (j : Nat) : (cborTL (l.take j)).length ≤ (cborTL l).length := by
  have h := congrArg cborTL (List.take_append_drop j l)
  rw [cborTL_append] at h
  have := congrArg List.length h
  rw [List.length_append] at this
  omega
theorem GrowC.len {H : List UInt8} {kids : List LT} {j : Nat} {L : List UInt8} (h : GrowC H kids j L) (hH : H.length ≤ 9) (hz : LT.szL kids ≤ 1048576) : L.length ≤ 99999999 := by
  have h1 := cborTL_take (kids.map er) j
  have h2 := cborL_len kids
  have h3 := nodesL_sz kids
  rw [erL_map] at h2
  rw [h.eq, List.length_append]
  omega
set_option maxHeartbeats 4000000 in
theorem put_list {w : World} {B : Nat} {n e : Int} {s : ByteArray} {a : Option Addr} {cap : Nat} {kids : List LT} (hc : ∀ i (h : i < kids.length), ∃ x, a = some x ∧ x.block < B ∧ At5 w (x.add (i * 5)) kids[i]) (ih : ∀ i (h : i < kids.length), CPutC w B kids[i])
    (hf : ∀ i (h : i < kids.length), FitV (er kids[i])) (hz : LT.szL kids ≤ 1048576) (w' : World) (hb : Below B w w') (hB : B ≤ w'.heap.size) :
    PutS 51 #[.agg #[.int .i64 7, .int .i64 n, .int .i64 e, .string s, .slice a kids.length cap]] (headL 4 kids.length ++ cborTL (kids.map er)) w' := by
  have HC := Lib.hid hc
  have IH := Lib.hid ih
  have HB := Lib.hid hb
  have HF := Lib.hid hf
  have HZ := Lib.hid hz
  have hkl : kids.length ≤ 1048576 := Nat.le_trans (node.len_sz kids) hz
  have CH : Hid (∀ W, PutS 77 #[.int .i64 4, .int .u64 (kids.length : Int)] (headL 4 kids.length) W) := fun W => head.spec_nat 4 kids.length (by omega) (by omega) W
  have HA : Hid (Below w'.heap.size w' (w'.alloc (.cells #[.int .i64 7, .int .i64 n, .int .i64 e, .string s, .slice a kids.length cap] 24))) := (Below.refl _ _).alloc (Nat.le_refl _) _
  have HBA : Hid (Below (w'.heap.size + 1) (w'.alloc (.cells #[.int .i64 7, .int .i64 n, .int .i64 e, .string s, .slice a kids.length cap] 24)) (w'.alloc (.cells #[.int .i64 7, .int .i64 n, .int .i64 e, .string s, .slice a kids.length cap] 24))) := Below.refl _ _
  have hHl := headL_le 4 (kids.length)
  have HJN : Hid (∀ A T : List UInt8, (⟨A.toArray⟩ : ByteArray) ++ ⟨T.toArray⟩ = ⟨(A ++ T).toArray⟩) := joinC
  generalize hR : headL 4 (kids.length) ++ cborTL (kids.map er) = R
  have HR := Lib.hid hR
  generalize headL 4 (kids.length) = H at *
  unfold PutS at CH ⊢
  clear hc ih hb hR hf hz
  go_enter Tryd.func51, Tryd.ntmps51
  go_wp2_with fail
  with_reducible refine (CH.out _).mono ?_
  rintro r w0 ⟨rfl, hb0⟩
  have hz0 := hb0.size
  rw [show (w'.alloc (.cells #[.int .i64 7, .int .i64 n, .int .i64 e, .string s, .slice a kids.length cap] 24)).heap.size = w'.heap.size + 1 by simp] at hz0
  replace HBA := Lib.hid (HBA.out.trans (hb0.mono (by simp)))
  clear hb0 CH
  go_wp2_with fail
  go_loopw [3, 4] (fun x i wr => ∃ (j : Nat) (L : List UInt8), i = .int .i64 j ∧ j ≤ kids.length ∧ x = .string ⟨L.toArray⟩ ∧ Hid (GrowC H kids j L) ∧ w'.heap.size + 1 ≤ wr.heap.size ∧ Hid (Below (w'.heap.size + 1) (w'.alloc (.cells #[.int .i64 7, .int .i64 n, .int .i64 e, .string s, .slice a kids.length cap] 24)) wr)) (fun _ i _ => kids.length - (intOf i).toNat)
  case atStart => exact ⟨0, H, rfl, by omega, rfl, GrowC.start, hz0, HBA⟩
  case round =>
    clear HBA
    obtain ⟨j, L, rfl, hj, rfl, HG, hwz, HW⟩ := hrel
    obtain ⟨x0, x4⟩ := held4_of HW.out
    have hLl := HG.out.len hHl HZ.out
    have hLz := sizeC L
    by_cases hlt : j < kids.length
    · have hj0 : (0 : Int) ≤ (j : Int) := by omega
      have hj1 : (j : Int) < (kids.length : Int) := by omega
      obtain ⟨x, rfl, hx, h5⟩ := HC.out j hlt
      have hbr := HB.out.trans ((HA.out.trans (HW.out.mono (by omega))).mono hB)
      obtain ⟨c0, c1, c2, c3, c4⟩ := h5.below (by rw [add_block]; exact hx) hbr
      have HG2 := Lib.hid (HG.out.step hlt)
      have hLl2 := HG2.out.len hHl HZ.out
      rw [List.length_append] at hLl2
      have hTz := sizeC (cborT (er kids[j]))
      have C := IH.out j hlt (HF.out j hlt) (by have := (node.kid_sz kids j hlt).1; have := HZ.out; omega) wr hbr (by omega)
      unfold PutS at C
      generalize cborT (er kids[j]) = T at *
      generalize kids[j] = t at *
      have hrow : t.row = .slice t.a t.kids.length t.cap := rfl
      rw [hrow] at C c4
      replace C := Lib.hid C
      clear h5 hbr HC IH HB hrow HZ HG HF hHl
      go_wp2_with fail
      with_reducible refine C.out.mono ?_
      rintro r w1 ⟨rfl, hb1⟩
      have HW1 := Lib.hid (HW.out.trans (hb1.mono (by omega)))
      have hz1 := Nat.le_trans hwz hb1.size
      clear C hb1 c0 c1 c2 c3 c4 HW x0 x4
      go_wp2
      go_roundw
      case rel => exact ⟨j + 1, _, by go_num, by omega, by rw [← HJN.out] <;> rfl, HG2, hz1, HW1⟩
      case measure => simp [intOf]; omega
    · have hj1 : ¬ (j : Int) < (kids.length : Int) := by omega
      have he : j = kids.length := by omega
      subst he
      have HFN : Hid ((⟨L.toArray⟩ : ByteArray) = ⟨R.toArray⟩) := by
        unfold Hid
        rw [HG.out.eq, List.take_of_length_le (by rw [List.length_map]; exact Nat.le_refl _), ← HR.out]
      have HBF := Lib.hid (HA.out.trans (HW.out.mono (by omega)))
      clear HC IH HB HG HF HR hLz
      go_wp2
      go_ret
      exact ⟨by rw [HFN.out]; rfl, HBF.out⟩
set_option maxHeartbeats 4000000 in
theorem put_map {w : World} {B : Nat} {n e : Int} {s : ByteArray} {a : Option Addr} {cap : Nat} {kids : List LT} (hc : ∀ i (h : i < kids.length), ∃ x, a = some x ∧ x.block < B ∧ At5 w (x.add (i * 5)) kids[i]) (ih : ∀ i (h : i < kids.length), CPutC w B kids[i])
    (hf : ∀ i (h : i < kids.length), FitV (er kids[i])) (hz : LT.szL kids ≤ 1048576) (w' : World) (hb : Below B w w') (hB : B ≤ w'.heap.size) :
    PutS 51 #[.agg #[.int .i64 8, .int .i64 n, .int .i64 e, .string s, .slice a kids.length cap]] (headL 5 (kids.length / 2) ++ cborTL (kids.map er)) w' := by
  have HC := Lib.hid hc
  have IH := Lib.hid ih
  have HB := Lib.hid hb
  have HF := Lib.hid hf
  have HZ := Lib.hid hz
  have hkl : kids.length ≤ 1048576 := Nat.le_trans (node.len_sz kids) hz
  have hd2 : (kids.length : Int) / 2 = ((kids.length / 2 : Nat) : Int) := by omega
  have hd0 : (0 : Int) ≤ (kids.length : Int) / 2 := by omega
  have hd1 : (kids.length : Int) / 2 ≤ 1048576 := by omega
  have CH : Hid (∀ W, PutS 77 #[.int .i64 5, .int .u64 ((kids.length : Int) / 2)] (headL 5 (kids.length / 2)) W) := fun W => by rw [hd2]; exact head.spec_nat 5 (kids.length / 2) (by omega) (by omega) W
  clear hd2
  have HA : Hid (Below w'.heap.size w' (w'.alloc (.cells #[.int .i64 8, .int .i64 n, .int .i64 e, .string s, .slice a kids.length cap] 24))) := (Below.refl _ _).alloc (Nat.le_refl _) _
  have HBA : Hid (Below (w'.heap.size + 1) (w'.alloc (.cells #[.int .i64 8, .int .i64 n, .int .i64 e, .string s, .slice a kids.length cap] 24)) (w'.alloc (.cells #[.int .i64 8, .int .i64 n, .int .i64 e, .string s, .slice a kids.length cap] 24))) := Below.refl _ _
  have hHl := headL_le 5 ((kids.length / 2))
  have HJN : Hid (∀ A T : List UInt8, (⟨A.toArray⟩ : ByteArray) ++ ⟨T.toArray⟩ = ⟨(A ++ T).toArray⟩) := joinC
  generalize hR : headL 5 ((kids.length / 2)) ++ cborTL (kids.map er) = R
  have HR := Lib.hid hR
  generalize headL 5 ((kids.length / 2)) = H at *
  unfold PutS at CH ⊢
  clear hc ih hb hR hf hz
  go_enter Tryd.func51, Tryd.ntmps51
  go_wp2_with fail
  with_reducible refine (CH.out _).mono ?_
  rintro r w0 ⟨rfl, hb0⟩
  have hz0 := hb0.size
  rw [show (w'.alloc (.cells #[.int .i64 8, .int .i64 n, .int .i64 e, .string s, .slice a kids.length cap] 24)).heap.size = w'.heap.size + 1 by simp] at hz0
  replace HBA := Lib.hid (HBA.out.trans (hb0.mono (by simp)))
  clear hb0 CH
  go_wp2_with fail
  go_loopw [3, 4] (fun x i wr => ∃ (j : Nat) (L : List UInt8), i = .int .i64 j ∧ j ≤ kids.length ∧ x = .string ⟨L.toArray⟩ ∧ Hid (GrowC H kids j L) ∧ w'.heap.size + 1 ≤ wr.heap.size ∧ Hid (Below (w'.heap.size + 1) (w'.alloc (.cells #[.int .i64 8, .int .i64 n, .int .i64 e, .string s, .slice a kids.length cap] 24)) wr)) (fun _ i _ => kids.length - (intOf i).toNat)
  case atStart => exact ⟨0, H, rfl, by omega, rfl, GrowC.start, hz0, HBA⟩
  case round =>
    clear HBA
    obtain ⟨j, L, rfl, hj, rfl, HG, hwz, HW⟩ := hrel
    obtain ⟨x0, x4⟩ := held4_of HW.out
    have hLl := HG.out.len hHl HZ.out
    have hLz := sizeC L
    by_cases hlt : j < kids.length
    · have hj0 : (0 : Int) ≤ (j : Int) := by omega
      have hj1 : (j : Int) < (kids.length : Int) := by omega
      obtain ⟨x, rfl, hx, h5⟩ := HC.out j hlt
      have hbr := HB.out.trans ((HA.out.trans (HW.out.mono (by omega))).mono hB)
      obtain ⟨c0, c1, c2, c3, c4⟩ := h5.below (by rw [add_block]; exact hx) hbr
      have HG2 := Lib.hid (HG.out.step hlt)
      have hLl2 := HG2.out.len hHl HZ.out
      rw [List.length_append] at hLl2
      have hTz := sizeC (cborT (er kids[j]))
      have C := IH.out j hlt (HF.out j hlt) (by have := (node.kid_sz kids j hlt).1; have := HZ.out; omega) wr hbr (by omega)
      unfold PutS at C
      generalize cborT (er kids[j]) = T at *
      generalize kids[j] = t at *
      have hrow : t.row = .slice t.a t.kids.length t.cap := rfl
      rw [hrow] at C c4
      replace C := Lib.hid C
      clear h5 hbr HC IH HB hrow HZ HG HF hHl
      go_wp2_with fail
      with_reducible refine C.out.mono ?_
      rintro r w1 ⟨rfl, hb1⟩
      have HW1 := Lib.hid (HW.out.trans (hb1.mono (by omega)))
      have hz1 := Nat.le_trans hwz hb1.size
      clear C hb1 c0 c1 c2 c3 c4 HW x0 x4
      go_wp2
      go_roundw
      case rel => exact ⟨j + 1, _, by go_num, by omega, by rw [← HJN.out] <;> rfl, HG2, hz1, HW1⟩
      case measure => simp [intOf]; omega
    · have hj1 : ¬ (j : Int) < (kids.length : Int) := by omega
      have he : j = kids.length := by omega
      subst he
      have HFN : Hid ((⟨L.toArray⟩ : ByteArray) = ⟨R.toArray⟩) := by
        unfold Hid
        rw [HG.out.eq, List.take_of_length_le (by rw [List.length_map]; exact Nat.le_refl _), ← HR.out]
      have HBF := Lib.hid (HA.out.trans (HW.out.mono (by omega)))
      clear HC IH HB HG HF HR hLz
      go_wp2
      go_ret
      exact ⟨by rw [HFN.out]; rfl, HBF.out⟩
set_option maxHeartbeats 4000000 in
theorem put_tag {w : World} {B : Nat} {n e : Int} {s : ByteArray} {a : Option Addr} {cap : Nat} {kids : List LT} (hc : ∀ i (h : i < kids.length), ∃ x, a = some x ∧ x.block < B ∧ At5 w (x.add (i * 5)) kids[i]) (ih : ∀ i (h : i < kids.length), CPutC w B kids[i])
    (hf : ∀ i (h : i < kids.length), FitV (er kids[i])) (hz : LT.szL kids ≤ 1048576) (hn : 0 ≤ n ∧ n ≤ 1000000) (w' : World) (hb : Below B w w') (hB : B ≤ w'.heap.size) :
    PutS 51 #[.agg #[.int .i64 9, .int .i64 n, .int .i64 e, .string s, .slice a kids.length cap]] (headL 6 n.toNat ++ cborTL (kids.map er)) w' := by
  have HC := Lib.hid hc
  have IH := Lib.hid ih
  have HB := Lib.hid hb
  have HF := Lib.hid hf
  have HZ := Lib.hid hz
  have hkl : kids.length ≤ 1048576 := Nat.le_trans (node.len_sz kids) hz
  have hn0 := hn.1
  have hn1 := hn.2
  have CH : Hid (∀ W, PutS 77 #[.int .i64 6, .int .u64 n] (headL 6 n.toNat) W) := fun W => by
    have := head.spec_nat 6 n.toNat (by omega) (by omega) W
    rw [show ((n.toNat : Nat) : Int) = n by omega] at this
    exact this
  clear hn
  have HA : Hid (Below w'.heap.size w' (w'.alloc (.cells #[.int .i64 9, .int .i64 n, .int .i64 e, .string s, .slice a kids.length cap] 24))) := (Below.refl _ _).alloc (Nat.le_refl _) _
  have HBA : Hid (Below (w'.heap.size + 1) (w'.alloc (.cells #[.int .i64 9, .int .i64 n, .int .i64 e, .string s, .slice a kids.length cap] 24)) (w'.alloc (.cells #[.int .i64 9, .int .i64 n, .int .i64 e, .string s, .slice a kids.length cap] 24))) := Below.refl _ _
  have hHl := headL_le 6 (n.toNat)
  have HJN : Hid (∀ A T : List UInt8, (⟨A.toArray⟩ : ByteArray) ++ ⟨T.toArray⟩ = ⟨(A ++ T).toArray⟩) := joinC
  generalize hR : headL 6 (n.toNat) ++ cborTL (kids.map er) = R
  have HR := Lib.hid hR
  generalize headL 6 (n.toNat) = H at *
  unfold PutS at CH ⊢
  clear hc ih hb hR hf hz
  go_enter Tryd.func51, Tryd.ntmps51
  go_wp2_with fail
  with_reducible refine (CH.out _).mono ?_
  rintro r w0 ⟨rfl, hb0⟩
  have hz0 := hb0.size
  rw [show (w'.alloc (.cells #[.int .i64 9, .int .i64 n, .int .i64 e, .string s, .slice a kids.length cap] 24)).heap.size = w'.heap.size + 1 by simp] at hz0
  replace HBA := Lib.hid (HBA.out.trans (hb0.mono (by simp)))
  clear hb0 CH
  go_wp2_with fail
  go_loopw [3, 4] (fun x i wr => ∃ (j : Nat) (L : List UInt8), i = .int .i64 j ∧ j ≤ kids.length ∧ x = .string ⟨L.toArray⟩ ∧ Hid (GrowC H kids j L) ∧ w'.heap.size + 1 ≤ wr.heap.size ∧ Hid (Below (w'.heap.size + 1) (w'.alloc (.cells #[.int .i64 9, .int .i64 n, .int .i64 e, .string s, .slice a kids.length cap] 24)) wr)) (fun _ i _ => kids.length - (intOf i).toNat)
  case atStart => exact ⟨0, H, rfl, by omega, rfl, GrowC.start, hz0, HBA⟩
  case round =>
    clear HBA
    obtain ⟨j, L, rfl, hj, rfl, HG, hwz, HW⟩ := hrel
    obtain ⟨x0, x4⟩ := held4_of HW.out
    have hLl := HG.out.len hHl HZ.out
    have hLz := sizeC L
    by_cases hlt : j < kids.length
    · have hj0 : (0 : Int) ≤ (j : Int) := by omega
      have hj1 : (j : Int) < (kids.length : Int) := by omega
      obtain ⟨x, rfl, hx, h5⟩ := HC.out j hlt
      have hbr := HB.out.trans ((HA.out.trans (HW.out.mono (by omega))).mono hB)
      obtain ⟨c0, c1, c2, c3, c4⟩ := h5.below (by rw [add_block]; exact hx) hbr
      have HG2 := Lib.hid (HG.out.step hlt)
      have hLl2 := HG2.out.len hHl HZ.out
      rw [List.length_append] at hLl2
      have hTz := sizeC (cborT (er kids[j]))
      have C := IH.out j hlt (HF.out j hlt) (by have := (node.kid_sz kids j hlt).1; have := HZ.out; omega) wr hbr (by omega)
      unfold PutS at C
      generalize cborT (er kids[j]) = T at *
      generalize kids[j] = t at *
      have hrow : t.row = .slice t.a t.kids.length t.cap := rfl
      rw [hrow] at C c4
      replace C := Lib.hid C
      clear h5 hbr HC IH HB hrow HZ HG HF hHl
      go_wp2_with fail
      with_reducible refine C.out.mono ?_
      rintro r w1 ⟨rfl, hb1⟩
      have HW1 := Lib.hid (HW.out.trans (hb1.mono (by omega)))
      have hz1 := Nat.le_trans hwz hb1.size
      clear C hb1 c0 c1 c2 c3 c4 HW x0 x4
      go_wp2
      go_roundw
      case rel => exact ⟨j + 1, _, by go_num, by omega, by rw [← HJN.out] <;> rfl, HG2, hz1, HW1⟩
      case measure => simp [intOf]; omega
    · have hj1 : ¬ (j : Int) < (kids.length : Int) := by omega
      have he : j = kids.length := by omega
      subst he
      have HFN : Hid ((⟨L.toArray⟩ : ByteArray) = ⟨R.toArray⟩) := by
        unfold Hid
        rw [HG.out.eq, List.take_of_length_le (by rw [List.length_map]; exact Nat.le_refl _), ← HR.out]
      have HBF := Lib.hid (HA.out.trans (HW.out.mono (by omega)))
      clear HC IH HB HG HF HR hLz
      go_wp2
      go_ret
      exact ⟨by rw [HFN.out]; rfl, HBF.out⟩
end Go.Proofs.YtnaghafmpncdkaaDoor.cbor
/-
  spec.l05Four and spec.CborFits at every value.
-/
namespace Go.Proofs.YtnaghafmpncdkaaDoor.node
open Go.ChangeShapes Go.WideShapes Go.ChangeAt Go.RowKit
open Go.Proofs.YtnaghafmpncdkaaDoor.val Go.Proofs.YtnaghafmpncdkaaDoor.num
set_option maxRecDepth 100000

mutual
/-- A tag 4 stands in a value. -/
def FourT : LT → Prop
  | .mk k n _ _ _ _ kids => (k = 9 ∧ n = 4) ∨ FourL kids
def FourL : List LT → Prop
  | [] => False
  | t :: ts => FourT t ∨ FourL ts
end
theorem fourL_take (l : List LT) : ∀ j (h : j < l.length), FourL (l.take (j + 1)) ↔ FourL (l.take j) ∨ FourT l[j] := by
  induction l with
  | nil => intro j h; simp at h
  | cons x l ih =>
    intro j h
    cases j with
    | zero => simp [FourL]
    | succ j =>
      have h' : j < l.length := by simpa using h
      rw [List.take_succ_cons, List.take_succ_cons, FourL, FourL, ih j h', List.getElem_cons_succ, or_assoc]
theorem fourL_mem {l : List LT} {j : Nat} (hj : j < l.length) (h : FourT l[j]) : FourL l := by
  induction l generalizing j with
  | nil => simp at hj
  | cons x l ih =>
    rw [FourL]
    cases j with
    | zero => exact .inl h
    | succ j => exact .inr (ih (by simpa using hj) (by simpa using h))
mutual
theorem four_pre : ∀ (t : LT) (d : Nat), FourT t ↔ ∃ y ∈ t.pre d, ¬ NoFour y.2
  | .mk k n e s a cap kids, d => by
    rw [FourT, LT.pre, fourL_pre kids (d + 1)]
    constructor
    · rintro (h | ⟨y, hy, h⟩)
      · exact ⟨_, List.mem_cons_self .., fun hn => hn h⟩
      · exact ⟨y, List.mem_cons_of_mem _ hy, h⟩
    · rintro ⟨y, hy, h⟩
      rcases List.mem_cons.1 hy with rfl | hy
      · exact .inl (Classical.not_not.1 h)
      · exact .inr ⟨y, hy, h⟩
theorem fourL_pre : ∀ (l : List LT) (d : Nat), FourL l ↔ ∃ y ∈ preL d l, ¬ NoFour y.2
  | [], d => by rw [FourL, preL]; simp
  | t :: ts, d => by
    rw [FourL, preL, four_pre t d, fourL_pre ts d]
    constructor
    · rintro (⟨y, hy, h⟩ | ⟨y, hy, h⟩)
      · exact ⟨y, List.mem_append_left _ hy, h⟩
      · exact ⟨y, List.mem_append_right _ hy, h⟩
    · rintro ⟨y, hy, h⟩
      rcases List.mem_append.1 hy with hy | hy
      · exact .inl ⟨y, hy, h⟩
      · exact .inr ⟨y, hy, h⟩
end
def FourC (w : World) (B : Nat) (t : LT) : Prop := t.sz ≤ 1048576 → ∀ w', Below B w w' → B ≤ w'.heap.size →
  Calls Tryd.prog 64 #[.agg #[.int .i64 t.k, .int .i64 t.n, .int .i64 t.e, .string t.s, t.row]] w' (OwnR (FourT t) w')
set_option maxHeartbeats 2000000 in
theorem four_any {w : World} {B : Nat} {t : LT} (h : In w B t) : FourC w B t := by
  induction h with
  | mk hk hn he hs hl hc hkids ih =>
    rename_i k n e s a cap kids
    intro hz w' hb hB
    have HC := Lib.hid hc
    have IH := Lib.hid ih
    have HB := Lib.hid hb
    have HZK : Hid (LT.szL kids ≤ 1048576) := by rw [LT.sz] at hz; unfold Hid; omega
    have hkl : kids.length ≤ 1048576 := Nat.le_trans (len_sz kids) HZK.out
    have HA : Hid (Below w'.heap.size w' (w'.alloc (.cells #[.int .i64 k, .int .i64 n, .int .i64 e, .string s, .slice a kids.length cap] 24))) := (Below.refl _ _).alloc (Nat.le_refl _) _
    have HBA : Hid (Below (w'.heap.size + 1) (w'.alloc (.cells #[.int .i64 k, .int .i64 n, .int .i64 e, .string s, .slice a kids.length cap] 24)) (w'.alloc (.cells #[.int .i64 k, .int .i64 n, .int .i64 e, .string s, .slice a kids.length cap] 24))) := Below.refl _ _
    have HR : Hid (FourT (.mk k n e s a cap kids) ↔ (k = 9 ∧ n = 4) ∨ FourL kids) := by unfold Hid; rw [FourT]
    unfold LT.row
    simp only [LT.k, LT.n, LT.e, LT.s, LT.a, LT.cap, LT.kids]
    generalize FourT (.mk k n e s a cap kids) = R at *
    clear hc ih hkids hb hz hl hs hk hn he
    by_cases h9 : k = 9 ∧ n = 4
    · obtain ⟨rfl, rfl⟩ := h9
      have HF : Hid R := HR.out.2 (.inl ⟨rfl, rfl⟩)
      go_enter Tryd.func64, Tryd.ntmps64
      go_wp2
      go_ret
      exact ⟨true, rfl, ⟨fun _ => HF.out, fun _ => rfl⟩, HA.out⟩
    · have HR2 : Hid (R ↔ FourL kids) := HR.out.trans ⟨fun h => h.resolve_left h9, .inr⟩
      have hk9 : k = 9 → ¬ n = 4 := fun h h' => h9 ⟨h, h'⟩
      clear HR h9
      have start : ∀ {P : Prop}, ((k = 9 ∧ ¬ n = 4) → P) → (¬ k = 9 → P) → P := fun h1 h2 => by
        by_cases h : k = 9
        · exact h1 ⟨h, hk9 h⟩
        · exact h2 h
      clear hk9
      refine start (fun h9 => ?_) (fun h9 => ?_)
      all_goals
        clear start
        try (obtain ⟨rfl, h4⟩ := h9; have h4' : (n == 4) = false := by simp [h4])
        try (have h9' : (k == 9) = false := by simp [h9])
        go_enter Tryd.func64, Tryd.ntmps64
        go_wp2_with fail
        go_loopw [3] (fun i wr => ∃ j : Nat, i = .int .i64 j ∧ j ≤ kids.length ∧ Hid (¬ FourL (kids.take j)) ∧ w'.heap.size + 1 ≤ wr.heap.size ∧ Hid (Below (w'.heap.size + 1) (w'.alloc (.cells #[.int .i64 _, .int .i64 n, .int .i64 e, .string s, .slice a kids.length cap] 24)) wr)) (fun i _ => kids.length - (intOf i).toNat)
        case atStart => exact ⟨0, rfl, by omega, by simp [Hid, FourL], by simp, HBA⟩
        case round =>
          clear HBA
          obtain ⟨j, rfl, hj, HL, hwz, HW⟩ := hrel
          obtain ⟨x0, x4⟩ := held4_of HW.out
          by_cases hlt : j < kids.length
          · have hj0 : (0 : Int) ≤ (j : Int) := by omega
            have hj1 : (j : Int) < (kids.length : Int) := by omega
            obtain ⟨x, rfl, hx, h5⟩ := HC.out j hlt
            have hbr := HB.out.trans ((HA.out.trans (HW.out.mono (by omega))).mono hB)
            obtain ⟨c0, c1, c2, c3, c4⟩ := h5.below (by rw [add_block]; exact hx) hbr
            have C := IH.out j hlt (by have := (kid_sz kids j hlt).1; have := HZK.out; omega) wr hbr (by omega)
            have HNX : Hid (¬ FourT kids[j] → ¬ FourL (kids.take (j + 1))) := fun h h' => ((fourL_take kids j hlt).1 h').elim HL.out h
            have HNO : Hid (FourT kids[j] → R) := fun h => HR2.out.2 (fourL_mem hlt h)
            generalize FourT kids[j] = Q at *
            generalize kids[j] = t at *
            have hrow : t.row = .slice t.a t.kids.length t.cap := rfl
            rw [hrow] at C c4
            replace C := Lib.hid C
            clear h5 hbr HC IH HB hrow
            go_wp2_with fail
            with_reducible refine C.out.mono ?_
            rintro e w1 ⟨b, rfl, hbi, hb1⟩
            have HW1 := Lib.hid (HW.out.trans (hb1.mono (by omega)))
            have hz1 := Nat.le_trans hwz hb1.size
            clear C hb1 c0 c1 c2 c3 c4 HW x0 x4
            cases b with
            | true =>
              have HF : Hid R := HNO.out (hbi.1 rfl)
              have HBF := Lib.hid (HA.out.trans (HW1.out.mono (by omega)))
              clear hbi
              go_wp2
              go_ret
              exact ⟨true, rfl, ⟨fun _ => HF.out, fun _ => rfl⟩, HBF.out⟩
            | false =>
              have HN : Hid (¬ FourL (kids.take (j + 1))) := HNX.out fun h => by have := hbi.2 h; cases this
              clear hbi
              go_wp2
              go_roundw
              case rel => exact ⟨j + 1, by go_num, by omega, HN, hz1, HW1⟩
              case measure => simp [intOf]; omega
          · have hj1 : ¬ (j : Int) < (kids.length : Int) := by omega
            have he : j = kids.length := by omega
            subst he
            have HF : Hid (¬ R) := fun h => HL.out (by rw [List.take_length]; exact HR2.out.1 h)
            have HBF := Lib.hid (HA.out.trans (HW.out.mono (by omega)))
            clear HC IH HB
            go_wp2
            go_ret
            exact ⟨false, rfl, ⟨fun h => (by cases h), fun h => (HF.out h).elim⟩, HBF.out⟩
end Go.Proofs.YtnaghafmpncdkaaDoor.node
/-
  spec.CborFits at every value; the two sides agree.
-/
namespace Go.Proofs.YtnaghafmpncdkaaDoor.node
open Go.ChangeShapes Go.WideShapes Go.ChangeAt Go.RowKit
open Go.Proofs.YtnaghafmpncdkaaDoor.val Go.Proofs.YtnaghafmpncdkaaDoor.num
set_option maxRecDepth 100000

theorem fits_iff (t : LT) : FitsC t ↔ ValidT t ∧ ¬ FourT t := by
  unfold FitsC
  rw [valid_iff, four_pre t 0]
  constructor
  · rintro ⟨h1, h2⟩
    exact ⟨h1, fun ⟨y, hy, h⟩ => h (h2 y hy)⟩
  · rintro ⟨h1, h2⟩
    exact ⟨h1, fun y hy => Classical.not_not.1 fun h => h2 ⟨y, hy, h⟩⟩
set_option maxHeartbeats 1000000 in
theorem spec_fits {w : World} {B : Nat} {t : LT} (h : In w B t) (hz : t.sz ≤ 1048576) (w' : World) (hb : Below B w w') (hB : B ≤ w'.heap.size) :
    Calls Tryd.prog 32 #[.agg #[.int .i64 t.k, .int .i64 t.n, .int .i64 t.e, .string t.s, t.row]] w' (OwnR (FitsC t) w') := by
  have hrow : t.row = .slice t.a t.kids.length t.cap := rfl
  have HA : Hid (Below w'.heap.size w' (w'.alloc (.cells #[.int .i64 t.k, .int .i64 t.n, .int .i64 t.e, .string t.s, .slice t.a t.kids.length t.cap] 24))) := (Below.refl _ _).alloc (Nat.le_refl _) _
  have HX : Hid (Box (w'.alloc (.cells #[.int .i64 t.k, .int .i64 t.n, .int .i64 t.e, .string t.s, .slice t.a t.kids.length t.cap] 24)) w'.heap.size t) := Box.new w' t 24
  have CV : Hid (∀ W, Below w'.heap.size w' W → Calls Tryd.prog 63 #[.agg #[.int .i64 t.k, .int .i64 t.n, .int .i64 t.e, .string t.s, t.row]] W (OwnR (ValidT t) W)) := fun W hW => spec_value h hz (nodes_small t hz) W (hb.trans (hW.mono hB)) (Nat.le_trans hB hW.size)
  have CF : Hid (∀ W, Below w'.heap.size w' W → Calls Tryd.prog 64 #[.agg #[.int .i64 t.k, .int .i64 t.n, .int .i64 t.e, .string t.s, t.row]] W (OwnR (FourT t) W)) := fun W hW => four_any h hz W (hb.trans (hW.mono hB)) (Nat.le_trans hB hW.size)
  have HV : Hid (FitsC t ↔ ValidT t ∧ ¬ FourT t) := fits_iff t
  simp only [hrow] at CV CF ⊢
  generalize FitsC t = V at *
  generalize ValidT t = R at *
  generalize FourT t = Q at *
  clear h hz hb hB hrow
  go_enter Tryd.func32, Tryd.ntmps32
  go_wp2_with fail
  with_reducible refine (CV.out _ HA.out).mono ?_
  rintro r w1 ⟨b, rfl, hbi, hb1⟩
  replace HX := Lib.hid (HX.out.behind hb1)
  replace HA := Lib.hid (below_of2 HA.out hb1)
  clear hb1 CV
  obtain ⟨p0, p1, p2, p3, p4⟩ := HX.out
  unfold LT.row at p4
  cases b with
  | false =>
    have HF : Hid (¬ V) := fun hv => by have := hbi.2 (HV.out.1 hv).1; cases this
    clear hbi
    go_wp2
    go_ret
    exact ⟨false, rfl, ⟨fun h => (by cases h), fun h => (HF.out h).elim⟩, HA.out⟩
  | true =>
    have HP : Hid R := hbi.1 rfl
    clear hbi
    go_wp2_with fail
    with_reducible refine (CF.out _ HA.out).mono ?_
    rintro r w2 ⟨b, rfl, hbi, hb2⟩
    have HD : Hid ((!b) = true ↔ V) := by
      unfold Hid
      rw [HV.out]
      cases b with
      | false => exact ⟨fun _ => ⟨HP.out, fun h => by have := hbi.2 h; cases this⟩, fun _ => rfl⟩
      | true => exact ⟨fun h => (by cases h), fun h => (h.2 (hbi.1 rfl)).elim⟩
    replace HA := Lib.hid (below_of2 HA.out hb2)
    clear hb2 CF hbi
    go_wp2
    go_ret
    exact ⟨_, rfl, HD.out, HA.out⟩
end Go.Proofs.YtnaghafmpncdkaaDoor.node
