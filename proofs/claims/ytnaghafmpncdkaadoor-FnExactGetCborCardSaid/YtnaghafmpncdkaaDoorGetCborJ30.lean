/-
  spec's reader of CBOR: its cells; what l05Head, l05Whole, l05Simple return.
-/
import Derived.Test.YtnaghafmpncdkaaDoorGetCborJ24
import Derived.Test.YtnaghafmpncdkaaDoorGetCborJ29
import Derived.Test.YtnaghafmpncdkaaDoorGetCborJ22
namespace Go.Proofs.YtnaghafmpncdkaaDoor.cbor
open Go.ChangeShapes Go.WideShapes Go.ChangeAt Go.RowKit
open Go.Proofs.YtnaghafmpncdkaaDoor.val Go.Proofs.YtnaghafmpncdkaaDoor.head
set_option maxRecDepth 100000

/-- The reader's cells. -/
structure SR (W : World) (b : Nat) (s : ByteArray) (left : Int) : Prop where
  row : W.heap[b]? = some (.cells #[.string s, .bool false, .int .i64 left] 46 (0, 0))
theorem SR.c0 {W : World} {b : Nat} {s : ByteArray} {left : Int} (h : SR W b s left) : W.cell? ⟨b, 0, none⟩ = some (.string s) := cell_of_row W b 0 _ _ (0, 0) h.row
theorem SR.c1 {W : World} {b : Nat} {s : ByteArray} {left : Int} (h : SR W b s left) : W.cell? ⟨b, 1, none⟩ = some (.bool false) := cell_of_row W b 1 _ _ (0, 0) h.row
theorem SR.c2 {W : World} {b : Nat} {s : ByteArray} {left : Int} (h : SR W b s left) : W.cell? ⟨b, 2, none⟩ = some (.int .i64 left) := cell_of_row W b 2 _ _ (0, 0) h.row
theorem SR.fr {W : World} {b : Nat} {s : ByteArray} {left : Int} (h : SR W b s left) (o : Nat) : W.frozen? ⟨b, o, none⟩ = false := frozen_of_row W b o _ _ h.row
theorem SR.lt {W : World} {b : Nat} {s : ByteArray} {left : Int} (h : SR W b s left) : b < W.heap.size := (Array.getElem?_eq_some_iff.1 h.row).1
theorem SR.drew {W : World} {b : Nat} {s : ByteArray} {left : Int} (h : SR W b s left) : SR W.drew b s left := ⟨h.row⟩
theorem SR.behind {W W' : World} {b : Nat} {s : ByteArray} {left : Int} (h : SR W b s left) (hb : Below W.heap.size W W') : SR W' b s left := ⟨(hb.block _ h.lt).trans h.row⟩
theorem SR.alloc {W : World} {b : Nat} {s : ByteArray} {left : Int} (h : SR W b s left) (o : Obj) : SR (W.alloc o) b s left := ⟨(Below.heap_alloc _ _ _ h.lt).trans h.row⟩
set_option maxHeartbeats 1000000 in
theorem spec_head (W : World) (b : Nat) (s : ByteArray) (left i : Int) (hs : s.size ≤ 1048576) (h : SR W b s left) :
    Calls Tryd.prog 46 #[.pointer (some ⟨b, 0, none⟩), .int .i64 i] W fun e w' => e = .returned (triple (getHead s i)) ∧ Below W.heap.size W w' := by
  have CG := Lib.hid (fun W => get_spec s i W hs)
  unfold triple at CG ⊢
  generalize getHead s i = R at *
  obtain ⟨c0, c1, c2⟩ : _ ∧ _ ∧ _ := ⟨h.c0, h.c1, h.c2⟩
  clear h hs
  go_enter Tryd.func46, Tryd.ntmps46
  go_wp2_with fail
  with_reducible refine (CG.out _).mono ?_
  rintro r w1 ⟨rfl, hb⟩
  go_wp2
  go_ret3
  exact ⟨rfl, hb⟩
def vOf (k n : Int) (ok : Bool) : Value := .tuple #[.agg #[.int .i64 k, .int .i64 n, .int .i64 0, .string ⟨#[]⟩, .slice none 0 0], .bool ok]
set_option maxHeartbeats 1000000 in
theorem whole_no (m n : Nat) (hn : 9223372036854775807 < n) (W : World) : Calls Tryd.prog 47 #[.int .i64 m, .int .u64 n] W fun e w' => e = .returned (vOf 0 0 false) ∧ Below W.heap.size W w' := by
  have h1 : (9223372036854775807 : Int) < (n : Int) := by omega
  unfold vOf
  clear hn
  go_enter Tryd.func47, Tryd.ntmps47
  go_wp2
  refine bodyPost_ret (v := .tuple #[.agg #[.int .i64 0, .int .i64 0, .int .i64 0, .string ⟨#[]⟩, .slice none 0 0], .bool false]) (by simp [results, Tryd.results47, go_sem]) rfl ?_
  exact ⟨rfl, (Below.refl _ _).alloc (Nat.le_refl _) _⟩
set_option maxHeartbeats 1000000 in
theorem spec_int (n : Int) (W : World) : Calls Tryd.prog 76 #[.int .i64 n] W fun e w' => e = .returned (.agg #[.int .i64 3, .int .i64 n, .int .i64 0, .string ⟨#[]⟩, .slice none 0 0]) ∧ Below W.heap.size W w' := by
  go_enter Tryd.func76, Tryd.ntmps76
  go_wp2
  refine bodyPost_ret (v := .agg #[.int .i64 3, .int .i64 n, .int .i64 0, .string ⟨#[]⟩, .slice none 0 0]) (by simp [results, Tryd.results76, go_sem]) rfl ?_
  exact ⟨rfl, (Below.refl _ _).alloc (Nat.le_refl _) _⟩
set_option maxHeartbeats 1000000 in
theorem whole_yes (m n : Nat) (hm : m = 0 ∨ m = 1) (hn : n ≤ 9223372036854775807) (W : World) : Calls Tryd.prog 47 #[.int .i64 m, .int .u64 n] W fun e w' => e = .returned (vOf 3 (if m = 1 then -1 - (n : Int) else n) true) ∧ Below W.heap.size W w' := by
  have h0 : (0 : Int) ≤ (n : Int) := by omega
  have h1 : ¬ (9223372036854775807 : Int) < (n : Int) := by omega
  have h2 : (n : Int) ≤ 9223372036854775807 := by omega
  have h3 : -9223372036854775808 ≤ -1 - (n : Int) := by omega
  have h4 : -1 - (n : Int) ≤ 9223372036854775807 := by omega
  unfold vOf
  clear hn
  have CL := Lib.hid spec_int
  have HA : Hid (Below W.heap.size W (W.alloc (.cells #[.int .i64 0, .int .i64 0, .int .i64 0, .string ⟨#[]⟩, .slice none 0 0] 24))) := (Below.refl _ _).alloc (Nat.le_refl _) _
  have HV := Lib.hid (V5.new W (.int .i64 0) (.int .i64 0) (.int .i64 0) (.string ⟨#[]⟩) (.slice none 0 0))
  rcases hm with rfl | rfl
  · rw [if_neg (by decide)]
    go_enter Tryd.func47, Tryd.ntmps47
    go_wp2_with fail
    with_reducible refine (CL.out _ _).mono ?_
    rintro r w1 ⟨rfl, hb⟩
    replace HA := Lib.hid (below_of2 HA.out hb)
    replace HV := Lib.hid (HV.out.behind hb)
    clear hb CL h0 h1 h2 h3 h4
    generalize hz : (n : Int) = z at *
    replace hz := Lib.hid hz
    obtain ⟨q0, q1, q2, q3, q4, qf⟩ := HV.out.c
    have HF := Lib.hid (HV.out.put (.int .i64 3) (.int .i64 z) (.int .i64 0) (.string ⟨#[]⟩) (.slice none 0 0))
    have HBF := Lib.hid (put5v_below HA.out (Nat.le_refl _) (.int .i64 3) (.int .i64 z) (.int .i64 0) (.string ⟨#[]⟩) (.slice none 0 0))
    obtain ⟨k0, k1, k2, k3, k4, _⟩ := HF.out.c
    clear HF HV HA
    unfold put5v at k0 k1 k2 k3 k4 HBF
    go_wp2
    refine bodyPost_ret (v := .tuple #[.agg #[.int .i64 3, .int .i64 z, .int .i64 0, .string ⟨#[]⟩, .slice none 0 0], .bool true]) (by simp [results, Tryd.results47, go_sem, k0, k1, k2, k3, k4]) rfl ?_
    exact ⟨by rw [hz.out], HBF.out⟩
  · rw [if_pos rfl]
    go_enter Tryd.func47, Tryd.ntmps47
    go_wp2_with fail
    with_reducible refine (CL.out _ _).mono ?_
    rintro r w1 ⟨rfl, hb⟩
    replace HA := Lib.hid (below_of2 HA.out hb)
    replace HV := Lib.hid (HV.out.behind hb)
    clear hb CL h0 h1 h2 h3 h4
    generalize hz : -1 - (n : Int) = z at *
    replace hz := Lib.hid hz
    obtain ⟨q0, q1, q2, q3, q4, qf⟩ := HV.out.c
    have HF := Lib.hid (HV.out.put (.int .i64 3) (.int .i64 z) (.int .i64 0) (.string ⟨#[]⟩) (.slice none 0 0))
    have HBF := Lib.hid (put5v_below HA.out (Nat.le_refl _) (.int .i64 3) (.int .i64 z) (.int .i64 0) (.string ⟨#[]⟩) (.slice none 0 0))
    obtain ⟨k0, k1, k2, k3, k4, _⟩ := HF.out.c
    clear HF HV HA
    unfold put5v at k0 k1 k2 k3 k4 HBF
    go_wp2
    refine bodyPost_ret (v := .tuple #[.agg #[.int .i64 3, .int .i64 z, .int .i64 0, .string ⟨#[]⟩, .slice none 0 0], .bool true]) (by simp [results, Tryd.results47, go_sem, k0, k1, k2, k3, k4]) rfl ?_
    exact ⟨by rw [hz.out], HBF.out⟩
/-- What a number of major 7 tells. -/
def simpOf (n : Nat) : Value := if n = 20 then vOf 1 0 true else if n = 21 then vOf 2 0 true else if n = 22 then vOf 0 0 true else vOf 0 0 false
set_option maxHeartbeats 1000000 in
theorem spec_simple (W : World) (b : Nat) (s : ByteArray) (left : Int) (n : Nat) (h : SR W b s left) :
    Calls Tryd.prog 50 #[.pointer (some ⟨b, 0, none⟩), .int .u64 n] W fun e w' => e = .returned (simpOf n) ∧ Below W.heap.size W w' := by
  have c1 := (h.alloc (.cells #[.int .i64 0, .int .i64 0, .int .i64 0, .string ⟨#[]⟩, .slice none 0 0] 24)).c1
  clear h
  by_cases h20 : n = 20
  · subst h20
    rw [show simpOf 20 = vOf 1 0 true from rfl]
    unfold vOf
    go_enter Tryd.func50, Tryd.ntmps50
    go_wp2
    refine bodyPost_ret (v := .tuple #[.agg #[.int .i64 1, .int .i64 0, .int .i64 0, .string ⟨#[]⟩, .slice none 0 0], .bool true]) (by simp [results, Tryd.results50, go_sem]) rfl ?_
    exact ⟨rfl, (Below.refl _ _).alloc (Nat.le_refl _) _⟩
  by_cases h21 : n = 21
  · subst h21
    rw [show simpOf 21 = vOf 2 0 true from rfl]
    unfold vOf
    go_enter Tryd.func50, Tryd.ntmps50
    go_wp2
    refine bodyPost_ret (v := .tuple #[.agg #[.int .i64 2, .int .i64 0, .int .i64 0, .string ⟨#[]⟩, .slice none 0 0], .bool true]) (by simp [results, Tryd.results50, go_sem]) rfl ?_
    exact ⟨rfl, (Below.refl _ _).alloc (Nat.le_refl _) _⟩
  by_cases h22 : n = 22
  · subst h22
    rw [show simpOf 22 = vOf 0 0 true from rfl]
    unfold vOf
    go_enter Tryd.func50, Tryd.ntmps50
    go_wp2
    refine bodyPost_ret (v := .tuple #[.agg #[.int .i64 0, .int .i64 0, .int .i64 0, .string ⟨#[]⟩, .slice none 0 0], .bool true]) (by simp [results, Tryd.results50, go_sem]) rfl ?_
    exact ⟨rfl, (Below.refl _ _).alloc (Nat.le_refl _) _⟩
  have e20 : ((n : Int) == 20) = false := by rw [beq_eq_false_iff_ne]; omega
  have e21 : ((n : Int) == 21) = false := by rw [beq_eq_false_iff_ne]; omega
  have e22 : ((n : Int) == 22) = false := by rw [beq_eq_false_iff_ne]; omega
  have hS : simpOf n = vOf 0 0 false := by unfold simpOf; rw [if_neg h20, if_neg h21, if_neg h22]
  rw [hS]
  unfold vOf
  clear h20 h21 h22 hS
  by_cases h23 : n = 23
  · subst h23
    clear e20 e21 e22
    go_enter Tryd.func50, Tryd.ntmps50
    go_wp2
    refine bodyPost_ret (v := .tuple #[.agg #[.int .i64 0, .int .i64 0, .int .i64 0, .string ⟨#[]⟩, .slice none 0 0], .bool false]) (by simp [results, Tryd.results50, go_sem]) rfl ?_
    exact ⟨rfl, (Below.refl _ _).alloc (Nat.le_refl _) _⟩
  have e23 : ((n : Int) == 23) = false := by rw [beq_eq_false_iff_ne]; omega
  clear h23
  go_enter Tryd.func50, Tryd.ntmps50
  go_wp2
  refine bodyPost_ret (v := .tuple #[.agg #[.int .i64 0, .int .i64 0, .int .i64 0, .string ⟨#[]⟩, .slice none 0 0], .bool false]) (by simp [results, Tryd.results50, go_sem]) rfl ?_
  exact ⟨rfl, (Below.refl _ _).alloc (Nat.le_refl _) _⟩
end Go.Proofs.YtnaghafmpncdkaaDoor.cbor
/-
  spec's reader of CBOR: what reading a value is to tell; where none can be begun.
-/
namespace Go.Proofs.YtnaghafmpncdkaaDoor.cbor
open Go.ChangeShapes Go.WideShapes Go.ChangeAt Go.RowKit
open Go.Proofs.YtnaghafmpncdkaaDoor.val Go.Proofs.YtnaghafmpncdkaaDoor.head
set_option maxRecDepth 100000

/-- Whatever value stands at a place, if so many may still be begun and it is not too deep, is the one told. -/
def Whole0 (s : ByteArray) (i left deep : Nat) (v : VT) (next left' : Int) : Prop :=
  ∀ v0 r0, FitV v0 → D s i = cborT v0 ++ r0 → heads v0 ≤ left → deep + deepC v0 ≤ 14 → v = v0 ∧ next = i + (cborT v0).length ∧ left' = left - heads v0
/-- What spec.l05Get tells. -/
structure SGet (W w' : World) (b : Nat) (s : ByteArray) (i left deep : Nat) (e : Ending) : Prop where
  ex : ∃ (t : LT) (next left' : Int), e = .returned (.tuple #[.agg #[.int .i64 t.k, .int .i64 t.n, .int .i64 t.e, .string t.s, t.row], .int .i64 next]) ∧ SR w' b s left' ∧ W.grownBy w' (some b) ∧ Whole0 s i left deep (er t) next left' ∧
    (next = -1 ∨ ((i : Int) < next ∧ next ≤ s.size ∧ FreshO W w' b t ∧ (t.sz : Int) + 1 ≤ next - i ∧ 0 ≤ left' ∧ left' < left))
theorem SR.set {W : World} {b : Nat} {s : ByteArray} {left : Int} (h : SR W b s left) (l : Int) : SR (W.setCell ⟨b, 2, none⟩ (.int .i64 l)) b s l := ⟨by have := val.blk_set (o := 2) h.row (.int .i64 l); simpa using this⟩
set_option maxHeartbeats 1000000 in
/-- No value can be begun: too many, too deep, or at the end. -/
theorem get_end (W : World) (b : Nat) (s : ByteArray) (i left deep : Nat) (hs : s.size ≤ 1048576) (hi : i ≤ s.size) (hl : left ≤ 2000) (hd : deep ≤ 100) (h : SR W b s left) (hx : left = 0 ∨ 14 < deep ∨ i = s.size) :
    Calls Tryd.prog 24 #[.pointer (some ⟨b, 0, none⟩), .int .i64 i, .int .i64 deep] W fun e w' => e = .returned (.tuple #[.agg #[.int .i64 0, .int .i64 0, .int .i64 0, .string ⟨#[]⟩, .slice none 0 0], .int .i64 (-1)]) ∧ SR w' b s (left - 1) ∧ W.grownBy w' (some b) := by
  have HA := Lib.hid (h.alloc (.cells #[.int .i64 0, .int .i64 0, .int .i64 0, .string ⟨#[]⟩, .slice none 0 0] 24))
  have hlt := h.lt
  have c0 := HA.out.c0
  have c2 := HA.out.c2
  have fr := HA.out.fr 2
  have HS := Lib.hid ((h.set ((left : Int) - 1)).alloc (.cells #[.int .i64 0, .int .i64 0, .int .i64 0, .string ⟨#[]⟩, .slice none 0 0] 24))
  have d0 := HS.out.c0
  have d2 := HS.out.c2
  have HO : Hid (W.grownBy ((W.setCell ⟨b, 2, none⟩ (.int .i64 ((left : Int) - 1))).alloc (.cells #[.int .i64 0, .int .i64 0, .int .i64 0, .string ⟨#[]⟩, .slice none 0 0] 24)) (some b)) := only_below (set_only _ _ _ _) ((Below.refl _ _).alloc (Nat.le_refl _) _)
  have e0 : -9223372036854775808 ≤ (left : Int) - 1 := by omega
  have e1 : (left : Int) - 1 ≤ 9223372036854775807 := by omega
  have e2 : (s.size : Int) ≤ 1048576 := by omega
  clear h HA
  by_cases hl0 : left = 0
  · have p0 : (left : Int) - 1 < 0 := by omega
    clear hx hl0 hl
    go_enter Tryd.func24, Tryd.ntmps24
    go_wp2
    refine bodyPost_ret (v := .tuple #[.agg #[.int .i64 0, .int .i64 0, .int .i64 0, .string ⟨#[]⟩, .slice none 0 0], .int .i64 (-1)]) (by simp [results, Tryd.results24, go_sem]) rfl ?_
    exact ⟨rfl, HS.out, HO.out⟩
  have p0 : ¬ (left : Int) - 1 < 0 := by omega
  by_cases hd0 : 14 < deep
  · have p1 : (14 : Int) < (deep : Int) := by omega
    clear hx hl0 hl hd0
    go_enter Tryd.func24, Tryd.ntmps24
    go_wp2
    refine bodyPost_ret (v := .tuple #[.agg #[.int .i64 0, .int .i64 0, .int .i64 0, .string ⟨#[]⟩, .slice none 0 0], .int .i64 (-1)]) (by simp [results, Tryd.results24, go_sem]) rfl ?_
    exact ⟨rfl, HS.out, HO.out⟩
  have p1 : ¬ (14 : Int) < (deep : Int) := by omega
  have p2 : (s.size : Int) ≤ (i : Int) := by omega
  clear hx hl0 hl hd0
  go_enter Tryd.func24, Tryd.ntmps24
  go_wp2
  refine bodyPost_ret (v := .tuple #[.agg #[.int .i64 0, .int .i64 0, .int .i64 0, .string ⟨#[]⟩, .slice none 0 0], .int .i64 (-1)]) (by simp [results, Tryd.results24, go_sem]) rfl ?_
  exact ⟨rfl, HS.out, HO.out⟩
end Go.Proofs.YtnaghafmpncdkaaDoor.cbor
/-
  spec.l05Get up to the head, and where no head stands.
-/
namespace Go.Proofs.YtnaghafmpncdkaaDoor.cbor
open Go.ChangeShapes Go.WideShapes Go.ChangeAt Go.RowKit
open Go.Proofs.YtnaghafmpncdkaaDoor.val Go.Proofs.YtnaghafmpncdkaaDoor.head
set_option maxRecDepth 100000

theorem sr_put {W : World} {b N : Nat} {s : ByteArray} {left : Int} (h : SR W b s left) (hN : b ≠ N) (x0 x1 x2 x3 x4 : Value) : SR (put5v W N x0 x1 x2 x3 x4) b s left := ⟨(put5v_other W N b x0 x1 x2 x3 x4 hN).trans h.row⟩
theorem only_put {W w1 : World} {b N : Nat} (h : W.grownBy w1 (some b)) (hN : W.heap.size ≤ N) (x0 x1 x2 x3 x4 : Value) : W.grownBy (put5v w1 N x0 x1 x2 x3 x4) (some b) := by
  unfold put5v
  exact only_set (only_set (only_set (only_set (only_set h hN _) hN _) hN _) hN _) hN _
set_option maxHeartbeats 2000000 in
theorem get_nohead (W : World) (b : Nat) (s : ByteArray) (i left deep : Nat) (hs : s.size ≤ 1048576) (hi : i < s.size) (hl0 : 0 < left) (hl : left ≤ 2000) (hd : deep ≤ 14) (h : SR W b s left) (hn : getHead s i = (-1, 0, -1)) :
    Calls Tryd.prog 24 #[.pointer (some ⟨b, 0, none⟩), .int .i64 i, .int .i64 deep] W fun e w' => e = .returned (.tuple #[.agg #[.int .i64 0, .int .i64 0, .int .i64 0, .string ⟨#[]⟩, .slice none 0 0], .int .i64 (-1)]) ∧ SR w' b s (left - 1) ∧ W.grownBy w' (some b) := by
  have HA := Lib.hid (h.alloc (.cells #[.int .i64 0, .int .i64 0, .int .i64 0, .string ⟨#[]⟩, .slice none 0 0] 24))
  have hlt := h.lt
  have c0 := HA.out.c0
  have c2 := HA.out.c2
  have fr := HA.out.fr 2
  have HS := Lib.hid ((h.set ((left : Int) - 1)).alloc (.cells #[.int .i64 0, .int .i64 0, .int .i64 0, .string ⟨#[]⟩, .slice none 0 0] 24))
  have HV : Hid (V5 ((W.setCell ⟨b, 2, none⟩ (.int .i64 ((left : Int) - 1))).alloc (.cells #[.int .i64 0, .int .i64 0, .int .i64 0, .string ⟨#[]⟩, .slice none 0 0] 24)) W.heap.size (.int .i64 0) (.int .i64 0) (.int .i64 0) (.string ⟨#[]⟩) (.slice none 0 0)) := by
    have := V5.new (W.setCell ⟨b, 2, none⟩ (.int .i64 ((left : Int) - 1))) (.int .i64 0) (.int .i64 0) (.int .i64 0) (.string ⟨#[]⟩) (.slice none 0 0)
    rwa [val.set_size] at this
  have d0 := HS.out.c0
  have d1 := HS.out.c1
  have d2 := HS.out.c2
  have HO : Hid (W.grownBy ((W.setCell ⟨b, 2, none⟩ (.int .i64 ((left : Int) - 1))).alloc (.cells #[.int .i64 0, .int .i64 0, .int .i64 0, .string ⟨#[]⟩, .slice none 0 0] 24)) (some b)) := only_below (set_only _ _ _ _) ((Below.refl _ _).alloc (Nat.le_refl _) _)
  have CH := Lib.hid (fun W h => spec_head W b s ((left : Int) - 1) i hs h)
  rw [hn] at CH
  unfold triple at CH
  have e0 : -9223372036854775808 ≤ (left : Int) - 1 := by omega
  have e1 : (left : Int) - 1 ≤ 9223372036854775807 := by omega
  have e2 : (s.size : Int) ≤ 1048576 := by omega
  have p0 : ¬ (left : Int) - 1 < 0 := by omega
  have p1 : ¬ (14 : Int) < (deep : Int) := by omega
  have p2 : ¬ (s.size : Int) ≤ (i : Int) := by omega
  have p3 : (i : Int) < (s.size : Int) := by omega
  have p4 : (0 : Int) ≤ (i : Int) := by omega
  clear h HA hn hl hl0 hd hs hi
  go_enter Tryd.func24, Tryd.ntmps24
  go_wp2_with fail
  with_reducible refine (CH.out _ HS.out).mono ?_
  rintro r w1 ⟨rfl, hb⟩
  replace HS := Lib.hid (HS.out.behind hb)
  replace HO := Lib.hid (only_below HO.out hb)
  replace HV := Lib.hid (HV.out.behind hb)
  clear hb CH c0 c2 fr d0 d1 d2 e0 e1 e2
  obtain ⟨q0, q1, q2, q3, q4, qf⟩ := HV.out.c
  have HF := Lib.hid (HV.out.put (.int .i64 0) (.int .i64 0) (.int .i64 0) (.string ⟨#[]⟩) (.slice none 0 0))
  have HSF := Lib.hid (sr_put HS.out (N := W.heap.size) (by omega) (.int .i64 0) (.int .i64 0) (.int .i64 0) (.string ⟨#[]⟩) (.slice none 0 0))
  have HOF := Lib.hid (only_put HO.out (Nat.le_refl _) (.int .i64 0) (.int .i64 0) (.int .i64 0) (.string ⟨#[]⟩) (.slice none 0 0))
  obtain ⟨k0, k1, k2, k3, k4, _⟩ := HF.out.c
  clear HF HV HS HO
  unfold put5v at k0 k1 k2 k3 k4 HSF HOF
  go_wp2
  refine bodyPost_ret (v := .tuple #[.agg #[.int .i64 0, .int .i64 0, .int .i64 0, .string ⟨#[]⟩, .slice none 0 0], .int .i64 (-1)]) (by simp [results, Tryd.results24, go_sem, k0, k1, k2, k3, k4]) rfl ?_
  exact ⟨rfl, HSF.out, HOF.out⟩
end Go.Proofs.YtnaghafmpncdkaaDoor.cbor
