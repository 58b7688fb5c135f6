/-
  Plain: a value that fits has one form in CBOR; how long that is, how many heads it has, how deep they lie.
-/
import Derived.Test.YtnaghafmpncdkaaDoorGetCborJ6
import Derived.Test.YtnaghafmpncdkaaDoorGetCborJ21
import Derived.Test.YtnaghafmpncdkaaDoorGetCborJ15
import Derived.Deep.RegionHeld3
namespace Go.Proofs.YtnaghafmpncdkaaDoor.cbor
open Go.RowKit
open Go.Proofs.YtnaghafmpncdkaaDoor.val Go.Proofs.YtnaghafmpncdkaaDoor.head Go.Proofs.YtnaghafmpncdkaaDoor.num Go.Proofs.YtnaghafmpncdkaaDoor.node
set_option maxRecDepth 100000

theorem node_c {t : LT} (hn : InI t.n) (he : InI t.e) (h : OwnP t) (h4 : NoFour t) (hl : t.kids.length ≤ 300) : NodeC t.k t.n t.e t.s t.kids.length := by
  obtain ⟨k, n, e, s, a, cap, kids⟩ := t
  have hl : kids.length ≤ 300 := hl
  have hn : InI n := hn
  have he : InI e := he
  show NodeC k n e s kids.length
  have h : if k = 0 ∨ k = 1 ∨ k = 2 then n = 0 ∧ e = 0 ∧ s.size = 0 ∧ kids.length = 0 else if k = 3 ∨ k = 4 then numOk (.mk k n e s a cap kids) = true else if k = 5 then n = 0 ∧ e = 0 ∧ sign.textOk s = true ∧ s.size ≤ 2000 ∧ kids.length = 0 else
      if k = 6 then n = 0 ∧ e = 0 ∧ s.size ≤ 2000 ∧ kids.length = 0 else if k = 7 then n = 0 ∧ e = 0 ∧ s.size = 0 else if k = 8 then n = 0 ∧ e = 0 ∧ s.size = 0 ∧ Pairs kids else if k = 9 then (0 ≤ n ∧ n ≤ 1000000) ∧ e = 0 ∧ s.size = 0 ∧ kids.length = 1 else False := h
  by_cases c0 : k = 0 ∨ k = 1 ∨ k = 2
  · rw [if_pos c0] at h
    obtain ⟨rfl, rfl, h1, h2⟩ := h
    have h2 : kids.length = 0 := h2
    rw [h2]
    exact .word c0 h1
  rw [if_neg c0] at h
  by_cases c3 : k = 3 ∨ k = 4
  · rw [if_pos c3] at h
    rcases c3 with rfl | rfl
    · have h' : (decide (s.size = 0 ∧ kids.length = 0) && (if (3 : Int) = 3 then decide (e = 0) else decOk n e)) = true := h
      rw [if_pos rfl, Bool.and_eq_true, decide_eq_true_eq, decide_eq_true_eq] at h'
      obtain ⟨⟨h1, h2⟩, rfl⟩ := h'
      rw [h2]
      exact .int hn h1
    · have h' : (decide (s.size = 0 ∧ kids.length = 0) && (if (4 : Int) = 3 then decide (e = 0) else decOk n e)) = true := h
      rw [Bool.and_eq_true, decide_eq_true_eq] at h'
      obtain ⟨⟨h1, h2⟩, _⟩ := h'
      rw [h2]
      exact .dec hn he h1
  rw [if_neg c3] at h
  by_cases c5 : k = 5
  · rw [if_pos c5] at h
    subst c5
    obtain ⟨rfl, rfl, _, h1, h2⟩ := h
    have h2 : kids.length = 0 := h2
    rw [h2]
    exact .text h1
  rw [if_neg c5] at h
  by_cases c6 : k = 6
  · rw [if_pos c6] at h
    subst c6
    obtain ⟨rfl, rfl, h1, h2⟩ := h
    have h2 : kids.length = 0 := h2
    rw [h2]
    exact .bytes h1
  rw [if_neg c6] at h
  by_cases c7 : k = 7
  · rw [if_pos c7] at h
    subst c7
    obtain ⟨rfl, rfl, h1⟩ := h
    exact .list h1 hl
  rw [if_neg c7] at h
  by_cases c8 : k = 8
  · rw [if_pos c8] at h
    subst c8
    obtain ⟨rfl, rfl, h1, h2⟩ := h
    exact .map h1 (by omega) h2.2.1
  rw [if_neg c8] at h
  by_cases c9 : k = 9
  · rw [if_pos c9] at h
    subst c9
    obtain ⟨⟨h0, h1⟩, rfl, h2, h3⟩ := h
    have h3 : kids.length = 1 := h3
    rw [h3]
    exact .tag h0 h1 (fun e => h4 ⟨rfl, e⟩) h2
  · rw [if_neg c9] at h
    exact h.elim
mutual
theorem fit_pre : ∀ (t : LT) (d : Nat), (∀ y ∈ t.pre d, NodeC y.2.k y.2.n y.2.e y.2.s y.2.kids.length) → FitV (er t)
  | .mk k n e s a cap kids, d, h => by
    rw [er, FitV]
    rw [LT.pre] at h
    refine ⟨?_, fitL_pre kids (d + 1) fun y hy => h y (List.mem_cons_of_mem _ hy)⟩
    have := h _ (List.mem_cons_self ..)
    simp only [LT.k, LT.n, LT.e, LT.s, LT.kids] at this
    rw [erL_map, List.length_map]
    exact this
theorem fitL_pre : ∀ (l : List LT) (d : Nat), (∀ y ∈ preL d l, NodeC y.2.k y.2.n y.2.e y.2.s y.2.kids.length) → FitVL (erL l)
  | [], d, _ => by rw [erL, FitVL]; trivial
  | t :: ts, d, h => by
    rw [erL, FitVL]
    rw [preL] at h
    exact ⟨fit_pre t d fun y hy => h y (List.mem_append_left _ hy), fitL_pre ts d fun y hy => h y (List.mem_append_right _ hy)⟩
end
theorem in_nef {w : World} {B : Nat} {t : LT} (h : In w B t) : InI t.n ∧ InI t.e := by cases h; exact ⟨‹_›, ‹_›⟩
theorem fits_fit {w : World} {B : Nat} {t : LT} (h : In w B t) (hf : FitsC t) : FitV (er t) := by
  have hv := (valid_iff t).1 hf.1
  have hr := (right_pre t 12 0).1 hv.1
  refine fit_pre t 0 fun y hy => ?_
  have hi := in_nef (pre_in h 0 y hy).1
  refine node_c hi.1 hi.2 (hr.2 y hy).2 (hf.2 y hy) ?_
  have h1 := (pre_kid t 0 y hy).2
  have h2 := len_nodes y.2.kids
  rw [nodes_mk] at h1
  have := hv.2
  omega
mutual
theorem heads_le : ∀ t : LT, heads (er t) ≤ 4 * t.nodes
  | .mk k n e s a cap kids => by
    rw [er, heads, LT.nodes]
    have := headsL_le kids
    split <;> omega
theorem headsL_le : ∀ l : List LT, headsL (erL l) ≤ 4 * LT.nodesL l
  | [] => by rw [erL, headsL]; omega
  | t :: ts => by
    rw [erL, headsL, LT.nodesL]
    have := heads_le t
    have := headsL_le ts
    omega
end
mutual
/-- How deep the heads lie. -/
def deepC : VT → Nat
  | .mk k _ _ _ kids => if k = 4 then 2 else deepCL kids
def deepCL : List VT → Nat
  | [] => 0
  | t :: ts => max (deepC t + 1) (deepCL ts)
end
mutual
theorem deep_le : ∀ (t : LT) (d m : Nat), (∀ y ∈ t.pre d, y.1 ≤ m) → d + deepC (er t) ≤ m + 2
  | .mk k n e s a cap kids, d, m, h => by
    rw [LT.pre] at h
    have h0 := h _ (List.mem_cons_self ..)
    have h1 := deepL_le kids d m (by simpa using h0) fun y hy => h y (List.mem_cons_of_mem _ hy)
    simp only at h0
    rw [er, deepC]
    split <;> omega
theorem deepL_le : ∀ (l : List LT) (d m : Nat), d ≤ m → (∀ y ∈ preL (d + 1) l, y.1 ≤ m) → d + deepCL (erL l) ≤ m + 2
  | [], d, m, hd, _ => by rw [erL, deepCL]; omega
  | t :: ts, d, m, hd, h => by
    rw [erL, deepCL]
    rw [preL] at h
    have h1 := deep_le t (d + 1) m fun y hy => h y (List.mem_append_left _ hy)
    have h2 := deepL_le ts d m hd fun y hy => h y (List.mem_append_right _ hy)
    omega
end
theorem intL_le (n : Int) : (intL n).length ≤ 9 := by
  unfold intL
  split <;> exact headL_le _ _
mutual
theorem cbor_len : ∀ t : LT, (cborT (er t)).length ≤ 36 * t.nodes + t.sz
  | .mk k n e s a cap kids => by
    rw [er, cborT, LT.nodes, LT.sz]
    have h1 := cborL_len kids
    have h2 := intL_le n
    have h3 := intL_le e
    have hs : s.data.toList.length = s.size := by simp
    have q0 := headL_le 7 22
    have q1 := headL_le 7 20
    have q2 := headL_le 7 21
    have q3 := headL_le 6 4
    have q4 := headL_le 4 2
    have q5 := headL_le 3 s.size
    have q6 := headL_le 2 s.size
    have q7 := headL_le 4 (erL kids).length
    have q8 := headL_le 5 ((erL kids).length / 2)
    have q9 := headL_le 6 n.toNat
    (repeat' split) <;> (try simp only [List.length_append, hs]) <;> omega
theorem cborL_len : ∀ l : List LT, (cborTL (erL l)).length ≤ 36 * LT.nodesL l + LT.szL l
  | [] => by rw [erL, cborTL]; simp
  | t :: ts => by
    rw [erL, cborTL, LT.nodesL, LT.szL, List.length_append]
    have := cbor_len t
    have := cborL_len ts
    omega
end
end Go.Proofs.YtnaghafmpncdkaaDoor.cbor
/-
  What spec.l05Put returns at decimals, texts and bytes.
-/
namespace Go.Proofs.YtnaghafmpncdkaaDoor.cbor
open Go.ChangeShapes Go.WideShapes Go.ChangeAt Go.RowKit
open Go.Proofs.YtnaghafmpncdkaaDoor.val Go.Proofs.YtnaghafmpncdkaaDoor.head
set_option maxRecDepth 100000

theorem joinB (A T : List UInt8) : (⟨A.toArray⟩ : ByteArray) ++ ⟨T.toArray⟩ = ⟨(A ++ T).toArray⟩ := by
  apply ByteArray.ext
  simp
theorem joinS (A : List UInt8) (s : ByteArray) : (⟨A.toArray⟩ : ByteArray) ++ s = ⟨(A ++ s.data.toList).toArray⟩ := by
  apply ByteArray.ext
  simp
theorem sizeL (A : List UInt8) : (⟨A.toArray⟩ : ByteArray).size = A.length := by
  show A.toArray.size = A.length
  simp
theorem wrapU (n : Int) (h0 : 0 ≤ n) (h1 : n < 18446744073709551616) : IntKind.u64.wrap n = n := by
  simp only [IntKind.wrap, IntKind.bits, IntKind.signed]
  simp
  omega
theorem cell_behindH {W W1 W2 : World} {N o : Nat} {x : Value} (h : W.cell? ⟨N, o, none⟩ = some x) (hb : Below W1.heap.size W1 W2) (he : W1.heap = W.heap) : W2.cell? ⟨N, o, none⟩ = some x := by
  have hlt := World.block_lt_of_cell? W _ h
  rw [← h]
  exact World.cell?_of_block ((hb.block N (by rw [he]; exact hlt)).trans (by rw [he]))
theorem cells5N (W : World) (a b c d e : Value) (T : TypeId) : (W.alloc (.cells #[a, b, c, d, e] T)).cell? ⟨W.heap.size, 0, none⟩ = some a ∧ (W.alloc (.cells #[a, b, c, d, e] T)).cell? ⟨W.heap.size, 1, none⟩ = some b ∧ (W.alloc (.cells #[a, b, c, d, e] T)).cell? ⟨W.heap.size, 2, none⟩ = some c ∧ (W.alloc (.cells #[a, b, c, d, e] T)).cell? ⟨W.heap.size, 3, none⟩ = some d ∧ (W.alloc (.cells #[a, b, c, d, e] T)).cell? ⟨W.heap.size, 4, none⟩ = some e := by
  have h := heap_alloc_new W (.cells #[a, b, c, d, e] T)
  exact ⟨cell_of_row _ _ 0 _ _ (0, 0) h, cell_of_row _ _ 1 _ _ (0, 0) h, cell_of_row _ _ 2 _ _ (0, 0) h, cell_of_row _ _ 3 _ _ (0, 0) h, cell_of_row _ _ 4 _ _ (0, 0) h⟩
theorem below_undrew {w W W1 w1 : World} (h : Below w.heap.size w W) (hb : Below W1.heap.size W1 w1) (e1 : W1.heap = W.heap) (e2 : W1.os = W.os) (e3 : W1.tape = W.tape) (e4 : W1.output = W.output) : Below w.heap.size w w1 :=
  ⟨(hb.os.trans e2).trans h.os, (hb.tape.trans e3).trans h.tape, (hb.output.trans e4).trans h.output, Nat.le_trans h.size (by rw [← e1]; exact hb.size), fun k hk => ((hb.block k (by rw [e1]; exact Nat.lt_of_lt_of_le hk h.size)).trans (by rw [e1])).trans (h.block k hk)⟩
section
variable {n e : Int} {s : ByteArray} {a : Option Addr} {m cap : Nat} (w : World)
set_option maxHeartbeats 1000000 in
theorem put_text (hs : s.size ≤ 1048576) : PutS 51 #[.agg #[.int .i64 5, .int .i64 n, .int .i64 e, .string s, .slice a m cap]] (headL 3 s.size ++ s.data.toList) w := by
  have HA := Lib.hid (box 5 n e s (.slice a m cap) w)
  have C : Hid (∀ W, PutS 77 #[.int .i64 3, .int .u64 (IntKind.u64.wrap (s.size : Int))] (headL 3 s.size) W) := fun W => by rw [wrapU _ (by omega) (by omega)]; exact head.spec_nat 3 s.size (by omega) (by omega) W
  have HV : Hid ((w.alloc (.cells #[.int .i64 5, .int .i64 n, .int .i64 e, .string s, .slice a m cap] 24)).cell? ⟨w.heap.size, 3, none⟩ = some (.string s)) := (cells5N w _ _ _ _ _ _).2.2.2.1
  have hl := headL_le 3 s.size
  have hz := sizeL (headL 3 s.size)
  have HJ := Lib.hid (joinS (headL 3 s.size) s)
  generalize headL 3 s.size ++ s.data.toList = R at *
  generalize headL 3 s.size = L at *
  have qa1 : ¬ (9223372036854775807 : Int) < (((L.length) + (s.size) : Nat) : Int) := by omega
  have qa2 : ¬ (9223372036854775807 : Int) < ((L.length : Nat) : Int) + ((s.size : Nat) : Int) := by omega
  have qa3 : ¬ 9223372036854775807 < (L.length) + (s.size) := by omega
  have qa4 : ((L.length : Nat) : Int) + ((s.size : Nat) : Int) ≤ 9223372036854775807 := by omega
  unfold PutS at C ⊢
  go_enter Tryd.func51, Tryd.ntmps51
  go_wp2_with fail
  go_region_held3 (fun w' => w'.cell? ⟨w.heap.size, 3, none⟩ = some (.string s)) (go_keep)
    (first
      | (go_at_call 77; with_reducible refine (C.out _).mono ?_; rintro r w1 ⟨rfl, hb⟩; have g1 := cell_behindH HV.out hb rfl))
  all_goals
    have HB := Lib.hid (below_undrew HA.out hb rfl rfl rfl rfl)
    clear hb C HA HV
    go_wp2
    go_ret
    exact ⟨by rw [← HJ.out]; rfl, HB.out⟩
set_option maxHeartbeats 1000000 in
theorem put_bytes (hs : s.size ≤ 1048576) : PutS 51 #[.agg #[.int .i64 6, .int .i64 n, .int .i64 e, .string s, .slice a m cap]] (headL 2 s.size ++ s.data.toList) w := by
  have HA := Lib.hid (box 6 n e s (.slice a m cap) w)
  have C : Hid (∀ W, PutS 77 #[.int .i64 2, .int .u64 (IntKind.u64.wrap (s.size : Int))] (headL 2 s.size) W) := fun W => by rw [wrapU _ (by omega) (by omega)]; exact head.spec_nat 2 s.size (by omega) (by omega) W
  have HV : Hid ((w.alloc (.cells #[.int .i64 6, .int .i64 n, .int .i64 e, .string s, .slice a m cap] 24)).cell? ⟨w.heap.size, 3, none⟩ = some (.string s)) := (cells5N w _ _ _ _ _ _).2.2.2.1
  have hl := headL_le 2 s.size
  have hz := sizeL (headL 2 s.size)
  have HJ := Lib.hid (joinS (headL 2 s.size) s)
  generalize headL 2 s.size ++ s.data.toList = R at *
  generalize headL 2 s.size = L at *
  have qa1 : ¬ (9223372036854775807 : Int) < (((L.length) + (s.size) : Nat) : Int) := by omega
  have qa2 : ¬ (9223372036854775807 : Int) < ((L.length : Nat) : Int) + ((s.size : Nat) : Int) := by omega
  have qa3 : ¬ 9223372036854775807 < (L.length) + (s.size) := by omega
  have qa4 : ((L.length : Nat) : Int) + ((s.size : Nat) : Int) ≤ 9223372036854775807 := by omega
  unfold PutS at C ⊢
  go_enter Tryd.func51, Tryd.ntmps51
  go_wp2_with fail
  go_region_held3 (fun w' => w'.cell? ⟨w.heap.size, 3, none⟩ = some (.string s)) (go_keep)
    (first
      | (go_at_call 77; with_reducible refine (C.out _).mono ?_; rintro r w1 ⟨rfl, hb⟩; have g1 := cell_behindH HV.out hb rfl))
  all_goals
    have HB := Lib.hid (below_undrew HA.out hb rfl rfl rfl rfl)
    clear hb C HA HV
    go_wp2
    go_ret
    exact ⟨by rw [← HJ.out]; rfl, HB.out⟩
set_option maxHeartbeats 1000000 in
theorem put_dec (hn : InI n) (he : InI e) : PutS 51 #[.agg #[.int .i64 4, .int .i64 n, .int .i64 e, .string s, .slice a m cap]] (headL 6 4 ++ (headL 4 2 ++ (intL e ++ intL n))) w := by
  have HA := Lib.hid (box 4 n e s (.slice a m cap) w)
  have HV1 : Hid ((w.alloc (.cells #[.int .i64 4, .int .i64 n, .int .i64 e, .string s, .slice a m cap] 24)).cell? ⟨w.heap.size, 1, none⟩ = some (.int .i64 n)) := (cells5N w _ _ _ _ _ _).2.1
  have HV2 : Hid ((w.alloc (.cells #[.int .i64 4, .int .i64 n, .int .i64 e, .string s, .slice a m cap] 24)).cell? ⟨w.heap.size, 2, none⟩ = some (.int .i64 e)) := (cells5N w _ _ _ _ _ _).2.2.1
  have C1 : Hid (∀ W, PutS 77 #[.int .i64 6, .int .u64 4] (headL 6 4) W) := fun W => head.spec_nat 6 4 (by omega) (by omega) W
  have C2 : Hid (∀ W, PutS 77 #[.int .i64 4, .int .u64 2] (headL 4 2) W) := fun W => head.spec_nat 4 2 (by omega) (by omega) W
  have CE := Lib.hid (fun W => num_any e he W)
  have CN := Lib.hid (fun W => num_any n hn W)
  have h1 := headL_le 6 4
  have h2 := headL_le 4 2
  have h3 := intL_le e
  have h4 := intL_le n
  have z1 := sizeL (headL 6 4)
  have z2 := sizeL (headL 4 2)
  have z3 := sizeL (intL e)
  have z4 := sizeL (intL n)
  generalize intL e = LE at *
  generalize intL n = LN at *
  generalize headL 6 4 = L1 at *
  generalize headL 4 2 = L2 at *
  have HJ : Hid ((⟨L1.toArray⟩ : ByteArray) ++ ⟨L2.toArray⟩ ++ ⟨LE.toArray⟩ ++ ⟨LN.toArray⟩ = ⟨(L1 ++ (L2 ++ (LE ++ LN))).toArray⟩) := by
    unfold Hid
    rw [joinB, joinB, joinB, List.append_assoc, List.append_assoc]
  have z5 : ((⟨L1.toArray⟩ : ByteArray) ++ ⟨L2.toArray⟩).size = L1.length + L2.length := by rw [joinB, sizeL, List.length_append]
  have z6 : ((⟨L1.toArray⟩ : ByteArray) ++ ⟨L2.toArray⟩ ++ ⟨LE.toArray⟩).size = L1.length + L2.length + LE.length := by rw [joinB, joinB, sizeL, List.length_append, List.length_append]
  generalize L1 ++ (L2 ++ (LE ++ LN)) = R at *
  have qa1 : ¬ (9223372036854775807 : Int) < (((L1.length) + (L2.length) : Nat) : Int) := by omega
  have qa2 : ¬ (9223372036854775807 : Int) < ((L1.length : Nat) : Int) + ((L2.length : Nat) : Int) := by omega
  have qa3 : ¬ 9223372036854775807 < (L1.length) + (L2.length) := by omega
  have qa4 : ((L1.length : Nat) : Int) + ((L2.length : Nat) : Int) ≤ 9223372036854775807 := by omega
  have qb1 : ¬ (9223372036854775807 : Int) < (((L1.length + L2.length) + (LE.length) : Nat) : Int) := by omega
  have qb2 : ¬ (9223372036854775807 : Int) < ((L1.length + L2.length : Nat) : Int) + ((LE.length : Nat) : Int) := by omega
  have qb3 : ¬ 9223372036854775807 < (L1.length + L2.length) + (LE.length) := by omega
  have qb4 : ((L1.length + L2.length : Nat) : Int) + ((LE.length : Nat) : Int) ≤ 9223372036854775807 := by omega
  have qc1 : ¬ (9223372036854775807 : Int) < (((L1.length + L2.length + LE.length) + (LN.length) : Nat) : Int) := by omega
  have qc2 : ¬ (9223372036854775807 : Int) < ((L1.length + L2.length + LE.length : Nat) : Int) + ((LN.length : Nat) : Int) := by omega
  have qc3 : ¬ 9223372036854775807 < (L1.length + L2.length + LE.length) + (LN.length) := by omega
  have qc4 : ((L1.length + L2.length + LE.length : Nat) : Int) + ((LN.length : Nat) : Int) ≤ 9223372036854775807 := by omega
  unfold PutS at C1 C2 CE CN ⊢
  clear hn he
  go_enter Tryd.func51, Tryd.ntmps51
  go_wp2_with fail
  go_region_held3 (fun w' => w'.cell? ⟨w.heap.size, 1, none⟩ = some (.int .i64 n) ∧ w'.cell? ⟨w.heap.size, 2, none⟩ = some (.int .i64 e)) (go_keep)
    (first
      | (go_at_call 77; with_reducible refine (C1.out _).mono ?_; rintro r w1 ⟨rfl, hb1⟩; have f1 := cell_behindH HV1.out hb1 rfl; have f2 := cell_behindH HV2.out hb1 rfl)
      | (go_at_call 77; with_reducible refine (C2.out _).mono ?_; rintro r w2 ⟨rfl, hb2⟩; have g1 := cell_behindH f1 hb2 rfl; have g2 := cell_behindH f2 hb2 rfl)
      | (go_at_call 78; with_reducible refine (CE.out _).mono ?_; rintro r w3 ⟨rfl, hb3⟩; have k1 := cell_behindH g1 hb3 rfl; have k2 := cell_behindH g2 hb3 rfl)
      | (go_at_call 78; with_reducible refine (CN.out _).mono ?_; rintro r w4 ⟨rfl, hb4⟩; have m1 := cell_behindH k1 hb4 rfl; have m2 := cell_behindH k2 hb4 rfl))
  all_goals
    have HB := Lib.hid (below_undrew (below_undrew (below_undrew (below_undrew HA.out hb1 rfl rfl rfl rfl) hb2 rfl rfl rfl rfl) hb3 rfl rfl rfl rfl) hb4 rfl rfl rfl rfl)
    clear hb1 hb2 hb3 hb4 C1 C2 CE CN HA HV1 HV2
    go_wp2
    go_ret
    exact ⟨by rw [← HJ.out]; rfl, HB.out⟩
end
end Go.Proofs.YtnaghafmpncdkaaDoor.cbor
