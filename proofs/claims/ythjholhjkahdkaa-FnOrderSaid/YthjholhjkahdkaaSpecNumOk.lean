/-
  spec.l02Right, spec.Nodes, spec.ValueOk at a number.
-/
import Derived.Test.YthjholhjkahdkaaSpecNum
namespace Go.Proofs.Ythjholhjkahdkaa.num
open Go.ChangeShapes Go.WideShapes Go.ChangeAt Go.RowKit
open Go.Proofs.Ythjholhjkahdkaa.val
set_option maxRecDepth 100000

set_option maxHeartbeats 1000000 in
theorem right_num (t : LT) (hk : t.k = 3 ∨ t.k = 4) (w : World) : Calls Try.prog 38 #[.agg #[.int .i64 t.k, .int .i64 t.n, .int .i64 t.e, .string t.s, t.row], .int .i64 12] w fun r w' => r = .returned (.bool (numOk t)) ∧ Below w.heap.size w w' := by
  have CO := fun W => own_num t hk W
  have HV : Hid (numOk t = true → t.kids.length = 0) := fun h => by
    unfold numOk at h
    simp only [Bool.and_eq_true, decide_eq_true_eq] at h
    exact h.1.2
  clear hk
  generalize numOk t = V at *
  have hrow : t.row = .slice t.a t.kids.length t.cap := rfl
  simp only [hrow] at CO ⊢
  clear hrow
  have HX : Hid (Box (w.alloc (.cells #[.int .i64 t.k, .int .i64 t.n, .int .i64 t.e, .string t.s, .slice t.a t.kids.length t.cap] 26)) w.heap.size t) := Box.new w t 26
  have HB := Lib.hid ((Below.refl w.heap.size w).alloc (Nat.le_refl _) (.cells #[.int .i64 t.k, .int .i64 t.n, .int .i64 t.e, .string t.s, .slice t.a t.kids.length t.cap] 26))
  replace CO := Lib.hid CO
  go_enter Try.func38, Try.ntmps38
  go_wp2_with fail
  with_reducible refine (CO.out _).mono ?_
  rintro r w1 ⟨rfl, hb⟩
  replace HX := Lib.hid (HX.out.behind hb)
  replace HB := Lib.hid (below_of2 HB.out hb)
  clear hb CO
  obtain ⟨p0, p1, p2, p3, p4⟩ := HX.out
  unfold LT.row at p4
  cases V with
  | false =>
    go_wp2
    go_ret
    exact ⟨rfl, HB.out⟩
  | true =>
    have h0 := HV.out rfl
    rw [h0]
    rw [h0] at p4
    go_wp2
    go_loop [5] (fun i => i = .int .i64 0) (fun _ => 0)
    case atStart => rfl
    case round =>
      obtain rfl := hrel
      go_wp2
      go_ret
      exact ⟨rfl, HB.out⟩
set_option maxHeartbeats 1000000 in
theorem nodes_leaf (k n e : Int) (s : ByteArray) (a : Option Addr) (cap : Nat) (w : World) : Calls Try.prog 39 #[.agg #[.int .i64 k, .int .i64 n, .int .i64 e, .string s, .slice a 0 cap]] w fun r w' => r = .returned (.int .i64 1) ∧ Below w.heap.size w w' := by
  have HX := Lib.hid (OwnAt.new w k n e s (.slice a 0 cap))
  obtain ⟨hl, p0, p1, p2, p3, p4⟩ := HX.out
  have HL := Lib.hid hl
  clear hl
  go_enter Try.func39, Try.ntmps39
  go_wp2
  go_loop [3, 4] (fun v i => v = .int .i64 1 ∧ i = .int .i64 0) (fun _ _ => 0)
  case atStart => exact ⟨rfl, rfl⟩
  case round =>
    obtain ⟨rfl, rfl⟩ := hrel
    go_wp2
    go_ret
    exact ⟨rfl, HL.out⟩
set_option maxHeartbeats 1000000 in
theorem spec_value_num (t : LT) (hk : t.k = 3 ∨ t.k = 4) (w : World) : Calls Try.prog 28 #[.agg #[.int .i64 t.k, .int .i64 t.n, .int .i64 t.e, .string t.s, t.row]] w fun r w' => r = .returned (.bool (numOk t)) ∧ Below w.heap.size w w' := by
  have CR := fun W => right_num t hk W
  have HV : Hid (numOk t = true → t.kids.length = 0) := fun h => by
    unfold numOk at h
    simp only [Bool.and_eq_true, decide_eq_true_eq] at h
    exact h.1.2
  clear hk
  generalize numOk t = V at *
  have hrow : t.row = .slice t.a t.kids.length t.cap := rfl
  have HX : Hid (Box (w.alloc (.cells #[.int .i64 t.k, .int .i64 t.n, .int .i64 t.e, .string t.s, .slice t.a t.kids.length t.cap] 26)) w.heap.size t) := Box.new w t 26
  have HB := Lib.hid ((Below.refl w.heap.size w).alloc (Nat.le_refl _) (.cells #[.int .i64 t.k, .int .i64 t.n, .int .i64 t.e, .string t.s, .slice t.a t.kids.length t.cap] 26))
  simp only [hrow] at CR ⊢
  clear hrow
  replace CR := Lib.hid CR
  go_enter Try.func28, Try.ntmps28
  go_wp2_with fail
  with_reducible refine (CR.out _).mono ?_
  rintro r w1 ⟨rfl, hb⟩
  replace HX := Lib.hid (HX.out.behind hb)
  replace HB := Lib.hid (below_of2 HB.out hb)
  clear hb CR
  obtain ⟨p0, p1, p2, p3, p4⟩ := HX.out
  unfold LT.row at p4
  cases V with
  | false =>
    go_wp2
    go_ret
    exact ⟨rfl, HB.out⟩
  | true =>
    have h0 := HV.out rfl
    rw [h0]
    rw [h0] at p4
    have CN := Lib.hid (nodes_leaf t.k t.n t.e t.s t.a t.cap)
    go_wp2_with (go_at_call 39; with_reducible refine (CN.out _).mono ?_; rintro r w2 ⟨rfl, hb2⟩; have HB2 := Lib.hid (below_of2 HB.out hb2); clear hb2)
    go_ret
    exact ⟨rfl, HB2.out⟩

end Go.Proofs.Ythjholhjkahdkaa.num
