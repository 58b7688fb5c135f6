/-
  What FeedOk and Done return at every feed, on both sides; what the laws' helpers do to feeds.
-/
import Derived.Test.YtnfbjcpoealkoaaRows
import Derived.Test.YtnfbjcpoealkoaaOwn
import Derived.WalkKit
import Derived.ProofKit
import Derived.OpenShut
import Derived.WalkLawsBesides
import Derived.Lib.Hide
namespace Go.Proofs.Ytnfbjcpoealkoaa.feed
open Go.ChangeShapes Go.WideShapes Go.ChangeAt Go.RowKit
set_option maxRecDepth 100000

def InI (z : Int) : Prop := -9223372036854775808 ≤ z ∧ z ≤ 9223372036854775807
def okF (s : ByteArray) (n : Int) (b : Bool) : Bool := decide (s.size ≤ 4000) && (decide (0 ≤ n) && (decide (n ≤ 1000000000) && (!b || decide (s.size = 0))))
/-- A feed in a block. -/
theorem box (T : TypeId) (s : ByteArray) (n : Int) (b : Bool) (w : World) : Below w.heap.size w (w.alloc (.cells #[.string s, .int .i64 n, .bool b] T)) := (Below.refl _ _).alloc (Nat.le_refl _) _
theorem cells3 (W : World) (a b c : Value) (T : TypeId) : (W.alloc (.cells #[a, b, c] T)).cell? ⟨W.heap.size, 0, none⟩ = some a ∧ (W.alloc (.cells #[a, b, c] T)).cell? ⟨W.heap.size, 1, none⟩ = some b ∧ (W.alloc (.cells #[a, b, c] T)).cell? ⟨W.heap.size, 2, none⟩ = some c := by
  have h := heap_alloc_new W (.cells #[a, b, c] T)
  exact ⟨cell_of_row _ _ 0 _ _ (0, 0) h, cell_of_row _ _ 1 _ _ (0, 0) h, cell_of_row _ _ 2 _ _ (0, 0) h⟩
section
variable (s : ByteArray) (n : Int) (b : Bool) (w : World)
set_option maxHeartbeats 1000000 in
theorem sz_any (hs : s.size ≤ 9223372036854775807) : Calls Try.prog 6 #[.agg #[.string s, .int .i64 n, .bool b], .int .i64 1048576] w fun r w' => r = .returned (.int .i64 (if s.size ≤ 1048576 then 1048576 - s.size else -1)) ∧ Below w.heap.size w w' := by
  have HB := Lib.hid (box 23 s n b w)
  by_cases h : s.size ≤ 1048576
  · rw [if_pos h]
    have h1 : ¬ (1048576 : Int) - s.size < 0 := by omega
    go_enter Try.func6, Try.ntmps6
    go_wp2
    go_ret
    exact ⟨rfl, HB.out⟩
  · rw [if_neg h]
    have h1 : (1048576 : Int) - s.size < 0 := by omega
    go_enter Try.func6, Try.ntmps6
    go_wp2
    go_ret
    exact ⟨rfl, HB.out⟩
set_option maxHeartbeats 1000000 in
theorem to_any : Calls Try.prog 8 #[.agg #[.string s, .int .i64 n, .bool b]] w fun r w' => r = .returned (.agg #[.string s, .int .i64 n, .bool b]) ∧ Below w.heap.size w w' := by
  have HB := Lib.hid (box 23 s n b w)
  go_enter Try.func8, Try.ntmps8
  go_wp2
  obtain ⟨k0, k1, k2⟩ := cells3 ((w.alloc (.cells #[.string s, .int .i64 n, .bool b] 23)).alloc (.cells #[.string s, .int .i64 n, .bool b] 26)) (.string s) (.int .i64 n) (.bool b) 26
  simp only [World.size_alloc] at k0 k1 k2
  refine bodyPost_ret (v := .agg #[.string s, .int .i64 n, .bool b]) (by simp [results, Try.results8, go_sem, k0, k1, k2]) rfl ?_
  exact ⟨rfl, (HB.out.alloc (by simp) _).alloc (by simp; omega) _⟩
theorem empty_is : s.toList.isEmpty = decide (s.size = 0) := by
  rw [ByteArray.toList_eq, Bool.eq_iff_iff, List.isEmpty_iff_length_eq_zero]
  simp
theorem ok_tr (h1 : (s.size : Int) ≤ 4000) (h2 : 0 ≤ n) (h3 : (!s.toList.isEmpty) = false ∨ b = false) : okF s n b = decide (n ≤ 1000000000) := by
  unfold okF
  rw [empty_is] at h3
  rw [decide_eq_true (show s.size ≤ 4000 by omega), decide_eq_true h2, Bool.true_and, Bool.true_and]
  rcases h3 with h3 | h3
  · rw [Bool.not_eq_false'] at h3; rw [h3]; simp
  · rw [h3]; simp
theorem ok_far (h : 4000 < (s.size : Int)) : okF s n b = false := by
  unfold okF
  rw [decide_eq_false (show ¬ s.size ≤ 4000 by omega), Bool.false_and]
theorem ok_neg (h : n < 0) : okF s n b = false := by
  unfold okF
  rw [decide_eq_false (show ¬ 0 ≤ n by omega), Bool.false_and, Bool.and_false]
theorem ok_odd (hb : b = true) (h : (!s.toList.isEmpty) = true) : okF s n b = false := by
  unfold okF
  rw [empty_is, Bool.not_eq_true'] at h
  rw [hb, h]
  simp
theorem ok_many (h : 1000000000 < n) : okF s n b = false := by
  unfold okF
  rw [decide_eq_false (show ¬ n ≤ 1000000000 by omega), Bool.false_and, Bool.and_false, Bool.and_false]
theorem ok_good (h1 : (s.size : Int) ≤ 4000) (h2 : 0 ≤ n) (h3 : n ≤ 1000000000) : okF s n false = true := by
  unfold okF
  rw [decide_eq_true (show s.size ≤ 4000 by omega), decide_eq_true h2, decide_eq_true h3]
  rfl
theorem ok_bad (h1 : (s.size : Int) ≤ 4000) (h2 : 0 ≤ n) (h3 : n ≤ 1000000000) : okF s n true = s.toList.isEmpty := by
  unfold okF
  rw [decide_eq_true (show s.size ≤ 4000 by omega), decide_eq_true h2, decide_eq_true h3, empty_is]
  rfl
set_option maxHeartbeats 1000000 in
theorem spec_ok (hn : InI n) : Calls Try.prog 7 #[.agg #[.string s, .int .i64 n, .bool b]] w fun r w' => r = .returned (.bool (okF s n b)) ∧ Below w.heap.size w w' := by
  have HB := Lib.hid (box 26 s n b w)
  obtain ⟨R, hR⟩ : ∃ R, R = okF s n b := ⟨_, rfl⟩
  rw [← hR]
  have HR := Lib.hid hR
  clear hR
  cases b
  all_goals
    go_enter Try.func7, Try.ntmps7
    go_wp2
  all_goals go_ret
  all_goals first
    | exact ⟨by rw [HR.out, ok_far s n _ ‹_›] <;> rfl, HB.out⟩
    | exact ⟨by rw [HR.out, ok_neg s n _ ‹_›] <;> rfl, HB.out⟩
    | exact ⟨by rw [HR.out, ok_many s n _ ‹_›] <;> rfl, HB.out⟩
    | exact ⟨by rw [HR.out, ok_good s n ‹_› ‹_› ‹_›] <;> rfl, HB.out⟩
    | exact ⟨by rw [HR.out, ok_bad s n ‹_› ‹_› ‹_›] <;> rfl, HB.out⟩
set_option maxHeartbeats 1000000 in
theorem impl_ok (hn : InI n) : Calls Try.prog 9 #[.agg #[.string s, .int .i64 n, .bool b]] w fun r w' => r = .returned (.bool (okF s n b)) ∧ Below w.heap.size w w' := by
  have HB := Lib.hid (box 26 s n b w)
  obtain ⟨R, hR⟩ : ∃ R, R = okF s n b := ⟨_, rfl⟩
  rw [← hR]
  have HR := Lib.hid hR
  clear hR
  cases b
  all_goals
    go_enter Try.func9, Try.ntmps9
    go_wp2
  all_goals go_ret
  all_goals first
    | exact ⟨by rw [HR.out, ok_tr s n _ ‹_› ‹_› (.inr rfl)] <;> rfl, HB.out⟩
    | exact ⟨by rw [HR.out, ok_tr s n _ ‹_› ‹_› (.inl ‹_›)] <;> rfl, HB.out⟩
    | exact ⟨by rw [HR.out, ok_far s n _ ‹_›] <;> rfl, HB.out⟩
    | exact ⟨by rw [HR.out, ok_neg s n _ ‹_›] <;> rfl, HB.out⟩
    | exact ⟨by rw [HR.out, ok_odd s n _ rfl ‹_›] <;> rfl, HB.out⟩
theorem szYes (h : s.size ≤ 1048576) : Calls Try.prog 6 #[.agg #[.string s, .int .i64 n, .bool b], .int .i64 1048576] w fun r w' => r = .returned (.int .i64 ((1048576 - s.size : Nat) : Int)) ∧ Below w.heap.size w w' := by
  have := sz_any s n b w (by omega)
  rw [if_pos h] at this
  rw [show ((1048576 - s.size : Nat) : Int) = 1048576 - (s.size : Int) by omega]
  exact this
theorem szNo (hs : s.size ≤ 9223372036854775807) (h : ¬ s.size ≤ 1048576) : Calls Try.prog 6 #[.agg #[.string s, .int .i64 n, .bool b], .int .i64 1048576] w fun r w' => r = .returned (.int .i64 (-1)) ∧ Below w.heap.size w w' := by
  have := sz_any s n b w hs
  rw [if_neg h] at this
  exact this
end
/-- A feed in a block of its own. -/
structure FBox (W : World) (N : Nat) (s : ByteArray) (n : Int) (b : Bool) : Prop where
  c0 : W.cell? ⟨N, 0, none⟩ = some (.string s)
  c1 : W.cell? ⟨N, 1, none⟩ = some (.int .i64 n)
  c2 : W.cell? ⟨N, 2, none⟩ = some (.bool b)
  lt : N < W.heap.size
theorem FBox.new (W : World) (T : TypeId) (s : ByteArray) (n : Int) (b : Bool) : FBox (W.alloc (.cells #[.string s, .int .i64 n, .bool b] T)) W.heap.size s n b := by
  obtain ⟨k0, k1, k2⟩ := cells3 W (.string s) (.int .i64 n) (.bool b) T
  exact ⟨k0, k1, k2, by simp⟩
theorem FBox.behind {W w' : World} {N : Nat} {s : ByteArray} {n : Int} {b : Bool} (h : FBox W N s n b) (hb : Below W.heap.size W w') : FBox w' N s n b :=
  ⟨(hb.cell (p := ⟨N, 0, none⟩) h.lt).trans h.c0, (hb.cell (p := ⟨N, 1, none⟩) h.lt).trans h.c1, (hb.cell (p := ⟨N, 2, none⟩) h.lt).trans h.c2, Nat.lt_of_lt_of_le h.lt hb.size⟩
theorem below_of2 {w w1 w2 : World} (h : Below w.heap.size w w1) (h2 : Below w1.heap.size w1 w2) : Below w.heap.size w w2 := h.trans (h2.mono h.size)
theorem inI_of {n : Int} (h : (Lit.int .i64 n).wf = true) : InI n := by
  unfold InI
  simpa [Lit.wf, IntKind.min, IntKind.max, IntKind.signed, IntKind.bits] using h
end Go.Proofs.Ytnfbjcpoealkoaa.feed
