/-
  What impl.Deep returns where impl.finite hands its value back: the greatest level that the walk meets.
-/
import Derived.Test.YtabjamaencobnaaNodesWalk
namespace Go.Proofs.Ytabjamaencobnaa.val
open Go.ChangeShapes Go.WideShapes Go.ChangeAt Go.RowKit
set_option maxRecDepth 100000
attribute [local go_sem] Oper.semAt_some

/-- The greatest level of what was met. -/
def topOf (pre : List (Nat × LT)) : Nat := pre.foldl (fun m x => max m x.1) 0
theorem topOf_snoc (pre : List (Nat × LT)) (x : Nat × LT) : topOf (pre ++ [x]) = max (topOf pre) x.1 := by simp [topOf]

set_option maxHeartbeats 2000000 in
theorem deep_any (HF : FinC) (w : World) (t : LT) (h : Mine w t) (hz : t.nodes ≤ 2000000) :
    Calls Try.prog 19 #[.agg #[.int .i64 t.k, .int .i64 t.n, .int .i64 t.e, .string t.s, t.row]] w fun e w' => e = .returned (.int .i64 (topOf (t.pre 0) : Int)) ∧ Below w.heap.size w w' := by
  refine (callsIn_wide (n := 4)).1 ?_
  refine callsIn_of_wp_marks Try.func19 rfl trivial ?_ rfl
  simp only [Try.ntmps19, List.size_toArray, List.length_cons, List.length_nil, Nat.reduceAdd, Nat.reduceSub, Array.replicate_succ, Array.replicate_zero, List.push_toArray, List.append_toArray, List.nil_append, List.cons_append]
  have HIn := Lib.hid h.isIn
  have HMI := Lib.hid h
  have HFF := Lib.hid HF
  have HZ := Lib.hid hz
  have hb0 : Below w.heap.size w ((w.alloc (.cells #[.int .i64 t.k, .int .i64 t.n, .int .i64 t.e, .string t.s, t.row] 29)).alloc (.cells #[.int .i64 0] 3)) := ((Below.refl _ _).alloc (Nat.le_refl _) _).alloc (by simp) _
  have hm0 : One ((w.alloc (.cells #[.int .i64 t.k, .int .i64 t.n, .int .i64 t.e, .string t.s, t.row] 29)).alloc (.cells #[.int .i64 0] 3)) (w.heap.size + 1) 3 (.int .i64 0) := by
    have := heap_alloc_new (w.alloc (.cells #[.int .i64 t.k, .int .i64 t.n, .int .i64 t.e, .string t.s, t.row] 29)) (.cells #[.int .i64 0] 3)
    unfold One
    simpa using this
  have hs0 : ((w.alloc (.cells #[.int .i64 t.k, .int .i64 t.n, .int .i64 t.e, .string t.s, t.row] 29)).alloc (.cells #[.int .i64 0] 3)).heap.size = w.heap.size + 2 := by simp
  have HB0 := Lib.hid hb0
  have HM0 := Lib.hid hm0
  have HS0 := Lib.hid hs0
  clear h HF hz hb0 hm0 hs0
  gi_wp2_with (refine ⟨trivial, ?_⟩; gi_at_call 44; refine (HFF.out.run HMI.out HZ.out HB0.out).mono ?_; rintro e w1 ⟨rfl, hb1⟩)
  gi_wp2_with (refine ⟨trivial, ?_⟩; gi_at_call 43; refine (callsIn_wide.2 (walk_any _ t)).mono ?_; rintro e w' ⟨rfl, rfl⟩)
  have hb0 := HB0.out
  have hm0 := HM0.out
  have hs0 := HS0.out
  have hz := HZ.out
  have hx0 : Box (w1.alloc (.cells #[.int .i64 t.k, .int .i64 t.n, .int .i64 t.e, .string t.s, t.row] 29)) w1.heap.size t := Box.new w1 t 29
  have hs1 := hb1.size
  rw [hs0] at hs1 hb1
  have hb2 : Below (w.heap.size + 2) w1 (w1.alloc (.cells #[.int .i64 t.k, .int .i64 t.n, .int .i64 t.e, .string t.s, t.row] 29)) := (Below.refl _ _).alloc hs1 _
  have hbw : Below w.heap.size w (w1.alloc (.cells #[.int .i64 t.k, .int .i64 t.n, .int .i64 t.e, .string t.s, t.row] 29)) := hb0.trans ((hb1.trans hb2).mono (by omega))
  have hm2 : One (w1.alloc (.cells #[.int .i64 t.k, .int .i64 t.n, .int .i64 t.e, .string t.s, t.row] 29)) (w.heap.size + 1) 3 (.int .i64 0) := hm0.below (hb1.trans hb2) (by omega)
  have hs2 : w.heap.size + 2 < (w1.alloc (.cells #[.int .i64 t.k, .int .i64 t.n, .int .i64 t.e, .string t.s, t.row] 29)).heap.size := by simp; omega
  have HIn1 : In (w1.alloc (.cells #[.int .i64 t.k, .int .i64 t.n, .int .i64 t.e, .string t.s, t.row] 29)) w.heap.size t := HIn.out.behind hbw
  generalize w1.alloc (.cells #[.int .i64 t.k, .int .i64 t.n, .int .i64 t.e, .string t.s, t.row] 29) = W0 at *
  generalize w1.heap.size = Bx at *
  clear HB0 HM0 HS0 hb0 hm0 hs0 hb1 hb2 hs1
  have HS : CountInv w W0 W0.heap.size 0 := ⟨hm2, hbw, Nat.le_refl _⟩
  refine range_walk (by decide) (Bx := Bx) (n₀ := w.heap.size) (t := t) rfl hz (by omega) HIn1 hx0 rfl (fun pre W => CountInv w W W0.heap.size (topOf pre)) (fun _ _ _ => False)
    (fun _ A B hs hb => hs.kept hb (by omega)) (fun _ _ _ _ hs _ => hs) HS
    (fun x => { tmps := #[.agg #[.int .i64 t.k, .int .i64 t.n, .int .i64 t.e, .string t.s, t.row], .pointer (some ⟨w.heap.size, 0, none⟩), .int .i64 0, .pointer (some ⟨w.heap.size + 1, 0, none⟩), .int .i64 (x.1 : Nat), .agg #[.int .i64 t.k, .int .i64 t.n, .int .i64 t.e, .string t.s, t.row], .agg #[.int .i64 t.k, .int .i64 t.n, .int .i64 t.e, .string t.s, t.row], .func (.func 68) #[] #[.pointer (some ⟨Bx, 0, none⟩)], .int .i64 (x.1 : Nat), .agg #[.int .i64 x.2.k, .int .i64 x.2.n, .int .i64 x.2.e, .string x.2.s, x.2.row], undef, undef, undef, undef], defers := [] }) ?assign ?body ?done ?stop
  case assign =>
    intro l x W K hK
    simp only [encs]
    gi_wp2
    exact hK
  case body =>
    intro l pre x W hI hlen
    have k1 := hI.many.cell
    have k2 := hI.many.frozen
    have HI := Lib.hid hI
    have M2 : Hid (∀ (W : World) (v : Value), Mid w.heap.size W0.heap.size W (W.setCell ⟨w.heap.size + 1, 0, none⟩ v)) := fun W v => mid_set W v (by omega) (by omega)
    clear hI hlen HS hm2 hx0 hbw hz hs2 HIn1
    gi_wp2
    all_goals rename_i h
    · have e : topOf (pre ++ [x]) = x.1 := by rw [topOf_snoc]; exact Nat.max_eq_right (Nat.le_of_lt h)
      exact ⟨M2.out _ _, by show CountInv _ _ _ (topOf (pre ++ [x])); rw [e]; exact HI.out.more _⟩
    · have e : topOf (pre ++ [x]) = topOf pre := by rw [topOf_snoc]; exact Nat.max_eq_left (Nat.le_of_not_lt h)
      exact ⟨M2.out _ _, by show CountInv _ _ _ (topOf (pre ++ [x])); rw [e]; exact HI.out.more _⟩
  case done =>
    intro D W hD hI hK
    have k3 := hI.many.cell
    have k4 := hI.many.frozen
    have HBL : Hid (Below w.heap.size w (W.putObj D (.deferred none))) := hI.below.trans (below_put _ _ (by omega))
    clear HS hm2 hx0 hbw hz hs2 HIn1 hI hD
    gi_wp2
    refine ⟨by simp, .inl ⟨_, _, rfl, run_takeDeferred hK, ?_⟩⟩
    exact ⟨.int .i64 (topOf (t.pre 0) : Int), by simp [results, Try.results19, go_sem], rfl, HBL.out⟩
  case stop =>
    rintro D c p W hD hp hI hK
    exact hI.elim

end Go.Proofs.Ytabjamaencobnaa.val
