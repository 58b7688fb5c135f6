/-
  impl.walk hands out its iterator; impl.sizeOk answers, whatever the value.
-/
import Derived.Test.YthjholhjkahdkaaRangeWalk
namespace Go.Proofs.Ythjholhjkahdkaa.val
open Go.ChangeShapes Go.WideShapes Go.ChangeAt Go.RowKit
set_option maxRecDepth 100000
attribute [local go_sem] Oper.semAt_some

theorem walk_any (w : World) (t : LT) : Calls Try.prog 45 #[.agg #[.int .i64 t.k, .int .i64 t.n, .int .i64 t.e, .string t.s, t.row]] w fun e w' =>
    e = .returned (.func (.func 52) #[] #[.pointer (some ⟨w.heap.size, 0, none⟩)]) ∧ w' = w.alloc (.cells #[.int .i64 t.k, .int .i64 t.n, .int .i64 t.e, .string t.s, t.row] 26) := by
  go_enter Try.func45, Try.ntmps45
  go_wp2
  go_ret
  exact ⟨rfl, rfl⟩

theorem mid_set {n₀ B b o : Nat} (W : World) (v : Value) (h0 : n₀ ≤ b) (hB : b < B) : Mid n₀ B W (W.setCell ⟨b, o, none⟩ v) := ⟨rfl, rfl, rfl, by rw [set_size]; exact Nat.le_refl _, fun k _ hk => blk_other v (by omega)⟩
/-- One cell in a block of its own. -/
def One (W : World) (b : Nat) (T : TypeId) (v : Value) : Prop := W.heap[b]? = some (.cells #[v] T (0, 0))
theorem One.cell {W : World} {b : Nat} {T : TypeId} {v : Value} (h : One W b T v) : W.cell? ⟨b, 0, none⟩ = some v := cell_of_row W b 0 _ _ (0, 0) h
theorem One.frozen {W : World} {b : Nat} {T : TypeId} {v : Value} (h : One W b T v) : W.frozen? ⟨b, 0, none⟩ = false := frozen_of_row W b 0 _ _ h
theorem One.set {W : World} {b : Nat} {T : TypeId} {v : Value} (h : One W b T v) (u : Value) : One (W.setCell ⟨b, 0, none⟩ u) b T u := by
  have := blk_set (o := 0) h u
  unfold One
  simpa using this
theorem One.other {W : World} {b b' : Nat} {T : TypeId} {v : Value} (h : One W b T v) (u : Value) (hb : b ≠ b') : One (W.setCell ⟨b', 0, none⟩ u) b T v := (blk_other u hb).trans h
theorem One.below {W W' : World} {b B : Nat} {T : TypeId} {v : Value} (h : One W b T v) (hb : Below B W W') (hB : b < B) : One W' b T v := (hb.block b hB).trans h
/-- What sizeOk keeps between two rounds. -/
structure SizeInv (w W : World) : Prop where
  many : ∃ m : Int, One W (w.heap.size + 1 + 1) 3 (.int .i64 m)
  res : ∃ b : Bool, One W (w.heap.size + 1) 4 (.bool b)
  below : Below w.heap.size w W
  size : w.heap.size + 2 < W.heap.size
theorem SizeInv.kept {w W W' : World} {B : Nat} (h : SizeInv w W) (hb : Below B W W') (hB : w.heap.size + 4 ≤ B) : SizeInv w W' := by
  obtain ⟨⟨m, hm⟩, ⟨b, hr⟩, h3, h4⟩ := h
  exact ⟨⟨m, hm.below hb (by omega)⟩, ⟨b, hr.below hb (by omega)⟩, h3.trans (hb.mono (by omega)), Nat.lt_of_lt_of_le h4 hb.size⟩
theorem SizeInv.many' {w W : World} (h : SizeInv w W) (m : Int) : SizeInv w (W.setCell ⟨w.heap.size + 1 + 1, 0, none⟩ (.int .i64 m)) := by
  obtain ⟨⟨m0, hm⟩, ⟨b, hr⟩, h3, h4⟩ := h
  exact ⟨⟨m, hm.set _⟩, ⟨b, hr.other _ (by omega)⟩, h3.setCell (p := ⟨w.heap.size + 1 + 1, 0, none⟩) (by show w.heap.size ≤ w.heap.size + 1 + 1; omega) _, by rw [set_size]; exact h4⟩
theorem SizeInv.res' {w W : World} (h : SizeInv w W) (b : Bool) : SizeInv w (W.setCell ⟨w.heap.size + 1, 0, none⟩ (.bool b)) := by
  obtain ⟨⟨m0, hm⟩, ⟨b0, hr⟩, h3, h4⟩ := h
  exact ⟨⟨m0, hm.other _ (by omega)⟩, ⟨b, hr.set _⟩, h3.setCell (p := ⟨w.heap.size + 1, 0, none⟩) (by show w.heap.size ≤ w.heap.size + 1; omega) _, by rw [set_size]; exact h4⟩

set_option maxHeartbeats 2000000 in
theorem size_any (w : World) (t : LT) (h : In w w.heap.size t) (hz : t.nodes ≤ 2000000) :
    Calls Try.prog 44 #[.agg #[.int .i64 t.k, .int .i64 t.n, .int .i64 t.e, .string t.s, t.row]] w fun e w' => ∃ b : Bool, e = .returned (.bool b) ∧ Below w.heap.size w w' := by
  refine (callsIn_wide (n := 4)).1 ?_
  refine callsIn_of_wp_marks Try.func44 rfl trivial ?_ rfl
  simp only [Try.ntmps44, List.size_toArray, List.length_cons, List.length_nil, Nat.reduceAdd, Nat.reduceSub, Array.replicate_succ, Array.replicate_zero, List.push_toArray, List.append_toArray, List.nil_append, List.cons_append]
  have HIn := Lib.hid h
  clear h
  gi_wp2_with (refine ⟨trivial, ?_⟩; gi_at_call 45; refine (callsIn_wide.2 (walk_any _ t)).mono ?_; rintro e w' ⟨rfl, rfl⟩)
  obtain ⟨W0, hW0⟩ : ∃ W0, (((w.alloc (.cells #[.int .i64 t.k, .int .i64 t.n, .int .i64 t.e, .string t.s, t.row] 26)).alloc (.cells #[.bool false] 4)).alloc (.cells #[.int .i64 0] 3)).alloc (.cells #[.int .i64 t.k, .int .i64 t.n, .int .i64 t.e, .string t.s, t.row] 26) = W0 := ⟨_, rfl⟩
  have hs0 : W0.heap.size = w.heap.size + 4 := by rw [← hW0]; simp
  have hb0 : Below w.heap.size w W0 := by rw [← hW0]; exact ((((Below.refl _ _).alloc (Nat.le_refl _) _).alloc (by simp) _).alloc (by simp; omega) _).alloc (by simp; omega) _
  have hx0 : Box W0 (w.heap.size + 1 + 1 + 1) t := by
    have := Box.new (((w.alloc (.cells #[.int .i64 t.k, .int .i64 t.n, .int .i64 t.e, .string t.s, t.row] 26)).alloc (.cells #[.bool false] 4)).alloc (.cells #[.int .i64 0] 3)) t 26
    rw [hW0] at this
    simpa using this
  have hr0 : One W0 (w.heap.size + 1) 4 (.bool false) := by
    have := heap_alloc_new (w.alloc (.cells #[.int .i64 t.k, .int .i64 t.n, .int .i64 t.e, .string t.s, t.row] 26)) (.cells #[.bool false] 4)
    rw [← hW0]
    unfold One
    rw [Below.heap_alloc _ _ _ (by simp), Below.heap_alloc _ _ _ (by simp)]
    simpa using this
  have hm0 : One W0 (w.heap.size + 1 + 1) 3 (.int .i64 0) := by
    have := heap_alloc_new ((w.alloc (.cells #[.int .i64 t.k, .int .i64 t.n, .int .i64 t.e, .string t.s, t.row] 26)).alloc (.cells #[.bool false] 4)) (.cells #[.int .i64 0] 3)
    rw [← hW0]
    unfold One
    rw [Below.heap_alloc _ _ _ (by simp)]
    simpa using this
  rw [hW0]
  clear hW0
  have HS : SizeInv w W0 := ⟨⟨_, hm0⟩, ⟨_, hr0⟩, hb0, by omega⟩
  refine range_walk (by decide) (Bx := w.heap.size + 1 + 1 + 1) (n₀ := w.heap.size) (t := t) rfl hz (by omega) (HIn.out.behind hb0) hx0 rfl (fun _ W => SizeInv w W) (fun c _ W => c = .ret ∧ SizeInv w W)
    (fun _ A B hs hb => hs.kept hb (by omega)) (fun _ _ A B hs hb => ⟨hs.1, hs.2.kept hb (by omega)⟩) HS
    (fun x => { tmps := #[.agg #[.int .i64 t.k, .int .i64 t.n, .int .i64 t.e, .string t.s, t.row], .pointer (some ⟨w.heap.size, 0, none⟩), .pointer (some ⟨w.heap.size + 1, 0, none⟩), .pointer (some ⟨w.heap.size + 1 + 1, 0, none⟩), .int .i64 (x.1 : Nat), .agg #[.int .i64 t.k, .int .i64 t.n, .int .i64 t.e, .string t.s, t.row], .func (.func 52) #[] #[.pointer (some ⟨w.heap.size + 1 + 1 + 1, 0, none⟩)], .int .i64 (x.1 : Nat), .agg #[.int .i64 x.2.k, .int .i64 x.2.n, .int .i64 x.2.e, .string x.2.s, x.2.row], undef, undef, undef, undef, undef, undef, undef, undef], defers := [] }) ?assign ?body ?done ?stop
  case assign =>
    intro l x W K hK
    simp only [encs]
    gi_wp2
    exact hK
  case body =>
    intro l pre x W hI _
    obtain ⟨m, hm⟩ := hI.many
    obtain ⟨b, hr⟩ := hI.res
    have k1 := hm.cell
    have k2 := hm.frozen
    have k3 := hr.cell
    have k4 := hr.frozen
    have HI := Lib.hid hI
    have M1 : Hid (∀ (W : World) (v : Value), Mid w.heap.size W0.heap.size W (W.setCell ⟨w.heap.size + 1, 0, none⟩ v)) := fun W v => mid_set W v (by omega) (by omega)
    have M2 : Hid (∀ (W : World) (v : Value), Mid w.heap.size W0.heap.size W (W.setCell ⟨w.heap.size + 1 + 1, 0, none⟩ v)) := fun W v => mid_set W v (by omega) (by omega)
    clear hm hr hI hs0 HS hm0 hr0 hx0 hb0 hz
    gi_wp2
    all_goals first
      | exact ⟨(M2.out _ _).trans (M1.out _ _), rfl, (HI.out.many' _).res' _⟩
      | exact ⟨M2.out _ _, HI.out.many' _⟩
  case done =>
    intro D W hD hI hK
    obtain ⟨b, hr⟩ := hI.res
    have k3 := hr.cell
    have k4 := hr.frozen
    have hK2 : (W.setCell ⟨w.heap.size + 1, 0, none⟩ (.bool true)).heap[D]? = some (.deferred (some [])) := (blk_other _ (by omega)).trans hK
    have hrs : One ((W.setCell ⟨w.heap.size + 1, 0, none⟩ (.bool true)).putObj D (.deferred none)) (w.heap.size + 1) 4 (.bool true) := (World.putObj_heap_other (by omega)).trans (hr.set _)
    have HBL : Hid (Below w.heap.size w ((W.setCell ⟨w.heap.size + 1, 0, none⟩ (.bool true)).putObj D (.deferred none))) := (hI.res' true).below.trans (below_put _ _ (by omega))
    have k5 := hrs.cell
    clear hs0 HS hm0 hr0 hx0 hb0 hz hr hI hD
    gi_wp2
    refine ⟨by simp, .inl ⟨_, _, rfl, run_takeDeferred hK2, ?_⟩⟩
    exact ⟨.bool true, by simp [results, Try.results44, go_sem, k5], true, rfl, HBL.out⟩
  case stop =>
    rintro D c p W hD hp ⟨rfl, hI⟩ hK
    obtain ⟨b, hr⟩ := hI.res
    have hrs : One (W.putObj D (.deferred none)) (w.heap.size + 1) 4 (.bool b) := (World.putObj_heap_other (by omega)).trans hr
    have HBL : Hid (Below w.heap.size w (W.putObj D (.deferred none))) := hI.below.trans (below_put _ _ (by omega))
    have k5 := hrs.cell
    clear hs0 HS hm0 hr0 hx0 hb0 hz hr hI hD
    gi_wp2
    refine ⟨by simp, .inl ⟨_, _, rfl, run_takeDeferred hK, ?_⟩⟩
    exact ⟨.bool b, by simp [results, Try.results44, go_sem, k5], b, rfl, HBL.out⟩

end Go.Proofs.Ythjholhjkahdkaa.val
