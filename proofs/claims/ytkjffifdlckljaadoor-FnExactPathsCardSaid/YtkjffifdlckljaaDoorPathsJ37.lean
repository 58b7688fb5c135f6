/-
  impl.sizeOk at every value: at most 300 nodes, at most 12 deep.
-/
import Derived.Test.YtkjffifdlckljaaDoorPathsJ36
import Derived.Test.YtkjffifdlckljaaDoorPathsJ21
import Derived.Test.YtkjffifdlckljaaDoorPathsJ18
namespace Go.Proofs.YtkjffifdlckljaaDoor.val
open Go.ChangeShapes Go.WideShapes Go.ChangeAt Go.RowKit
set_option maxRecDepth 100000
attribute [local go_sem] Oper.semAt_some

/-- A value has at most 300 nodes, 12 levels. -/
def SmallT (t : LT) : Prop := t.nodes ≤ 300 ∧ ∀ y ∈ t.pre 0, y.1 ≤ 12
theorem SizeOne.more {w W : World} {m : Nat} (h : SizeOne w W m) : SizeOne w (W.setCell ⟨w.heap.size + 1 + 1, 0, none⟩ (.int .i64 ((m : Int) + 1))) (m + 1) := by
  obtain ⟨hm, ⟨b, hr⟩, h3, h4⟩ := h
  exact ⟨by have := hm.set (.int .i64 ((m : Int) + 1)); simpa using this, ⟨b, hr.other _ (by omega)⟩, h3.setCell (p := ⟨w.heap.size + 1 + 1, 0, none⟩) (by show w.heap.size ≤ w.heap.size + 1 + 1; omega) _, by rw [set_size]; exact h4⟩
structure SizeBad (w W : World) : Prop where
  res : One W (w.heap.size + 1) 4 (.bool false)
  below : Below w.heap.size w W
theorem SizeBad.kept {w W W' : World} {B : Nat} (h : SizeBad w W) (hb : Below B W W') (hB : w.heap.size + 4 ≤ B) : SizeBad w W' := ⟨h.res.below hb (by omega), h.below.trans (hb.mono (by omega))⟩
theorem SizeOne.bad {w W : World} {m : Nat} (h : SizeOne w W m) : SizeBad w (W.setCell ⟨w.heap.size + 1, 0, none⟩ (.bool false)) := by
  obtain ⟨hm, ⟨b, hr⟩, h3, h4⟩ := h
  exact ⟨hr.set _, h3.setCell (p := ⟨w.heap.size + 1, 0, none⟩) (Nat.le_succ _) _⟩
/-- A call has told whether V. -/
def TellR (V : Prop) (w : World) (r : Ending) (w' : World) : Prop := ∃ b : Bool, r = .returned (.bool b) ∧ (b = true ↔ V) ∧ Below w.heap.size w w'
set_option maxHeartbeats 2000000 in
theorem size_exact (w : World) (t : LT) (h : In w w.heap.size t) (hz : t.nodes ≤ 2000000) :
    Calls Tryd.prog 86 #[.agg #[.int .i64 t.k, .int .i64 t.n, .int .i64 t.e, .string t.s, t.row]] w (TellR (SmallT t) w) := by
  have HN : Hid (∀ (pre : List (Nat × LT)) (x : Nat × LT), pre ++ [x] <+: t.pre 0 → SmallT t → pre.length + 1 ≤ 300 ∧ x.1 ≤ 12) := fun pre x hp hV => by
    have h1 := hp.length_le
    rw [List.length_append, pre_len 0 t] at h1
    have h2 : x ∈ t.pre 0 := hp.subset (by simp)
    simp only [List.length_cons, List.length_nil] at h1
    exact ⟨by have := hV.1; omega, hV.2 x h2⟩
  have HY : Hid ((t.pre 0).length ≤ 300 → (∀ y ∈ t.pre 0, y.1 ≤ 12) → SmallT t) := fun h1 h2 => ⟨by rw [pre_len 0 t] at h1; exact h1, h2⟩
  generalize SmallT t = V at *
  refine (callsIn_wide (n := 4)).1 ?_
  refine callsIn_of_wp_marks Tryd.func86 rfl trivial ?_ rfl
  simp only [Tryd.ntmps86, List.size_toArray, List.length_cons, List.length_nil, Nat.reduceAdd, Nat.reduceSub, Array.replicate_succ, Array.replicate_zero, List.push_toArray, List.append_toArray, List.nil_append, List.cons_append]
  have HIn := Lib.hid h
  clear h
  gi_wp2_with (refine ⟨trivial, ?_⟩; gi_at_call 73; refine (callsIn_wide.2 (walk_any _ t)).mono ?_; rintro e w' ⟨rfl, rfl⟩)
  obtain ⟨W0, hW0⟩ : ∃ W0, (((w.alloc (.cells #[.int .i64 t.k, .int .i64 t.n, .int .i64 t.e, .string t.s, t.row] 24)).alloc (.cells #[.bool false] 4)).alloc (.cells #[.int .i64 0] 3)).alloc (.cells #[.int .i64 t.k, .int .i64 t.n, .int .i64 t.e, .string t.s, t.row] 24) = W0 := ⟨_, rfl⟩
  have hs0 : W0.heap.size = w.heap.size + 4 := by rw [← hW0]; simp
  have hb0 : Below w.heap.size w W0 := by rw [← hW0]; exact ((((Below.refl _ _).alloc (Nat.le_refl _) _).alloc (by simp) _).alloc (by simp; omega) _).alloc (by simp; omega) _
  have hx0 : Box W0 (w.heap.size + 1 + 1 + 1) t := by
    have := Box.new (((w.alloc (.cells #[.int .i64 t.k, .int .i64 t.n, .int .i64 t.e, .string t.s, t.row] 24)).alloc (.cells #[.bool false] 4)).alloc (.cells #[.int .i64 0] 3)) t 24
    rw [hW0] at this
    simpa using this
  have hr0 : One W0 (w.heap.size + 1) 4 (.bool false) := by
    have := heap_alloc_new (w.alloc (.cells #[.int .i64 t.k, .int .i64 t.n, .int .i64 t.e, .string t.s, t.row] 24)) (.cells #[.bool false] 4)
    rw [← hW0]
    unfold One
    rw [Below.heap_alloc _ _ _ (by simp), Below.heap_alloc _ _ _ (by simp)]
    simpa using this
  have hm0 : One W0 (w.heap.size + 1 + 1) 3 (.int .i64 0) := by
    have := heap_alloc_new ((w.alloc (.cells #[.int .i64 t.k, .int .i64 t.n, .int .i64 t.e, .string t.s, t.row] 24)).alloc (.cells #[.bool false] 4)) (.cells #[.int .i64 0] 3)
    rw [← hW0]
    unfold One
    rw [Below.heap_alloc _ _ _ (by simp)]
    simpa using this
  rw [hW0]
  clear hW0
  have HS : SizeOne w W0 0 := ⟨hm0, ⟨_, hr0⟩, hb0, by omega⟩
  refine range_walk (by decide) (Bx := w.heap.size + 1 + 1 + 1) (n₀ := w.heap.size) (t := t) rfl hz (by omega) (HIn.out.behind hb0) hx0 rfl (fun pre W => SizeOne w W pre.length ∧ pre.length ≤ 300 ∧ ∀ y ∈ pre, y.1 ≤ 12) (fun c _ W => c = .ret ∧ SizeBad w W ∧ ¬ V)
    (fun _ A B hs hb => ⟨hs.1.kept hb (by omega), hs.2⟩) (fun _ _ A B hs hb => ⟨hs.1, hs.2.1.kept hb (by omega), hs.2.2⟩) ⟨HS, by simp, fun y hy => by simp at hy⟩
    (fun x => { tmps := #[.agg #[.int .i64 t.k, .int .i64 t.n, .int .i64 t.e, .string t.s, t.row], .pointer (some ⟨w.heap.size, 0, none⟩), .pointer (some ⟨w.heap.size + 1, 0, none⟩), .pointer (some ⟨w.heap.size + 1 + 1, 0, none⟩), .int .i64 (x.1 : Nat), .agg #[.int .i64 t.k, .int .i64 t.n, .int .i64 t.e, .string t.s, t.row], .func (.func 99) #[] #[.pointer (some ⟨w.heap.size + 1 + 1 + 1, 0, none⟩)], .int .i64 (x.1 : Nat), .agg #[.int .i64 x.2.k, .int .i64 x.2.n, .int .i64 x.2.e, .string x.2.s, x.2.row], undef, undef, undef, undef, undef, undef, undef, undef], defers := [] }) ?assign ?body ?done ?stop
  case assign =>
    intro l x W K hK
    simp only [encs]
    gi_wp2
    exact hK
  case body =>
    intro l pre x W hI hpre
    obtain ⟨hS, hlen, hlev⟩ := hI
    have HI := Lib.hid hS
    have HP := Lib.hid (HN.out pre x hpre)
    have HLV := Lib.hid hlev
    obtain ⟨hm, ⟨b, hr⟩, _, _⟩ := hS
    have k1 := hm.cell
    have k2 := hm.frozen
    have k3 := hr.cell
    have k4 := hr.frozen
    have M1 : Hid (∀ (W : World) (v : Value), Mid w.heap.size W0.heap.size W (W.setCell ⟨w.heap.size + 1, 0, none⟩ v)) := fun W v => mid_set W v (by omega) (by omega)
    have M2 : Hid (∀ (W : World) (v : Value), Mid w.heap.size W0.heap.size W (W.setCell ⟨w.heap.size + 1 + 1, 0, none⟩ v)) := fun W v => mid_set W v (by omega) (by omega)
    have hl1 : (pre ++ [x]).length = pre.length + 1 := by simp
    have HLV2 : Hid (x.1 ≤ 12 → ∀ y ∈ pre ++ [x], y.1 ≤ 12) := fun hx y hy => by
      rcases List.mem_append.1 hy with h | h
      · exact HLV.out y h
      · simp only [List.mem_singleton] at h
        rw [h]; exact hx
    clear hm hr hs0 HS hm0 hr0 hx0 hb0 hz hpre hlev HN HY HLV
    obtain ⟨lv, xt⟩ := x
    by_cases h1 : pre.length + 1 ≤ 300
    · have h1' : ¬ (300 : Int) < (pre.length : Int) + 1 := by omega
      by_cases h2 : lv ≤ 12
      · have h2' : ¬ (12 : Int) < (lv : Int) := by omega
        have HF := Lib.hid (HLV2.out h2)
        clear h2 HLV2 HP
        gi_wp2
        exact ⟨M2.out _ _, by rw [hl1]; exact HI.out.more, by rw [hl1]; exact h1, fun a b h => HF.out (a, b) h⟩
      · have h2' : (12 : Int) < (lv : Int) := by omega
        have HF : Hid (¬ V) := fun hv => h2 (HP.out hv).2
        clear h2 HLV2 HP
        gi_wp2
        exact ⟨(M2.out _ _).trans (M1.out _ _), rfl, HI.out.more.bad, HF.out⟩
    · have h1' : (300 : Int) < (pre.length : Int) + 1 := by omega
      have HF : Hid (¬ V) := fun hv => h1 (HP.out hv).1
      clear HLV2 HP
      gi_wp2
      exact ⟨(M2.out _ _).trans (M1.out _ _), rfl, HI.out.more.bad, HF.out⟩
  case done =>
    rintro D W hD ⟨hI, hlen, hlev⟩ hK
    have HV : Hid V := HY.out hlen hlev
    obtain ⟨b, hr⟩ := hI.res
    have k3 := hr.cell
    have k4 := hr.frozen
    have hK2 : (W.setCell ⟨w.heap.size + 1, 0, none⟩ (.bool true)).heap[D]? = some (.deferred (some [])) := (blk_other _ (by omega)).trans hK
    have hrs : One ((W.setCell ⟨w.heap.size + 1, 0, none⟩ (.bool true)).putObj D (.deferred none)) (w.heap.size + 1) 4 (.bool true) := (World.putObj_heap_other (by omega)).trans (hr.set _)
    have HBL : Hid (Below w.heap.size w ((W.setCell ⟨w.heap.size + 1, 0, none⟩ (.bool true)).putObj D (.deferred none))) := (hI.below.setCell (p := ⟨w.heap.size + 1, 0, none⟩) (Nat.le_succ _) _).trans (below_put _ _ (by omega))
    have k5 := hrs.cell
    clear hs0 HS hm0 hr0 hx0 hb0 hz hr hI hD hlen hlev HN HY
    gi_wp2
    refine ⟨by simp, .inl ⟨_, _, rfl, run_takeDeferred hK2, ?_⟩⟩
    exact ⟨.bool true, by simp [results, Tryd.results86, go_sem, k5], true, rfl, ⟨fun _ => HV.out, fun _ => rfl⟩, HBL.out⟩
  case stop =>
    rintro D c p W hD hp ⟨rfl, hI, hnv⟩ hK
    have HV : Hid (¬ V) := hnv
    have hrs : One (W.putObj D (.deferred none)) (w.heap.size + 1) 4 (.bool false) := (World.putObj_heap_other (by omega)).trans hI.res
    have HBL : Hid (Below w.heap.size w (W.putObj D (.deferred none))) := hI.below.trans (below_put _ _ (by omega))
    have k5 := hrs.cell
    clear hs0 HS hm0 hr0 hx0 hb0 hz hI hD hnv HN HY
    gi_wp2
    refine ⟨by simp, .inl ⟨_, _, rfl, run_takeDeferred hK, ?_⟩⟩
    exact ⟨.bool false, by simp [results, Tryd.results86, go_sem, k5], false, rfl, ⟨fun h => (by cases h), fun h => (HV.out h).elim⟩, HBL.out⟩
end Go.Proofs.YtkjffifdlckljaaDoor.val
/-
  For the laws on values: how many nodes a value of bounded size has; what stays behind draws.
-/
namespace Go.Proofs.YtkjffifdlckljaaDoor.val
open Go.ChangeShapes Go.WideShapes Go.ChangeAt Go.RowKit
set_option maxRecDepth 100000
theorem nodes_small (t : LT) (hz : t.sz ≤ 1048576) : t.nodes ≤ 2000000 := by
  have h1 := nodesL_sz t.kids
  have h2 := sz_mk t
  rw [nodes_mk]
  omega
theorem In.drewBehind {w w' : World} {t : LT} (h : In w w.heap.size t) (n : Nat) (hb : Below (w.drewN n).heap.size (w.drewN n) w') : In w' w'.heap.size t :=
  ((h.behind (belowN (Below.refl _ _) n)).behind (hb.mono (Nat.le_refl _))).mono hb.size
end Go.Proofs.YtkjffifdlckljaaDoor.val
