/-
  What impl.Count returns where impl.finite hands its value back: how many nodes of the kind the value has.
-/
import Derived.Test.YtabjamaencobnaaRangeBox
namespace Go.Proofs.Ytabjamaencobnaa.val
open Go.ChangeShapes Go.WideShapes Go.ChangeAt Go.RowKit
set_option maxRecDepth 100000
attribute [local go_sem] Oper.semAt_some

/-- How many of those met are of the kind. -/
def kindOf (kd : Int) (pre : List (Nat × LT)) : Nat := (pre.filter (fun x => x.2.k == kd)).length
theorem kindOf_yes (kd : Int) (pre : List (Nat × LT)) (x : Nat × LT) (h : x.2.k = kd) : kindOf kd (pre ++ [x]) = kindOf kd pre + 1 := by simp [kindOf, h]
theorem kindOf_no (kd : Int) (pre : List (Nat × LT)) (x : Nat × LT) (h : ¬ x.2.k = kd) : kindOf kd (pre ++ [x]) = kindOf kd pre := by simp [kindOf, h]
theorem kindOf_le (kd : Int) (pre : List (Nat × LT)) : kindOf kd pre ≤ pre.length := List.length_filter_le _ _

structure KindInv (w W : World) (kd : Int) (B : Nat) (m : Nat) : Prop where
  kind : One W (w.heap.size + 1) 3 (.int .i64 kd)
  many : One W (w.heap.size + 1 + 1) 3 (.int .i64 (m : Int))
  below : Below w.heap.size w W
  size : B ≤ W.heap.size
theorem KindInv.kept {w W W' : World} {kd : Int} {B B' m : Nat} (h : KindInv w W kd B m) (hb : Below B' W W') (hB : w.heap.size + 3 ≤ B') : KindInv w W' kd B m := ⟨h.kind.below hb (by omega), h.many.below hb (by omega), h.below.trans (hb.mono (by omega)), Nat.le_trans h.size hb.size⟩
theorem KindInv.more {w W : World} {kd : Int} {B m : Nat} (h : KindInv w W kd B m) (k : Nat) : KindInv w (W.setCell ⟨w.heap.size + 1 + 1, 0, none⟩ (.int .i64 (k : Int))) kd B k :=
  ⟨h.kind.other _ (by omega), h.many.set _, h.below.setCell (p := ⟨w.heap.size + 1 + 1, 0, none⟩) (by show w.heap.size ≤ w.heap.size + 1 + 1; omega) _, by rw [set_size]; exact h.size⟩

set_option maxHeartbeats 2000000 in
theorem count_any (HF : FinC) (w : World) (t : LT) (kd : Int) (h : Mine w t) (hz : t.nodes ≤ 2000000) :
    Calls Try.prog 21 #[.agg #[.int .i64 t.k, .int .i64 t.n, .int .i64 t.e, .string t.s, t.row], .int .i64 kd] w fun e w' => e = .returned (.int .i64 (kindOf kd (t.pre 0) : Int)) ∧ Below w.heap.size w w' := by
  refine (callsIn_wide (n := 4)).1 ?_
  refine callsIn_of_wp_marks Try.func21 rfl trivial ?_ rfl
  simp only [Try.ntmps21, List.size_toArray, List.length_cons, List.length_nil, Nat.reduceAdd, Nat.reduceSub, Array.replicate_succ, Array.replicate_zero, List.push_toArray, List.append_toArray, List.nil_append, List.cons_append]
  have HIn := Lib.hid h.isIn
  have HMI := Lib.hid h
  have HFF := Lib.hid HF
  have HZ := Lib.hid hz
  obtain ⟨W00, hW00⟩ : ∃ W0, ((w.alloc (.cells #[.int .i64 t.k, .int .i64 t.n, .int .i64 t.e, .string t.s, t.row] 29)).alloc (.cells #[.int .i64 kd] 3)).alloc (.cells #[.int .i64 0] 3) = W0 := ⟨_, rfl⟩
  have hs0 : W00.heap.size = w.heap.size + 3 := by rw [← hW00]; simp
  have hb0 : Below w.heap.size w W00 := by rw [← hW00]; exact (((Below.refl _ _).alloc (Nat.le_refl _) _).alloc (by simp) _).alloc (by simp; omega) _
  have hk0 : One W00 (w.heap.size + 1) 3 (.int .i64 kd) := by
    have := heap_alloc_new (w.alloc (.cells #[.int .i64 t.k, .int .i64 t.n, .int .i64 t.e, .string t.s, t.row] 29)) (.cells #[.int .i64 kd] 3)
    rw [← hW00]
    unfold One
    rw [Below.heap_alloc _ _ _ (by simp)]
    simpa using this
  have hm0 : One W00 (w.heap.size + 1 + 1) 3 (.int .i64 0) := by
    have := heap_alloc_new ((w.alloc (.cells #[.int .i64 t.k, .int .i64 t.n, .int .i64 t.e, .string t.s, t.row] 29)).alloc (.cells #[.int .i64 kd] 3)) (.cells #[.int .i64 0] 3)
    rw [← hW00]
    unfold One
    simpa using this
  have HB0 := Lib.hid hb0
  have HM0 := Lib.hid hm0
  have HS0 := Lib.hid hs0
  have HK0 := Lib.hid hk0
  have HW00 := Lib.hid hW00
  clear h HF hz hb0 hm0 hs0 hk0 hW00
  gi_wp2_with (refine ⟨trivial, ?_⟩; gi_at_call 44; rw [HW00.out]; refine (HFF.out.run HMI.out HZ.out HB0.out).mono ?_; rintro e w1 ⟨rfl, hb1⟩)
  gi_wp2_with (refine ⟨trivial, ?_⟩; gi_at_call 43; refine (callsIn_wide.2 (walk_any _ t)).mono ?_; rintro e w' ⟨rfl, rfl⟩)
  have hb0 := HB0.out
  have hm0 := HM0.out
  have hs0 := HS0.out
  have hk0 := HK0.out
  have hz := HZ.out
  have hx0 : Box (w1.alloc (.cells #[.int .i64 t.k, .int .i64 t.n, .int .i64 t.e, .string t.s, t.row] 29)) w1.heap.size t := Box.new w1 t 29
  have hs1 := hb1.size
  rw [hs0] at hs1 hb1
  have hb2 : Below (w.heap.size + 3) w1 (w1.alloc (.cells #[.int .i64 t.k, .int .i64 t.n, .int .i64 t.e, .string t.s, t.row] 29)) := (Below.refl _ _).alloc hs1 _
  have hbw : Below w.heap.size w (w1.alloc (.cells #[.int .i64 t.k, .int .i64 t.n, .int .i64 t.e, .string t.s, t.row] 29)) := hb0.trans ((hb1.trans hb2).mono (by omega))
  have hm2 : One (w1.alloc (.cells #[.int .i64 t.k, .int .i64 t.n, .int .i64 t.e, .string t.s, t.row] 29)) (w.heap.size + 1 + 1) 3 (.int .i64 0) := hm0.below (hb1.trans hb2) (by omega)
  have hk2 : One (w1.alloc (.cells #[.int .i64 t.k, .int .i64 t.n, .int .i64 t.e, .string t.s, t.row] 29)) (w.heap.size + 1) 3 (.int .i64 kd) := hk0.below (hb1.trans hb2) (by omega)
  have hs2 : w.heap.size + 3 < (w1.alloc (.cells #[.int .i64 t.k, .int .i64 t.n, .int .i64 t.e, .string t.s, t.row] 29)).heap.size := by simp; omega
  have HIn1 : In (w1.alloc (.cells #[.int .i64 t.k, .int .i64 t.n, .int .i64 t.e, .string t.s, t.row] 29)) w.heap.size t := HIn.out.behind hbw
  generalize w1.alloc (.cells #[.int .i64 t.k, .int .i64 t.n, .int .i64 t.e, .string t.s, t.row] 29) = W0 at *
  generalize w1.heap.size = Bx at *
  clear HW00 HB0 HM0 HS0 HK0 hb0 hm0 hs0 hk0 hb1 hb2 hs1
  have HS : KindInv w W0 kd W0.heap.size 0 := ⟨hk2, hm2, hbw, Nat.le_refl _⟩
  refine range_box (by decide) (Bx := Bx) (n₀ := w.heap.size) (t := t) rfl hz (by omega) HIn1 hx0 rfl (fun pre W => KindInv w W kd W0.heap.size (kindOf kd pre)) (fun _ _ _ => False)
    (fun _ A B hs hb => hs.kept hb (by omega)) (fun _ _ _ _ hs _ => hs) HS
    (fun x W a' W' => a' = { tmps := #[.agg #[.int .i64 t.k, .int .i64 t.n, .int .i64 t.e, .string t.s, t.row], .int .i64 kd, .pointer (some ⟨w.heap.size, 0, none⟩), .pointer (some ⟨w.heap.size + 1, 0, none⟩), .int .i64 0, .pointer (some ⟨w.heap.size + 1 + 1, 0, none⟩), undef, .pointer (some ⟨W.heap.size, 0, none⟩), .agg #[.int .i64 t.k, .int .i64 t.n, .int .i64 t.e, .string t.s, t.row], .agg #[.int .i64 t.k, .int .i64 t.n, .int .i64 t.e, .string t.s, t.row], .func (.func 68) #[] #[.pointer (some ⟨Bx, 0, none⟩)], .int .i64 (x.1 : Nat), .agg #[.int .i64 x.2.k, .int .i64 x.2.n, .int .i64 x.2.e, .string x.2.s, x.2.row], undef, undef, undef, undef, undef, undef, undef], defers := [] } ∧ W' = W.alloc (.cells #[.int .i64 x.2.k, .int .i64 x.2.n, .int .i64 x.2.e, .string x.2.s, x.2.row] 29))
    (fun x W a' W' h => by rw [h.2]; exact (Below.refl _ _).alloc (Nat.le_refl _) _) ?assign ?body ?done ?stop
  case assign =>
    intro l x W K hK
    have hrow : x.2.row = .slice x.2.a x.2.kids.length x.2.cap := rfl
    have HK := Lib.hid hK
    clear hK
    simp only [encs, hrow]
    clear hrow
    gi_wp2
    exact HK.out _ _ ⟨rfl, rfl⟩
  case body =>
    rintro l pre x V V' W a' hI hlen ⟨rfl, rfl⟩ hV hW
    have hbx : W.heap[V.heap.size]? = some (.cells #[.int .i64 x.2.k, .int .i64 x.2.n, .int .i64 x.2.e, .string x.2.s, x.2.row] 29 (0, 0)) := (hW _ (Nat.le_refl _)).trans (heap_alloc_new V (.cells #[.int .i64 x.2.k, .int .i64 x.2.n, .int .i64 x.2.e, .string x.2.s, x.2.row] 29))
    have k0 : W.cell? ⟨V.heap.size, 0, none⟩ = some (.int .i64 x.2.k) := cell_of_row W _ 0 _ _ (0, 0) hbx
    have k1 := hI.many.cell
    have k2 := hI.many.frozen
    have k3 := hI.kind.cell
    have HI := Lib.hid hI
    have ek : wrap64 ((kindOf kd pre : Int) + 1) = ((kindOf kd pre + 1 : Nat) : Int) := by
      have := wrap_small (kindOf kd pre + 1) (by have := kindOf_le kd pre; omega)
      simpa using this
    have HEK := Lib.hid ek
    have M2 : Hid (∀ (W : World) (v : Value), Mid w.heap.size W0.heap.size W (W.setCell ⟨w.heap.size + 1 + 1, 0, none⟩ v)) := fun W v => mid_set W v (by omega) (by omega)
    clear hI hlen HS hm2 hk2 hx0 hbw hz hs2 HIn1 ek hW hV hbx
    gi_wp2
    all_goals rename_i h
    · have e := kindOf_yes kd pre x (by simpa using h)
      rw [HEK.out]
      exact ⟨M2.out _ _, by show KindInv _ _ _ _ (kindOf kd (pre ++ [x])); rw [e]; exact HI.out.more _⟩
    · have e := kindOf_no kd pre x (by simpa using h)
      exact ⟨⟨rfl, rfl, rfl, Nat.le_refl _, fun _ _ _ => rfl⟩, by show KindInv _ _ _ _ (kindOf kd (pre ++ [x])); rw [e]; exact HI.out⟩
  case done =>
    intro D W hD hI hK
    have k3 := hI.many.cell
    have k4 := hI.many.frozen
    have HBL : Hid (Below w.heap.size w (W.putObj D (.deferred none))) := hI.below.trans (below_put _ _ (by omega))
    clear HS hm2 hk2 hx0 hbw hz hs2 HIn1 hI hD
    gi_wp2
    refine ⟨by simp, .inl ⟨_, _, rfl, run_takeDeferred hK, ?_⟩⟩
    exact ⟨.int .i64 (kindOf kd (t.pre 0) : Int), by simp [results, Try.results21, go_sem], rfl, HBL.out⟩
  case stop =>
    rintro D c p W hD hp hI hK
    exact hI.elim

end Go.Proofs.Ytabjamaencobnaa.val
