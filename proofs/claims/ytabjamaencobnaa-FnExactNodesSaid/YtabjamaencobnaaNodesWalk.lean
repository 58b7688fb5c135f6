/-
  What impl.Nodes returns where impl.finite hands its value back: how many nodes the value has.
-/
import Derived.Test.YtabjamaencobnaaSizeOk
namespace Go.Proofs.Ytabjamaencobnaa.val
open Go.ChangeShapes Go.WideShapes Go.ChangeAt Go.RowKit
set_option maxRecDepth 100000
attribute [local go_sem] Oper.semAt_some

/-- The value's lists lie in whole blocks that the call has made. -/
def Mine (w : World) (t : LT) : Prop := ∃ lo, Own w lo w.heap.size t
theorem Mine.isIn {w : World} {t : LT} (h : Mine w t) : In w w.heap.size t := by obtain ⟨lo, h⟩ := h; exact h.isIn
theorem Mine.behind {w w' : World} {t : LT} (h : Mine w t) (hb : Below w.heap.size w w') : Mine w' t := by obtain ⟨lo, h⟩ := h; exact ⟨lo, h.kept (Nat.le_refl _) hb.size fun b _ h => hb.block b h⟩
theorem Own.mine {w : World} {lo hi : Nat} {t : LT} (h : Own w lo hi t) (hh : hi ≤ w.heap.size) : Mine w t := ⟨lo, h.kept (Nat.le_refl _) hh fun _ _ _ => rfl⟩
/-- impl.finite hands its value back. -/
def FinC : Prop := ∀ (w : World) (t : LT), Mine w t → t.nodes ≤ 2000000 → Calls Try.prog 44 #[.agg #[.int .i64 t.k, .int .i64 t.n, .int .i64 t.e, .string t.s, t.row]] w fun e w' => e = .returned (.agg #[.int .i64 t.k, .int .i64 t.n, .int .i64 t.e, .string t.s, t.row]) ∧ Below w.heap.size w w'
theorem FinC.run (h : FinC) {w w' : World} {t : LT} (hI : Mine w t) (hz : t.nodes ≤ 2000000) (hb : Below w.heap.size w w') : CallsIn Fence.wide 3 Try.prog 44 #[.agg #[.int .i64 t.k, .int .i64 t.n, .int .i64 t.e, .string t.s, t.row]] w' fun e w'' => e = .returned (.agg #[.int .i64 t.k, .int .i64 t.n, .int .i64 t.e, .string t.s, t.row]) ∧ Below w'.heap.size w' w'' :=
  callsIn_wide.2 (h w' t (hI.behind hb) hz)
structure CountInv (w W : World) (B : Nat) (m : Nat) : Prop where
  many : One W (w.heap.size + 1) 3 (.int .i64 (m : Int))
  below : Below w.heap.size w W
  size : B ≤ W.heap.size
theorem CountInv.kept {w W W' : World} {B B' m : Nat} (h : CountInv w W B m) (hb : Below B' W W') (hB : w.heap.size + 2 ≤ B') : CountInv w W' B m := ⟨h.many.below hb (by omega), h.below.trans (hb.mono (by omega)), Nat.le_trans h.size hb.size⟩
theorem CountInv.more {w W : World} {B m : Nat} (h : CountInv w W B m) (k : Nat) : CountInv w (W.setCell ⟨w.heap.size + 1, 0, none⟩ (.int .i64 (k : Int))) B k :=
  ⟨h.many.set _, h.below.setCell (p := ⟨w.heap.size + 1, 0, none⟩) (by show w.heap.size ≤ w.heap.size + 1; omega) _, by rw [set_size]; exact h.size⟩

set_option maxHeartbeats 2000000 in
theorem nodes_any (HF : FinC) (w : World) (t : LT) (h : Mine w t) (hz : t.nodes ≤ 2000000) :
    Calls Try.prog 16 #[.agg #[.int .i64 t.k, .int .i64 t.n, .int .i64 t.e, .string t.s, t.row]] w fun e w' => e = .returned (.int .i64 (t.nodes : Int)) ∧ Below w.heap.size w w' := by
  refine (callsIn_wide (n := 4)).1 ?_
  refine callsIn_of_wp_marks Try.func16 rfl trivial ?_ rfl
  simp only [Try.ntmps16, List.size_toArray, List.length_cons, List.length_nil, Nat.reduceAdd, Nat.reduceSub, Array.replicate_succ, Array.replicate_zero, List.push_toArray, List.append_toArray, List.nil_append, List.cons_append]
  have HIn := Lib.hid h.isIn
  have HMI := Lib.hid h
  have HFF := Lib.hid HF
  have HZ := Lib.hid hz
  have hb0 : Below w.heap.size w ((w.alloc (.cells #[.int .i64 t.k, .int .i64 t.n, .int .i64 t.e, .string t.s, t.row] 29)).alloc (.cells #[.int .i64 0] 3)) := ((Below.refl _ _).alloc (Nat.le_refl _) _).alloc (by simp) _
  have hm0 : One ((w.alloc (.cells #[.int .i64 t.k, .int .i64 t.n, .int .i64 t.e, .string t.s, t.row] 29)).alloc (.cells #[.int .i64 0] 3)) (w.heap.size + 1) 3 (.int .i64 0) := by
    have := heap_alloc_new (w.alloc (.cells #[.int .i64 t.k, .int .i64 t.n, .int .i64 t.e, .string t.s, t.row] 29)) (.cells #[.int .i64 0] 3)
    unfold One
    simpa using this
  have hs0 : ((w.alloc (.cells #[.int .i64 t.k, .int .i64 t.n, .int .i64 t.e, .string t.s, t.row] 29)).alloc (.cells #[.int .i64 0] 3)).heap.size = w.heap.size + 2 := by simp
  have HB0 := Lib.hid hb0
  have HM0 := Lib.hid hm0
  have HS0 := Lib.hid hs0
  clear h HF hz hb0 hm0 hs0
  gi_wp2_with (refine ⟨trivial, ?_⟩; gi_at_call 44; refine (HFF.out.run HMI.out HZ.out HB0.out).mono ?_; rintro e w1 ⟨rfl, hb1⟩)
  gi_wp2_with (refine ⟨trivial, ?_⟩; gi_at_call 43; refine (callsIn_wide.2 (walk_any _ t)).mono ?_; rintro e w' ⟨rfl, rfl⟩)
  have hb0 := HB0.out
  have hm0 := HM0.out
  have hs0 := HS0.out
  have hz := HZ.out
  have hx0 : Box (w1.alloc (.cells #[.int .i64 t.k, .int .i64 t.n, .int .i64 t.e, .string t.s, t.row] 29)) w1.heap.size t := Box.new w1 t 29
  have hs1 := hb1.size
  rw [hs0] at hs1 hb1
  have hb2 : Below (w.heap.size + 2) w1 (w1.alloc (.cells #[.int .i64 t.k, .int .i64 t.n, .int .i64 t.e, .string t.s, t.row] 29)) := (Below.refl _ _).alloc hs1 _
  have hbw : Below w.heap.size w (w1.alloc (.cells #[.int .i64 t.k, .int .i64 t.n, .int .i64 t.e, .string t.s, t.row] 29)) := hb0.trans ((hb1.trans hb2).mono (by omega))
  have hm2 : One (w1.alloc (.cells #[.int .i64 t.k, .int .i64 t.n, .int .i64 t.e, .string t.s, t.row] 29)) (w.heap.size + 1) 3 (.int .i64 0) := hm0.below (hb1.trans hb2) (by omega)
  have hs2 : w.heap.size + 2 < (w1.alloc (.cells #[.int .i64 t.k, .int .i64 t.n, .int .i64 t.e, .string t.s, t.row] 29)).heap.size := by simp; omega
  have HIn1 : In (w1.alloc (.cells #[.int .i64 t.k, .int .i64 t.n, .int .i64 t.e, .string t.s, t.row] 29)) w.heap.size t := HIn.out.behind hbw
  generalize w1.alloc (.cells #[.int .i64 t.k, .int .i64 t.n, .int .i64 t.e, .string t.s, t.row] 29) = W0 at *
  generalize w1.heap.size = Bx at *
  clear HB0 HM0 HS0 hb0 hm0 hs0 hb1 hb2 hs1
  have HS : CountInv w W0 W0.heap.size 0 := ⟨hm2, hbw, Nat.le_refl _⟩
  refine range_walk (by decide) (Bx := Bx) (n₀ := w.heap.size) (t := t) rfl hz (by omega) HIn1 hx0 rfl (fun pre W => CountInv w W W0.heap.size pre.length) (fun _ _ _ => False)
    (fun _ A B hs hb => hs.kept hb (by omega)) (fun _ _ _ _ hs _ => hs) HS
    (fun x => { tmps := #[.agg #[.int .i64 t.k, .int .i64 t.n, .int .i64 t.e, .string t.s, t.row], .pointer (some ⟨w.heap.size, 0, none⟩), .int .i64 0, .pointer (some ⟨w.heap.size + 1, 0, none⟩), .agg #[.int .i64 t.k, .int .i64 t.n, .int .i64 t.e, .string t.s, t.row], .agg #[.int .i64 t.k, .int .i64 t.n, .int .i64 t.e, .string t.s, t.row], .func (.func 68) #[] #[.pointer (some ⟨Bx, 0, none⟩)], .int .i64 (x.1 : Nat), .agg #[.int .i64 x.2.k, .int .i64 x.2.n, .int .i64 x.2.e, .string x.2.s, x.2.row], undef, undef, undef], defers := [] }) ?assign ?body ?done ?stop
  case assign =>
    intro l x W K hK
    simp only [encs]
    gi_wp2
    simp [List.zip_toArray]
    exact hK
  case body =>
    intro l pre x W hI hlen
    have k1 := hI.many.cell
    have k2 := hI.many.frozen
    have HI := Lib.hid hI
    have ek : wrap64 ((pre.length : Int) + 1) = ((pre ++ [x]).length : Int) := by
      have := wrap_small (pre.length + 1) (by omega)
      simpa using this
    have M2 : Hid (∀ (W : World) (v : Value), Mid w.heap.size W0.heap.size W (W.setCell ⟨w.heap.size + 1, 0, none⟩ v)) := fun W v => mid_set W v (by omega) (by omega)
    clear hI hlen HS hm2 hx0 hbw hz hs2 HIn1
    gi_wp2
    have e2 : ((pre.length : Int) + 1) = (((pre ++ [x]).length : Nat) : Int) := by simp
    rw [ek, e2]
    exact ⟨M2.out _ _, HI.out.more _⟩
  case done =>
    intro D W hD hI hK
    rw [pre_len] at hI
    have k3 := hI.many.cell
    have k4 := hI.many.frozen
    have HBL : Hid (Below w.heap.size w (W.putObj D (.deferred none))) := hI.below.trans (below_put _ _ (by omega))
    clear HS hm2 hx0 hbw hz hs2 HIn1 hI hD
    gi_wp2
    refine ⟨by simp, .inl ⟨_, _, rfl, run_takeDeferred hK, ?_⟩⟩
    exact ⟨.int .i64 (t.nodes : Int), by simp [results, Try.results16, go_sem], rfl, HBL.out⟩
  case stop =>
    rintro D c p W hD hp hI hK
    exact hI.elim

end Go.Proofs.Ytabjamaencobnaa.val
