/-
  The statement 'for _, node := range walk(v) { .. }' where the loop's variable lies in memory: each round takes a new block.
-/
import Derived.Test.YtnaghafmpncdkaaDoorGetCborJ13
namespace Go.Proofs.YtnaghafmpncdkaaDoor.val
open Go.ChangeShapes Go.WideShapes Go.ChangeAt Go.RowKit
set_option maxRecDepth 100000

/-- As range_walk, where the round's first statement may take new memory: A says what it leaves. -/
theorem range_box {n : Nat} {g : Operand} {ps : Array Tmp} {assign body : Code} {Q : Exit → Act → World → Prop} {a : Act} {w : World} (h1 : 1 ≤ n) {Bx n₀ : Nat} {t : LT}
    (hg : a.eval g = .func (.func 86) #[] #[.pointer (some ⟨Bx, 0, none⟩)]) (hz : t.nodes ≤ 2000000) (hn0 : n₀ ≤ w.heap.size) (hIn : In w n₀ t) (hBox : Box w Bx t) (hps : ps.size = 2)
    (I : List (Nat × LT) → World → Prop) (Ix : Code → List (Nat × LT) → World → Prop) (hI : ∀ s A B, I s A → Below w.heap.size A B → I s B) (hIx : ∀ c s A B, Ix c s A → Below w.heap.size A B → Ix c s B) (h0 : I [] w) (A₁ : Nat × LT → World → Act → World → Prop) (hA : ∀ x W a' W', A₁ x W a' W' → Below W.heap.size W W')
    (hassign : ∀ (l : Nat) (x : Nat × LT) (W : World) (K : Act → World → Prop), (∀ a' W', A₁ x W a' W' → K a' W') → assign.wpIn (Fence.wide.inRound l) (n - 1 - 1) Tryd.prog (Exit.then K (fun _ _ _ => False)) { tmps := (ps.zip (encs x)).foldl (fun t (p, v) => t.setIfInBounds p v) a.tmps, defers := [] } W)
    (hbody : ∀ (l : Nat) (pre : List (Nat × LT)) (x : Nat × LT) (V V' W : World) (a' : Act), I pre W → pre ++ [x] <+: t.pre 0 → A₁ x V a' V' → w.heap.size ≤ V.heap.size → (∀ k, V.heap.size ≤ k → W.heap[k]? = V'.heap[k]?) → body.wpIn (Fence.wide.inRound l) (n - 1 - 1) Tryd.prog (bodyEnd n₀ w.heap.size I Ix (pre ++ [x]) W) a' W)
    (hdone : ∀ (D : Nat) (W : World), w.heap.size ≤ D → I (t.pre 0) W → W.heap[D]? = some (.deferred (some [])) → Q .normal { a with defers := { target := .collected D, args := #[] } :: a.defers } W)
    (hstop : ∀ (D : Nat) (c : Code) (p : List (Nat × LT)) (W : World), w.heap.size ≤ D → p <+: t.pre 0 → Ix c p W → W.heap[D]? = some (.deferred (some [])) → c.wpIn Fence.wide n Tryd.prog Q { a with defers := { target := .collected D, args := #[] } :: a.defers } W) :
    (Code.rangeFunc g ps assign body).wpIn Fence.wide n Tryd.prog Q a w := by
  refine wpIn_rangeFunc fun fn hfn => ?_
  have hW := And.intro (World.alloc_heap_new w (.deferred (some []))) (World.alloc_heap_new (w.alloc (.deferred (some []))) (.loop (recOf fn a ps assign body w.heap.size .ready none)))
  have hs1 : ((w.alloc (.deferred (some []))).alloc (.loop (recOf fn a ps assign body w.heap.size .ready none))).heap.size = w.heap.size + 2 := by simp
  have hb1 : Below w.heap.size w ((w.alloc (.deferred (some []))).alloc (.loop (recOf fn a ps assign body w.heap.size .ready none))) := ((Below.refl _ w).alloc (Nat.le_refl _) _).alloc (by simp) _
  have hK1 : ((w.alloc (.deferred (some []))).alloc (.loop (recOf fn a ps assign body w.heap.size .ready none))).heap[w.heap.size]? = some (.deferred (some [])) := (Below.heap_alloc _ _ _ (by simp)).trans hW.1
  have hL1 : ((w.alloc (.deferred (some []))).alloc (.loop (recOf fn a ps assign body w.heap.size .ready none))).heap[w.heap.size + 1]? = some (.loop (recOf fn a ps assign body w.heap.size .ready none)) := by
    have := hW.2
    rwa [World.size_alloc] at this
  refine ⟨w.heap.size + 1, [{ target := .collected w.heap.size, args := #[] }], (w.alloc (.deferred (some []))).alloc (.loop (recOf fn a ps assign body w.heap.size .ready none)), { target := .fn (.func 86) #[.pointer (some ⟨Bx, 0, none⟩)], args := #[.func (.yield (w.heap.size + 1)) #[] #[]] },
    (w.alloc (.deferred (some []))).alloc (.loop (recOf fn a ps assign body w.heap.size .ready none)), 86, #[.func (.yield (w.heap.size + 1)) #[] #[], .pointer (some ⟨Bx, 0, none⟩)], (w.alloc (.deferred (some []))).alloc (.loop (recOf fn a ps assign body w.heap.size .ready none)), ?_, ?_, ?_, ?_, fun _ => h1, ?_⟩
  · exact run_enterLoop_outer _ _ _ _ _
  · simp only [resolve, hg]
    simp [go_sem]
  · intro f' _; trivial
  · simp [invoke, go_sem]
  · generalize (w.alloc (.deferred (some []))).alloc (.loop (recOf fn a ps assign body w.heap.size .ready none)) = W1 at *
    refine (walk1 (n - 1) (w.heap.size + 1) n₀ Bx t (fun pre W => I pre W ∧ W.heap[w.heap.size + 1]? = some (.loop (recOf fn a ps assign body w.heap.size .ready none)) ∧ W.heap[w.heap.size]? = some (.deferred (some [])))
      (fun pre W => ∃ c, Ix c pre W ∧ W.heap[w.heap.size + 1]? = some (.loop (recOf fn a ps assign body w.heap.size .done (some c))) ∧ W.heap[w.heap.size]? = some (.deferred (some []))) W1 hz (by omega) (hIn.behind (hb1.mono hn0)) (hBox.behind hb1) ?_ ?_ ⟨hI _ _ _ h0 hb1, hL1, hK1⟩).mono ?_
    · intro s A B ⟨hs, hl, hk⟩ hb
      exact ⟨hI s A B hs (hb.mono (by omega)), (hb.block _ (by omega)).trans hl, (hb.block _ (by omega)).trans hk⟩
    · intro pre x W ⟨hi, hl, hk⟩ hlen
      have hlt : w.heap.size + 1 < W.heap.size := (Array.getElem?_eq_some_iff.1 hl).1
      have hy := run_yield (P := Tryd.prog) (args := encs x) hl (by show 2 = ps.size; omega)
      refine ⟨fn, _, assign, body, hy, roundIn_of_wpIn hfn (hassign _ x W _ fun a' W' hA' => ?_)⟩
      have hbA := hA _ _ _ _ hA'
      have hlO := hlt
      have hi' := hI _ _ _ hi (hbA.mono (by omega))
      have hmA : Mid n₀ W1.heap.size W W' := ⟨hbA.os, hbA.tape, hbA.output, hbA.size, fun k hk _ => hbA.block k hk⟩
      replace hl := (hbA.block _ hlt).trans hl
      replace hk := (hbA.block _ (by omega)).trans hk
      replace hlt : w.heap.size + 1 < W'.heap.size := Nat.lt_of_lt_of_le hlt hbA.size
      refine ⟨_, run_beginRound hl rfl, ?_⟩
      have hput := below_put W' (.loop { recOf fn a ps assign body w.heap.size .ready none with state := .busy }) (Nat.le_succ w.heap.size)
      have hl2 : (W'.putObj (w.heap.size + 1) (.loop { recOf fn a ps assign body w.heap.size .ready none with state := .busy })).heap[w.heap.size + 1]? = some (.loop { recOf fn a ps assign body w.heap.size .ready none with state := .busy }) := World.putObj_heap_same hlt
      have hk2 : (W'.putObj (w.heap.size + 1) (.loop { recOf fn a ps assign body w.heap.size .ready none with state := .busy })).heap[w.heap.size]? = some (.deferred (some [])) := (World.putObj_heap_other (by omega)).trans hk
      have hm2 := mid_put (n₀ := n₀) (B := W1.heap.size) W' (.loop { recOf fn a ps assign body w.heap.size .ready none with state := .busy }) (l := w.heap.size + 1) (by omega) (by omega)
      refine wpIn_mono (hbody _ pre x W W' _ a' (hI _ _ _ hi' hput) hlen hA' (by omega) (fun k hk => World.putObj_heap_other (by omega))) ?_
      have hs2 : w.heap.size + 1 < (W'.putObj (w.heap.size + 1) (.loop { recOf fn a ps assign body w.heap.size .ready none with state := .busy })).heap.size := by simp; omega
      replace hm2 := hmA.trans hm2
      generalize W'.putObj (w.heap.size + 1) (.loop { recOf fn a ps assign body w.heap.size .ready none with state := .busy }) = W2 at *
      have fin : ∀ (jump : Option Code) (W3 : World), Mid n₀ w.heap.size W2 W3 → ∃ W4, (Instr.endRound (w.heap.size + 1) jump).run Tryd.prog W3 = .ok (.bool jump.isNone) W4 ∧ Below w.heap.size W3 W4 ∧ Mid n₀ W1.heap.size W W4 ∧
          W4.heap[w.heap.size + 1]? = some (.loop (recOf fn a ps assign body w.heap.size (if jump.isNone then .ready else .done) jump)) ∧ W4.heap[w.heap.size]? = some (.deferred (some [])) := fun jump W3 hm3 => by
        have hl3 := (hm3.block _ hs2 (.inr (by omega))).trans hl2
        have hk3 := (hm3.block w.heap.size (by omega) (.inr (Nat.le_refl _))).trans hk2
        have hs3 : w.heap.size + 1 < W3.heap.size := Nat.lt_of_lt_of_le hs2 hm3.size
        exact ⟨_, run_endRound (P := Tryd.prog) jump hl3, below_put _ _ (by omega), (hm2.trans (hm3.wider (by omega))).trans (mid_put _ _ (by omega) (by omega)), World.putObj_heap_same hs3, (World.putObj_heap_other (by omega)).trans hk3⟩
      rintro e a3 W3 hp
      cases e with
      | normal =>
        obtain ⟨W4, r4, b4, m4, l4, k4⟩ := fin none W3 hp.1
        exact ⟨_, W4, r4, .inl ⟨rfl, ⟨hI _ _ _ hp.2 b4, l4, k4⟩, m4⟩⟩
      | ret =>
        obtain ⟨W4, r4, b4, m4, l4, k4⟩ := fin (some .ret) W3 hp.1
        exact ⟨_, W4, r4, .inr ⟨rfl, _, hIx _ _ _ _ hp.2 b4, l4, k4⟩⟩
      | exit id =>
        obtain ⟨W4, r4, b4, m4, l4, k4⟩ := fin (some (.exit id)) W3 hp.1
        exact ⟨_, W4, r4, .inr ⟨rfl, _, hIx _ _ _ _ hp.2 b4, l4, k4⟩⟩
      | goto c =>
        obtain ⟨W4, r4, b4, m4, l4, k4⟩ := fin (some (.goto c)) W3 hp.1
        exact ⟨_, W4, r4, .inr ⟨rfl, _, hIx _ _ _ _ hp.2 b4, l4, k4⟩⟩
      | panic ch => exact hp.elim
      | outgrown => exact hp.elim
    · rintro e W2 ⟨⟨v, rfl⟩, (⟨xs, rfl, hi, hl, hk⟩ | ⟨p, hp, c, hi, hl, hk⟩)⟩
      · exact ⟨none, _, run_endLoop (P := Tryd.prog) hl (by simp [recOf]), hdone _ _ (Nat.le_refl _) (hI _ _ _ hi (below_put _ _ (by omega))) ((World.putObj_heap_other (by omega)).trans hk)⟩
      · exact ⟨some c, _, run_endLoop (P := Tryd.prog) hl (by simp [recOf]), hstop _ c p _ (Nat.le_refl _) hp (hIx _ _ _ _ hi (below_put _ _ (by omega))) ((World.putObj_heap_other (by omega)).trans hk)⟩

end Go.Proofs.YtnaghafmpncdkaaDoor.val
/-
  What impl.Count returns where impl.finite hands its value back: how many nodes of the kind the value has.
-/
namespace Go.Proofs.YtnaghafmpncdkaaDoor.val
open Go.ChangeShapes Go.WideShapes Go.ChangeAt Go.RowKit
set_option maxRecDepth 100000
attribute [local go_sem] Oper.semAt_some

/-- How many of those met are of the kind. -/
def kindOf (kd : Int) (pre : List (Nat × LT)) : Nat := (pre.filter (fun x => x.2.k == kd)).length
theorem kindOf_yes (kd : Int) (pre : List (Nat × LT)) (x : Nat × LT) (h : x.2.k = kd) : kindOf kd (pre ++ [x]) = kindOf kd pre + 1 := by simp [kindOf, h]
theorem kindOf_no (kd : Int) (pre : List (Nat × LT)) (x : Nat × LT) (h : ¬ x.2.k = kd) : kindOf kd (pre ++ [x]) = kindOf kd pre := by simp [kindOf, h]
theorem kindOf_le (kd : Int) (pre : List (Nat × LT)) : kindOf kd pre ≤ pre.length := List.length_filter_le _ _

structure KindInv (w W : World) (kd : Int) (B : Nat) (m : Nat) : Prop where
  kind : One W (w.heap.size + 1) 3 (.int .i64 kd)
  many : One W (w.heap.size + 1 + 1) 3 (.int .i64 (m : Int))
  below : Below w.heap.size w W
  size : B ≤ W.heap.size
theorem KindInv.kept {w W W' : World} {kd : Int} {B B' m : Nat} (h : KindInv w W kd B m) (hb : Below B' W W') (hB : w.heap.size + 3 ≤ B') : KindInv w W' kd B m := ⟨h.kind.below hb (by omega), h.many.below hb (by omega), h.below.trans (hb.mono (by omega)), Nat.le_trans h.size hb.size⟩
theorem KindInv.more {w W : World} {kd : Int} {B m : Nat} (h : KindInv w W kd B m) (k : Nat) : KindInv w (W.setCell ⟨w.heap.size + 1 + 1, 0, none⟩ (.int .i64 (k : Int))) kd B k :=
  ⟨h.kind.other _ (by omega), h.many.set _, h.below.setCell (p := ⟨w.heap.size + 1 + 1, 0, none⟩) (by show w.heap.size ≤ w.heap.size + 1 + 1; omega) _, by rw [set_size]; exact h.size⟩

end Go.Proofs.YtnaghafmpncdkaaDoor.val
/-
  What is told of a value: how many nodes it has, how deep it is, how many nodes of a kind it has; by the order in which the walk meets them, and by its parts.
-/
namespace Go.Proofs.YtnaghafmpncdkaaDoor.val
open Go.ChangeShapes Go.WideShapes Go.ChangeAt Go.RowKit
set_option maxRecDepth 100000

mutual
def VT.nodes : VT → Nat
  | .mk _ _ _ _ kids => 1 + VT.nodesL kids
def VT.nodesL : List VT → Nat
  | [] => 0
  | t :: ts => VT.nodes t + VT.nodesL ts
end
mutual
def VT.deep : VT → Nat
  | .mk _ _ _ _ kids => VT.deepL kids
def VT.deepL : List VT → Nat
  | [] => 0
  | t :: ts => max (VT.deep t + 1) (VT.deepL ts)
end
mutual
def VT.count (kd : Int) : VT → Nat
  | .mk k _ _ _ kids => (if k = kd then 1 else 0) + VT.countL kd kids
def VT.countL (kd : Int) : List VT → Nat
  | [] => 0
  | t :: ts => VT.count kd t + VT.countL kd ts
end
mutual
theorem nodes_er : ∀ t : LT, (er t).nodes = t.nodes
  | .mk k n e s a cap kids => by rw [er, VT.nodes, LT.nodes, nodesL_er kids]
theorem nodesL_er : ∀ l : List LT, VT.nodesL (erL l) = LT.nodesL l
  | [] => by rw [erL, VT.nodesL, LT.nodesL]
  | t :: ts => by rw [erL, VT.nodesL, LT.nodesL, nodes_er t, nodesL_er ts]
end
theorem er_nodes {t u : LT} (h : er t = er u) : t.nodes = u.nodes := by rw [← nodes_er t, ← nodes_er u, h]
theorem topOf_from (l : List (Nat × LT)) : ∀ m, l.foldl (fun m x => max m x.1) m = max m (topOf l) := by
  unfold topOf
  induction l with
  | nil => intro m; simp
  | cons x l ih =>
    intro m
    rw [List.foldl_cons, List.foldl_cons, ih, ih (max 0 x.1)]
    omega
theorem topOf_append (a b : List (Nat × LT)) : topOf (a ++ b) = max (topOf a) (topOf b) := by
  rw [topOf, List.foldl_append, topOf_from]
  rfl
theorem topOf_cons (x : Nat × LT) (l : List (Nat × LT)) : topOf (x :: l) = max x.1 (topOf l) := by
  rw [topOf, List.foldl_cons, topOf_from]
  omega
mutual
theorem top_pre : ∀ (d : Nat) (t : LT), topOf (t.pre d) = d + (er t).deep
  | d, .mk k n e s a cap kids => by rw [LT.pre, topOf_cons, er, VT.deep, top_preL d kids]
theorem top_preL : ∀ (d : Nat) (l : List LT), max d (topOf (preL (d + 1) l)) = d + VT.deepL (erL l)
  | d, [] => by rw [preL, erL, VT.deepL]; simp [topOf]
  | d, t :: ts => by
    have h1 := top_pre (d + 1) t
    have h2 := top_preL d ts
    rw [preL, topOf_append, erL, VT.deepL, h1]
    omega
end
theorem kindOf_append (kd : Int) (a b : List (Nat × LT)) : kindOf kd (a ++ b) = kindOf kd a + kindOf kd b := by simp [kindOf]
theorem kindOf_cons (kd : Int) (x : Nat × LT) (l : List (Nat × LT)) : kindOf kd (x :: l) = (if x.2.k = kd then 1 else 0) + kindOf kd l := by
  unfold kindOf
  by_cases h : x.2.k = kd
  · simp [h]; omega
  · simp [h]
mutual
theorem kind_pre (kd : Int) : ∀ (d : Nat) (t : LT), kindOf kd (t.pre d) = (er t).count kd
  | d, .mk k n e s a cap kids => by rw [LT.pre, kindOf_cons, er, VT.count, kind_preL kd (d + 1) kids]; rfl
theorem kind_preL (kd : Int) : ∀ (d : Nat) (l : List LT), kindOf kd (preL d l) = VT.countL kd (erL l)
  | d, [] => by rw [preL, erL, VT.countL]; rfl
  | d, t :: ts => by rw [preL, kindOf_append, erL, VT.countL, kind_pre kd d t, kind_preL kd d ts]
end
mutual
theorem deep_le : ∀ v : VT, v.deep ≤ v.nodes
  | .mk k n e s kids => by rw [VT.deep, VT.nodes]; have := deepL_le kids; omega
theorem deepL_le : ∀ l : List VT, VT.deepL l ≤ VT.nodesL l + 1
  | [] => by rw [VT.deepL]; omega
  | t :: ts => by rw [VT.deepL, VT.nodesL]; have := deep_le t; have := deepL_le ts; omega
end
mutual
theorem count_le (kd : Int) : ∀ v : VT, v.count kd ≤ v.nodes
  | .mk k n e s kids => by rw [VT.count, VT.nodes]; have := countL_le kd kids; split <;> omega
theorem countL_le (kd : Int) : ∀ l : List VT, VT.countL kd l ≤ VT.nodesL l
  | [] => by rw [VT.countL]; omega
  | t :: ts => by rw [VT.countL, VT.nodesL]; have := count_le kd t; have := countL_le kd ts; omega
end
/-! By the first kids. -/
theorem nodesL_take (l : List VT) : ∀ j (h : j < l.length), VT.nodesL (l.take (j + 1)) = VT.nodesL (l.take j) + l[j].nodes := by
  induction l with
  | nil => intro j h; simp at h
  | cons t ts ih =>
    intro j h
    cases j with
    | zero => simp [VT.nodesL]
    | succ j => have := ih j (by simpa using h); simp only [List.take_succ_cons, VT.nodesL, List.getElem_cons_succ]; omega
theorem nodesL_take_le (l : List VT) (j : Nat) : VT.nodesL (l.take j) ≤ VT.nodesL l := by
  induction l generalizing j with
  | nil => simp
  | cons t ts ih =>
    cases j with
    | zero => simp [VT.nodesL]
    | succ j => have := ih j; simp only [List.take_succ_cons, VT.nodesL]; omega
theorem deepL_take (l : List VT) : ∀ j (h : j < l.length), VT.deepL (l.take (j + 1)) = max (VT.deepL (l.take j)) (l[j].deep + 1) := by
  induction l with
  | nil => intro j h; simp at h
  | cons t ts ih =>
    intro j h
    cases j with
    | zero => simp [VT.deepL]
    | succ j => have := ih j (by simpa using h); simp only [List.take_succ_cons, VT.deepL, List.getElem_cons_succ]; omega
theorem countL_take (kd : Int) (l : List VT) : ∀ j (h : j < l.length), VT.countL kd (l.take (j + 1)) = VT.countL kd (l.take j) + l[j].count kd := by
  induction l with
  | nil => intro j h; simp at h
  | cons t ts ih =>
    intro j h
    cases j with
    | zero => simp [VT.countL]
    | succ j => have := ih j (by simpa using h); simp only [List.take_succ_cons, VT.countL, List.getElem_cons_succ]; omega
theorem kid_nodes (l : List LT) (j : Nat) (h : j < l.length) : l[j].nodes ≤ LT.nodesL l := by
  have h1 := nodesL_take (erL l) j (by rw [erL_map]; simpa using h)
  have h2 := nodesL_take_le (erL l) (j + 1)
  rw [nodesL_er] at h2
  have h3 : (erL l)[j]'(by rw [erL_map]; simpa using h) = er l[j] := by simp [erL_map]
  rw [h3, nodes_er] at h1
  omega
theorem wrap_add (a b : Nat) (h : a + b ≤ 4000000) : wrap64 ((a : Int) + (b : Int)) = ((a + b : Nat) : Int) := by unfold wrap64; omega

end Go.Proofs.YtnaghafmpncdkaaDoor.val
/-
  What spec.Nodes, spec.Deep and spec.Count return.
-/
namespace Go.Proofs.YtnaghafmpncdkaaDoor.val
open Go.ChangeShapes Go.WideShapes Go.ChangeAt Go.RowKit
set_option maxRecDepth 100000

/-- A function of one value and perhaps a number returns the number F of every value. -/
def TellC (w : World) (B : Nat) (t : LT) (fn : FuncId) (more : Array Value) (F : VT → Nat) : Prop := t.nodes ≤ 2000000 → ∀ w', Below B w w' → B ≤ w'.heap.size → Calls Tryd.prog fn (#[.agg #[.int .i64 t.k, .int .i64 t.n, .int .i64 t.e, .string t.s, t.row]] ++ more) w' fun e w'' => e = .returned (.int .i64 (F (er t) : Int)) ∧ Below w'.heap.size w' w''

theorem wrap_one (a : Nat) (h : a ≤ 2000000) : wrap64 ((a : Int) + 1) = ((a + 1 : Nat) : Int) := by unfold wrap64; omega
theorem deep_wrap (t : LT) (l : List LT) (h : t.nodes ≤ LT.nodesL l) (h2 : LT.nodesL l ≤ 2000000) : wrap64 (((er t).deep : Int) + 1) = (((er t).deep + 1 : Nat) : Int) := by
  have h1 := deep_le (er t)
  rw [nodes_er] at h1
  generalize (er t).deep = d at *
  exact wrap_one d (by omega)
structure Held4 (wr : World) (N : Nat) (k : Int) (row : Value) : Prop where
  c0 : wr.cell? ⟨N, 0, none⟩ = some (.int .i64 k)
  c4 : wr.cell? ⟨N, 4, none⟩ = some row
theorem held4_of {w' wr : World} {k n e : Int} {s : ByteArray} {row : Value} {T : TypeId} (h : Below (w'.heap.size + 1) (w'.alloc (.cells #[.int .i64 k, .int .i64 n, .int .i64 e, .string s, row] T)) wr) : Held4 wr w'.heap.size k row := by
  have hb := heap_alloc_new w' (.cells #[.int .i64 k, .int .i64 n, .int .i64 e, .string s, row] T)
  have hb2 := (h.block w'.heap.size (by omega)).trans hb
  exact ⟨cell_of_row wr _ 0 _ _ (0, 0) hb2, cell_of_row wr _ 4 _ _ (0, 0) hb2⟩

set_option maxHeartbeats 1000000 in
theorem spec_nodes {w : World} {B : Nat} {t : LT} (h : In w B t) : TellC w B t 88 #[] VT.nodes := by
  induction h with
  | mk hk hn he hs hl hc hkids ih =>
    rename_i k n e s a cap kids
    intro hz w' hb hB
    have HC := Lib.hid hc
    have IH := Lib.hid ih
    have HB := Lib.hid hb
    have hml : (kids.map er).length = kids.length := by simp
    have HZK : Hid (LT.nodesL kids ≤ 2000000) := by rw [LT.nodes] at hz; unfold Hid; omega
    have HBA : Hid (Below (w'.heap.size + 1) (w'.alloc (.cells #[.int .i64 k, .int .i64 n, .int .i64 e, .string s, .slice a kids.length cap] 24)) (w'.alloc (.cells #[.int .i64 k, .int .i64 n, .int .i64 e, .string s, .slice a kids.length cap] 24))) := Below.refl _ _
    have HA : Hid (Below w'.heap.size w' (w'.alloc (.cells #[.int .i64 k, .int .i64 n, .int .i64 e, .string s, .slice a kids.length cap] 24))) := (Below.refl _ _).alloc (Nat.le_refl _) _
    have HR : Hid ((er (.mk k n e s a cap kids)).nodes = 1 + VT.nodesL ((kids.map er).take kids.length)) := by
      unfold Hid; rw [er, VT.nodes, erL_map, List.take_of_length_le (by omega)]
    have hkl : kids.length ≤ 9223372036854775807 := by omega
    unfold LT.row
    simp only [LT.k, LT.n, LT.e, LT.s, LT.a, LT.cap, LT.kids, Array.append_empty]
    generalize (er (.mk k n e s a cap kids)).nodes = R at *
    clear hc ih hkids hb hz
    go_enter Tryd.func88, Tryd.ntmps88
    go_wp2_with fail
    go_loopw [3, 4] (fun v i wr => ∃ (j m : Nat), i = .int .i64 j ∧ j ≤ kids.length ∧ v = .int .i64 (m : Int) ∧ Hid (m = 1 + VT.nodesL ((kids.map er).take j)) ∧ w'.heap.size + 1 ≤ wr.heap.size ∧ Hid (Below (w'.heap.size + 1) (w'.alloc (.cells #[.int .i64 k, .int .i64 n, .int .i64 e, .string s, .slice a kids.length cap] 24)) wr)) (fun _ i _ => kids.length - (intOf i).toNat)
    case atStart => exact ⟨0, 1, rfl, by omega, rfl, by simp [Hid, VT.nodesL], by simp, HBA⟩
    case round =>
      clear HBA
      obtain ⟨j, m, rfl, hj, rfl, HM, hwz, HW⟩ := hrel
      obtain ⟨x0, x4⟩ := held4_of HW.out
      by_cases hlt : j < kids.length
      · have hj0 : (0 : Int) ≤ (j : Int) := by omega
        have hj1 : (j : Int) < (kids.length : Int) := by omega
        obtain ⟨x, rfl, hx, h5⟩ := HC.out j hlt
        have hbr := HB.out.trans ((HA.out.trans (HW.out.mono (by omega))).mono hB)
        obtain ⟨c0, c1, c2, c3, c4⟩ := h5.below (by rw [add_block]; exact hx) hbr
        have hkn := kid_nodes kids j hlt
        have C := IH.out j hlt (by have := HZK.out; omega) wr hbr (by omega)
        have HT := nodesL_take (kids.map er) j (by omega)
        have HTL := nodesL_take_le (kids.map er) (j + 1)
        rw [← erL_map, nodesL_er, erL_map] at HTL
        rw [List.getElem_map] at HT
        have hwrap : wrap64 ((m : Int) + ((er kids[j]).nodes : Int)) = ((m + (er kids[j]).nodes : Nat) : Int) := wrap_add _ _ (by have := HM.out; have := HZK.out; omega)
        have HM1 : Hid (m + (er kids[j]).nodes = 1 + VT.nodesL ((kids.map er).take (j + 1))) := by have := HM.out; unfold Hid; omega
        simp only [Array.append_empty] at C
        generalize (er kids[j]).nodes = z at *
        generalize kids[j] = t at *
        have hrow : t.row = .slice t.a t.kids.length t.cap := rfl
        rw [hrow] at C c4
        replace C := Lib.hid C
        clear h5 hbr HT HTL hkn HC IH HB hrow
        go_wp2_with fail
        with_reducible refine C.out.mono ?_
        rintro e w1 ⟨rfl, hb1⟩
        have HW1 := Lib.hid (HW.out.trans (hb1.mono (by omega)))
        have hz1 := Nat.le_trans hwz hb1.size
        clear C hb1 c0 c1 c2 c3 c4 HW x0 x4
        go_wp2
        go_roundw
        case rel => exact ⟨j + 1, m + z, by go_num, by omega, by rw [hwrap], HM1, hz1, HW1⟩
        case measure => simp [intOf]; omega
      · have hj1 : ¬ (j : Int) < (kids.length : Int) := by omega
        have he : j = kids.length := by omega
        subst he
        have HF : Hid (m = R) := by have := HM.out; have := HR.out; unfold Hid; omega
        have HBF := Lib.hid (HA.out.trans (HW.out.mono (by omega)))
        clear HC IH HB
        go_wp2
        go_ret
        exact ⟨by rw [HF.out]; rfl, HBF.out⟩

end Go.Proofs.YtnaghafmpncdkaaDoor.val
