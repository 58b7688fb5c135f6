/-
  The statement 'for level, node := range walk(v) { .. }': what its body and what follows it owe, where the body writes into blocks between two marks of the heap alone.
-/
import Derived.Test.YthjholhjkahdkaaWalkIter
namespace Go.Proofs.Ythjholhjkahdkaa.val
open Go.ChangeShapes Go.WideShapes Go.ChangeAt Go.RowKit
set_option maxRecDepth 100000

def encs (x : Nat × LT) : Array Value := #[.int .i64 (x.1 : Nat), .agg #[.int .i64 x.2.k, .int .i64 x.2.n, .int .i64 x.2.e, .string x.2.s, x.2.row]]
/-- How a round's body may be left. -/
def bodyEnd (n₀ B : Nat) (I : List (Nat × LT) → World → Prop) (Ix : Code → List (Nat × LT) → World → Prop) (xs : List (Nat × LT)) (W : World) : Exit → Act → World → Prop
  | .normal, _, W' => Mid n₀ B W W' ∧ I xs W'
  | .ret, _, W' => Mid n₀ B W W' ∧ Ix .ret xs W'
  | .exit id, _, W' => Mid n₀ B W W' ∧ Ix (.exit id) xs W'
  | .goto l, _, W' => Mid n₀ B W W' ∧ Ix (.goto l) xs W'
  | .panic _, _, _ => False
  | .outgrown, _, _ => False
theorem below_put {B l : Nat} (W : World) (o : Obj) (h : B ≤ l) : Below B W (W.putObj l o) := ⟨rfl, rfl, rfl, by simp, fun k hk => World.putObj_heap_other (by omega)⟩
theorem mid_put {n₀ B l : Nat} (W : World) (o : Obj) (h0 : n₀ ≤ l) (hB : l < B) : Mid n₀ B W (W.putObj l o) := ⟨rfl, rfl, rfl, by simp, fun k _ hk => World.putObj_heap_other (by omega)⟩
theorem Mid.trans {n₀ B : Nat} {a b c : World} (h : Mid n₀ B a b) (k : Mid n₀ B b c) : Mid n₀ B a c :=
  ⟨k.os.trans h.os, k.tape.trans h.tape, k.output.trans h.output, Nat.le_trans h.size k.size, fun i hi hk => (k.block i (Nat.lt_of_lt_of_le hi h.size) hk).trans (h.block i hi hk)⟩
theorem Mid.wider {n₀ B B' : Nat} {a b : World} (h : Mid n₀ B a b) (hB : B ≤ B') : Mid n₀ B' a b := ⟨h.os, h.tape, h.output, h.size, fun k hk h' => h.block k hk (by omega)⟩

/-- A loop's record. -/
def recOf (fn : FuncId) (a : Act) (ps : Array Tmp) (assign body : Code) (d : Nat) (st : LoopState) (pe : Option Code) : Loop := { state := st, pending := pe, fn, tmps := a.tmps, params := ps, assign, body, defers := d }

theorem range_walk {n : Nat} {g : Operand} {ps : Array Tmp} {assign body : Code} {Q : Exit → Act → World → Prop} {a : Act} {w : World} (h1 : 1 ≤ n) {Bx n₀ : Nat} {t : LT}
    (hg : a.eval g = .func (.func 52) #[] #[.pointer (some ⟨Bx, 0, none⟩)]) (hz : t.nodes ≤ 2000000) (hn0 : n₀ ≤ w.heap.size) (hIn : In w n₀ t) (hBox : Box w Bx t) (hps : ps.size = 2)
    (I : List (Nat × LT) → World → Prop) (Ix : Code → List (Nat × LT) → World → Prop) (hI : ∀ s A B, I s A → Below w.heap.size A B → I s B) (hIx : ∀ c s A B, Ix c s A → Below w.heap.size A B → Ix c s B) (h0 : I [] w) (a₁ : Nat × LT → Act)
    (hassign : ∀ (l : Nat) (x : Nat × LT) (W : World) (K : Act → World → Prop), K (a₁ x) W → assign.wpIn (Fence.wide.inRound l) (n - 1 - 1) Try.prog (Exit.then K (fun _ _ _ => False)) { tmps := (ps.zip (encs x)).foldl (fun t (p, v) => t.setIfInBounds p v) a.tmps, defers := [] } W)
    (hbody : ∀ (l : Nat) (pre : List (Nat × LT)) (x : Nat × LT) (W : World), I pre W → pre ++ [x] <+: t.pre 0 → body.wpIn (Fence.wide.inRound l) (n - 1 - 1) Try.prog (bodyEnd n₀ w.heap.size I Ix (pre ++ [x]) W) (a₁ x) W)
    (hdone : ∀ (D : Nat) (W : World), w.heap.size ≤ D → I (t.pre 0) W → W.heap[D]? = some (.deferred (some [])) → Q .normal { a with defers := { target := .collected D, args := #[] } :: a.defers } W)
    (hstop : ∀ (D : Nat) (c : Code) (p : List (Nat × LT)) (W : World), w.heap.size ≤ D → p <+: t.pre 0 → Ix c p W → W.heap[D]? = some (.deferred (some [])) → c.wpIn Fence.wide n Try.prog Q { a with defers := { target := .collected D, args := #[] } :: a.defers } W) :
    (Code.rangeFunc g ps assign body).wpIn Fence.wide n Try.prog Q a w := by
  refine wpIn_rangeFunc fun fn hfn => ?_
  have hW := And.intro (World.alloc_heap_new w (.deferred (some []))) (World.alloc_heap_new (w.alloc (.deferred (some []))) (.loop (recOf fn a ps assign body w.heap.size .ready none)))
  have hs1 : ((w.alloc (.deferred (some []))).alloc (.loop (recOf fn a ps assign body w.heap.size .ready none))).heap.size = w.heap.size + 2 := by simp
  have hb1 : Below w.heap.size w ((w.alloc (.deferred (some []))).alloc (.loop (recOf fn a ps assign body w.heap.size .ready none))) := ((Below.refl _ w).alloc (Nat.le_refl _) _).alloc (by simp) _
  have hK1 : ((w.alloc (.deferred (some []))).alloc (.loop (recOf fn a ps assign body w.heap.size .ready none))).heap[w.heap.size]? = some (.deferred (some [])) := (Below.heap_alloc _ _ _ (by simp)).trans hW.1
  have hL1 : ((w.alloc (.deferred (some []))).alloc (.loop (recOf fn a ps assign body w.heap.size .ready none))).heap[w.heap.size + 1]? = some (.loop (recOf fn a ps assign body w.heap.size .ready none)) := by
    have := hW.2
    rwa [World.size_alloc] at this
  refine ⟨w.heap.size + 1, [{ target := .collected w.heap.size, args := #[] }], (w.alloc (.deferred (some []))).alloc (.loop (recOf fn a ps assign body w.heap.size .ready none)), { target := .fn (.func 52) #[.pointer (some ⟨Bx, 0, none⟩)], args := #[.func (.yield (w.heap.size + 1)) #[] #[]] },
    (w.alloc (.deferred (some []))).alloc (.loop (recOf fn a ps assign body w.heap.size .ready none)), 52, #[.func (.yield (w.heap.size + 1)) #[] #[], .pointer (some ⟨Bx, 0, none⟩)], (w.alloc (.deferred (some []))).alloc (.loop (recOf fn a ps assign body w.heap.size .ready none)), ?_, ?_, ?_, ?_, fun _ => h1, ?_⟩
  · exact run_enterLoop_outer _ _ _ _ _
  · simp only [resolve, hg]
    simp [go_sem]
  · intro f' _; trivial
  · have eg := enters_of Try.func52 (by kernel_rfl) rfl
    simp [invoke, go_sem, eg]
  · generalize (w.alloc (.deferred (some []))).alloc (.loop (recOf fn a ps assign body w.heap.size .ready none)) = W1 at *
    refine (walk1 (n - 1) (w.heap.size + 1) n₀ Bx t (fun pre W => I pre W ∧ W.heap[w.heap.size + 1]? = some (.loop (recOf fn a ps assign body w.heap.size .ready none)) ∧ W.heap[w.heap.size]? = some (.deferred (some [])))
      (fun pre W => ∃ c, Ix c pre W ∧ W.heap[w.heap.size + 1]? = some (.loop (recOf fn a ps assign body w.heap.size .done (some c))) ∧ W.heap[w.heap.size]? = some (.deferred (some []))) W1 hz (by omega) (hIn.behind (hb1.mono hn0)) (hBox.behind hb1) ?_ ?_ ⟨hI _ _ _ h0 hb1, hL1, hK1⟩).mono ?_
    · intro s A B ⟨hs, hl, hk⟩ hb
      exact ⟨hI s A B hs (hb.mono (by omega)), (hb.block _ (by omega)).trans hl, (hb.block _ (by omega)).trans hk⟩
    · intro pre x W ⟨hi, hl, hk⟩ hlen
      have hlt : w.heap.size + 1 < W.heap.size := (Array.getElem?_eq_some_iff.1 hl).1
      have hy := run_yield (P := Try.prog) (args := encs x) hl (by show 2 = ps.size; omega)
      refine ⟨fn, _, assign, body, hy, roundIn_of_wpIn hfn (hassign _ x W _ ⟨_, run_beginRound hl rfl, ?_⟩)⟩
      have hput := below_put W (.loop { recOf fn a ps assign body w.heap.size .ready none with state := .busy }) (Nat.le_succ w.heap.size)
      have hl2 : (W.putObj (w.heap.size + 1) (.loop { recOf fn a ps assign body w.heap.size .ready none with state := .busy })).heap[w.heap.size + 1]? = some (.loop { recOf fn a ps assign body w.heap.size .ready none with state := .busy }) := World.putObj_heap_same hlt
      have hk2 : (W.putObj (w.heap.size + 1) (.loop { recOf fn a ps assign body w.heap.size .ready none with state := .busy })).heap[w.heap.size]? = some (.deferred (some [])) := (World.putObj_heap_other (by omega)).trans hk
      have hm2 := mid_put (n₀ := n₀) (B := W1.heap.size) W (.loop { recOf fn a ps assign body w.heap.size .ready none with state := .busy }) (l := w.heap.size + 1) (by omega) (by omega)
      refine wpIn_mono (hbody _ pre x _ (hI _ _ _ hi hput) hlen) ?_
      have hs2 : w.heap.size + 1 < (W.putObj (w.heap.size + 1) (.loop { recOf fn a ps assign body w.heap.size .ready none with state := .busy })).heap.size := by simp; omega
      generalize W.putObj (w.heap.size + 1) (.loop { recOf fn a ps assign body w.heap.size .ready none with state := .busy }) = W2 at *
      have fin : ∀ (jump : Option Code) (W3 : World), Mid n₀ w.heap.size W2 W3 → ∃ W4, (Instr.endRound (w.heap.size + 1) jump).run Try.prog W3 = .ok (.bool jump.isNone) W4 ∧ Below w.heap.size W3 W4 ∧ Mid n₀ W1.heap.size W W4 ∧
          W4.heap[w.heap.size + 1]? = some (.loop (recOf fn a ps assign body w.heap.size (if jump.isNone then .ready else .done) jump)) ∧ W4.heap[w.heap.size]? = some (.deferred (some [])) := fun jump W3 hm3 => by
        have hl3 := (hm3.block _ hs2 (.inr (by omega))).trans hl2
        have hk3 := (hm3.block w.heap.size (by omega) (.inr (Nat.le_refl _))).trans hk2
        have hs3 : w.heap.size + 1 < W3.heap.size := Nat.lt_of_lt_of_le hs2 hm3.size
        exact ⟨_, run_endRound (P := Try.prog) jump hl3, below_put _ _ (by omega), (hm2.trans (hm3.wider (by omega))).trans (mid_put _ _ (by omega) (by omega)), World.putObj_heap_same hs3, (World.putObj_heap_other (by omega)).trans hk3⟩
      rintro e a3 W3 hp
      cases e with
      | normal =>
        obtain ⟨W4, r4, b4, m4, l4, k4⟩ := fin none W3 hp.1
        exact ⟨_, W4, r4, .inl ⟨rfl, ⟨hI _ _ _ hp.2 b4, l4, k4⟩, m4⟩⟩
      | ret =>
        obtain ⟨W4, r4, b4, m4, l4, k4⟩ := fin (some .ret) W3 hp.1
        exact ⟨_, W4, r4, .inr ⟨rfl, _, hIx _ _ _ _ hp.2 b4, l4, k4⟩⟩
      | exit id =>
        obtain ⟨W4, r4, b4, m4, l4, k4⟩ := fin (some (.exit id)) W3 hp.1
        exact ⟨_, W4, r4, .inr ⟨rfl, _, hIx _ _ _ _ hp.2 b4, l4, k4⟩⟩
      | goto c =>
        obtain ⟨W4, r4, b4, m4, l4, k4⟩ := fin (some (.goto c)) W3 hp.1
        exact ⟨_, W4, r4, .inr ⟨rfl, _, hIx _ _ _ _ hp.2 b4, l4, k4⟩⟩
      | panic ch => exact hp.elim
      | outgrown => exact hp.elim
    · rintro e W2 ⟨⟨v, rfl⟩, (⟨xs, rfl, hi, hl, hk⟩ | ⟨p, hp, c, hi, hl, hk⟩)⟩
      · exact ⟨none, _, run_endLoop (P := Try.prog) hl (by simp [recOf]), hdone _ _ (Nat.le_refl _) (hI _ _ _ hi (below_put _ _ (by omega))) ((World.putObj_heap_other (by omega)).trans hk)⟩
      · exact ⟨some c, _, run_endLoop (P := Try.prog) hl (by simp [recOf]), hstop _ c p _ (Nat.le_refl _) hp (hIx _ _ _ _ hi (below_put _ _ (by omega))) ((World.putObj_heap_other (by omega)).trans hk)⟩

end Go.Proofs.Ythjholhjkahdkaa.val
