/-
  The statement 'for _, node := range walk(v) { .. }' where the loop's variable lies in memory and the body also writes into blocks of its own.
-/
import Derived.Test.YtdbkifndhkmfgaaWalkIterO
namespace Go.Proofs.Ytdbkifndhkmfgaa.val
open Go.ChangeShapes Go.WideShapes Go.ChangeAt Go.RowKit
set_option maxRecDepth 100000

/-- How a round's body may be left. -/
def bodyEndO (n₀ B : Nat) (I : JO) (Ix : Code → List (Nat × LT) → World → Prop) (xs : List (Nat × LT)) (O : Nat → Prop) (W : World) : Exit → Act → World → Prop
  | .normal, _, W' => ∃ O', MidO n₀ B O O' W W' ∧ I xs O' W'
  | .ret, _, W' => ∃ O', MidO n₀ B O O' W W' ∧ (∀ k, O' k → k < W'.heap.size) ∧ Ix .ret xs W'
  | .exit id, _, W' => ∃ O', MidO n₀ B O O' W W' ∧ (∀ k, O' k → k < W'.heap.size) ∧ Ix (.exit id) xs W'
  | .goto l, _, W' => ∃ O', MidO n₀ B O O' W W' ∧ (∀ k, O' k → k < W'.heap.size) ∧ Ix (.goto l) xs W'
  | .panic _, _, _ => False
  | .outgrown, _, _ => False
theorem midO_put {n₀ B l : Nat} {O : Nat → Prop} (W : World) (o : Obj) (h0 : n₀ ≤ l) (hB : l < B) : MidO n₀ B O O W (W.putObj l o) := ⟨rfl, rfl, rfl, by simp, fun k _ hk _ => World.putObj_heap_other (by omega), fun k h => .inl h⟩
theorem MidO.trans {n₀ B : Nat} {O O' O'' : Nat → Prop} {a b c : World} (h : MidO n₀ B O O' a b) (k : MidO n₀ B O' O'' b c) : MidO n₀ B O O'' a c :=
  ⟨k.os.trans h.os, k.tape.trans h.tape, k.output.trans h.output, Nat.le_trans h.size k.size, fun i hi hk ho => (k.block i (Nat.lt_of_lt_of_le hi h.size) hk (fun h' => by rcases h.grow i h' with h1 | h1; exact ho h1; omega)).trans (h.block i hi hk ho),
    fun i hi => by
      rcases k.grow i hi with h1 | h1
      · exact h.grow i h1
      · exact .inr (Nat.le_trans h.size h1)⟩
theorem MidO.wider {n₀ B B' : Nat} {O O' : Nat → Prop} {a b : World} (h : MidO n₀ B O O' a b) (hB : B ≤ B') : MidO n₀ B' O O' a b := ⟨h.os, h.tape, h.output, h.size, fun k hk h' => h.block k hk (by omega), h.grow⟩

/-- As range_walk, where the round's first statement may take new memory: A says what it leaves. -/
theorem range_boxO {n : Nat} {g : Operand} {ps : Array Tmp} {assign body : Code} {Q : Exit → Act → World → Prop} {a : Act} {w : World} (h1 : 1 ≤ n) {Bx n₀ : Nat} {t : LT}
    (hg : a.eval g = .func (.func 48) #[] #[.pointer (some ⟨Bx, 0, none⟩)]) (hz : t.nodes ≤ 2000000) (hn0 : n₀ ≤ w.heap.size) (hIn : In w n₀ t) (hBox : Box w Bx t) (hps : ps.size = 2)
    (I : JO) (Ix : Code → List (Nat × LT) → World → Prop) (hI : ∀ s O A B, I s O A → Below w.heap.size A B → (∀ k, O k → B.heap[k]? = A.heap[k]?) → I s O B) (hO : ∀ s O A, I s O A → ∀ k, O k → n₀ ≤ k ∧ k < A.heap.size) (hIx : ∀ c s A B, Ix c s A → Below w.heap.size A B → Ix c s B) (O0 : Nat → Prop) (h0 : I [] O0 w) (A₁ : Nat × LT → World → Act → World → Prop) (hA : ∀ x W a' W', A₁ x W a' W' → Below W.heap.size W W')
    (hassign : ∀ (l : Nat) (x : Nat × LT) (W : World) (K : Act → World → Prop), (∀ a' W', A₁ x W a' W' → K a' W') → assign.wpIn (Fence.wide.inRound l) (n - 1 - 1) Try.prog (Exit.then K (fun _ _ _ => False)) { tmps := (ps.zip (encs x)).foldl (fun t (p, v) => t.setIfInBounds p v) a.tmps, defers := [] } W)
    (hbody : ∀ (l : Nat) (pre : List (Nat × LT)) (x : Nat × LT) (O : Nat → Prop) (V V' W : World) (a' : Act), I pre O W → (∀ k, O k → k < V.heap.size) → pre ++ [x] <+: t.pre 0 → A₁ x V a' V' → w.heap.size ≤ V.heap.size → (∀ k, V.heap.size ≤ k → W.heap[k]? = V'.heap[k]?) → body.wpIn (Fence.wide.inRound l) (n - 1 - 1) Try.prog (bodyEndO n₀ w.heap.size I Ix (pre ++ [x]) O W) a' W)
    (hdone : ∀ (D : Nat) (W : World), w.heap.size ≤ D → (∃ O, I (t.pre 0) O W ∧ ¬ O D) → W.heap[D]? = some (.deferred (some [])) → Q .normal { a with defers := { target := .collected D, args := #[] } :: a.defers } W)
    (hstop : ∀ (D : Nat) (c : Code) (p : List (Nat × LT)) (W : World), w.heap.size ≤ D → p <+: t.pre 0 → Ix c p W → W.heap[D]? = some (.deferred (some [])) → c.wpIn Fence.wide n Try.prog Q { a with defers := { target := .collected D, args := #[] } :: a.defers } W) :
    (Code.rangeFunc g ps assign body).wpIn Fence.wide n Try.prog Q a w := by
  refine wpIn_rangeFunc fun fn hfn => ?_
  have hW := And.intro (World.alloc_heap_new w (.deferred (some []))) (World.alloc_heap_new (w.alloc (.deferred (some []))) (.loop (recOf fn a ps assign body w.heap.size .ready none)))
  have hs1 : ((w.alloc (.deferred (some []))).alloc (.loop (recOf fn a ps assign body w.heap.size .ready none))).heap.size = w.heap.size + 2 := by simp
  have hb1 : Below w.heap.size w ((w.alloc (.deferred (some []))).alloc (.loop (recOf fn a ps assign body w.heap.size .ready none))) := ((Below.refl _ w).alloc (Nat.le_refl _) _).alloc (by simp) _
  have hK1 : ((w.alloc (.deferred (some []))).alloc (.loop (recOf fn a ps assign body w.heap.size .ready none))).heap[w.heap.size]? = some (.deferred (some [])) := (Below.heap_alloc _ _ _ (by simp)).trans hW.1
  have hL1 : ((w.alloc (.deferred (some []))).alloc (.loop (recOf fn a ps assign body w.heap.size .ready none))).heap[w.heap.size + 1]? = some (.loop (recOf fn a ps assign body w.heap.size .ready none)) := by
    have := hW.2
    rwa [World.size_alloc] at this
  refine ⟨w.heap.size + 1, [{ target := .collected w.heap.size, args := #[] }], (w.alloc (.deferred (some []))).alloc (.loop (recOf fn a ps assign body w.heap.size .ready none)), { target := .fn (.func 48) #[.pointer (some ⟨Bx, 0, none⟩)], args := #[.func (.yield (w.heap.size + 1)) #[] #[]] },
    (w.alloc (.deferred (some []))).alloc (.loop (recOf fn a ps assign body w.heap.size .ready none)), 48, #[.func (.yield (w.heap.size + 1)) #[] #[], .pointer (some ⟨Bx, 0, none⟩)], (w.alloc (.deferred (some []))).alloc (.loop (recOf fn a ps assign body w.heap.size .ready none)), ?_, ?_, ?_, ?_, fun _ => h1, ?_⟩
  · exact run_enterLoop_outer _ _ _ _ _
  · simp only [resolve, hg]
    simp [go_sem]
  · intro f' _; trivial
  · simp [invoke, go_sem]
  · generalize (w.alloc (.deferred (some []))).alloc (.loop (recOf fn a ps assign body w.heap.size .ready none)) = W1 at *
    refine (walk1O (n - 1) (w.heap.size + 1) n₀ Bx t (fun pre O W => I pre O W ∧ W.heap[w.heap.size + 1]? = some (.loop (recOf fn a ps assign body w.heap.size .ready none)) ∧ W.heap[w.heap.size]? = some (.deferred (some [])) ∧ ¬ O w.heap.size ∧ ¬ O (w.heap.size + 1))
      (fun pre W => ∃ c, Ix c pre W ∧ W.heap[w.heap.size + 1]? = some (.loop (recOf fn a ps assign body w.heap.size .done (some c))) ∧ W.heap[w.heap.size]? = some (.deferred (some []))) O0 W1 hz (by omega) (hIn.behind (hb1.mono hn0)) (hBox.behind hb1) ?_ ?_ ?_ ⟨hI _ _ _ _ h0 hb1 (fun k hk => hb1.block k (hO _ _ _ h0 k hk).2), hL1, hK1, fun h => Nat.lt_irrefl _ (hO _ _ _ h0 _ h).2, fun h => by have := (hO _ _ _ h0 _ h).2; omega⟩).mono ?_
    · intro s O A B ⟨hs, hl, hk, hn⟩ hb hkO
      exact ⟨hI s O A B hs (hb.mono (by omega)) hkO, (hb.block _ (by omega)).trans hl, (hb.block _ (by omega)).trans hk, hn⟩
    · intro s O A ⟨hs, _⟩ k hk
      exact hO s O A hs k hk
    · intro pre x O W ⟨hi, hl, hk, hnD, hnL⟩ hlen
      have hlt : w.heap.size + 1 < W.heap.size := (Array.getElem?_eq_some_iff.1 hl).1
      have hy := run_yield (P := Try.prog) (args := encs x) hl (by show 2 = ps.size; omega)
      refine ⟨fn, _, assign, body, hy, roundIn_of_wpIn hfn (hassign _ x W _ fun a' W' hA' => ?_)⟩
      have hbA := hA _ _ _ _ hA'
      have hlO := hlt
      have hOW := hO _ _ _ hi
      have hi' := hI _ _ _ _ hi (hbA.mono (by omega)) (fun k hk => hbA.block k (hOW k hk).2)
      have hmA : MidO n₀ W1.heap.size O O W W' := ⟨hbA.os, hbA.tape, hbA.output, hbA.size, fun k hk _ _ => hbA.block k hk, fun k hk => .inl hk⟩
      replace hl := (hbA.block _ hlt).trans hl
      replace hk := (hbA.block _ (by omega)).trans hk
      replace hlt : w.heap.size + 1 < W'.heap.size := Nat.lt_of_lt_of_le hlt hbA.size
      refine ⟨_, run_beginRound hl rfl, ?_⟩
      have hput := below_put W' (.loop { recOf fn a ps assign body w.heap.size .ready none with state := .busy }) (Nat.le_succ w.heap.size)
      have hl2 : (W'.putObj (w.heap.size + 1) (.loop { recOf fn a ps assign body w.heap.size .ready none with state := .busy })).heap[w.heap.size + 1]? = some (.loop { recOf fn a ps assign body w.heap.size .ready none with state := .busy }) := World.putObj_heap_same hlt
      have hk2 : (W'.putObj (w.heap.size + 1) (.loop { recOf fn a ps assign body w.heap.size .ready none with state := .busy })).heap[w.heap.size]? = some (.deferred (some [])) := (World.putObj_heap_other (by omega)).trans hk
      have hm2 := midO_put (O := O) (n₀ := n₀) (B := W1.heap.size) W' (.loop { recOf fn a ps assign body w.heap.size .ready none with state := .busy }) (l := w.heap.size + 1) (by omega) (by omega)
      refine wpIn_mono (hbody _ pre x O W W' _ a' (hI _ _ _ _ hi' hput (fun k hk => World.putObj_heap_other (fun e => hnL (e ▸ hk)))) (fun k hk => (hOW k hk).2) hlen hA' (by omega) (fun k hk => World.putObj_heap_other (by omega))) ?_
      have hs2 : w.heap.size + 1 < (W'.putObj (w.heap.size + 1) (.loop { recOf fn a ps assign body w.heap.size .ready none with state := .busy })).heap.size := by simp; omega
      replace hm2 := hmA.trans hm2
      generalize W'.putObj (w.heap.size + 1) (.loop { recOf fn a ps assign body w.heap.size .ready none with state := .busy }) = W2 at *
      have fin : ∀ (jump : Option Code) (O' : Nat → Prop) (W3 : World), MidO n₀ w.heap.size O O' W2 W3 → (∀ k, O' k → k < W3.heap.size) → ∃ W4, (Instr.endRound (w.heap.size + 1) jump).run Try.prog W3 = .ok (.bool jump.isNone) W4 ∧ Below w.heap.size W3 W4 ∧ (∀ k, O' k → W4.heap[k]? = W3.heap[k]?) ∧ MidO n₀ W1.heap.size O O' W W4 ∧ (¬ O' w.heap.size ∧ ¬ O' (w.heap.size + 1)) ∧
          W4.heap[w.heap.size + 1]? = some (.loop (recOf fn a ps assign body w.heap.size (if jump.isNone then .ready else .done) jump)) ∧ W4.heap[w.heap.size]? = some (.deferred (some [])) := fun jump O' W3 hm3 hO3 => by
        have hl3 := (hm3.block _ hs2 (.inr (by omega)) hnL).trans hl2
        have hk3 := (hm3.block w.heap.size (by omega) (.inr (Nat.le_refl _)) hnD).trans hk2
        have hs3 : w.heap.size + 1 < W3.heap.size := Nat.lt_of_lt_of_le hs2 hm3.size
        have hnL3 : ¬ O' (w.heap.size + 1) := fun h => by
          rcases hm3.grow _ h with h | h
          · exact hnL h
          · omega
        have hnD3 : ¬ O' w.heap.size := fun h => by
          rcases hm3.grow _ h with h | h
          · exact hnD h
          · omega
        exact ⟨_, run_endRound (P := Try.prog) jump hl3, below_put _ _ (by omega), (fun k hk => World.putObj_heap_other (fun e => hnL3 (e ▸ hk))), (hm2.trans (hm3.wider (by omega))).trans (midO_put _ _ (by omega) (by omega)), ⟨hnD3, hnL3⟩, World.putObj_heap_same hs3, (World.putObj_heap_other (by omega)).trans hk3⟩
      rintro e a3 W3 hp
      cases e with
      | normal =>
        obtain ⟨O', hp1, hp2⟩ := hp
        obtain ⟨W4, r4, b4, o4, m4, n4, l4, k4⟩ := fin none O' W3 hp1 (fun k hk => (hO _ _ _ hp2 k hk).2)
        exact ⟨_, W4, r4, .inl ⟨rfl, O', ⟨hI _ _ _ _ hp2 b4 o4, l4, k4, n4⟩, m4⟩⟩
      | ret =>
        obtain ⟨O', hp1, hpo, hp2⟩ := hp
        obtain ⟨W4, r4, b4, o4, m4, n4, l4, k4⟩ := fin (some .ret) O' W3 hp1 hpo
        exact ⟨_, W4, r4, .inr ⟨rfl, _, hIx _ _ _ _ hp2 b4, l4, k4⟩⟩
      | exit id =>
        obtain ⟨O', hp1, hpo, hp2⟩ := hp
        obtain ⟨W4, r4, b4, o4, m4, n4, l4, k4⟩ := fin (some (.exit id)) O' W3 hp1 hpo
        exact ⟨_, W4, r4, .inr ⟨rfl, _, hIx _ _ _ _ hp2 b4, l4, k4⟩⟩
      | goto c =>
        obtain ⟨O', hp1, hpo, hp2⟩ := hp
        obtain ⟨W4, r4, b4, o4, m4, n4, l4, k4⟩ := fin (some (.goto c)) O' W3 hp1 hpo
        exact ⟨_, W4, r4, .inr ⟨rfl, _, hIx _ _ _ _ hp2 b4, l4, k4⟩⟩
      | panic ch => exact hp.elim
      | outgrown => exact hp.elim
    · rintro e W2 ⟨⟨v, rfl⟩, (⟨xs, O, rfl, hi, hl, hk, hnD, hnL⟩ | ⟨p, hp, c, hi, hl, hk⟩)⟩
      · exact ⟨none, _, run_endLoop (P := Try.prog) hl (by simp [recOf]), hdone _ _ (Nat.le_refl _) ⟨O, hI _ _ _ _ hi (below_put _ _ (by omega)) (fun k hk => World.putObj_heap_other (fun e => hnL (e ▸ hk))), hnD⟩ ((World.putObj_heap_other (by omega)).trans hk)⟩
      · exact ⟨some c, _, run_endLoop (P := Try.prog) hl (by simp [recOf]), hstop _ c p _ (Nat.le_refl _) hp (hIx _ _ _ _ hi (below_put _ _ (by omega))) ((World.putObj_heap_other (by omega)).trans hk)⟩

end Go.Proofs.Ytdbkifndhkmfgaa.val
