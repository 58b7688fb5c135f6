/-
  The statement 'for level, node := range walk(v) { .. }': what its body and what follows it owe, where the body writes into blocks between two marks of the heap alone.
-/
import Derived.Test.YtnaghafmpncdkaaDoorGetCborJ12
namespace Go.Proofs.YtnaghafmpncdkaaDoor.val
open Go.ChangeShapes Go.WideShapes Go.ChangeAt Go.RowKit
set_option maxRecDepth 100000

def encs (x : Nat × LT) : Array Value := #[.int .i64 (x.1 : Nat), .agg #[.int .i64 x.2.k, .int .i64 x.2.n, .int .i64 x.2.e, .string x.2.s, x.2.row]]
/-- How a round's body may be left. -/
def bodyEnd (n₀ B : Nat) (I : List (Nat × LT) → World → Prop) (Ix : Code → List (Nat × LT) → World → Prop) (xs : List (Nat × LT)) (W : World) : Exit → Act → World → Prop
  | .normal, _, W' => Mid n₀ B W W' ∧ I xs W'
  | .ret, _, W' => Mid n₀ B W W' ∧ Ix .ret xs W'
  | .exit id, _, W' => Mid n₀ B W W' ∧ Ix (.exit id) xs W'
  | .goto l, _, W' => Mid n₀ B W W' ∧ Ix (.goto l) xs W'
  | .panic _, _, _ => False
  | .outgrown, _, _ => False
theorem below_put {B l : Nat} (W : World) (o : Obj) (h : B ≤ l) : Below B W (W.putObj l o) := ⟨rfl, rfl, rfl, by simp, fun k hk => World.putObj_heap_other (by omega)⟩
theorem mid_put {n₀ B l : Nat} (W : World) (o : Obj) (h0 : n₀ ≤ l) (hB : l < B) : Mid n₀ B W (W.putObj l o) := ⟨rfl, rfl, rfl, by simp, fun k _ hk => World.putObj_heap_other (by omega)⟩
theorem Mid.trans {n₀ B : Nat} {a b c : World} (h : Mid n₀ B a b) (k : Mid n₀ B b c) : Mid n₀ B a c :=
  ⟨k.os.trans h.os, k.tape.trans h.tape, k.output.trans h.output, Nat.le_trans h.size k.size, fun i hi hk => (k.block i (Nat.lt_of_lt_of_le hi h.size) hk).trans (h.block i hi hk)⟩
theorem Mid.wider {n₀ B B' : Nat} {a b : World} (h : Mid n₀ B a b) (hB : B ≤ B') : Mid n₀ B' a b := ⟨h.os, h.tape, h.output, h.size, fun k hk h' => h.block k hk (by omega)⟩

/-- A loop's record. -/
def recOf (fn : FuncId) (a : Act) (ps : Array Tmp) (assign body : Code) (d : Nat) (st : LoopState) (pe : Option Code) : Loop := { state := st, pending := pe, fn, tmps := a.tmps, params := ps, assign, body, defers := d }

theorem range_walk {n : Nat} {g : Operand} {ps : Array Tmp} {assign body : Code} {Q : Exit → Act → World → Prop} {a : Act} {w : World} (h1 : 1 ≤ n) {Bx n₀ : Nat} {t : LT}
    (hg : a.eval g = .func (.func 86) #[] #[.pointer (some ⟨Bx, 0, none⟩)]) (hz : t.nodes ≤ 2000000) (hn0 : n₀ ≤ w.heap.size) (hIn : In w n₀ t) (hBox : Box w Bx t) (hps : ps.size = 2)
    (I : List (Nat × LT) → World → Prop) (Ix : Code → List (Nat × LT) → World → Prop) (hI : ∀ s A B, I s A → Below w.heap.size A B → I s B) (hIx : ∀ c s A B, Ix c s A → Below w.heap.size A B → Ix c s B) (h0 : I [] w) (a₁ : Nat × LT → Act)
    (hassign : ∀ (l : Nat) (x : Nat × LT) (W : World) (K : Act → World → Prop), K (a₁ x) W → assign.wpIn (Fence.wide.inRound l) (n - 1 - 1) Tryd.prog (Exit.then K (fun _ _ _ => False)) { tmps := (ps.zip (encs x)).foldl (fun t (p, v) => t.setIfInBounds p v) a.tmps, defers := [] } W)
    (hbody : ∀ (l : Nat) (pre : List (Nat × LT)) (x : Nat × LT) (W : World), I pre W → pre ++ [x] <+: t.pre 0 → body.wpIn (Fence.wide.inRound l) (n - 1 - 1) Tryd.prog (bodyEnd n₀ w.heap.size I Ix (pre ++ [x]) W) (a₁ x) W)
    (hdone : ∀ (D : Nat) (W : World), w.heap.size ≤ D → I (t.pre 0) W → W.heap[D]? = some (.deferred (some [])) → Q .normal { a with defers := { target := .collected D, args := #[] } :: a.defers } W)
    (hstop : ∀ (D : Nat) (c : Code) (p : List (Nat × LT)) (W : World), w.heap.size ≤ D → p <+: t.pre 0 → Ix c p W → W.heap[D]? = some (.deferred (some [])) → c.wpIn Fence.wide n Tryd.prog Q { a with defers := { target := .collected D, args := #[] } :: a.defers } W) :
    (Code.rangeFunc g ps assign body).wpIn Fence.wide n Tryd.prog Q a w := by
  refine wpIn_rangeFunc fun fn hfn => ?_
  have hW := And.intro (World.alloc_heap_new w (.deferred (some []))) (World.alloc_heap_new (w.alloc (.deferred (some []))) (.loop (recOf fn a ps assign body w.heap.size .ready none)))
  have hs1 : ((w.alloc (.deferred (some []))).alloc (.loop (recOf fn a ps assign body w.heap.size .ready none))).heap.size = w.heap.size + 2 := by simp
  have hb1 : Below w.heap.size w ((w.alloc (.deferred (some []))).alloc (.loop (recOf fn a ps assign body w.heap.size .ready none))) := ((Below.refl _ w).alloc (Nat.le_refl _) _).alloc (by simp) _
  have hK1 : ((w.alloc (.deferred (some []))).alloc (.loop (recOf fn a ps assign body w.heap.size .ready none))).heap[w.heap.size]? = some (.deferred (some [])) := (Below.heap_alloc _ _ _ (by simp)).trans hW.1
  have hL1 : ((w.alloc (.deferred (some []))).alloc (.loop (recOf fn a ps assign body w.heap.size .ready none))).heap[w.heap.size + 1]? = some (.loop (recOf fn a ps assign body w.heap.size .ready none)) := by
    have := hW.2
    rwa [World.size_alloc] at this
  refine ⟨w.heap.size + 1, [{ target := .collected w.heap.size, args := #[] }], (w.alloc (.deferred (some []))).alloc (.loop (recOf fn a ps assign body w.heap.size .ready none)), { target := .fn (.func 86) #[.pointer (some ⟨Bx, 0, none⟩)], args := #[.func (.yield (w.heap.size + 1)) #[] #[]] },
    (w.alloc (.deferred (some []))).alloc (.loop (recOf fn a ps assign body w.heap.size .ready none)), 86, #[.func (.yield (w.heap.size + 1)) #[] #[], .pointer (some ⟨Bx, 0, none⟩)], (w.alloc (.deferred (some []))).alloc (.loop (recOf fn a ps assign body w.heap.size .ready none)), ?_, ?_, ?_, ?_, fun _ => h1, ?_⟩
  · exact run_enterLoop_outer _ _ _ _ _
  · simp only [resolve, hg]
    simp [go_sem]
  · intro f' _; trivial
  · have eg := enters_of Tryd.func86 (by kernel_rfl) rfl
    simp [invoke, go_sem, eg]
  · generalize (w.alloc (.deferred (some []))).alloc (.loop (recOf fn a ps assign body w.heap.size .ready none)) = W1 at *
    refine (walk1 (n - 1) (w.heap.size + 1) n₀ Bx t (fun pre W => I pre W ∧ W.heap[w.heap.size + 1]? = some (.loop (recOf fn a ps assign body w.heap.size .ready none)) ∧ W.heap[w.heap.size]? = some (.deferred (some [])))
      (fun pre W => ∃ c, Ix c pre W ∧ W.heap[w.heap.size + 1]? = some (.loop (recOf fn a ps assign body w.heap.size .done (some c))) ∧ W.heap[w.heap.size]? = some (.deferred (some []))) W1 hz (by omega) (hIn.behind (hb1.mono hn0)) (hBox.behind hb1) ?_ ?_ ⟨hI _ _ _ h0 hb1, hL1, hK1⟩).mono ?_
    · intro s A B ⟨hs, hl, hk⟩ hb
      exact ⟨hI s A B hs (hb.mono (by omega)), (hb.block _ (by omega)).trans hl, (hb.block _ (by omega)).trans hk⟩
    · intro pre x W ⟨hi, hl, hk⟩ hlen
      have hlt : w.heap.size + 1 < W.heap.size := (Array.getElem?_eq_some_iff.1 hl).1
      have hy := run_yield (P := Tryd.prog) (args := encs x) hl (by show 2 = ps.size; omega)
      refine ⟨fn, _, assign, body, hy, roundIn_of_wpIn hfn (hassign _ x W _ ⟨_, run_beginRound hl rfl, ?_⟩)⟩
      have hput := below_put W (.loop { recOf fn a ps assign body w.heap.size .ready none with state := .busy }) (Nat.le_succ w.heap.size)
      have hl2 : (W.putObj (w.heap.size + 1) (.loop { recOf fn a ps assign body w.heap.size .ready none with state := .busy })).heap[w.heap.size + 1]? = some (.loop { recOf fn a ps assign body w.heap.size .ready none with state := .busy }) := World.putObj_heap_same hlt
      have hk2 : (W.putObj (w.heap.size + 1) (.loop { recOf fn a ps assign body w.heap.size .ready none with state := .busy })).heap[w.heap.size]? = some (.deferred (some [])) := (World.putObj_heap_other (by omega)).trans hk
      have hm2 := mid_put (n₀ := n₀) (B := W1.heap.size) W (.loop { recOf fn a ps assign body w.heap.size .ready none with state := .busy }) (l := w.heap.size + 1) (by omega) (by omega)
      refine wpIn_mono (hbody _ pre x _ (hI _ _ _ hi hput) hlen) ?_
      have hs2 : w.heap.size + 1 < (W.putObj (w.heap.size + 1) (.loop { recOf fn a ps assign body w.heap.size .ready none with state := .busy })).heap.size := by simp; omega
      generalize W.putObj (w.heap.size + 1) (.loop { recOf fn a ps assign body w.heap.size .ready none with state := .busy }) = W2 at *
      have fin : ∀ (jump : Option Code) (W3 : World), Mid n₀ w.heap.size W2 W3 → ∃ W4, (Instr.endRound (w.heap.size + 1) jump).run Tryd.prog W3 = .ok (.bool jump.isNone) W4 ∧ Below w.heap.size W3 W4 ∧ Mid n₀ W1.heap.size W W4 ∧
          W4.heap[w.heap.size + 1]? = some (.loop (recOf fn a ps assign body w.heap.size (if jump.isNone then .ready else .done) jump)) ∧ W4.heap[w.heap.size]? = some (.deferred (some [])) := fun jump W3 hm3 => by
        have hl3 := (hm3.block _ hs2 (.inr (by omega))).trans hl2
        have hk3 := (hm3.block w.heap.size (by omega) (.inr (Nat.le_refl _))).trans hk2
        have hs3 : w.heap.size + 1 < W3.heap.size := Nat.lt_of_lt_of_le hs2 hm3.size
        exact ⟨_, run_endRound (P := Tryd.prog) jump hl3, below_put _ _ (by omega), (hm2.trans (hm3.wider (by omega))).trans (mid_put _ _ (by omega) (by omega)), World.putObj_heap_same hs3, (World.putObj_heap_other (by omega)).trans hk3⟩
      rintro e a3 W3 hp
      cases e with
      | normal =>
        obtain ⟨W4, r4, b4, m4, l4, k4⟩ := fin none W3 hp.1
        exact ⟨_, W4, r4, .inl ⟨rfl, ⟨hI _ _ _ hp.2 b4, l4, k4⟩, m4⟩⟩
      | ret =>
        obtain ⟨W4, r4, b4, m4, l4, k4⟩ := fin (some .ret) W3 hp.1
        exact ⟨_, W4, r4, .inr ⟨rfl, _, hIx _ _ _ _ hp.2 b4, l4, k4⟩⟩
      | exit id =>
        obtain ⟨W4, r4, b4, m4, l4, k4⟩ := fin (some (.exit id)) W3 hp.1
        exact ⟨_, W4, r4, .inr ⟨rfl, _, hIx _ _ _ _ hp.2 b4, l4, k4⟩⟩
      | goto c =>
        obtain ⟨W4, r4, b4, m4, l4, k4⟩ := fin (some (.goto c)) W3 hp.1
        exact ⟨_, W4, r4, .inr ⟨rfl, _, hIx _ _ _ _ hp.2 b4, l4, k4⟩⟩
      | panic ch => exact hp.elim
      | outgrown => exact hp.elim
    · rintro e W2 ⟨⟨v, rfl⟩, (⟨xs, rfl, hi, hl, hk⟩ | ⟨p, hp, c, hi, hl, hk⟩)⟩
      · exact ⟨none, _, run_endLoop (P := Tryd.prog) hl (by simp [recOf]), hdone _ _ (Nat.le_refl _) (hI _ _ _ hi (below_put _ _ (by omega))) ((World.putObj_heap_other (by omega)).trans hk)⟩
      · exact ⟨some c, _, run_endLoop (P := Tryd.prog) hl (by simp [recOf]), hstop _ c p _ (Nat.le_refl _) hp (hIx _ _ _ _ hi (below_put _ _ (by omega))) ((World.putObj_heap_other (by omega)).trans hk)⟩

end Go.Proofs.YtnaghafmpncdkaaDoor.val
/-
  impl.walk hands out its iterator; impl.sizeOk answers, whatever the value.
-/
namespace Go.Proofs.YtnaghafmpncdkaaDoor.val
open Go.ChangeShapes Go.WideShapes Go.ChangeAt Go.RowKit
set_option maxRecDepth 100000
attribute [local go_sem] Oper.semAt_some

theorem walk_any (w : World) (t : LT) : Calls Tryd.prog 62 #[.agg #[.int .i64 t.k, .int .i64 t.n, .int .i64 t.e, .string t.s, t.row]] w fun e w' =>
    e = .returned (.func (.func 86) #[] #[.pointer (some ⟨w.heap.size, 0, none⟩)]) ∧ w' = w.alloc (.cells #[.int .i64 t.k, .int .i64 t.n, .int .i64 t.e, .string t.s, t.row] 24) := by
  go_enter Tryd.func62, Tryd.ntmps62
  go_wp2
  go_ret
  exact ⟨rfl, rfl⟩

theorem mid_set {n₀ B b o : Nat} (W : World) (v : Value) (h0 : n₀ ≤ b) (hB : b < B) : Mid n₀ B W (W.setCell ⟨b, o, none⟩ v) := ⟨rfl, rfl, rfl, by rw [set_size]; exact Nat.le_refl _, fun k _ hk => blk_other v (by omega)⟩
/-- One cell in a block of its own. -/
def One (W : World) (b : Nat) (T : TypeId) (v : Value) : Prop := W.heap[b]? = some (.cells #[v] T (0, 0))
theorem One.cell {W : World} {b : Nat} {T : TypeId} {v : Value} (h : One W b T v) : W.cell? ⟨b, 0, none⟩ = some v := cell_of_row W b 0 _ _ (0, 0) h
theorem One.frozen {W : World} {b : Nat} {T : TypeId} {v : Value} (h : One W b T v) : W.frozen? ⟨b, 0, none⟩ = false := frozen_of_row W b 0 _ _ h
theorem One.set {W : World} {b : Nat} {T : TypeId} {v : Value} (h : One W b T v) (u : Value) : One (W.setCell ⟨b, 0, none⟩ u) b T u := by
  have := blk_set (o := 0) h u
  unfold One
  simpa using this
theorem One.other {W : World} {b b' : Nat} {T : TypeId} {v : Value} (h : One W b T v) (u : Value) (hb : b ≠ b') : One (W.setCell ⟨b', 0, none⟩ u) b T v := (blk_other u hb).trans h
theorem One.below {W W' : World} {b B : Nat} {T : TypeId} {v : Value} (h : One W b T v) (hb : Below B W W') (hB : b < B) : One W' b T v := (hb.block b hB).trans h
/-- What sizeOk keeps between two rounds. -/
structure SizeInv (w W : World) : Prop where
  many : ∃ m : Int, One W (w.heap.size + 1 + 1) 3 (.int .i64 m)
  res : ∃ b : Bool, One W (w.heap.size + 1) 4 (.bool b)
  below : Below w.heap.size w W
  size : w.heap.size + 2 < W.heap.size
theorem SizeInv.kept {w W W' : World} {B : Nat} (h : SizeInv w W) (hb : Below B W W') (hB : w.heap.size + 4 ≤ B) : SizeInv w W' := by
  obtain ⟨⟨m, hm⟩, ⟨b, hr⟩, h3, h4⟩ := h
  exact ⟨⟨m, hm.below hb (by omega)⟩, ⟨b, hr.below hb (by omega)⟩, h3.trans (hb.mono (by omega)), Nat.lt_of_lt_of_le h4 hb.size⟩
theorem SizeInv.many' {w W : World} (h : SizeInv w W) (m : Int) : SizeInv w (W.setCell ⟨w.heap.size + 1 + 1, 0, none⟩ (.int .i64 m)) := by
  obtain ⟨⟨m0, hm⟩, ⟨b, hr⟩, h3, h4⟩ := h
  exact ⟨⟨m, hm.set _⟩, ⟨b, hr.other _ (by omega)⟩, h3.setCell (p := ⟨w.heap.size + 1 + 1, 0, none⟩) (by show w.heap.size ≤ w.heap.size + 1 + 1; omega) _, by rw [set_size]; exact h4⟩
theorem SizeInv.res' {w W : World} (h : SizeInv w W) (b : Bool) : SizeInv w (W.setCell ⟨w.heap.size + 1, 0, none⟩ (.bool b)) := by
  obtain ⟨⟨m0, hm⟩, ⟨b0, hr⟩, h3, h4⟩ := h
  exact ⟨⟨m0, hm.other _ (by omega)⟩, ⟨b, hr.set _⟩, h3.setCell (p := ⟨w.heap.size + 1, 0, none⟩) (by show w.heap.size ≤ w.heap.size + 1; omega) _, by rw [set_size]; exact h4⟩

set_option maxHeartbeats 2000000 in
theorem size_any (w : World) (t : LT) (h : In w w.heap.size t) (hz : t.nodes ≤ 2000000) :
    Calls Tryd.prog 84 #[.agg #[.int .i64 t.k, .int .i64 t.n, .int .i64 t.e, .string t.s, t.row]] w fun e w' => ∃ b : Bool, e = .returned (.bool b) ∧ Below w.heap.size w w' := by
  refine (callsIn_wide (n := 4)).1 ?_
  refine callsIn_of_wp_marks Tryd.func84 rfl trivial ?_ rfl
  simp only [Tryd.ntmps84, List.size_toArray, List.length_cons, List.length_nil, Nat.reduceAdd, Nat.reduceSub, Array.replicate_succ, Array.replicate_zero, List.push_toArray, List.append_toArray, List.nil_append, List.cons_append]
  have HIn := Lib.hid h
  clear h
  gi_wp2_with (refine ⟨trivial, ?_⟩; gi_at_call 62; refine (callsIn_wide.2 (walk_any _ t)).mono ?_; rintro e w' ⟨rfl, rfl⟩)
  obtain ⟨W0, hW0⟩ : ∃ W0, (((w.alloc (.cells #[.int .i64 t.k, .int .i64 t.n, .int .i64 t.e, .string t.s, t.row] 24)).alloc (.cells #[.bool false] 4)).alloc (.cells #[.int .i64 0] 3)).alloc (.cells #[.int .i64 t.k, .int .i64 t.n, .int .i64 t.e, .string t.s, t.row] 24) = W0 := ⟨_, rfl⟩
  have hs0 : W0.heap.size = w.heap.size + 4 := by rw [← hW0]; simp
  have hb0 : Below w.heap.size w W0 := by rw [← hW0]; exact ((((Below.refl _ _).alloc (Nat.le_refl _) _).alloc (by simp) _).alloc (by simp; omega) _).alloc (by simp; omega) _
  have hx0 : Box W0 (w.heap.size + 1 + 1 + 1) t := by
    have := Box.new (((w.alloc (.cells #[.int .i64 t.k, .int .i64 t.n, .int .i64 t.e, .string t.s, t.row] 24)).alloc (.cells #[.bool false] 4)).alloc (.cells #[.int .i64 0] 3)) t 24
    rw [hW0] at this
    simpa using this
  have hr0 : One W0 (w.heap.size + 1) 4 (.bool false) := by
    have := heap_alloc_new (w.alloc (.cells #[.int .i64 t.k, .int .i64 t.n, .int .i64 t.e, .string t.s, t.row] 24)) (.cells #[.bool false] 4)
    rw [← hW0]
    unfold One
    rw [Below.heap_alloc _ _ _ (by simp), Below.heap_alloc _ _ _ (by simp)]
    simpa using this
  have hm0 : One W0 (w.heap.size + 1 + 1) 3 (.int .i64 0) := by
    have := heap_alloc_new ((w.alloc (.cells #[.int .i64 t.k, .int .i64 t.n, .int .i64 t.e, .string t.s, t.row] 24)).alloc (.cells #[.bool false] 4)) (.cells #[.int .i64 0] 3)
    rw [← hW0]
    unfold One
    rw [Below.heap_alloc _ _ _ (by simp)]
    simpa using this
  rw [hW0]
  clear hW0
  have HS : SizeInv w W0 := ⟨⟨_, hm0⟩, ⟨_, hr0⟩, hb0, by omega⟩
  refine range_walk (by decide) (Bx := w.heap.size + 1 + 1 + 1) (n₀ := w.heap.size) (t := t) rfl hz (by omega) (HIn.out.behind hb0) hx0 rfl (fun _ W => SizeInv w W) (fun c _ W => c = .ret ∧ SizeInv w W)
    (fun _ A B hs hb => hs.kept hb (by omega)) (fun _ _ A B hs hb => ⟨hs.1, hs.2.kept hb (by omega)⟩) HS
    (fun x => { tmps := #[.agg #[.int .i64 t.k, .int .i64 t.n, .int .i64 t.e, .string t.s, t.row], .pointer (some ⟨w.heap.size, 0, none⟩), .pointer (some ⟨w.heap.size + 1, 0, none⟩), .pointer (some ⟨w.heap.size + 1 + 1, 0, none⟩), .int .i64 (x.1 : Nat), .agg #[.int .i64 t.k, .int .i64 t.n, .int .i64 t.e, .string t.s, t.row], .func (.func 86) #[] #[.pointer (some ⟨w.heap.size + 1 + 1 + 1, 0, none⟩)], .int .i64 (x.1 : Nat), .agg #[.int .i64 x.2.k, .int .i64 x.2.n, .int .i64 x.2.e, .string x.2.s, x.2.row], undef, undef, undef, undef, undef, undef, undef, undef], defers := [] }) ?assign ?body ?done ?stop
  case assign =>
    intro l x W K hK
    simp only [encs]
    gi_wp2
    exact hK
  case body =>
    intro l pre x W hI _
    obtain ⟨m, hm⟩ := hI.many
    obtain ⟨b, hr⟩ := hI.res
    have k1 := hm.cell
    have k2 := hm.frozen
    have k3 := hr.cell
    have k4 := hr.frozen
    have HI := Lib.hid hI
    have M1 : Hid (∀ (W : World) (v : Value), Mid w.heap.size W0.heap.size W (W.setCell ⟨w.heap.size + 1, 0, none⟩ v)) := fun W v => mid_set W v (by omega) (by omega)
    have M2 : Hid (∀ (W : World) (v : Value), Mid w.heap.size W0.heap.size W (W.setCell ⟨w.heap.size + 1 + 1, 0, none⟩ v)) := fun W v => mid_set W v (by omega) (by omega)
    clear hm hr hI hs0 HS hm0 hr0 hx0 hb0 hz
    gi_wp2
    all_goals first
      | exact ⟨(M2.out _ _).trans (M1.out _ _), rfl, (HI.out.many' _).res' _⟩
      | exact ⟨M2.out _ _, HI.out.many' _⟩
  case done =>
    intro D W hD hI hK
    obtain ⟨b, hr⟩ := hI.res
    have k3 := hr.cell
    have k4 := hr.frozen
    have hK2 : (W.setCell ⟨w.heap.size + 1, 0, none⟩ (.bool true)).heap[D]? = some (.deferred (some [])) := (blk_other _ (by omega)).trans hK
    have hrs : One ((W.setCell ⟨w.heap.size + 1, 0, none⟩ (.bool true)).putObj D (.deferred none)) (w.heap.size + 1) 4 (.bool true) := (World.putObj_heap_other (by omega)).trans (hr.set _)
    have HBL : Hid (Below w.heap.size w ((W.setCell ⟨w.heap.size + 1, 0, none⟩ (.bool true)).putObj D (.deferred none))) := (hI.res' true).below.trans (below_put _ _ (by omega))
    have k5 := hrs.cell
    clear hs0 HS hm0 hr0 hx0 hb0 hz hr hI hD
    gi_wp2
    refine ⟨by simp, .inl ⟨_, _, rfl, run_takeDeferred hK2, ?_⟩⟩
    exact ⟨.bool true, by simp [results, Tryd.results84, go_sem, k5], true, rfl, HBL.out⟩
  case stop =>
    rintro D c p W hD hp ⟨rfl, hI⟩ hK
    obtain ⟨b, hr⟩ := hI.res
    have hrs : One (W.putObj D (.deferred none)) (w.heap.size + 1) 4 (.bool b) := (World.putObj_heap_other (by omega)).trans hr
    have HBL : Hid (Below w.heap.size w (W.putObj D (.deferred none))) := hI.below.trans (below_put _ _ (by omega))
    have k5 := hrs.cell
    clear hs0 HS hm0 hr0 hx0 hb0 hz hr hI hD
    gi_wp2
    refine ⟨by simp, .inl ⟨_, _, rfl, run_takeDeferred hK, ?_⟩⟩
    exact ⟨.bool b, by simp [results, Tryd.results84, go_sem, k5], b, rfl, HBL.out⟩

end Go.Proofs.YtnaghafmpncdkaaDoor.val
/-
  What impl.Nodes returns where impl.finite hands its value back: how many nodes the value has.
-/
namespace Go.Proofs.YtnaghafmpncdkaaDoor.val
open Go.ChangeShapes Go.WideShapes Go.ChangeAt Go.RowKit
set_option maxRecDepth 100000
attribute [local go_sem] Oper.semAt_some

/-- The value's lists lie in whole blocks that the call has made. -/
def Mine (w : World) (t : LT) : Prop := ∃ lo, Own w lo w.heap.size t
theorem Mine.isIn {w : World} {t : LT} (h : Mine w t) : In w w.heap.size t := by obtain ⟨lo, h⟩ := h; exact h.isIn
theorem Mine.behind {w w' : World} {t : LT} (h : Mine w t) (hb : Below w.heap.size w w') : Mine w' t := by obtain ⟨lo, h⟩ := h; exact ⟨lo, h.kept (Nat.le_refl _) hb.size fun b _ h => hb.block b h⟩
theorem Own.mine {w : World} {lo hi : Nat} {t : LT} (h : Own w lo hi t) (hh : hi ≤ w.heap.size) : Mine w t := ⟨lo, h.kept (Nat.le_refl _) hh fun _ _ _ => rfl⟩
/-- impl.finite hands its value back. -/
def FinC : Prop := ∀ (w : World) (t : LT), Mine w t → t.nodes ≤ 2000000 → Calls Tryd.prog 72 #[.agg #[.int .i64 t.k, .int .i64 t.n, .int .i64 t.e, .string t.s, t.row]] w fun e w' => e = .returned (.agg #[.int .i64 t.k, .int .i64 t.n, .int .i64 t.e, .string t.s, t.row]) ∧ Below w.heap.size w w'
theorem FinC.run (h : FinC) {w w' : World} {t : LT} (hI : Mine w t) (hz : t.nodes ≤ 2000000) (hb : Below w.heap.size w w') : CallsIn Fence.wide 3 Tryd.prog 72 #[.agg #[.int .i64 t.k, .int .i64 t.n, .int .i64 t.e, .string t.s, t.row]] w' fun e w'' => e = .returned (.agg #[.int .i64 t.k, .int .i64 t.n, .int .i64 t.e, .string t.s, t.row]) ∧ Below w'.heap.size w' w'' :=
  callsIn_wide.2 (h w' t (hI.behind hb) hz)
structure CountInv (w W : World) (B : Nat) (m : Nat) : Prop where
  many : One W (w.heap.size + 1) 3 (.int .i64 (m : Int))
  below : Below w.heap.size w W
  size : B ≤ W.heap.size
theorem CountInv.kept {w W W' : World} {B B' m : Nat} (h : CountInv w W B m) (hb : Below B' W W') (hB : w.heap.size + 2 ≤ B') : CountInv w W' B m := ⟨h.many.below hb (by omega), h.below.trans (hb.mono (by omega)), Nat.le_trans h.size hb.size⟩
theorem CountInv.more {w W : World} {B m : Nat} (h : CountInv w W B m) (k : Nat) : CountInv w (W.setCell ⟨w.heap.size + 1, 0, none⟩ (.int .i64 (k : Int))) B k :=
  ⟨h.many.set _, h.below.setCell (p := ⟨w.heap.size + 1, 0, none⟩) (by show w.heap.size ≤ w.heap.size + 1; omega) _, by rw [set_size]; exact h.size⟩

end Go.Proofs.YtnaghafmpncdkaaDoor.val
/-
  What impl.Deep returns where impl.finite hands its value back: the greatest level that the walk meets.
-/
namespace Go.Proofs.YtnaghafmpncdkaaDoor.val
open Go.ChangeShapes Go.WideShapes Go.ChangeAt Go.RowKit
set_option maxRecDepth 100000
attribute [local go_sem] Oper.semAt_some

/-- The greatest level of what was met. -/
def topOf (pre : List (Nat × LT)) : Nat := pre.foldl (fun m x => max m x.1) 0
theorem topOf_snoc (pre : List (Nat × LT)) (x : Nat × LT) : topOf (pre ++ [x]) = max (topOf pre) x.1 := by simp [topOf]

end Go.Proofs.YtnaghafmpncdkaaDoor.val
