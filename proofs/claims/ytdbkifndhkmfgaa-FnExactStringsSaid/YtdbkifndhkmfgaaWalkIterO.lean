/-
  The iterator that impl.walk hands out, for loop bodies that may also write into new blocks of their own: O tells the blocks that the body owns.
-/
import Derived.Test.YtdbkifndhkmfgaaRangeBox
namespace Go.Proofs.Ytdbkifndhkmfgaa.val
open Go.ChangeShapes Go.WideShapes Go.ChangeAt Go.RowKit
set_option maxRecDepth 100000
attribute [local go_sem] Oper.semAt_some

/-- Outside of n₀ .. B all is kept but the blocks of O; the blocks of O' are blocks of O or new. -/
structure MidO (n₀ B : Nat) (O O' : Nat → Prop) (w w' : World) : Prop where
  os : w'.os = w.os
  tape : w'.tape = w.tape
  output : w'.output = w.output
  size : w.heap.size ≤ w'.heap.size
  block : ∀ k, k < w.heap.size → (k < n₀ ∨ B ≤ k) → ¬ O k → w'.heap[k]? = w.heap[k]?
  grow : ∀ k, O' k → O k ∨ w.heap.size ≤ k
theorem MidO.below {n₀ B : Nat} {O O' : Nat → Prop} {w w' : World} (h : MidO n₀ B O O' w w') (hn : n₀ ≤ w.heap.size) (hO : ∀ k, O k → n₀ ≤ k) : Below n₀ w w' := ⟨h.os, h.tape, h.output, h.size, fun k hk => h.block k (by omega) (.inl hk) (fun ho => by have := hO k ho; omega)⟩
theorem own_midO {α : Type} {w w' : World} {n₀ B base : Nat} {O O' : Nat → Prop} {e : TypeId} {enc : α → Value} {v : Value} {l : List α} (h : OwnL w base e enc v l) (hm : MidO n₀ B O O' w w') (hB : B ≤ base) (hO : ∀ k, v.ownBlock = some k → ¬ O k) : OwnL w' base e enc v l := by
  obtain ⟨h1, h2⟩ := h
  refine ⟨h1, ?_⟩
  rcases h2 with h2 | ⟨g, cap, cur, rfl, hb, hg, rest⟩
  · exact .inl h2
  · refine .inr ⟨g, cap, cur, rfl, hb, ?_, rest⟩
    rw [hm.block g (Array.getElem?_eq_some_iff.1 hg).1 (.inr (by omega)) (hO g rfl)]
    exact hg

/-- append within a fence; the block is the old one or a new one. -/
theorem wpListIn_append_at {F : Fence} {n : Nat} {P : Program} (w : World) {ops : Array Oper} {rest : List Oper} {o : Oper} {a : Act} {Q : Exit → Act → World → Prop}
    (hg : o.guard = none) (s x : Operand) (t : TypeId) (hop : o.op = Op.call { callee := Callee.builtin Builtin.append, args := #[s, x], argTypes := #[t, t] })
    (base : Nat) (e : TypeId) (i : TypeInfo) (z : Value) (size bytes : Nat) (h1 : P.underlying t = some (.slice e)) (h2 : P.info? e = some i) (h3 : i.zero = some z) (h4 : i.size = size) (h5 : i.bytes = bytes) (h6 : z.cells.size = size) (h7 : 0 < size)
    (v : Value) (k : Nat) (xs : List Value) (hs : a.eval s = v) (hown : w.ownsRow base e size v k xs) (ad : Addr) (m c : Nat) (news : List Value) (hx : a.eval x = .slice (some ad) m c) (hn : news.length = m * size)
    (hc : ∀ j u, news[j]? = some u → w.cell? (ad.add j) = some u) (h1c : ∀ u ∈ news, u.oneCell' = true) (b1 : k + m ≤ maxLen) (b2 : (k + m) * bytes ≤ 140737488355328) (b3 : base ≤ w.heap.size)
    (hK : ∀ v' w', w'.ownsRow base e size v' (k + m) (xs ++ news) → w.grownBy w' v.ownBlock → (v'.ownBlock = v.ownBlock ∨ v'.ownBlock = some w.heap.size) → wpListIn F n P ops Q rest (a.put o.dst v') w') :
    wpListIn F n P ops Q (o :: rest) a w := by
  refine wpListIn_plain hg fun K hK' => ?_
  obtain ⟨v', w', hrun, r1, r2, _, r4⟩ := run_append_own_at (P := P) w base t o.type e i z size bytes h1 h2 h3 h4 h5 h6 h7 v k xs hown ad m c news hn hc h1c b1 b2 b3
  unfold Oper.wpIn
  refine ⟨?_, ?_⟩
  · simp [Oper.about, hop, resolve, Target.leads, Sem.run_pure]
  · rw [Oper.semAt_plain F _ _ (by rw [hop]; intro c hc'; cases hc')]
    simp [execOp, hop, resolve, invoke, builtin, hs, hx, hrun, Result.andThen]
    exact hK' _ _ (hK v' w' r1 r2 r4)

abbrev JO := List (Nat × LT) → (Nat → Prop) → World → Prop
/-- What holds between two steps of the iterator: the body's blocks are none of the iterator's. -/
structure WalkRelO (W wr : World) (n₀ : Nat) (t : LT) (J : JO) (v : Value) (done : List (Nat × LT)) (st : List Seg) (O : Nat → Prop) : Prop where
  rel : WalkRel W wr n₀ t (fun d w => J d O w) v done st
  far : ∀ k, O k → k ≠ W.heap.size ∧ v.ownBlock ≠ some k
def WalkAtO (W wr : World) (n₀ : Nat) (t : LT) (J : JO) (v : Value) (k : Nat) : Prop := ∃ done st O, WalkRelO W wr n₀ t J v done st O ∧ k = 2 * (rem st).length + st.length
theorem WalkAtO.least {W wr : World} {n₀ : Nat} {t : LT} {J : JO} {v : Value} (h : ∃ k, WalkAtO W wr n₀ t J v k) : ∃ done st O, WalkRelO W wr n₀ t J v done st O ∧ leastOf (WalkAtO W wr n₀ t J v) = 2 * (rem st).length + st.length := (leastOf_spec h).1
theorem WalkAtO.less {W wr' : World} {n₀ : Nat} {t : LT} {J : JO} {v' : Value} {done : List (Nat × LT)} {st : List Seg} {O : Nat → Prop} {k : Nat} (h : WalkRelO W wr' n₀ t J v' done st O) (hk : 2 * (rem st).length + st.length < k) : leastOf (WalkAtO W wr' n₀ t J v') < k :=
  Nat.lt_of_le_of_lt ((leastOf_spec ⟨_, done, st, O, h, rfl⟩).2 _ ⟨done, st, O, h, rfl⟩) hk
theorem WalkRelO.pop {W wr : World} {n₀ : Nat} {t : LT} {J : JO} {g c : Nat} {done : List (Nat × LT)} {a : Option Addr} {cap : Nat} {rest : List Seg} {m : Nat} {O : Nat → Prop} (h : WalkRelO W wr n₀ t J (.slice (some ⟨g, 0, none⟩) m c) done (⟨a, cap, []⟩ :: rest) O) :
    WalkRelO W wr n₀ t J (.slice (some ⟨g, 0, none⟩) rest.length c) done rest O := ⟨h.rel.pop, h.far⟩
theorem ahead_kept {wr : World} {g j k : Nat} (v : Value) (o : Obj) (hk : k ≠ g) (hlt : k < wr.heap.size) : ((wr.setCell ⟨g, j, none⟩ v).alloc o).heap[k]? = wr.heap[k]? := by
  rw [Below.heap_alloc _ _ _ (by rw [set_size]; omega), blk_other _ (by omega)]

theorem push_endO {W wr w1 W2 w3 : World} {n₀ : Nat} {t : LT} {J : JO} {g c : Nat} {done : List (Nat × LT)} {p : Addr} {cap : Nat} {x : LT} {ts : List LT} {rest : List Seg} {nseg : Seg} {v' : Value} {o : Obj} {O O' : Nat → Prop} (hn : n₀ ≤ W.heap.size)
    (R : WalkRelO W wr n₀ t J (.slice (some ⟨g, 0, none⟩) (rest.length + 1) c) done (⟨some p, cap, x :: ts⟩ :: rest) O) (hts : nseg.ts = ts) (A : Ahead W wr w1 n₀ g c rest nseg x) (hm : MidO n₀ W.heap.size O O' w1 W2) (hJ2 : J (done ++ [(rest.length, x)]) O' W2)
    (hJ : ∀ s O A B, J s O A → Below W.heap.size A B → (∀ k, O k → B.heap[k]? = A.heap[k]?) → J s O B) (hOn : ∀ k, O k → n₀ ≤ k) (hO : ∀ k, O' k → n₀ ≤ k ∧ k < W2.heap.size) (hz : W.heap.size + 1 ≤ W2.heap.size)
    (ho : w3.ownsRow (W.heap.size + 1) 34 1 v' ((nseg :: rest).reverse.length + 1) ((nseg :: rest).reverse.map Seg.enc ++ [Seg.enc ⟨x.a, x.cap, x.kids⟩]))
    (hg : (W2.alloc o).grownBy w3 (Value.slice (some ⟨g, 0, none⟩) (rest.length + 1) c).ownBlock) (O2 : OwnL W2 (W.heap.size + 1) 34 Seg.enc (.slice (some ⟨g, 0, none⟩) (rest.length + 1) c) (nseg :: rest).reverse)
    (hv : v'.ownBlock = (Value.slice (some ⟨g, 0, none⟩) (rest.length + 1) c).ownBlock ∨ v'.ownBlock = some (W2.alloc o).heap.size) :
    WalkRelO W w3 n₀ t J v' (done ++ [(rest.length, x)]) (⟨x.a, x.cap, x.kids⟩ :: nseg :: rest) O' := by
  have hgb : W.heap.size + 1 ≤ g := O2.base_le g rfl
  have hwz := R.rel.size
  have haz := A.below.size
  have hgl : g < w1.heap.size := (World.ownsRow.lt A.own g rfl).2
  have hgO : ¬ O' g := fun h => by
    rcases hm.grow g h with h | h
    · exact (R.far g h).2 rfl
    · omega
  have hWO : ¬ O' W.heap.size := fun h => by
    rcases hm.grow _ h with h | h
    · exact (R.far _ h).1 rfl
    · omega
  have hWO1 : ¬ O W.heap.size := fun h => (R.far _ h).1 rfl
  have hb3 : Below W.heap.size W2 w3 := ((Below.refl _ W2).alloc (by omega) o).grown hg (by simp; omega) (fun k hk => by simp [Value.ownBlock] at hk; omega)
  have hk3 : ∀ k, k ≠ g → k < W2.heap.size → w3.heap[k]? = W2.heap[k]? := fun k hk hl => by
    rw [hg.block _ (by simp; omega) (by simp [Value.ownBlock]; omega), Below.heap_alloc _ _ _ (by omega)]
  have hJ3 : J (done ++ [(rest.length, x)]) O' w3 := hJ _ _ _ _ hJ2 hb3 (fun k hk => hk3 k (fun e => hgO (e ▸ hk)) (hO k hk).2)
  have hm2 := hm.below (by omega) hOn
  have hW2 : W2.heap[W.heap.size]? = w1.heap[W.heap.size]? := hm.block _ (by omega) (.inr (Nat.le_refl _)) hWO1
  have hW3 : w3.heap[W.heap.size]? = W2.heap[W.heap.size]? := hk3 _ (by omega) (by omega)
  have ho' : OwnL w3 (W.heap.size + 1) 34 Seg.enc v' ((nseg :: rest).reverse ++ [⟨x.a, x.cap, x.kids⟩]) := by
    unfold OwnL
    rw [List.length_append, List.map_append]
    exact ho
  refine ⟨⟨by rw [List.reverse_cons]; exact ho', ?_, ?_, ?_, ?_, hJ3⟩, ?_⟩
  · intro s hs
    rcases List.mem_cons.1 hs with rfl | h
    · exact (seg_kids (g := W.heap.size) ((A.isIn.behind hm2).behind (hb3.mono hn)))
    · exact ((A.seg s h).kept hm2 hW2).kept (hb3.mono hn) hW3
  · obtain ⟨na, nc, nt⟩ := nseg
    simp only at hts
    subst hts
    rw [R.rel.eq, rem_step (b := na) (cap' := nc)]
    simp
  · have := R.rel.len
    simp only [List.length_cons, List.length_append, List.length_nil] at *
    omega
  · have := hm.size
    have := hb3.size
    omega
  · intro k hk
    refine ⟨fun e => hWO (e ▸ hk), fun e => ?_⟩
    have := (hO k hk).2
    rcases hv with hv | hv
    · rw [hv] at e
      have e2 : g = k := by simpa [Value.ownBlock] using e
      exact hgO (e2 ▸ hk)
    · rw [hv] at e
      injection e with e
      rw [World.size_alloc] at e
      omega

set_option maxHeartbeats 2000000 in
theorem walk1O (n : Nat) (l n₀ Bx : Nat) (t : LT) (J : JO) (Jx : List (Nat × LT) → World → Prop) (O0 : Nat → Prop) (W : World) (hz : t.nodes ≤ 2000000) (hn0 : n₀ ≤ W.heap.size) (hIn : In W n₀ t) (hBox : Box W Bx t)
    (hJ : ∀ s O A B, J s O A → Below W.heap.size A B → (∀ k, O k → B.heap[k]? = A.heap[k]?) → J s O B) (hO : ∀ s O A, J s O A → ∀ k, O k → n₀ ≤ k ∧ k < A.heap.size)
    (hY : ∀ pre x O W1, J pre O W1 → pre ++ [x] <+: t.pre 0 → YieldAt Fence.wide (n - 1) Try.prog l #[.int .i64 (x.1 : Nat), .agg #[.int .i64 x.2.k, .int .i64 x.2.n, .int .i64 x.2.e, .string x.2.s, x.2.row]] W1 fun e W' =>
      (e = .returned (.bool true) ∧ ∃ O', J (pre ++ [x]) O' W' ∧ MidO n₀ W.heap.size O O' W1 W') ∨ (e = .returned (.bool false) ∧ Jx (pre ++ [x]) W'))
    (h0 : J [] O0 W) :
    CallsIn Fence.wide n Try.prog 48 #[.func (.yield l) #[] #[], .pointer (some ⟨Bx, 0, none⟩)] W fun e W' => (∃ v, e = .returned v) ∧ ((∃ xs O, xs = t.pre 0 ∧ J xs O W') ∨ (∃ p, p <+: t.pre 0 ∧ Jx p W')) := by
  obtain ⟨i0, hi0, hz0, hz1, hz2⟩ := info_parts infoL
  have HJ := Lib.hid hJ
  have HO := Lib.hid hO
  have HY := Lib.hid hY
  have HIn := Lib.hid hIn
  have hlen := pre_len 0 t
  obtain ⟨q0, q1, q2, q3, q4⟩ := hBox
  clear hJ hY hIn hO
  refine callsIn_of_wp Try.func48 rfl trivial ?_ rfl
  simp only [Try.ntmps48, List.size_toArray, List.length_cons, List.length_nil, Nat.reduceAdd, Nat.reduceSub, Array.replicate_succ, Array.replicate_zero, List.push_toArray, List.append_toArray, List.nil_append, List.cons_append]
  have hIt := Lib.hid (seg_kids (g := W.heap.size) HIn.out)
  have HS : Hid (WalkRelO W ((W.alloc (.cells #[.int .i64 t.k, .int .i64 t.n, .int .i64 t.e, .string t.s, t.row] 36)).alloc (.cells #[.slice (some ⟨W.heap.size, 0, none⟩) 1 1] 34)) n₀ t J (.slice (some ⟨W.heap.size + 1, 0, none⟩) 1 1) [] [⟨some ⟨W.heap.size, 0, none⟩, 1, [t]⟩] O0) := by
    have hb : Below W.heap.size W ((W.alloc (.cells #[.int .i64 t.k, .int .i64 t.n, .int .i64 t.e, .string t.s, t.row] 36)).alloc (.cells #[.slice (some ⟨W.heap.size, 0, none⟩) 1 1] 34)) := ((Below.refl _ _).alloc (Nat.le_refl _) _).alloc (by simp) _
    have hx := (Box.new W t 36).of_block (w' := (W.alloc (.cells #[.int .i64 t.k, .int .i64 t.n, .int .i64 t.e, .string t.s, t.row] 36)).alloc (.cells #[.slice (some ⟨W.heap.size, 0, none⟩) 1 1] 34)) (Below.heap_alloc _ _ _ (by simp))
    refine ⟨⟨?_, ?_, by simp [rem, preL], by simp, by simp, HJ.out _ _ _ _ h0 hb fun k hk => hb.block k (HO.out _ _ _ h0 k hk).2⟩, fun k hk => ?_⟩
    · have hn := heap_alloc_new (W.alloc (.cells #[.int .i64 t.k, .int .i64 t.n, .int .i64 t.e, .string t.s, t.row] 36)) (.cells #[.slice (some ⟨W.heap.size, 0, none⟩) 1 1] 34)
      simp only [World.size_alloc] at hn
      exact OwnL.of_block (l := [(⟨some ⟨W.heap.size, 0, none⟩, 1, [t]⟩ : Seg)]) (W.heap.size + 1) _ (by omega) hn rfl (by simp [maxLen])
    · intro s hs
      obtain rfl := List.mem_singleton.1 hs
      refine ⟨fun i hi => ?_, fun i hi => ?_, by simp⟩
      · have : i = 0 := by simp at hi; omega
        subst this
        exact ⟨_, rfl, .inr rfl, ⟨hx.b0, hx.b1, hx.b2, hx.b3, hx.b4⟩⟩
      · have : i = 0 := by simp at hi; omega
        subst this
        exact HIn.out.behind (hb.mono hn0)
    · have := (HO.out _ _ _ h0 k hk).2
      exact ⟨by omega, fun e => by simp [Value.ownBlock] at e; omega⟩
  clear h0
  gi_wp2
  gi_loopw [3] (fun v wr => ∃ k, WalkAtO W wr n₀ t J v k) (fun v wr => leastOf (WalkAtO W wr n₀ t J v))
  case atStart => exact ⟨_, _, _, _, HS.out, rfl⟩
  case round =>
    clear HS q0 q1 q2 q3 q4
    obtain ⟨done, st, O, RO, hlk⟩ := WalkAtO.least hrel
    have R := RO.rel
    have HL := Lib.hid hlk
    clear hlk hrel
    have hwz := R.size
    cases st with
    | nil =>
      have hfin : done = t.pre 0 := by have := R.eq; simp [rem] at this; exact this.symm
      have HJd := Lib.hid R.inv
      obtain ⟨a, c, hv, _⟩ := R.own.shape
      subst hv
      clear R RO
      gi_wp2
      go_end0
      exact ⟨⟨_, rfl⟩, .inl ⟨done, O, hfin, HJd.out⟩⟩
    | cons s rest =>
      have hsl : (s :: rest).reverse.length = rest.length + 1 := by simp
      obtain ⟨a, c, hv, hc1, hc2, hg⟩ := R.own.shape
      obtain ⟨g, rfl, hgl, hgs⟩ := hg (by rw [hsl]; omega)
      rw [hsl] at hv hc1
      subst hv
      have hd := R.len
      have hq := congrArg List.length R.eq
      rw [hlen, List.length_append] at hq
      simp only [List.length_cons] at hd
      have hcell : wr.cell? ⟨g, rest.length, none⟩ = some s.enc := by
        have := R.own.cell rest.length (by rw [hsl]; omega)
        simpa using this
      have hfr : wr.frozen? ⟨g, rest.length, none⟩ = false := World.ownsRow.frozenAt (by have := R.own; unfold OwnL at this; rw [hsl] at this; exact this) _
      have hd0 : (0 : Int) ≤ (rest.length : Int) := by omega
      have hd1 : (rest.length : Int) < ((rest.length + 1 : Nat) : Int) := by omega
      have hrb : rest.length ≤ 2000000 := Nat.le_trans (Nat.le_of_succ_le_succ hd) (Nat.le_trans (by rw [hq]; exact Nat.le_add_right _ _) hz)
      have hwr := wrap_small rest.length hrb
      obtain ⟨sa, scap, ts⟩ := s
      cases ts with
      | nil =>
        have HR := Lib.hid RO.pop
        have hm : 2 * (rem rest).length + rest.length < leastOf (WalkAtO W wr n₀ t J (.slice (some ⟨g, 0, none⟩) (rest.length + 1) c)) := by rw [HL.out, rem_empty]; simp
        have HM := Lib.hid hm
        unfold Seg.enc at hcell
        simp only [List.length_nil] at hcell
        have hc1' : (rest.length : Int) ≤ (c : Int) := Int.ofNat_le.2 (Nat.le_of_succ_le hc1)
        clear R RO hm hq hz hn0 hlen hd hgl hgs hwz hc2 hsl hc1 hz2 hz1 hz0 hi0
        gi_wp2
        exact ⟨⟨_, _, _, _, HR.out, rfl⟩, WalkAtO.less HR.out HM.out⟩
      | cons x ts =>
        have hS := R.seg _ (List.mem_cons_self ..)
        obtain ⟨p, hp, hpb, h5⟩ := hS.at5 0 (by simp)
        simp only at hp
        subst hp
        have h5' : At5 wr p x := by
          have e : p.add (0 * 5) = p := by unfold Addr.add; simp
          rw [e] at h5
          exact h5
        obtain ⟨c0, c1, c2, c3, c4⟩ := h5'
        unfold LT.row at c4
        unfold Seg.enc at hcell
        simp only [List.length_cons] at hcell
        by_cases hs1 : scap = 1
        · subst hs1
          have HA := Lib.hid (R.ahead hn0 ⟨some p, 0, ts⟩ (seg_last hS).2)
          have hlt : done ++ [(rest.length, x)] <+: t.pre 0 := ⟨rem (⟨x.a, x.cap, x.kids⟩ :: ⟨none, 0, ts⟩ :: rest), by rw [R.eq, rem_step (b := none) (cap' := 0)]; simp⟩
          obtain ⟨fn, tmps, assign, body, hy, hRd⟩ := HY.out done (rest.length, x) O _ (HJ.out _ _ _ _ R.inv HA.out.below fun k hk => ahead_kept _ _ (fun e => (RO.far k hk).2 (by rw [e]; rfl)) (HO.out _ _ _ R.inv k hk).2) hlt
          have HRd := Lib.hid hRd
          unfold LT.row Seg.enc at hy
          simp only at hy
          have HRR := Lib.hid RO
          have HB1 := Lib.hid (And.intro hz (And.intro hn0 (And.intro hd (And.intro hwz hq))))
          have HI0 := Lib.hid (And.intro hi0 (And.intro hz0 (And.intro hz1 hz2)))
          have hts : (0 : Int) < ((ts.length + 1 : Nat) : Int) := Int.ofNat_lt.2 (Nat.succ_pos _)
          clear R RO hS h5 hq hz hn0 hlen hd hgl hwz hc2 hsl hc1 hz2 hz1 hz0 hi0 hpb hRd hlt
          gi_wp2
          refine ⟨fun h => (by cases h), HRd.out.mono ?_⟩
          rintro e W2 (⟨rfl, O', hJ2, hm2⟩ | ⟨rfl, hJx2⟩)
          · have hbx4 : W2.cell? ⟨wr.heap.size, 4, none⟩ = some (.slice x.a x.kids.length x.cap) := (HA.out.box.of_block (hm2.block _ HA.out.box.lt (.inr (Nat.le_trans (Nat.le_add_right _ 2) HB1.out.2.2.2.1)) (fun h => Nat.lt_irrefl _ (HO.out _ _ _ HRR.out.rel.inv _ h).2))).b4
            have O2 := Lib.hid (own_midO HA.out.own hm2 (Nat.le_succ _) (fun k hk h => (HRR.out.far k h).2 hk))
            have HM2 := Lib.hid hm2
            have HJ2 := Lib.hid hJ2
            have hz2' : W.heap.size + 1 ≤ W2.heap.size := Nat.le_trans (Nat.le_of_succ_le (Nat.le_trans HB1.out.2.2.2.1 HA.out.below.size)) HM2.out.size
            clear hm2 hJ2 hcell hfr c0 c1 c2 c3 c4 hy HRd
            have hk1 : ((⟨some p, 0, ts⟩ : Seg) :: rest).reverse.length + 1 ≤ maxLen := by rw [List.length_reverse, List.length_cons]; exact small_len hrb
            have hk2 : (((⟨some p, 0, ts⟩ : Seg) :: rest).reverse.length + 1) * 24 ≤ 140737488355328 := by rw [List.length_reverse, List.length_cons]; exact small_bytes hrb
            have hk3 : W.heap.size + 1 ≤ (W2.alloc (.cells #[.slice x.a x.kids.length x.cap] 34)).heap.size := by rw [World.size_alloc]; exact Nat.le_succ_of_le hz2'
            gi_wp2_with (gi_at_builtin; refine wpListIn_append_at _ rfl _ _ 75 rfl (W.heap.size + 1) 34 i0 (.slice none 0 0) 1 24 Try.underlying75 HI0.out.1 HI0.out.2.1 HI0.out.2.2.1 HI0.out.2.2.2 rfl (by decide) _ _ _ rfl (O2.out.alloc _) ⟨W2.heap.size, 0, none⟩ 1 1 [Seg.enc ⟨x.a, x.cap, x.kids⟩] rfl rfl (cell_one_new _ _ _) (by simp [Value.oneCell', Seg.enc]) hk1 hk2 hk3 ?_; intro v' w3 hown' hgrow hvb)
            have hR := push_endO HB1.out.2.1 HRR.out rfl HA.out HM2.out HJ2.out HJ.out (fun k hk => (HO.out _ _ _ HRR.out.rel.inv k hk).1) (HO.out _ _ _ HJ2.out) hz2' hown' hgrow O2.out hvb
            exact ⟨⟨_, _, _, _, hR, rfl⟩, WalkAtO.less hR (by rw [HL.out]; exact push_less x ts rest)⟩
          · have HP : Hid (done ++ [(rest.length, x)] <+: t.pre 0) := ⟨rem (⟨x.a, x.cap, x.kids⟩ :: ⟨none, 0, ts⟩ :: rest), by rw [HRR.out.rel.eq, rem_step (b := none) (cap' := 0)]; simp⟩
            have HJX := Lib.hid hJx2
            clear hJx2 hcell hfr c0 c1 c2 c3 c4 hy HRd
            gi_wp2
            refine bodyPost_ret (results_none rfl _ _ _) rfl ?_
            exact ⟨⟨_, rfl⟩, .inr ⟨_, HP.out, HJX.out⟩⟩
        · have hs2 : ¬ scap = 1 := hs1
          have HA := Lib.hid (R.ahead hn0 ⟨some ⟨p.block, p.off + 5, none⟩, scap - 1, ts⟩ (seg_tail hS))
          have hlt : done ++ [(rest.length, x)] <+: t.pre 0 := ⟨rem (⟨x.a, x.cap, x.kids⟩ :: ⟨none, 0, ts⟩ :: rest), by rw [R.eq, rem_step (b := none) (cap' := 0)]; simp⟩
          obtain ⟨fn, tmps, assign, body, hy, hRd⟩ := HY.out done (rest.length, x) O _ (HJ.out _ _ _ _ R.inv HA.out.below fun k hk => ahead_kept _ _ (fun e => (RO.far k hk).2 (by rw [e]; rfl)) (HO.out _ _ _ R.inv k hk).2) hlt
          have HRd := Lib.hid hRd
          unfold LT.row Seg.enc at hy
          simp only at hy
          have HRR := Lib.hid RO
          have HB1 := Lib.hid (And.intro hz (And.intro hn0 (And.intro hd (And.intro hwz hq))))
          have HI0 := Lib.hid (And.intro hi0 (And.intro hz0 (And.intro hz1 hz2)))
          have hts : (0 : Int) < ((ts.length + 1 : Nat) : Int) := Int.ofNat_lt.2 (Nat.succ_pos _)
          clear R RO hS h5 hq hz hn0 hlen hd hgl hwz hc2 hsl hc1 hz2 hz1 hz0 hi0 hpb hRd hlt
          gi_wp2
          refine ⟨fun h => (by cases h), HRd.out.mono ?_⟩
          rintro e W2 (⟨rfl, O', hJ2, hm2⟩ | ⟨rfl, hJx2⟩)
          · have hbx4 : W2.cell? ⟨wr.heap.size, 4, none⟩ = some (.slice x.a x.kids.length x.cap) := (HA.out.box.of_block (hm2.block _ HA.out.box.lt (.inr (Nat.le_trans (Nat.le_add_right _ 2) HB1.out.2.2.2.1)) (fun h => Nat.lt_irrefl _ (HO.out _ _ _ HRR.out.rel.inv _ h).2))).b4
            have O2 := Lib.hid (own_midO HA.out.own hm2 (Nat.le_succ _) (fun k hk h => (HRR.out.far k h).2 hk))
            have HM2 := Lib.hid hm2
            have HJ2 := Lib.hid hJ2
            have hz2' : W.heap.size + 1 ≤ W2.heap.size := Nat.le_trans (Nat.le_of_succ_le (Nat.le_trans HB1.out.2.2.2.1 HA.out.below.size)) HM2.out.size
            clear hm2 hJ2 hcell hfr c0 c1 c2 c3 c4 hy HRd
            have hk1 : ((⟨some ⟨p.block, p.off + 5, none⟩, scap - 1, ts⟩ : Seg) :: rest).reverse.length + 1 ≤ maxLen := by rw [List.length_reverse, List.length_cons]; exact small_len hrb
            have hk2 : (((⟨some ⟨p.block, p.off + 5, none⟩, scap - 1, ts⟩ : Seg) :: rest).reverse.length + 1) * 24 ≤ 140737488355328 := by rw [List.length_reverse, List.length_cons]; exact small_bytes hrb
            have hk3 : W.heap.size + 1 ≤ (W2.alloc (.cells #[.slice x.a x.kids.length x.cap] 34)).heap.size := by rw [World.size_alloc]; exact Nat.le_succ_of_le hz2'
            gi_wp2_with (gi_at_builtin; refine wpListIn_append_at _ rfl _ _ 75 rfl (W.heap.size + 1) 34 i0 (.slice none 0 0) 1 24 Try.underlying75 HI0.out.1 HI0.out.2.1 HI0.out.2.2.1 HI0.out.2.2.2 rfl (by decide) _ _ _ rfl (O2.out.alloc _) ⟨W2.heap.size, 0, none⟩ 1 1 [Seg.enc ⟨x.a, x.cap, x.kids⟩] rfl rfl (cell_one_new _ _ _) (by simp [Value.oneCell', Seg.enc]) hk1 hk2 hk3 ?_; intro v' w3 hown' hgrow hvb)
            have hR := push_endO HB1.out.2.1 HRR.out rfl HA.out HM2.out HJ2.out HJ.out (fun k hk => (HO.out _ _ _ HRR.out.rel.inv k hk).1) (HO.out _ _ _ HJ2.out) hz2' hown' hgrow O2.out hvb
            exact ⟨⟨_, _, _, _, hR, rfl⟩, WalkAtO.less hR (by rw [HL.out]; exact push_less x ts rest)⟩
          · have HP : Hid (done ++ [(rest.length, x)] <+: t.pre 0) := ⟨rem (⟨x.a, x.cap, x.kids⟩ :: ⟨none, 0, ts⟩ :: rest), by rw [HRR.out.rel.eq, rem_step (b := none) (cap' := 0)]; simp⟩
            have HJX := Lib.hid hJx2
            clear hJx2 hcell hfr c0 c1 c2 c3 c4 hy HRd
            gi_wp2
            refine bodyPost_ret (results_none rfl _ _ _) rfl ?_
            exact ⟨⟨_, rfl⟩, .inr ⟨_, HP.out, HJX.out⟩⟩

end Go.Proofs.Ytdbkifndhkmfgaa.val
