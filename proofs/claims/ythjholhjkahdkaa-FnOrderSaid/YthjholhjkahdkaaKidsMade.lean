/-
  Values in new memory, made beside one block that is written (a cursor's); rows of such values; append to a row that may be nil.
-/
import Derived.Test.YthjholhjkahdkaaTree
import Derived.Test.YthjholhjkahdkaaDrawSome
namespace Go.Proofs.Ythjholhjkahdkaa.made
open Go.ChangeShapes Go.WideShapes Go.ChangeAt Go.RowKit
open Go.Proofs.Ythjholhjkahdkaa.val
set_option maxRecDepth 100000

/-- A value in new memory; of what was, the block b alone is written. -/
structure FreshO (W w' : World) (b : Nat) (t : LT) : Prop where
  tr : Tr w' t
  new : ∀ k, k ∈ t.blks → W.heap.size ≤ k
  nodup : t.blks.Nodup
  only : W.grownBy w' (some b)
theorem FreshO.leaf {W w' : World} {b : Nat} {k n e : Int} {s : ByteArray} (hk : InI k) (hn : InI n) (he : InI e) (hs : s.size ≤ 9223372036854775807) (ho : W.grownBy w' (some b)) : FreshO W w' b (.mk k n e s none 0 []) :=
  ⟨.nil hk hn he hs, fun k hk => by simp [LT.blks, LT.blksL] at hk, by simp [LT.blks, LT.blksL], ho⟩
theorem only_below {W w1 w2 : World} {b : Nat} (h : W.grownBy w1 (some b)) (k : Below w1.heap.size w1 w2) : W.grownBy w2 (some b) :=
  ⟨k.os.trans h.os, k.tape.trans h.tape, k.output.trans h.output, Nat.le_trans h.size k.size, fun x hx hn => (k.block x (Nat.lt_of_lt_of_le hx h.size)).trans (h.block x hx hn)⟩
theorem only_after {W w1 w2 : World} {b : Nat} (h : Below W.heap.size W w1) (k : w1.grownBy w2 (some b)) : W.grownBy w2 (some b) := draw.grown_after h k
/-- A young block written besides. -/
theorem only_young {W w1 w2 : World} {b : Nat} {o : Option Nat} (h : W.grownBy w1 (some b)) (k : w1.grownBy w2 o) (hg : ∀ g, o = some g → W.heap.size ≤ g) : W.grownBy w2 (some b) :=
  ⟨k.os.trans h.os, k.tape.trans h.tape, k.output.trans h.output, Nat.le_trans h.size k.size, fun x hx hn => (k.block x (Nat.lt_of_lt_of_le hx h.size) (fun e => by have := hg x e.symm; omega)).trans (h.block x hx hn)⟩
theorem only_set {W w1 : World} {b N : Nat} (h : W.grownBy w1 (some b)) (hN : W.heap.size ≤ N) (o : Nat) (v : Value) : W.grownBy (w1.setCell ⟨N, o, none⟩ v) (some b) :=
  ⟨h.os, h.tape, h.output, by rw [Go.Deep.nblk_setCell]; exact h.size, fun k hk hn => by rw [Go.Deep.blk_setCell_other _ _ _ _ (by show k ≠ N; omega)]; exact h.block k hk hn⟩
theorem only_drewN {W w : World} {b : Nat} (h : W.grownBy w (some b)) (n : Nat) : W.grownBy (w.drewN n) (some b) := ⟨h.os, h.tape, h.output, h.size, h.block⟩
theorem FreshO.more {W w1 w2 : World} {b : Nat} {t : LT} (h : FreshO W w1 b t) (k : Below w1.heap.size w1 w2) : FreshO W w2 b t := ⟨h.tr.behind k, h.new, h.nodup, only_below h.only k⟩
theorem FreshO.before {W w1 w2 : World} {b : Nat} {t : LT} (h : Below W.heap.size W w1) (k : FreshO w1 w2 b t) : FreshO W w2 b t := ⟨k.tr, fun x hx => Nat.le_trans h.size (k.new x hx), k.nodup, only_after h k.only⟩
theorem FreshO.behind {W w1 w2 : World} {b : Nat} {t : LT} (h : W.grownBy w1 (some b)) (k : FreshO w1 w2 b t) : FreshO W w2 b t := ⟨k.tr, fun x hx => Nat.le_trans h.size (k.new x hx), k.nodup, h.trans k.only⟩
theorem FreshO.set {W w1 : World} {b N : Nat} {t : LT} (h : FreshO W w1 b t) (hN : W.heap.size ≤ N) (hn : N ∉ t.blks) (o : Nat) (v : Value) : FreshO W (w1.setCell ⟨N, o, none⟩ v) b t :=
  ⟨h.tr.kept fun k hk => Go.Deep.blk_setCell_other _ _ _ _ (by show k ≠ N; exact fun e => hn (e ▸ hk)), h.new, h.nodup, only_set h.only hN o v⟩
theorem blksL_append (a b : List LT) : LT.blksL (a ++ b) = LT.blksL a ++ LT.blksL b := by
  induction a with
  | nil => rw [LT.blksL]; rfl
  | cons t ts ih => rw [List.cons_append, LT.blksL, LT.blksL, ih, List.append_assoc]
theorem blksL_one (t : LT) : LT.blksL [t] = t.blks := by rw [LT.blksL, LT.blksL, List.append_nil]
theorem szL_append (a b : List LT) : LT.szL (a ++ b) = LT.szL a + LT.szL b := by
  induction a with
  | nil => simp [LT.szL]
  | cons x l ih => rw [List.cons_append, LT.szL, LT.szL, ih]; omega

/-- A row of values made so far; its blocks are not below B. -/
structure KM (W : World) (B : Nat) (wr : World) (b : Nat) (v : Value) (done : List LT) : Prop where
  row : OwnR wr B v done
  trs : ∀ i (h : i < done.length), Tr wr done[i]
  new : ∀ k, k ∈ LT.blksL done → B ≤ k
  nodup : (v.ownBlock.toList ++ LT.blksL done).Nodup
  only : W.grownBy wr (some b)
  base : W.heap.size ≤ B
  top : B ≤ wr.heap.size
theorem KM.lt {W : World} {B : Nat} {wr : World} {b : Nat} {v : Value} {done : List LT} (h : KM W B wr b v done) : ∀ k, k ∈ LT.blksL done → k < wr.heap.size := fun k hk => by
  obtain ⟨i, hi, hbb⟩ := mem_blksL_iff hk
  exact (h.trs i hi).lt k hbb
theorem KM.nil {W : World} {B : Nat} {wr : World} {b : Nat} (ho : W.grownBy wr (some b)) (h1 : W.heap.size ≤ B) (h2 : B ≤ wr.heap.size) : KM W B wr b (.slice none 0 0) [] :=
  ⟨⟨rfl, .inl ⟨rfl, rfl⟩⟩, fun i h => by simp at h, fun k hk => by simp [LT.blksL] at hk, by simp [LT.blksL, Value.ownBlock], ho, h1, h2⟩
/-- Kept where its blocks are. -/
theorem KM.kept {W : World} {B : Nat} {wr w1 : World} {b : Nat} {v : Value} {done : List LT} (h : KM W B wr b v done) (hk : ∀ k, B ≤ k → k < wr.heap.size → w1.heap[k]? = wr.heap[k]?) (ho : W.grownBy w1 (some b)) (hz : wr.heap.size ≤ w1.heap.size) : KM W B w1 b v done :=
  ⟨h.row.same fun k hkk => hk k (h.row.lt k hkk).1 (h.row.lt k hkk).2, fun i hi => (h.trs i hi).kept fun k hkk => hk k (h.new k (mem_blksL hi hkk)) ((h.trs i hi).lt k hkk), h.new, h.nodup, ho, h.base, Nat.le_trans h.top hz⟩
theorem KM.set {W : World} {B : Nat} {wr : World} {b N : Nat} {v : Value} {done : List LT} (h : KM W B wr b v done) (hN : W.heap.size ≤ N) (hB : N < B) (o : Nat) (x : Value) : KM W B (wr.setCell ⟨N, o, none⟩ x) b v done :=
  h.kept (fun k hk _ => Go.Deep.blk_setCell_other _ _ _ _ (by show k ≠ N; omega)) (only_set h.only hN o x) (by rw [Go.Deep.nblk_setCell]; exact Nat.le_refl _)
theorem KM.below {W : World} {B : Nat} {wr w1 : World} {b : Nat} {v : Value} {done : List LT} (h : KM W B wr b v done) (k : Below wr.heap.size wr w1) : KM W B w1 b v done :=
  h.kept (fun x _ hx => k.block x hx) (only_below h.only k) k.size
theorem KM.drewN {W : World} {B : Nat} {wr : World} {b : Nat} {v : Value} {done : List LT} (h : KM W B wr b v done) (n : Nat) : KM W B (wr.drewN n) b v done :=
  h.kept (fun _ _ _ => rfl) (only_drewN h.only n) (Nat.le_refl _)
theorem KM.grown {W : World} {B : Nat} {wr w1 : World} {b : Nat} {v : Value} {done : List LT} (h : KM W B wr b v done) (hb : b < W.heap.size) (k : wr.grownBy w1 (some b)) : KM W B w1 b v done :=
  h.kept (fun x hB hx => k.block x hx (fun e => by injection e with e; have := h.base; omega)) (h.only.trans k) k.size
/-- More of them behind. -/
theorem KM.step {W : World} {B : Nat} {wr w1 w3 : World} {b : Nat} {v v' : Value} {done news : List LT} (h : KM W B wr b v done) (hb : b < W.heap.size) (h1 : wr.grownBy w1 (some b))
    (ht : ∀ i (h : i < news.length), Tr w1 news[i]) (hn : ∀ k, k ∈ LT.blksL news → wr.heap.size ≤ k) (hnd : (LT.blksL news).Nodup)
    (ho : OwnR w3 B v' (done ++ news)) (hg : w1.grownBy w3 v.ownBlock) (hv : v'.ownBlock = v.ownBlock ∨ ∃ g, v'.ownBlock = some g ∧ w1.heap.size ≤ g) : KM W B w3 b v' (done ++ news) := by
  have hzF := h1.size
  have hk1 : ∀ k, k < wr.heap.size → k ≠ b → w1.heap[k]? = wr.heap[k]? := fun k h2 h3 => h1.block k h2 (fun e => h3 (by injection e))
  have hk3 : ∀ k, k < w1.heap.size → v.ownBlock ≠ some k → w3.heap[k]? = w1.heap[k]? := fun k h2 h3 => hg.block k h2 (fun e => h3 e.symm)
  have hvn : ∀ k, v.ownBlock = some k → k ∉ LT.blksL done := fun k hk hm => by
    have := h.nodup
    rw [hk] at this
    exact (List.nodup_cons.1 this).1 hm
  have hvl : ∀ k, v.ownBlock = some k → B ≤ k ∧ k < wr.heap.size := fun k hk => h.row.lt k hk
  have hnl : ∀ k, k ∈ LT.blksL news → k < w1.heap.size := fun k hk => by
    obtain ⟨i, hi, hbb⟩ := mem_blksL_iff hk
    exact (ht i hi).lt k hbb
  refine ⟨ho, ?_, ?_, ?_, ?_, h.base, ?_⟩
  · intro i hi
    by_cases hd : i < done.length
    · rw [List.getElem_append_left hd]
      refine ((h.trs i hd).kept (w' := w1) fun k hkk => ?_).kept fun k hkk => hk3 k ?_ (fun e => hvn k e (mem_blksL hd hkk))
      · have h2 := (h.trs i hd).lt k hkk
        have h3 := h.new k (mem_blksL hd hkk)
        have := h.base
        exact hk1 k h2 (by omega)
      · have := (h.trs i hd).lt k hkk; omega
    · rw [List.length_append] at hi
      rw [List.getElem_append_right (by omega)]
      exact (ht _ (by omega)).kept fun k hkk => hk3 k ((ht _ (by omega)).lt k hkk) (fun e => by have := hn k (mem_blksL (by omega) hkk); have := hvl k e; omega)
  · intro k hkk
    rw [blksL_append] at hkk
    rcases List.mem_append.1 hkk with h2 | h2
    · exact h.new k h2
    · have := hn k h2; have := h.top; omega
  · rw [blksL_append]
    have hd2 : (LT.blksL done ++ LT.blksL news).Nodup := List.nodup_append.2 ⟨(List.nodup_append.1 h.nodup).2.1, hnd, fun x hx y hy e => by have := h.lt x hx; have := hn y hy; omega⟩
    refine List.nodup_append.2 ⟨?_, hd2, fun x hx y hy e => ?_⟩
    · cases v'.ownBlock <;> simp
    · subst e
      have hx' : v'.ownBlock = some x := by simpa using hx
      rcases hv with hv | ⟨g, hv, hg2⟩
      · rw [hv] at hx'
        rcases List.mem_append.1 hy with h2 | h2
        · exact hvn x hx' h2
        · have := hn x h2; have := hvl x hx'; omega
      · rw [hv] at hx'
        obtain rfl := Option.some.inj hx'
        rcases List.mem_append.1 hy with h2 | h2
        · have := h.lt g h2; omega
        · have := hnl g h2; omega
  · exact only_young (h.only.trans h1) hg (fun g e => by have := hvl g e; have := h.base; omega)
  · have := hg.size; have := h.top; omega
/-- The row as a value's list. -/
theorem KM.val {W : World} {B : Nat} {wr : World} {b : Nat} {v : Value} {done : List LT} (h : KM W B wr b v done) : ∃ a cap, v = .slice a done.length cap ∧ ∀ k n : Int, InI k → InI n → FreshO W wr b (.mk k n 0 ⟨#[]⟩ a cap done) ∧ ∀ x, x ∈ (val.LT.mk k n 0 ⟨#[]⟩ a cap done).blks → B ≤ x := by
  obtain ⟨hl, hrow⟩ := id h.row
  rcases hrow with ⟨rfl, h0⟩ | ⟨g, cap, cur, rfl, hg⟩
  · obtain rfl : done = [] := List.eq_nil_of_length_eq_zero h0
    exact ⟨none, 0, rfl, fun k n hk hn => ⟨FreshO.leaf hk hn (by unfold InI; decide) (by decide) h.only, fun x hx => by simp [LT.blks, LT.blksL] at hx⟩⟩
  · obtain ⟨⟨cs, h1, h2⟩, h3, h4, h5, h6, h7⟩ := h.row.at5
    have hB : ∀ k n : Int, ∀ x, x ∈ (val.LT.mk k n 0 ⟨#[]⟩ (some ⟨g, 0, none⟩) cap done).blks → B ≤ x := fun k n x hx => by
      rw [blks_some] at hx
      rcases List.mem_cons.1 hx with rfl | hx
      · exact h3
      · exact h.new x hx
    refine ⟨some ⟨g, 0, none⟩, cap, rfl, fun k n hk hn => ⟨⟨.mk cs hk hn (by unfold InI; decide) (by decide) ⟨h5, by unfold maxLen at h6; exact h6⟩ h1 h2 h7 h.trs, fun x hx => Nat.le_trans h.base (hB k n x hx), ?_, h.only⟩, hB k n⟩⟩
    rw [blks_some]
    exact h.nodup
/-- One value in a literal's block. -/
theorem KM.one {W w1 : World} {B b : Nat} {t : LT} (h : FreshO W w1 b t) (hB : W.heap.size ≤ B) (hB2 : ∀ k, k ∈ t.blks → B ≤ k) (hB3 : B ≤ w1.heap.size) : KM W B (w1.alloc (.cells #[.int .i64 t.k, .int .i64 t.n, .int .i64 t.e, .string t.s, t.row] 26)) b (.slice (some ⟨w1.heap.size, 0, none⟩) 1 1) [t] := by
  have hb : Below w1.heap.size w1 (w1.alloc (.cells #[.int .i64 t.k, .int .i64 t.n, .int .i64 t.e, .string t.s, t.row] 26)) := (Below.refl _ _).alloc (Nat.le_refl _) _
  refine ⟨⟨by simp [flat5, one5], .inr ⟨_, _, _, rfl, hB3, heap_alloc_new w1 _, Nat.le_refl _, by simp [maxLen], rfl, by simp [flat5, one5]⟩⟩, fun i hi => ?_, fun k hk => ?_, ?_, only_below h.only hb, hB, by simp; omega⟩
  · obtain rfl : i = 0 := by simp at hi; omega
    exact h.tr.behind hb
  · rw [blksL_one] at hk; exact hB2 k hk
  · rw [blksL_one]
    exact List.nodup_cons.2 ⟨fun hm => by have := h.tr.lt _ hm; simp at this, h.nodup⟩
section
variable {P : Program} {w : World}
/-- append of values to a row of the call's own, nil or not. -/
theorem wp_appN {o : Oper} {a : Act} {K : Act → World → Prop} {Q : Exit → Act → World → Prop} (s x : Operand)
    (ho : o.op = .call { callee := .builtin .append, args := #[s, x], argTypes := #[24, 24] })
    (hu : P.underlying 24 = some (.slice 26)) (i : TypeInfo) (z : Value) (hi : P.info? 26 = some i) (hz : i.zero = some z) (hsize : i.size = 5) (hby : i.bytes = 64) (hzs : z.cells.size = 5)
    (base : Nat) (v : Value) (l news : List LT) (m : Nat) (hm : news.length = m) (hs : a.eval s = v) (hown : OwnR w base v l) (xa : Addr) (c2 : Nat) (hxe : a.eval x = .slice (some xa) m c2) (hx : ∀ j (h : j < news.length), At5 w (xa.add (j * 5)) news[j])
    (hb : l.length + m ≤ 2000000) (hbase : base ≤ w.heap.size)
    (h : ∀ v' w', OwnR w' base v' (l ++ news) → w.grownBy w' v.ownBlock → (v'.ownBlock = v.ownBlock ∨ v'.ownBlock = some w.heap.size) → K (a.put o.dst v') w') : o.wp P a w K Q := by
  subst hm
  obtain ⟨v', w', hrun, h2, h3, h4, h5⟩ := run_append_own_at (P := P) w base 24 o.type 26 i z 5 64 hu hi hz hsize hby hzs (by omega) v l.length (flat5 l) hown xa news.length c2 (flat5 news) (flat5_len news)
    (fun j u hj => by
      have hj5 : j < news.length * 5 := by
        have := (List.getElem?_eq_some_iff.1 hj).1
        rw [flat5_len] at this
        exact this
      have hlt : j / 5 < news.length := by omega
      have e : j = (j / 5) * 5 + j % 5 := by omega
      rw [e, flat5_at news (j / 5) hlt (j % 5) (by omega)] at hj
      have := (hx (j / 5) hlt).list (j % 5) u hj
      rw [Go.Deep.add_add, ← e] at this
      exact this)
    (flat5_one' news) (by unfold maxLen; omega) (by omega) hbase
  have h6 : OwnR w' base v' (l ++ news) := by unfold OwnR; rw [List.length_append, flat5_append]; exact h2
  unfold Oper.wp execOp
  simp only [ho, resolve, invoke, builtin, Sem.run_bind, Sem.run_pure, Result.andThen_ok, List.map_toArray, List.map_cons, List.map_nil, hs, hxe, hrun]
  exact h v' w' h6 h3 h5
theorem wpList_appN {ops : Array Oper} {rest : List Oper} {o : Oper} {a : Act} {Q : Exit → Act → World → Prop} (hgd : o.guard = none) (s x : Operand)
    (ho : o.op = .call { callee := .builtin .append, args := #[s, x], argTypes := #[24, 24] })
    (hu : P.underlying 24 = some (.slice 26)) (i : TypeInfo) (z : Value) (hi : P.info? 26 = some i) (hz : i.zero = some z) (hsize : i.size = 5) (hby : i.bytes = 64) (hzs : z.cells.size = 5)
    (base : Nat) (v : Value) (l news : List LT) (m : Nat) (hm : news.length = m) (hs : a.eval s = v) (hown : OwnR w base v l) (xa : Addr) (c2 : Nat) (hxe : a.eval x = .slice (some xa) m c2) (hx : ∀ j (h : j < news.length), At5 w (xa.add (j * 5)) news[j])
    (hb : l.length + m ≤ 2000000) (hbase : base ≤ w.heap.size)
    (h : ∀ v' w', OwnR w' base v' (l ++ news) → w.grownBy w' v.ownBlock → (v'.ownBlock = v.ownBlock ∨ v'.ownBlock = some w.heap.size) → wpList P ops Q rest (a.put o.dst v') w') : wpList P ops Q (o :: rest) a w :=
  wpList_plain hgd fun _ hK => wp_appN s x ho hu i z hi hz hsize hby hzs base v l news m hm hs hown xa c2 hxe hx hb hbase fun v' w' h1 h2 h3 => hK _ _ (h v' w' h1 h2 h3)
theorem step_appN {ops : Array Oper} {o : Oper} {a : Act} {K : Act → World → Prop} {Q : Exit → Act → World → Prop} {E : Prop} (hgd : o.guard = none) (s x : Operand)
    (ho : o.op = .call { callee := .builtin .append, args := #[s, x], argTypes := #[24, 24] })
    (hu : P.underlying 24 = some (.slice 26)) (i : TypeInfo) (z : Value) (hi : P.info? 26 = some i) (hz : i.zero = some z) (hsize : i.size = 5) (hby : i.bytes = 64) (hzs : z.cells.size = 5)
    (base : Nat) (v : Value) (l news : List LT) (m : Nat) (hm : news.length = m) (hs : a.eval s = v) (hown : OwnR w base v l) (xa : Addr) (c2 : Nat) (hxe : a.eval x = .slice (some xa) m c2) (hx : ∀ j (h : j < news.length), At5 w (xa.add (j * 5)) news[j])
    (hb : l.length + m ≤ 2000000) (hbase : base ≤ w.heap.size)
    (h : ∀ v' w', OwnR w' base v' (l ++ news) → w.grownBy w' v.ownBlock → (v'.ownBlock = v.ownBlock ∨ v'.ownBlock = some w.heap.size) → K (a.put o.dst v') w') :
    if Region.wanted o (yielded ops a.tmps) = true then Oper.wp P o a w K Q else E := by
  have hw : Region.wanted o (yielded ops a.tmps) = true := by simp [Region.wanted, hgd]
  rw [if_pos hw]
  exact wp_appN s x ho hu i z hi hz hsize hby hzs base v l news m hm hs hown xa c2 hxe hx hb hbase h
end
end Go.Proofs.Ythjholhjkahdkaa.made
