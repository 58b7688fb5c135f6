/-
  What impl.clone returns: the value in new memory.
-/
import Derived.Test.YtdbkifndhkmfgaaCloneInv
import Derived.Test.YtdbkifndhkmfgaaKeysWalk
import Derived.Test.YtdbkifndhkmfgaaFinite
import Derived.Deep.Cut
namespace Go.Proofs.Ytdbkifndhkmfgaa.val
open Go.ChangeShapes Go.WideShapes Go.ChangeAt Go.RowKit
theorem next_len {n : Nat} (h : n ≤ 2000000) : wrap64 ((n : Int) + 1) = ((n + 1 : Nat) : Int) := by unfold wrap64; omega
theorem next_less {n m : Nat} (h : (n : Int) < (m : Int)) : m - (intOf (.int .i64 ((n + 1 : Nat) : Int))).toNat < m - (intOf (.int .i64 (n : Int))).toNat := by simp only [intOf]; omega

set_option maxRecDepth 100000

theorem Outer.start {w W1 : World} {t : LT} (h : Own w 0 w.heap.size t) (hb : Below w.heap.size w W1) :
    Outer W1 ((W1.alloc (.cells #[.int .i64 t.k, .int .i64 t.n, .int .i64 t.e, .string t.s, t.row] 36)).alloc (.cells #[.slice (some ⟨W1.heap.size, 0, none⟩) 1 1] 34)) w.heap.size t (.slice (some ⟨W1.heap.size + 1, 0, none⟩) 1 1) [⟨W1.heap.size, 1, [t]⟩] (.mk 0 0 0 ⟨#[]⟩ (some ⟨W1.heap.size, 0, none⟩) 1 [t]) [W1.heap.size] := by
  have hbW : Below W1.heap.size W1 ((W1.alloc (.cells #[.int .i64 t.k, .int .i64 t.n, .int .i64 t.e, .string t.s, t.row] 36)).alloc (.cells #[.slice (some ⟨W1.heap.size, 0, none⟩) 1 1] 34)) := ((Below.refl _ _).alloc (Nat.le_refl _) _).alloc (by simp) _
  have hx := (Box.new W1 t 36).of_block (w' := (W1.alloc (.cells #[.int .i64 t.k, .int .i64 t.n, .int .i64 t.e, .string t.s, t.row] 36)).alloc (.cells #[.slice (some ⟨W1.heap.size, 0, none⟩) 1 1] 34)) (Below.heap_alloc _ _ _ (by simp))
  have hr := (Below.heap_alloc (W1.alloc (.cells #[.int .i64 t.k, .int .i64 t.n, .int .i64 t.e, .string t.s, t.row] 36)) (.cells #[.slice (some ⟨W1.heap.size, 0, none⟩) 1 1] 34) W1.heap.size (by simp)).trans (heap_alloc_new W1 _)
  have hn := heap_alloc_new (W1.alloc (.cells #[.int .i64 t.k, .int .i64 t.n, .int .i64 t.e, .string t.s, t.row] 36)) (.cells #[.slice (some ⟨W1.heap.size, 0, none⟩) 1 1] 34)
  simp only [World.size_alloc] at hn
  refine ⟨.pend ⟨W1.heap.size, 1, [t]⟩ (List.mem_singleton.2 rfl) (by unfold InI; omega) (by unfold InI; omega) (by unfold InI; omega) (by decide), ?_, ?_, ?_, ?_, by simp, by simp, ?_, hbW, by simp [er, erL], rfl⟩
  · intro j hj
    obtain rfl := List.mem_singleton.1 hj
    refine ⟨⟨_, hr, by simp⟩, fun i hi => ?_, fun i hi => ?_, by simp⟩
    · obtain rfl : i = 0 := by simp at hi; omega
      exact ⟨hx.b0, hx.b1, hx.b2, hx.b3, hx.b4⟩
    · obtain rfl : i = 0 := by simp at hi; omega
      exact h.behind (hb.trans (hbW.mono hb.size))
  · exact OwnL.of_block (l := [(⟨W1.heap.size, 1, [t]⟩ : Job)]) (W1.heap.size + 1) _ (by omega) hn rfl (by simp [maxLen])
  · intro b hb
    obtain rfl := List.mem_singleton.1 hb
    simp [Value.ownBlock]
  · intro j hj
    obtain rfl := List.mem_singleton.1 hj
    simp
  · intro b hb
    obtain rfl := List.mem_singleton.1 hb
    simp
    omega
/-- What is there when all is copied. -/
structure Cloned (W1 wr : World) (t t' : LT) : Prop where
  er : er t' = er t
  tr : Tr wr t'
  new : ∀ b, b ∈ t'.blks → W1.heap.size ≤ b
  nodup : t'.blks.Nodup
  at5 : At5 wr ⟨W1.heap.size, 0, none⟩ t'
  below : Below W1.heap.size W1 wr
theorem Outer.fin {W1 wr : World} {n₀ : Nat} {t R : LT} {lv : Value} {bl : List Nat} (h : Outer W1 wr n₀ t lv [] R bl) : ∃ t', Cloned W1 wr t t' := by
  obtain ⟨htr, hbl⟩ := h.part.tr
  have hroot := h.root
  have hra := h.ra
  cases htr with
  | nil => unfold LT.row at hra; simp only [LT.a] at hra; injection hra with h1; cases h1
  | @mk k n e s g cap kids cs h1 h2 h3 h4 h5 hb hz hc hk =>
    unfold LT.row at hra
    simp only [LT.a, LT.kids, LT.cap] at hra
    injection hra with e1 e2 e3
    injection e1 with e1
    injection e1 with e1
    subst e1
    simp only [er, erL_map] at hroot
    injection hroot with _ _ _ _ hkk
    obtain ⟨t', rfl⟩ : ∃ t', kids = [t'] := List.length_eq_one_iff.1 e2
    simp only [List.map_cons, List.map_nil] at hkk
    injection hkk with hkk
    rw [blks_some, blksL_one] at hbl
    have hnd := h.nodup
    rw [← hbl] at hnd
    refine ⟨t', hkk, hk 0 (by simp), fun b hbb => (h.bnd b (by rw [← hbl]; exact List.mem_cons_of_mem _ hbb)).1, (List.nodup_cons.1 hnd).2, hc 0 (by simp), h.below⟩
def Small (st : List Job) : Prop := cost st ≤ 2000001 ∧ ∀ j ∈ st, LT.szL j.ts ≤ 2000000
def OutAt (W1 wr : World) (n₀ : Nat) (t : LT) (lv : Value) (k : Nat) : Prop := ∃ st R bl, Outer W1 wr n₀ t lv st R bl ∧ k = cost st ∧ Small st
theorem OutAt.least {W1 wr : World} {n₀ : Nat} {t : LT} {lv : Value} (h : ∃ k, OutAt W1 wr n₀ t lv k) : ∃ st R bl, Outer W1 wr n₀ t lv st R bl ∧ leastOf (OutAt W1 wr n₀ t lv) = cost st ∧ Small st := (leastOf_spec h).1
theorem OutAt.less {W1 wr : World} {n₀ : Nat} {t : LT} {lv : Value} {st : List Job} {R : LT} {bl : List Nat} {k : Nat} (h : Outer W1 wr n₀ t lv st R bl) (hc : Small st) (hk : cost st < k) : leastOf (OutAt W1 wr n₀ t lv) < k :=
  Nat.lt_of_le_of_lt ((leastOf_spec ⟨_, st, R, bl, h, rfl, hc⟩).2 _ ⟨st, R, bl, h, rfl, hc⟩) hk
theorem len_nodes : ∀ l : List LT, l.length ≤ LT.nodesL l
  | [] => by simp
  | t :: ts => by rw [LT.nodesL, List.length_cons]; have := nodes_mk t; have := len_nodes ts; omega
theorem few_of {J : Job} {st : List Job} (h : Small (J :: st)) : st.length ≤ 2000000 := by have h := h.1; have := cost_len st; simp only [cost] at h; omega
theorem few_more {J : Job} {st nj : List Job} (h : Small (J :: st)) (hi : nj.length < J.ts.length) : (st.reverse ++ nj).length ≤ 2000000 := by
  have h := h.1
  have := cost_len st
  have := len_nodes J.ts
  simp only [cost] at h
  rw [List.length_append, List.length_reverse]
  omega
theorem few_kids {J : Job} {st : List Job} (h : Small (J :: st)) (i : Nat) (hi : i < J.ts.length) : J.ts[i].kids.length ≤ 1000000 + 999999 ∧ J.ts[i].s.size ≤ 2000000 := by
  have h2 := h.2 J (List.mem_cons_self ..)
  have h1 := sz_kid i hi
  have h3 := sz_mk J.ts[i]
  have h4 := szL_len J.ts[i].kids
  have h5 := szL_take J.ts i hi
  have h6 := szL_le J.ts (i + 1)
  omega
theorem small_fin {J : Job} {st nj : List Job} (h : Small (J :: st)) (hl : nj.length = J.ts.length) (hn : ∀ m (h : m < nj.length) (h' : m < J.ts.length), nj[m].ts = J.ts[m].kids) : Small (nj.reverse ++ st) ∧ cost (nj.reverse ++ st) < cost (J :: st) := by
  have hc := nodesL_at J.ts nj hl hn
  have h1 := h.1
  simp only [cost] at h1
  refine ⟨⟨?_, fun j hj => ?_⟩, ?_⟩
  · rw [cost_append, cost_reverse, hc]; omega
  · rcases List.mem_append.1 hj with hj | hj
    · obtain ⟨m, hm, rfl⟩ := List.getElem_of_mem (List.mem_reverse.1 hj)
      rw [hn m hm (by omega)]
      have := h.2 J (List.mem_cons_self ..)
      have h2 := sz_kid m (by omega : m < J.ts.length)
      have h3 := sz_mk J.ts[m]
      omega
    · exact h.2 j (List.mem_cons_of_mem _ hj)
  · rw [cost_append, cost_reverse, hc]; simp only [cost]; omega
theorem infoLL : (Try.prog.info? 34).map (fun i => (i.zero, i.size, i.bytes)) = some (some (.slice none 0 0), 1, 24) := by kernel_rfl

/-- Where an old element's own list lies. -/
theorem Own.src {w : World} {lo hi : Nat} {t : LT} (h : Own w lo hi t) : ∃ g, t.a = some ⟨g, 0, none⟩ ∧ g < hi ∧ ∀ i (h : i < t.kids.length), At5 w ⟨g, i * 5, none⟩ t.kids[i] := by
  cases h with
  | mk cs k1 k2 k3 k4 k5 hlo hhi hb hz hc hk => exact ⟨_, rfl, hhi, hc⟩
theorem sum_small {a b : Nat} (h : a ≤ 2000000) (hb : b = 1) : a + b ≤ maxLen ∧ (a + b) * 24 ≤ 140737488355328 := by subst hb; unfold maxLen; omega
set_option maxHeartbeats 4000000 in
theorem clone_val (HF : FinC) (w : World) (t : LT) (h : Mine w t) (hz : t.nodes ≤ 2000000) (hsz : t.sz ≤ 1048576) :
    Calls Try.prog 42 #[.agg #[.int .i64 t.k, .int .i64 t.n, .int .i64 t.e, .string t.s, t.row]] w fun e w' => ∃ t' : LT, e = .returned (.agg #[.int .i64 t'.k, .int .i64 t'.n, .int .i64 t'.e, .string t'.s, t'.row]) ∧ Fresh w w' t t' := by
  obtain ⟨i0, hi0, hz0, hz1, hz2⟩ := info_parts infoV
  obtain ⟨j0, hj0, hy0, hy1, hy2⟩ := info_parts infoLL
  have hbA : Below w.heap.size w ((w.alloc (.cells #[.int .i64 t.k, .int .i64 t.n, .int .i64 t.e, .string t.s, t.row] 36)).alloc (.cells #[.int .i64 0, .int .i64 0, .int .i64 0, .string ⟨#[]⟩, .slice none 0 0] 36)) := ((Below.refl _ _).alloc (Nat.le_refl _) _).alloc (by simp) _
  have CF := Lib.hid (HF _ t (h.behind hbA) hz)
  have HOW : Hid (Own w 0 w.heap.size t) := by obtain ⟨lo, h⟩ := h; exact h.kept (Nat.zero_le _) (Nat.le_refl _) fun _ _ _ => rfl
  have HBA := Lib.hid hbA
  have HR1 : Hid (((w.alloc (.cells #[.int .i64 t.k, .int .i64 t.n, .int .i64 t.e, .string t.s, t.row] 36)).alloc (.cells #[.int .i64 0, .int .i64 0, .int .i64 0, .string ⟨#[]⟩, .slice none 0 0] 36)).heap[w.heap.size + 1]? = some (.cells #[.int .i64 0, .int .i64 0, .int .i64 0, .string ⟨#[]⟩, .slice none 0 0] 36 (0, 0))) := by
    have := heap_alloc_new (w.alloc (.cells #[.int .i64 t.k, .int .i64 t.n, .int .i64 t.e, .string t.s, t.row] 36)) (.cells #[.int .i64 0, .int .i64 0, .int .i64 0, .string ⟨#[]⟩, .slice none 0 0] 36)
    simp only [World.size_alloc] at this
    exact this
  have HN := Lib.hid (And.intro hz hsz)
  clear h HF hbA hz hsz
  go_enter Try.func42, Try.ntmps42
  go_wp2_with fail
  with_reducible refine CF.out.mono ?_
  rintro e1 W1 ⟨rfl, hb1⟩
  have hzW : w.heap.size + 2 ≤ W1.heap.size := by have := hb1.size; simp at this; omega
  have HBW : Hid (Below w.heap.size w W1) := HBA.out.trans (hb1.mono HBA.out.size)
  have HR2 : Hid (W1.heap[w.heap.size + 1]? = some (.cells #[.int .i64 0, .int .i64 0, .int .i64 0, .string ⟨#[]⟩, .slice none 0 0] 36 (0, 0))) := (hb1.block _ (by simp)).trans HR1.out
  have HS := Lib.hid (Outer.start HOW.out HBW.out)
  have HC0 : Hid (Small [⟨W1.heap.size, 1, [t]⟩]) := by
    have h1 := HN.out.1
    have h2 := HN.out.2
    refine ⟨by simp only [cost, LT.nodesL]; omega, fun j hj => ?_⟩
    obtain rfl := List.mem_singleton.1 hj
    simp only [LT.szL]
    omega
  clear hb1 CF HBA HR1 HOW
  go_wp2_with fail
  go_loopw [4, 5, 6] (fun lv _ _ wr => ∃ k, OutAt W1 wr w.heap.size t lv k) (fun lv _ _ wr => leastOf (OutAt W1 wr w.heap.size t lv))
  case atStart => exact ⟨_, _, _, _, HS.out, rfl, HC0.out⟩
  case round =>
    clear HS HC0
    obtain ⟨st, R, bl, hO, hlk, hcs⟩ := OutAt.least hrel
    have HL := Lib.hid hlk
    clear hlk hrel
    cases st with
    | nil =>
      obtain ⟨t', hC⟩ := hO.fin
      obtain ⟨a, c, hv, _⟩ := hO.own.shape
      subst hv
      have HC := Lib.hid hC
      have hx3 : wr.heap[w.heap.size + 1]? = some (.cells #[.int .i64 0, .int .i64 0, .int .i64 0, .string ⟨#[]⟩, .slice none 0 0] 36 (0, 0)) := (hC.below.block _ (by omega)).trans HR2.out
      obtain ⟨z0, z1, z2, z3, z4, y0, y1, y2, y3, y4, z5⟩ := Res5.of hx3
      have KB : Hid (Box (put5 wr (w.heap.size + 1) 0 t') (w.heap.size + 1) t') := put_box hx3
      have HFR : Hid (Fresh w (put5 wr (w.heap.size + 1) 0 t') t t') := ⟨hC.er, hC.tr.kept fun b hb => put5_other t' (by have := hC.new b hb; omega), fun b hb => by have := hC.new b hb; omega, hC.nodup, put_below (HBW.out.trans (hC.below.mono HBW.out.size)) (by omega)⟩
      obtain ⟨c0, c1, c2, c3, c4⟩ := hC.at5
      have hrow : t'.row = .slice t'.a t'.kids.length t'.cap := rfl
      rw [hrow] at c4
      clear hO hC hx3
      go_wp2
      obtain ⟨k0, k1, k2, k3, k4⟩ := KB.out
      simp only [put5, Nat.zero_add, hrow] at k0 k1 k2 k3 k4
      refine bodyPost_ret (v := .agg #[.int .i64 t'.k, .int .i64 t'.n, .int .i64 t'.e, .string t'.s, .slice t'.a t'.kids.length t'.cap]) (by simp [results, Try.results42, go_sem, k0, k1, k2, k3, k4]) rfl ?_
      exact ⟨t', rfl, HFR.out⟩
    | cons J st =>
      have hsl : (J :: st).reverse.length = st.length + 1 := by simp
      obtain ⟨a, c, hv, hc1, hc2, hg⟩ := hO.own.shape
      obtain ⟨g, rfl, hgl, hgs⟩ := hg (by rw [hsl]; omega)
      rw [hsl] at hv hc1
      subst hv
      have hcell : wr.cell? ⟨g, st.length, none⟩ = some J.enc := by
        have := hO.own.cell st.length (by rw [hsl]; omega)
        simpa using this
      have hd0 : (0 : Int) ≤ (st.length : Int) := Int.natCast_nonneg _
      have hd1 : (st.length : Int) < ((st.length + 1 : Nat) : Int) := Int.ofNat_lt.2 (Nat.lt_succ_self _)
      have hrb : st.length ≤ 2000000 := few_of hcs
      have hwr := wrap_small st.length hrb
      have hc1' : (st.length : Int) ≤ (c : Int) := Int.ofNat_le.2 (Nat.le_of_succ_le hc1)
      have HI := Lib.hid hO.pop
      have HCS := Lib.hid hcs
      unfold Job.enc at hcell
      clear hO hcs hsl hgl hgs hc2 hc1
      go_wp2_with fail
      clear hcell hc1' hd0 hd1 hwr hrb
      go_loopw [4, 6, 28] (fun lv _ ctr wq => ∃ nj : List Job, ctr = .int .i64 (nj.length : Int) ∧ Hid (Inner W1 wq w.heap.size t lv st J nj R bl)) (fun _ _ ctr _ => J.ts.length - (intOf ctr).toNat)
      case atStart => exact ⟨[], rfl, HI⟩
      case round =>
        clear HI
        obtain ⟨nj, rfl, HI⟩ := hrel
        by_cases hlt : nj.length < J.ts.length
        · have hl0 : (0 : Int) ≤ (nj.length : Int) := Int.natCast_nonneg _
          have hl1 : (nj.length : Int) < (J.ts.length : Int) := Int.ofNat_lt.2 hlt
          have I := HI.out
          have hx5 := I.rest nj.length (Nat.le_refl _) hlt
          obtain ⟨gx, hxa, hgx, hsrc⟩ := (I.old nj.length hlt).src
          obtain ⟨cs, hcs, hcz⟩ := I.blk
          have hJb := I.bnd J.g I.Jin
          have hW1 : W1.heap.size ≤ wr.heap.size := I.below.size
          obtain ⟨hkk, hks⟩ := few_kids HCS.out nj.length hlt
          have hstk := few_more HCS.out hlt
          have HST : Hid (∀ (w2 w3 w6 : World) (h c : Nat) (o : Obj) (lv' : Value), Below wr.heap.size wr w2 → OwnR w3 W1.heap.size (.slice (some ⟨h, 0, none⟩) J.ts[nj.length].kids.length c) J.ts[nj.length].kids → (w2.alloc (.cells #[] 36)).grownBy w3 (some w2.heap.size) → (h = w2.heap.size ∨ h = (w2.alloc (.cells #[] 36)).heap.size) →
              OwnL w6 W1.heap.size 34 Job.enc lv' ((st.reverse ++ nj) ++ [⟨h, c, J.ts[nj.length].kids⟩]) → ((w3.setCell ⟨J.g, nj.length * 5 + 4, none⟩ (.slice (some ⟨h, 0, none⟩) J.ts[nj.length].kids.length c)).alloc o).grownBy w6 u4.ownBlock →
              (lv'.ownBlock = u4.ownBlock ∨ lv'.ownBlock = some ((w3.setCell ⟨J.g, nj.length * 5 + 4, none⟩ (.slice (some ⟨h, 0, none⟩) J.ts[nj.length].kids.length c)).alloc o).heap.size) →
              Inner W1 w6 w.heap.size t lv' st J (nj ++ [⟨h, c, J.ts[nj.length].kids⟩]) R bl) := fun w2 w3 w6 h c o lv' h1 h2 h3 h4 h5 h6 h7 => HI.out.step hlt (by omega) h1 h2 h3 h4 h5 h6 h7
          have HOL := Lib.hid I.own
          have HSEP : Hid (u4.ownBlock ≠ some J.g) := I.sep J.g I.Jin
          generalize J.ts[nj.length] = x at *
          have hrow : x.row = .slice (some ⟨gx, 0, none⟩) x.kids.length x.cap := by unfold LT.row; rw [hxa]
          have CC := Lib.hid (fun W => clone_any x.s W (Nat.le_trans hks (by decide)))
          have HCS2 := Lib.hid hcs
          have HSRC := Lib.hid hsrc
          have d3 : wr.cell? ⟨J.g, nj.length * 5 + 3, none⟩ = some (.string x.s) := hx5.c3
          have d4 : wr.cell? ⟨J.g, nj.length * 5 + 4, none⟩ = some (.slice (some ⟨gx, 0, none⟩) x.kids.length x.cap) := by rw [← hrow]; exact hx5.c4
          have HV3 : Hid (cs[nj.length * 5 + 3]? = some (.string x.s)) := by rw [cell_of_row wr _ _ _ _ (0, 0) hcs] at d3; exact d3
          have HV4 : Hid (cs[nj.length * 5 + 4]? = some (.slice (some ⟨gx, 0, none⟩) x.kids.length x.cap)) := by rw [cell_of_row wr _ _ _ _ (0, 0) hcs] at d4; exact d4
          have HNUM := Lib.hid (And.intro hgx (And.intro hJb (And.intro hW1 (And.intro hkk (And.intro hstk hzW)))))
          clear I hx5 hsrc hcs hks HI hgx hJb hW1 hkk hstk hzW hlt
          go_wp2_with fail
          with_reducible refine (CC.out _).mono ?_
          rintro e2 w2 ⟨rfl, hb2⟩
          have r2 : w2.heap[J.g]? = some (.cells cs 36 (0, 0)) := (hb2.block _ HNUM.out.2.1.2).trans HCS2.out
          have f2 := frozen_of_row w2 J.g (nj.length * 5 + 3) _ _ r2
          have g3 : w2.cell? ⟨J.g, nj.length * 5 + 3, none⟩ = some (.string x.s) := (cell_of_row w2 _ _ _ _ (0, 0) r2).trans HV3.out
          have HB2 : Hid (Below wr.heap.size wr (w2.setCell ⟨J.g, nj.length * 5 + 3, none⟩ (.string x.s))) := below_same hb2 r2 HV3.out
          clear hb2 r2 CC d3 d4
          go_upto_region 10 with (fail)
          generalize w2.setCell ⟨J.g, nj.length * 5 + 3, none⟩ (.string x.s) = W2 at *
          have R2 : W2.heap[J.g]? = some (.cells cs 36 (0, 0)) := (HB2.out.block _ HNUM.out.2.1.2).trans HCS2.out
          have q4 : W2.cell? ⟨J.g, nj.length * 5 + 4, none⟩ = some (.slice (some ⟨gx, 0, none⟩) x.kids.length x.cap) := (cell_of_row W2 _ _ _ _ (0, 0) R2).trans HV4.out
          have hJ2 : J.g < W2.heap.size := (Array.getElem?_eq_some_iff.1 R2).1
          have hz2' : wr.heap.size ≤ W2.heap.size := HB2.out.size
          have HSR2 : Hid (∀ i (h : i < x.kids.length), At5 (W2.alloc (.cells #[] 36)) ((⟨gx, 0, none⟩ : Addr).add (i * 5)) x.kids[i]) := fun i hi => by
            have hgw : gx < wr.heap.size := Nat.lt_of_lt_of_le HNUM.out.1 (Nat.le_trans (Nat.le_trans (Nat.le_add_right _ 2) HNUM.out.2.2.2.2.2) HNUM.out.2.2.1)
            rw [add0]
            refine (HSRC.out i hi).of_block ?_
            rw [Below.heap_alloc _ _ _ (Nat.lt_of_lt_of_le hgw hz2'), HB2.out.block _ hgw]
          have HEM := Lib.hid (OwnR.empty W2 W1.heap.size (Nat.le_trans HNUM.out.2.2.1 hz2'))
          have hkb : 0 + x.kids.length ≤ 2000000 := Nat.le_trans (by rw [Nat.zero_add]; exact HNUM.out.2.2.2.1) (by decide)
          have hbs : W1.heap.size ≤ (W2.alloc (.cells #[] 36)).heap.size := Nat.le_trans (Nat.le_trans HNUM.out.2.2.1 hz2') (by simp)
          clear HSRC g3 f2
          go_upto_region 12 with (at_builtin; refine wpList_appR (by rfl) _ _ (by rfl) Try.underlying34 i0 _ hi0 hz0 hz1 hz2 rfl W1.heap.size W2.heap.size 0 [] x.kids 0 x.kids.length rfl rfl (by rfl) HEM.out ⟨gx, 0, none⟩ x.cap (by rfl) HSR2.out hkb hbs ?_; intro h cc w3 ho3 hg3 hh3; have r3 : w3.heap[J.g]? = some (.cells cs 36 (0, 0)) := by { rw [hg3.block J.g (by simp; exact Nat.lt_succ_of_lt hJ2) (fun e => by injection e with e; exact Nat.lt_irrefl _ (e ▸ hJ2)), Below.heap_alloc _ _ _ hJ2]; exact R2 }; have p4 : w3.cell? ⟨J.g, nj.length * 5 + 4, none⟩ = some (.slice (some ⟨gx, 0, none⟩) x.kids.length x.cap) := (cell_of_row w3 _ _ _ _ (0, 0) r3).trans HV4.out; have pf := frozen_of_row w3 J.g (nj.length * 5 + 4) _ _ r3; rw [Nat.zero_add, List.nil_append] at ho3; replace ho3 := Lib.hid ho3; replace hg3 := Lib.hid hg3; replace hh3 := Lib.hid hh3; rw [Nat.zero_add])
          have R3 : w3.heap[J.g]? = some (.cells cs 36 (0, 0)) := by
            rw [hg3.out.block J.g (by simp; exact Nat.lt_succ_of_lt hJ2) (fun e => by injection e with e; exact Nat.lt_irrefl _ (e ▸ hJ2)), Below.heap_alloc _ _ _ hJ2]
            exact R2
          have R4 := blk_set (o := nj.length * 5 + 4) R3 (.slice (some ⟨h, 0, none⟩) x.kids.length cc)
          have s4 : (w3.setCell ⟨J.g, nj.length * 5 + 4, none⟩ (.slice (some ⟨h, 0, none⟩) x.kids.length cc)).cell? ⟨J.g, nj.length * 5 + 4, none⟩ = some (.slice (some ⟨h, 0, none⟩) x.kids.length cc) := by
            rw [cell_of_row _ _ _ _ _ (0, 0) R4, Array.getElem?_setIfInBounds_self_of_lt (Array.getElem?_eq_some_iff.1 HV4.out).1]
          have hJ4 : J.g < (w3.setCell ⟨J.g, nj.length * 5 + 4, none⟩ (.slice (some ⟨h, 0, none⟩) x.kids.length cc)).heap.size := (Array.getElem?_eq_some_iff.1 R4).1
          have hb4 : W1.heap.size ≤ (w3.setCell ⟨J.g, nj.length * 5 + 4, none⟩ (.slice (some ⟨h, 0, none⟩) x.kids.length cc)).heap.size := by
            rw [set_size]
            have h1 := hg3.out.size
            rw [World.size_alloc] at h1
            exact Nat.le_trans (Nat.le_trans HNUM.out.2.2.1 hz2') (Nat.le_trans (Nat.le_succ _) h1)
          have HO4 : Hid (OwnL (w3.setCell ⟨J.g, nj.length * 5 + 4, none⟩ (.slice (some ⟨h, 0, none⟩) x.kids.length cc)) W1.heap.size 34 Job.enc u4 (st.reverse ++ nj)) := own_blocks HOL.out (fun k hk => by
            have hkl := (World.ownsRow.lt HOL.out k hk).2
            have hk2 := Nat.lt_of_lt_of_le hkl hz2'
            have hkJ : k ≠ J.g := by { intro e; exact HSEP.out (by rw [← e]; exact hk) }
            rw [blk_other _ hkJ, hg3.out.block k (by rw [World.size_alloc]; exact Nat.lt_succ_of_lt hk2) (fun e => by injection e with e; exact Nat.lt_irrefl _ (e ▸ hk2)), Below.heap_alloc _ _ _ hk2, HB2.out.block k hkl])
          replace HST := Lib.hid (fun w6 o lv' h5 h6 h7 => HST.out W2 w3 w6 h cc o lv' HB2.out ho3.out hg3.out hh3.out h5 h6 h7)
          have hss := sum_small HNUM.out.2.2.2.2.1 (rfl : 1 = 1)
          have hb5 : W1.heap.size ≤ ((w3.setCell ⟨J.g, nj.length * 5 + 4, none⟩ (.slice (some ⟨h, 0, none⟩) x.kids.length cc)).alloc (.cells #[.slice (some ⟨h, 0, none⟩) x.kids.length cc] 34)).heap.size := by rw [World.size_alloc]; exact Nat.le_succ_of_le hb4
          generalize w3.setCell ⟨J.g, nj.length * 5 + 4, none⟩ (.slice (some ⟨h, 0, none⟩) x.kids.length cc) = W4 at *
          clear R2 R3 R4 q4 hJ2 hz2' HSR2 HEM hkb hbs ho3 hg3 hh3 HB2 HOL p4 pf r3
          go_wp2_with (at_builtin; refine wpList_appAt (by rfl) _ _ _ (by rfl) W1.heap.size 34 Job.enc j0 _ 24 Try.underlying75 hj0 hy0 hy1 hy2 rfl oneJob u4 (st.reverse ++ nj) (by rfl) (HO4.out.alloc _) W4.heap.size 1 1 [⟨h, cc, x.kids⟩] (by rfl) (by rfl) _ (heap_alloc_new W4 _) (by rfl) hss.1 hss.2 hb5 ?_; intro lv' w6 ho6 hg6 hl6)
          have HI6 := Lib.hid (HST.out w6 _ lv' ho6 hg6 hl6)
          clear HST ho6 hg6 hl6 HO4 s4 hJ4 hb4 hb5 hss
          have hln : (nj ++ [(⟨h, cc, x.kids⟩ : Job)]).length = nj.length + 1 := by rw [List.length_append]; rfl
          have hwr := next_len (Nat.le_trans (by rw [List.length_append]; exact Nat.le_add_left _ _) HNUM.out.2.2.2.2.1 : nj.length ≤ 2000000)
          rw [hwr]
          exact ⟨⟨nj ++ [⟨h, cc, x.kids⟩], by rw [hln], HI6⟩, next_less hl1⟩
        · have hl1 : ¬ (nj.length : Int) < (J.ts.length : Int) := fun h => hlt (Int.ofNat_lt.1 h)
          have he : nj.length = J.ts.length := Nat.le_antisymm HI.out.nlen (Nat.not_lt.1 hlt)
          obtain ⟨R', bl', hO'⟩ := HI.out.fin he
          obtain ⟨hs1, hs2⟩ := small_fin HCS.out he HI.out.nts
          have HO' := Lib.hid hO'
          have HS1 := Lib.hid hs1
          have HS2 := Lib.hid hs2
          clear hO' hs1 hs2 HI he hlt
          go_wp2
          exact ⟨⟨_, _, _, _, HO'.out, rfl, HS1.out⟩, OutAt.less HO'.out HS1.out (by rw [HL.out]; exact HS2.out)⟩

end Go.Proofs.Ytdbkifndhkmfgaa.val
