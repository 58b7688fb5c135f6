/-
  What holds between two rounds of impl.Compare's loop, and how it goes on: a pair of lists has come to its end; a pair of elements is taken and its own lists are pushed.
-/
import Derived.Test.YtlkfaehfkapfnaaCmpStart
namespace Go.Proofs.Ytlkfaehfkapfnaa.val
open Go.ChangeShapes Go.WideShapes Go.ChangeAt Go.RowKit
set_option maxRecDepth 100000

theorem row_shape {w : World} {base n : Nat} {e : TypeId} {v : Value} {xs : List Value} (h : w.ownsRow base e 2 v n xs) : ∃ a cap, v = .slice a n cap ∧ n ≤ cap ∧ cap ≤ maxLen ∧ (0 < n → ∃ g, a = some ⟨g, 0, none⟩ ∧ base ≤ g ∧ g < w.heap.size) := by
  obtain ⟨h1, h2⟩ := h
  rcases h2 with ⟨h0, hn⟩ | ⟨g, cap, cur, h0, hb, hg, hc, hm, hs, ht⟩
  · subst hn
    exact ⟨none, 0, h0, Nat.le_refl _, by unfold maxLen; omega, fun h => absurd h (by omega)⟩
  · exact ⟨_, cap, h0, hc, hm, fun _ => ⟨g, rfl, hb, (Array.getElem?_eq_some_iff.1 hg).1⟩⟩
/-- The slice behind a list's first element. -/
def tl (p : Addr) (cap : Nat) : Addr := if cap = 1 then p else ⟨p.block, p.off + 5, none⟩
theorem seg_tl {w : World} {n₀ g : Nat} {p : Addr} {cap : Nat} {x : LT} {ts : List LT} (h : SegIn w n₀ g ⟨some p, cap, x :: ts⟩) : SegIn w n₀ g ⟨some (tl p cap), cap - 1, ts⟩ := by
  unfold tl
  split
  · rename_i hc
    subst hc
    exact (seg_last h).2
  · exact seg_tail h
structure CmpRel (w wr : World) (na nb g0 : Nat) (N : Nat) (R : Int) (v : Value) (st : List PSeg) : Prop where
  own : wr.ownsRow g0 56 2 v st.length (encs2 st)
  sa : ∀ s ∈ st, SegIn wr w.heap.size na s.a
  sb : ∀ s ∈ st, SegIn wr w.heap.size nb s.b
  len : ∀ s ∈ st, s.a.ts.length = s.b.ts.length
  eq : R = remC st
  few : st.length + remN st ≤ N
  size : g0 ≤ wr.heap.size
  low : Below w.heap.size w wr
def CmpFar (w wr : World) (na nb g0 N : Nat) (R : Int) (v : Value) (k : Nat) : Prop := ∃ st, CmpRel w wr na nb g0 N R v st ∧ k = 2 * remN st + st.length
theorem CmpFar.least {w wr : World} {na nb g0 N : Nat} {R : Int} {v : Value} (h : ∃ k, CmpFar w wr na nb g0 N R v k) : ∃ st, CmpRel w wr na nb g0 N R v st ∧ leastOf (CmpFar w wr na nb g0 N R v) = 2 * remN st + st.length := (leastOf_spec h).1
theorem CmpFar.less {w wr' : World} {na nb g0 N : Nat} {R : Int} {v' : Value} {st : List PSeg} {k : Nat} (h : CmpRel w wr' na nb g0 N R v' st) (hk : 2 * remN st + st.length < k) : leastOf (CmpFar w wr' na nb g0 N R v') < k :=
  Nat.lt_of_le_of_lt ((leastOf_spec ⟨_, st, h, rfl⟩).2 _ ⟨st, h, rfl⟩) hk
/-- The beginning. -/
theorem CmpRel.start {w wx : World} {x u : LT} {na nb g : Nat} (hx : In w w.heap.size x) (hu : In w w.heap.size u) (bx : Box wx na x) (bu : Box wx nb u)
    (hg : wx.heap[g]? = some (.cells #[.slice (some ⟨na, 0, none⟩) 1 1, .slice (some ⟨nb, 0, none⟩) 1 1] 56 (0, 0))) (hl : Below w.heap.size w wx) :
    CmpRel w wx na nb g (x.nodes + 1) (cmpV (er x) (er u)) (.slice (some ⟨g, 0, none⟩) 1 1) [⟨⟨some ⟨na, 0, none⟩, 1, [x]⟩, ⟨some ⟨nb, 0, none⟩, 1, [u]⟩⟩] := by
  have one : ∀ {y : LT} {m : Nat}, In w w.heap.size y → Box wx m y → SegIn wx w.heap.size m ⟨some ⟨m, 0, none⟩, 1, [y]⟩ := fun {y m} hy hb => by
    refine ⟨fun i hi => ?_, fun i hi => ?_, by simp⟩
    · have : i = 0 := by simp at hi; omega
      subst this
      exact ⟨_, rfl, .inr rfl, ⟨hb.b0, hb.b1, hb.b2, hb.b3, hb.b4⟩⟩
    · have : i = 0 := by simp at hi; omega
      subst this
      exact hy.behind hl
  refine ⟨?_, ?_, ?_, ?_, ?_, ?_, Nat.le_of_lt (Array.getElem?_eq_some_iff.1 hg).1, hl⟩
  · refine ⟨rfl, .inr ⟨g, 1, _, rfl, Nat.le_refl _, hg, Nat.le_refl _, by unfold maxLen; omega, rfl, rfl⟩⟩
  · intro s hs
    obtain rfl := List.mem_singleton.1 hs
    exact one hx bx
  · intro s hs
    obtain rfl := List.mem_singleton.1 hs
    exact one hu bu
  · intro s hs
    obtain rfl := List.mem_singleton.1 hs
    rfl
  · rw [remC, firstOf_two]
    simp only [List.map_cons, List.map_nil, cmpVL, firstOf_two, remC]
    split
    · rename_i h
      rw [h, if_pos rfl]
    · rfl
  · simp [remN, LT.nodesL]
    omega
theorem CmpRel.pop {w wr : World} {na nb g0 N g c m : Nat} {R : Int} {a b : Seg} {rest : List PSeg} (ha : a.ts = []) (h : CmpRel w wr na nb g0 N R (.slice (some ⟨g, 0, none⟩) m c) (⟨a, b⟩ :: rest)) :
    CmpRel w wr na nb g0 N R (.slice (some ⟨g, 0, none⟩) rest.length c) rest := by
  obtain ⟨a0, c0, hv, _, _, _⟩ := row_shape h.own
  injection hv with h1 h2 h3
  subst h2
  refine ⟨?_, fun s hs => h.sa s (List.mem_cons_of_mem _ hs), fun s hs => h.sb s (List.mem_cons_of_mem _ hs), fun s hs => h.len s (List.mem_cons_of_mem _ hs), by rw [h.eq, remC_pop ha], ?_, h.size, h.low⟩
  · have := row_take h.own rest.length (by simp)
    rw [encs2_cons, List.take_left' (encs2_len rest)] at this
    exact this
  · have := h.few
    simp only [List.length_cons, remN, ha, LT.nodesL] at this
    omega
/-- Both lists go on behind their first elements. -/
theorem CmpRel.cut {w wr : World} {na nb g0 N g c : Nat} {R : Int} {p q : Addr} {ca cb : Nat} {x u : LT} {xs us : List LT} {rest : List PSeg}
    (h : CmpRel w wr na nb g0 N R (.slice (some ⟨g, 0, none⟩) (rest.length + 1) c) (⟨⟨some p, ca, x :: xs⟩, ⟨some q, cb, u :: us⟩⟩ :: rest)) :
    ((wr.setCell ⟨g, rest.length * 2, none⟩ (.slice (some (tl p ca)) xs.length (ca - 1))).setCell ⟨g, rest.length * 2 + 1, none⟩ (.slice (some (tl q cb)) us.length (cb - 1))).ownsRow g0 56 2 (.slice (some ⟨g, 0, none⟩) (rest.length + 1) c) (rest.length + 1) (encs2 (⟨⟨some (tl p ca), ca - 1, xs⟩, ⟨some (tl q cb), cb - 1, us⟩⟩ :: rest)) := by
  have h1 := row_set (row_set h.own (rest.length * 2) (.slice (some (tl p ca)) xs.length (ca - 1))) (rest.length * 2 + 1) (.slice (some (tl q cb)) us.length (cb - 1))
  have e : ((encs2 (⟨⟨some p, ca, x :: xs⟩, ⟨some q, cb, u :: us⟩⟩ :: rest)).set (rest.length * 2) (.slice (some (tl p ca)) xs.length (ca - 1))).set (rest.length * 2 + 1) (.slice (some (tl q cb)) us.length (cb - 1)) = encs2 (⟨⟨some (tl p ca), ca - 1, xs⟩, ⟨some (tl q cb), cb - 1, us⟩⟩ :: rest) := by
    rw [encs2_cons, encs2_cons, List.set_append_right _ _ (by rw [encs2_len]; omega), List.set_append_right _ _ (by rw [encs2_len]; omega), encs2_len]
    simp [encP, Seg.enc]
  rw [e] at h1
  exact h1
/-- .. and their own lists are pushed. -/
theorem CmpRel.push {w wr w3 : World} {na nb g0 N : Nat} {R : Int} {p q : Addr} {ca cb : Nat} {x u : LT} {xs us : List LT} {rest : List PSeg} {v v' : Value} (hc : cmpF x u = 0)
    (h : CmpRel w wr na nb g0 N R v (⟨⟨some p, ca, x :: xs⟩, ⟨some q, cb, u :: us⟩⟩ :: rest)) (hb : Below w.heap.size wr w3) (hna : w3.heap[na]? = wr.heap[na]?) (hnb : w3.heap[nb]? = wr.heap[nb]?)
    (ho : w3.ownsRow g0 56 2 v' (rest.length + 1 + 1) (encs2 (⟨⟨some (tl p ca), ca - 1, xs⟩, ⟨some (tl q cb), cb - 1, us⟩⟩ :: rest) ++ [.slice x.a x.kids.length x.cap, .slice u.a u.kids.length u.cap])) (hs : wr.heap.size ≤ w3.heap.size) :
    CmpRel w w3 na nb g0 N R v' (⟨⟨x.a, x.cap, x.kids⟩, ⟨u.a, u.cap, u.kids⟩⟩ :: ⟨⟨some (tl p ca), ca - 1, xs⟩, ⟨some (tl q cb), cb - 1, us⟩⟩ :: rest) := by
  have hA := h.sa _ (List.mem_cons_self ..)
  have hB := h.sb _ (List.mem_cons_self ..)
  refine ⟨?_, ?_, ?_, ?_, ?_, ?_, Nat.le_trans h.size hs, h.low.trans hb⟩
  · rw [encs2_cons]
    exact ho
  · intro s hs'
    rcases List.mem_cons.1 hs' with rfl | hs'
    · exact (seg_kids (hA.isIn 0 (by simp))).kept hb hna
    · rcases List.mem_cons.1 hs' with rfl | hs'
      · exact (seg_tl hA).kept hb hna
      · exact (h.sa s (List.mem_cons_of_mem _ hs')).kept hb hna
  · intro s hs'
    rcases List.mem_cons.1 hs' with rfl | hs'
    · exact (seg_kids (hB.isIn 0 (by simp))).kept hb hnb
    · rcases List.mem_cons.1 hs' with rfl | hs'
      · exact (seg_tl hB).kept hb hnb
      · exact (h.sb s (List.mem_cons_of_mem _ hs')).kept hb hnb
  · intro s hs'
    rcases List.mem_cons.1 hs' with rfl | hs'
    · exact cmpF_len hc
    · rcases List.mem_cons.1 hs' with rfl | hs'
      · have := h.len _ (List.mem_cons_self ..)
        simp only [List.length_cons] at this
        simp only
        omega
      · exact h.len s (List.mem_cons_of_mem _ hs')
  · rw [h.eq]
    exact remC_push rfl rfl rfl rfl hc rest
  · have h1 := h.few
    have h2 := nodes_mk x
    simp only [List.length_cons, remN, LT.nodesL] at *
    omega
theorem row_below {w w' : World} {base n : Nat} {e : TypeId} {v : Value} {xs : List Value} (h : w.ownsRow base e 2 v n xs) (hb : Below w.heap.size w w') : w'.ownsRow base e 2 v n xs := by
  obtain ⟨h1, h2⟩ := h
  refine ⟨h1, ?_⟩
  rcases h2 with h2 | ⟨g, cap, cur, h0, hb', hg, rest⟩
  · exact .inl h2
  · exact .inr ⟨g, cap, cur, h0, hb', (hb.block g (Array.getElem?_eq_some_iff.1 hg).1).trans hg, rest⟩
theorem CmpRel.kept {w wr w1 : World} {na nb g0 N : Nat} {R : Int} {v : Value} {st : List PSeg} (h : CmpRel w wr na nb g0 N R v st) (hb : Below wr.heap.size wr w1) (hna : na < g0) (hnb : nb < g0) : CmpRel w w1 na nb g0 N R v st := by
  have hs := h.size
  have hl := h.low.size
  exact ⟨row_below h.own hb, fun s hs' => (h.sa s hs').kept (hb.mono hl) (hb.block na (by omega)), fun s hs' => (h.sb s hs').kept (hb.mono hl) (hb.block nb (by omega)), h.len, h.eq, h.few, Nat.le_trans h.size hb.size, h.low.trans (hb.mono hl)⟩
theorem far_cmp {p q : Addr} {ca cb : Nat} {x u : LT} {xs us : List LT} {rest : List PSeg} (b : Option Addr) (cb' : Nat) (a' : Option Addr) (ca' : Nat) :
    2 * remN (⟨⟨x.a, x.cap, x.kids⟩, ⟨u.a, u.cap, u.kids⟩⟩ :: ⟨⟨a', ca', xs⟩, ⟨b, cb', us⟩⟩ :: rest) + (⟨⟨x.a, x.cap, x.kids⟩, ⟨u.a, u.cap, u.kids⟩⟩ :: ⟨⟨a', ca', xs⟩, ⟨b, cb', us⟩⟩ :: rest : List PSeg).length < 2 * remN (⟨⟨some p, ca, x :: xs⟩, ⟨some q, cb, u :: us⟩⟩ :: rest) + (⟨⟨some p, ca, x :: xs⟩, ⟨some q, cb, u :: us⟩⟩ :: rest : List PSeg).length := by
  have h2 := nodes_mk x
  simp only [List.length_cons, remN, LT.nodesL]
  omega

end Go.Proofs.Ytlkfaehfkapfnaa.val
