/-
  append(s, x...) where both are slices of the call's own. Of any program.
-/
import Derived.Test.YtnaghafmpncdkaaDoorGetCborJ0
import Derived.Test.YtnaghafmpncdkaaDoorGetCborJ4
import Derived.Test.YtnaghafmpncdkaaDoorGetCborJ3
namespace Go.Proofs.YtnaghafmpncdkaaDoor
open Go.RowKit

/-- A slice of the call's own that is not nil. -/
theorem own_some {α : Type} {w : World} {base : Nat} {e : TypeId} {enc : α → Value} {v : Value} {l : List α} (h : OwnL w base e enc v l) (hn : v ≠ .slice none 0 0) : ∃ g c, v = .slice (some ⟨g, 0, none⟩) l.length c := by
  rcases h.2 with ⟨rfl, _⟩ | ⟨g, cap, cur, rfl, _⟩
  · exact (hn rfl).elim
  · exact ⟨g, cap, rfl⟩
section
variable {P : Program} {w : World} {α : Type}
theorem run_app2 (t ty : TypeId) (base : Nat) (e : TypeId) (enc : α → Value) (i : TypeInfo) (z : Value) (bytes : Nat) (ht : P.underlying t = some (.slice e)) (hi : P.info? e = some i) (hz : i.zero = some z)
    (hsize : i.size = 1) (hby : i.bytes = bytes) (hzs : z.cells.size = 1) (h1 : ∀ x, (enc x).oneCell' = true)
    (g c : Nat) (l : List α) (hown : OwnL w base e enc (.slice (some ⟨g, 0, none⟩) l.length c) l)
    (base2 g2 c2 : Nat) (news : List α) (hown2 : OwnL w base2 e enc (.slice (some ⟨g2, 0, none⟩) news.length c2) news)
    (h63 : l.length + news.length ≤ maxLen) (hbytes : (l.length + news.length) * bytes ≤ 140737488355328) (hbase : base ≤ w.heap.size) :
    ∃ g' c' w', (Builtin.append_ #[t, t] ty #[.slice (some ⟨g, 0, none⟩) l.length c, .slice (some ⟨g2, 0, none⟩) news.length c2]).run P w = .ok (.slice (some ⟨g', 0, none⟩) (l ++ news).length c') w' ∧ OwnL w' base e enc (.slice (some ⟨g', 0, none⟩) (l ++ news).length c') (l ++ news) ∧ w.grownBy w' (some g) := by
  obtain ⟨v', w', hrun, h2, h3, h4, _⟩ := run_append_own_at (P := P) w base t ty e i z 1 bytes ht hi hz hsize hby hzs (by omega) (.slice (some ⟨g, 0, none⟩) l.length c) l.length (l.map enc) hown ⟨g2, 0, none⟩ news.length c2 (news.map enc) (by simp)
    (fun j u hj => by
      have hp : (⟨g2, 0, none⟩ : Addr).add j = ⟨g2, j, none⟩ := by unfold Addr.add; split <;> simp_all
      have hl : j < news.length := by
        have := (List.getElem?_eq_some_iff.1 hj).1
        simpa using this
      rw [hp, hown2.cell j hl, ← hj]; simp [List.getElem?_eq_getElem hl])
    (fun u hu => by obtain ⟨x, _, rfl⟩ := List.mem_map.1 hu; exact h1 x) h63 hbytes hbase
  have h5 : OwnL w' base e enc v' (l ++ news) := by unfold OwnL; rw [List.length_append, List.map_append]; exact h2
  obtain ⟨g', c', rfl⟩ := own_some h5 (fun e => by have := (h4.1 e).1; cases this)
  exact ⟨g', c', w', hrun, h5, h3⟩
theorem wp_app2 {o : Oper} {a : Act} {K : Act → World → Prop} {Q : Exit → Act → World → Prop} (s x : Operand) (t : TypeId)
    (ho : o.op = .call { callee := .builtin .append, args := #[s, x], argTypes := #[t, t] })
    (base : Nat) (e : TypeId) (enc : α → Value) (i : TypeInfo) (z : Value) (bytes : Nat) (ht : P.underlying t = some (.slice e)) (hi : P.info? e = some i) (hz : i.zero = some z)
    (hsize : i.size = 1) (hby : i.bytes = bytes) (hzs : z.cells.size = 1) (h1 : ∀ x, (enc x).oneCell' = true)
    (g c : Nat) (l : List α) (n : Nat) (hn : l.length = n) (hs : a.eval s = .slice (some ⟨g, 0, none⟩) n c) (hown : OwnL w base e enc (.slice (some ⟨g, 0, none⟩) n c) l)
    (base2 g2 c2 : Nat) (news : List α) (m : Nat) (hm : news.length = m) (hx : a.eval x = .slice (some ⟨g2, 0, none⟩) m c2) (hown2 : OwnL w base2 e enc (.slice (some ⟨g2, 0, none⟩) m c2) news)
    (h63 : n + m ≤ maxLen) (hbytes : (n + m) * bytes ≤ 140737488355328) (hbase : base ≤ w.heap.size)
    (h : ∀ g' c' w', OwnL w' base e enc (.slice (some ⟨g', 0, none⟩) (n + m) c') (l ++ news) → w.grownBy w' (some g) → K (a.put o.dst (.slice (some ⟨g', 0, none⟩) (n + m) c')) w') : o.wp P a w K Q := by
  subst hn
  subst hm
  obtain ⟨g', c', w', hrun, h5, h3⟩ := run_app2 (P := P) t o.type base e enc i z bytes ht hi hz hsize hby hzs h1 g c l hown base2 g2 c2 news hown2 h63 hbytes hbase
  unfold Oper.wp execOp
  simp only [ho, resolve, invoke, builtin, Sem.run_bind, Sem.run_pure, Result.andThen_ok, List.map_toArray, List.map_cons, List.map_nil, hs, hx, hrun]
  rw [List.length_append] at h5 ⊢
  exact h g' c' w' h5 h3
/-- append of a slice of the call's own. -/
theorem wpList_app2 {ops : Array Oper} {rest : List Oper} {o : Oper} {a : Act} {Q : Exit → Act → World → Prop} (hgd : o.guard = none) (s x : Operand) (t : TypeId)
    (ho : o.op = .call { callee := .builtin .append, args := #[s, x], argTypes := #[t, t] })
    (base : Nat) (e : TypeId) (enc : α → Value) (i : TypeInfo) (z : Value) (bytes : Nat) (ht : P.underlying t = some (.slice e)) (hi : P.info? e = some i) (hz : i.zero = some z)
    (hsize : i.size = 1) (hby : i.bytes = bytes) (hzs : z.cells.size = 1) (h1 : ∀ x, (enc x).oneCell' = true)
    (g c : Nat) (l : List α) (n : Nat) (hn : l.length = n) (hs : a.eval s = .slice (some ⟨g, 0, none⟩) n c) (hown : OwnL w base e enc (.slice (some ⟨g, 0, none⟩) n c) l)
    (base2 g2 c2 : Nat) (news : List α) (m : Nat) (hm : news.length = m) (hx : a.eval x = .slice (some ⟨g2, 0, none⟩) m c2) (hown2 : OwnL w base2 e enc (.slice (some ⟨g2, 0, none⟩) m c2) news)
    (h63 : n + m ≤ maxLen) (hbytes : (n + m) * bytes ≤ 140737488355328) (hbase : base ≤ w.heap.size)
    (h : ∀ g' c' w', OwnL w' base e enc (.slice (some ⟨g', 0, none⟩) (n + m) c') (l ++ news) → w.grownBy w' (some g) → wpList P ops Q rest (a.put o.dst (.slice (some ⟨g', 0, none⟩) (n + m) c')) w') : wpList P ops Q (o :: rest) a w :=
  wpList_plain hgd fun _ hK => wp_app2 s x t ho base e enc i z bytes ht hi hz hsize hby hzs h1 g c l n hn hs hown base2 g2 c2 news m hm hx hown2 h63 hbytes hbase fun g' c' w' h2 h3 => hK _ _ (h g' c' w' h2 h3)
/-- The same as a step of a region that draws its order. -/
theorem step_app2 {ops : Array Oper} {o : Oper} {a : Act} {K : Act → World → Prop} {Q : Exit → Act → World → Prop} {E : Prop} (hgd : o.guard = none) (s x : Operand) (t : TypeId)
    (ho : o.op = .call { callee := .builtin .append, args := #[s, x], argTypes := #[t, t] })
    (base : Nat) (e : TypeId) (enc : α → Value) (i : TypeInfo) (z : Value) (bytes : Nat) (ht : P.underlying t = some (.slice e)) (hi : P.info? e = some i) (hz : i.zero = some z)
    (hsize : i.size = 1) (hby : i.bytes = bytes) (hzs : z.cells.size = 1) (h1 : ∀ x, (enc x).oneCell' = true)
    (g c : Nat) (l : List α) (n : Nat) (hn : l.length = n) (hs : a.eval s = .slice (some ⟨g, 0, none⟩) n c) (hown : OwnL w base e enc (.slice (some ⟨g, 0, none⟩) n c) l)
    (base2 g2 c2 : Nat) (news : List α) (m : Nat) (hm : news.length = m) (hx : a.eval x = .slice (some ⟨g2, 0, none⟩) m c2) (hown2 : OwnL w base2 e enc (.slice (some ⟨g2, 0, none⟩) m c2) news)
    (h63 : n + m ≤ maxLen) (hbytes : (n + m) * bytes ≤ 140737488355328) (hbase : base ≤ w.heap.size)
    (h : ∀ g' c' w', OwnL w' base e enc (.slice (some ⟨g', 0, none⟩) (n + m) c') (l ++ news) → w.grownBy w' (some g) → K (a.put o.dst (.slice (some ⟨g', 0, none⟩) (n + m) c')) w') :
    if Region.wanted o (yielded ops a.tmps) = true then Oper.wp P o a w K Q else E := by
  have hw : Region.wanted o (yielded ops a.tmps) = true := by simp [Region.wanted, hgd]
  rw [if_pos hw]
  exact wp_app2 s x t ho base e enc i z bytes ht hi hz hsize hby hzs h1 g c l n hn hs hown base2 g2 c2 news m hm hx hown2 h63 hbytes hbase h
/-- append to a slice of the call's own; the block is the old one or a new one. -/
theorem wpList_appAt {ops : Array Oper} {rest : List Oper} {o : Oper} {a : Act} {Q : Exit → Act → World → Prop} (hgd : o.guard = none) (s x : Operand) (t : TypeId)
    (ho : o.op = .call { callee := .builtin .append, args := #[s, x], argTypes := #[t, t] })
    (base : Nat) (e : TypeId) (enc : α → Value) (i : TypeInfo) (z : Value) (bytes : Nat) (ht : P.underlying t = some (.slice e)) (hi : P.info? e = some i) (hz : i.zero = some z)
    (hsize : i.size = 1) (hby : i.bytes = bytes) (hzs : z.cells.size = 1) (h1 : ∀ x, (enc x).oneCell' = true)
    (v : Value) (l : List α) (hs : a.eval s = v) (hown : OwnL w base e enc v l) (g m c : Nat) (news : List α) (hx : a.eval x = .slice (some ⟨g, 0, none⟩) m c) (hm : news.length = m) (cs : Array Value) (hg : w.heap[g]? = some (.cells cs e (0, 0))) (hcs : cs.toList = news.map enc)
    (h63 : l.length + m ≤ maxLen) (hbytes : (l.length + m) * bytes ≤ 140737488355328) (hbase : base ≤ w.heap.size)
    (h : ∀ v' w', OwnL w' base e enc v' (l ++ news) → w.grownBy w' v.ownBlock → (v'.ownBlock = v.ownBlock ∨ v'.ownBlock = some w.heap.size) → wpList P ops Q rest (a.put o.dst v') w') : wpList P ops Q (o :: rest) a w := by
  subst hm
  obtain ⟨v', w', hrun, h2, h3, _, h5⟩ := run_append_own_at (P := P) w base t o.type e i z 1 bytes ht hi hz hsize hby hzs (by omega) v l.length (l.map enc) hown ⟨g, 0, none⟩ news.length c (news.map enc) (by simp)
    (fun j u hj => by
      have hp : (⟨g, 0, none⟩ : Addr).add j = ⟨g, j, none⟩ := by unfold Addr.add; split <;> simp_all
      rw [hp, cell_of_row w g j cs e (0, 0) hg, ← hj, ← hcs]; simp)
    (fun u hu => by obtain ⟨x, _, rfl⟩ := List.mem_map.1 hu; exact h1 x) h63 hbytes hbase
  refine wpList_plain hgd fun _ hK => ?_
  unfold Oper.wp execOp
  simp only [ho, resolve, invoke, builtin, Sem.run_bind, Sem.run_pure, Result.andThen_ok, List.map_toArray, List.map_cons, List.map_nil, hs, hx, hrun]
  exact hK _ _ (h v' w' (by unfold OwnL; rw [List.length_append, List.map_append]; exact h2) h3 h5)
theorem own_blocks {base : Nat} {e : TypeId} {enc : α → Value} {v : Value} {l : List α} {w' : World} (h : OwnL w base e enc v l) (hk : ∀ k, v.ownBlock = some k → w'.heap[k]? = w.heap[k]?) : OwnL w' base e enc v l := by
  obtain ⟨h1, h2⟩ := h
  refine ⟨h1, ?_⟩
  rcases h2 with h2 | ⟨g, cap, cur, rfl, hb, hg, rest⟩
  · exact .inl h2
  · exact .inr ⟨g, cap, cur, rfl, hb, (hk g rfl).trans hg, rest⟩
end
end Go.Proofs.YtnaghafmpncdkaaDoor
/-
  Values whose lists are nil or whole blocks of their own; rows of values; append to such a row.
-/
namespace Go.Proofs.YtnaghafmpncdkaaDoor.val
open Go.ChangeShapes Go.WideShapes Go.ChangeAt Go.RowKit
set_option maxRecDepth 100000

/-- Each list is nil or a block from its head, none frozen. -/
inductive Tr (w : World) : LT → Prop
  | nil {k n e : Int} {s : ByteArray} (hk : InI k) (hn : InI n) (he : InI e) (hs : s.size ≤ 9223372036854775807) : Tr w (.mk k n e s none 0 [])
  | mk {k n e : Int} {s : ByteArray} {g cap : Nat} {kids : List LT} (cs : Array Value) (hk : InI k) (hn : InI n) (he : InI e) (hs : s.size ≤ 9223372036854775807) (hl : kids.length ≤ cap ∧ cap ≤ 9223372036854775807)
      (hb : w.heap[g]? = some (.cells cs 24 (0, 0))) (hz : kids.length * 5 ≤ cs.size)
      (hc : ∀ i (h : i < kids.length), At5 w ⟨g, i * 5, none⟩ kids[i]) (hkids : ∀ i (h : i < kids.length), Tr w kids[i]) : Tr w (.mk k n e s (some ⟨g, 0, none⟩) cap kids)
theorem mem_blksL_iff : ∀ {l : List LT} {b : Nat}, b ∈ LT.blksL l → ∃ i, ∃ h : i < l.length, b ∈ l[i].blks
  | t :: ts, b, hb => by
    rw [LT.blksL] at hb
    rcases List.mem_append.1 hb with hb | hb
    · exact ⟨0, by simp, hb⟩
    · obtain ⟨i, hi, h⟩ := mem_blksL_iff (l := ts) hb
      exact ⟨i + 1, by simpa using hi, h⟩
  | [], b, hb => by simp [LT.blksL] at hb
theorem Tr.lt {w : World} {t : LT} (h : Tr w t) : ∀ b, b ∈ t.blks → b < w.heap.size := by
  induction h with
  | nil => intro b hb; simp [LT.blks, LT.blksL] at hb
  | @mk k n e s g cap kids cs _ _ _ _ _ hb _ _ _ ih =>
    intro b hbb
    rw [blks_some] at hbb
    rcases List.mem_cons.1 hbb with rfl | hbb
    · exact (Array.getElem?_eq_some_iff.1 hb).1
    · obtain ⟨i, hi, h⟩ := mem_blksL_iff hbb
      exact ih i hi b h
theorem Tr.kept {w w' : World} {t : LT} (h : Tr w t) (hk : ∀ b, b ∈ t.blks → w'.heap[b]? = w.heap[b]?) : Tr w' t := by
  induction h with
  | nil h1 h2 h3 h4 => exact .nil h1 h2 h3 h4
  | @mk k n e s g cap kids cs h1 h2 h3 h4 h5 hb hz hc _ ih =>
    have hg := hk g (by rw [blks_some]; exact List.mem_cons_self ..)
    refine .mk cs h1 h2 h3 h4 h5 (hg.trans hb) hz (fun i hi => (hc i hi).of_block hg) (fun i hi => ih i hi (fun b hbb => hk b ?_))
    rw [blks_some]
    exact List.mem_cons_of_mem _ (mem_blksL hi hbb)
theorem Tr.behind {w w' : World} {t : LT} (h : Tr w t) (hb : Below w.heap.size w w') : Tr w' t := h.kept fun b hbb => hb.block b (h.lt b hbb)
theorem Tr.isIn {w : World} {t : LT} (h : Tr w t) {B : Nat} (hB : ∀ b, b ∈ t.blks → b < B) : In w B t := by
  induction h with
  | nil h1 h2 h3 h4 => exact .mk h1 h2 h3 h4 ⟨by simp, by omega⟩ (fun i hi => by simp at hi) (fun i hi => by simp at hi)
  | @mk k n e s g cap kids cs h1 h2 h3 h4 h5 hb hz hc _ ih =>
    refine .mk h1 h2 h3 h4 h5 (fun i hi => ⟨_, rfl, hB g (by rw [blks_some]; exact List.mem_cons_self ..), by rw [add0]; exact hc i hi⟩) (fun i hi => ih i hi (fun b hbb => hB b ?_))
    rw [blks_some]
    exact List.mem_cons_of_mem _ (mem_blksL hi hbb)
theorem Tr.sh {w : World} {t : LT} (h : Tr w t) (hz : t.sz ≤ 1048576) : Sh w t := by
  induction h with
  | nil => exact .nil
  | @mk k n e s g cap kids cs h1 h2 h3 h4 h5 hb hz' hc _ ih =>
    rw [sz_mk] at hz
    simp only [LT.s, LT.kids] at hz
    have hlen := szL_len kids
    refine .mk cs (by omega) hb hz' (fun i hi => ?_) (fun i hi => ih i hi ?_)
    · have := (hc i hi).c4
      rw [cell_of_row w g (i * 5 + 4) cs _ (0, 0) hb] at this
      exact this
    · have := sz_kid i hi; omega
theorem Own.tr {w : World} {lo hi : Nat} {t : LT} (h : Own w lo hi t) : Tr w t ∧ ∀ b, b ∈ t.blks → lo ≤ b ∧ b < hi := by
  induction h with
  | @mk k n e s g cap kids cs k1 k2 k3 k4 k5 hlo hhi hb hz hc _ ih =>
    refine ⟨.mk cs k1 k2 k3 k4 k5 hb hz hc (fun i hi => (ih i hi).1), fun b hbb => ?_⟩
    rw [blks_some] at hbb
    rcases List.mem_cons.1 hbb with rfl | hbb
    · exact ⟨hlo, hhi⟩
    · obtain ⟨i, hi, h⟩ := mem_blksL_iff hbb
      exact (ih i hi).2 b h

/-! Rows of values. -/
def one5 (t : LT) : List Value := [.int .i64 t.k, .int .i64 t.n, .int .i64 t.e, .string t.s, t.row]
def flat5 (l : List LT) : List Value := l.flatMap one5
theorem flat5_len (l : List LT) : (flat5 l).length = l.length * 5 := by
  induction l with
  | nil => rfl
  | cons t ts ih => rw [flat5, List.flatMap_cons, List.length_append, List.length_cons]; unfold flat5 at ih; rw [ih]; simp [one5]; omega
theorem flat5_append (a b : List LT) : flat5 (a ++ b) = flat5 a ++ flat5 b := by simp [flat5]
theorem flat5_one (t : LT) : flat5 [t] = one5 t := by simp [flat5]
theorem flat5_at : ∀ (l : List LT) (i : Nat) (h : i < l.length) (j : Nat), j < 5 → (flat5 l)[i * 5 + j]? = (one5 l[i])[j]?
  | t :: ts, 0, _, j, hj => by
    have : j < (one5 t).length := by simpa [one5] using hj
    rw [flat5, List.flatMap_cons, Nat.zero_mul, Nat.zero_add, List.getElem?_append_left this]; rfl
  | t :: ts, i + 1, h, j, hj => by
    have e : (one5 t).length = 5 := rfl
    rw [flat5, List.flatMap_cons, List.getElem?_append_right (by omega), e, show (i + 1) * 5 + j - 5 = i * 5 + j by omega]
    exact flat5_at ts i (by simpa using h) j hj
theorem flat5_one' (l : List LT) : ∀ u ∈ flat5 l, u.oneCell' = true := by
  intro u hu
  obtain ⟨t, _, ht⟩ := List.mem_flatMap.1 hu
  simp only [one5, List.mem_cons, List.not_mem_nil, or_false] at ht
  rcases ht with rfl | rfl | rfl | rfl | rfl <;> rfl
/-- The slice v owns a row of the values l, from block 'base' on. -/
def OwnR (w : World) (base : Nat) (v : Value) (l : List LT) : Prop := w.ownsRow base 24 5 v l.length (flat5 l)
theorem OwnR.at5 {w : World} {base g n c : Nat} {l : List LT} (h : OwnR w base (.slice (some ⟨g, 0, none⟩) n c) l) : (∃ cs, w.heap[g]? = some (.cells cs 24 (0, 0)) ∧ l.length * 5 ≤ cs.size) ∧ base ≤ g ∧ n = l.length ∧ l.length ≤ c ∧ c ≤ maxLen ∧ ∀ i (h : i < l.length), At5 w ⟨g, i * 5, none⟩ l[i] := by
  rcases h.2 with ⟨h0, _⟩ | ⟨g', cap, cur, h0, hb, hg, hc, hm, hs, ht⟩
  · cases h0
  · injection h0 with h1 h2 h3
    injection h1 with h1
    injection h1 with h1
    subst h1; subst h3
    have hl : l.length * 5 ≤ cur.size := by rw [hs]; exact Nat.mul_le_mul_right 5 hc
    refine ⟨⟨cur, hg, hl⟩, hb, h2, hc, hm, fun i hi => ?_⟩
    have cell : ∀ j, j < 5 → w.cell? ⟨g, i * 5 + j, none⟩ = (one5 l[i])[j]? := fun j hj => by
      rw [cell_of_row w g (i * 5 + j) cur _ (0, 0) hg, ← flat5_at l i hi j hj, ← ht, List.getElem?_take_of_lt (by omega)]
      simp
    exact ⟨cell 0 (by omega), cell 1 (by omega), cell 2 (by omega), cell 3 (by omega), cell 4 (by omega)⟩
theorem OwnR.same {w w' : World} {base : Nat} {v : Value} {l : List LT} (h : OwnR w base v l) (hk : ∀ k, v.ownBlock = some k → w'.heap[k]? = w.heap[k]?) : OwnR w' base v l := by
  obtain ⟨h1, h2⟩ := h
  refine ⟨h1, ?_⟩
  rcases h2 with h2 | ⟨g, cap, cur, rfl, hb, hg, rest⟩
  · exact .inl h2
  · exact .inr ⟨g, cap, cur, rfl, hb, (hk g rfl).trans hg, rest⟩
theorem OwnR.empty (w : World) (base : Nat) (hb : base ≤ w.heap.size) : OwnR (w.alloc (.cells #[] 24)) base (.slice (some ⟨w.heap.size, 0, none⟩) 0 0) [] :=
  ⟨rfl, .inr ⟨_, _, #[], rfl, hb, heap_alloc_new w _, Nat.le_refl _, by simp [maxLen], rfl, rfl⟩⟩
theorem OwnR.lt {w : World} {base : Nat} {v : Value} {l : List LT} (h : OwnR w base v l) (k : Nat) (hk : v.ownBlock = some k) : base ≤ k ∧ k < w.heap.size := World.ownsRow.lt h k hk
section
variable {P : Program} {w : World}
/-- append of a row of values to a row of the call's own. -/
theorem run_appR (hu : P.underlying 22 = some (.slice 24)) (i : TypeInfo) (z : Value) (hi : P.info? 24 = some i) (hz : i.zero = some z) (hsize : i.size = 5) (hby : i.bytes = 64) (hzs : z.cells.size = 5) (ty : TypeId)
    (base g c : Nat) (l news : List LT) (hown : OwnR w base (.slice (some ⟨g, 0, none⟩) l.length c) l) (x : Addr) (c2 : Nat) (hx : ∀ j (h : j < news.length), At5 w (x.add (j * 5)) news[j])
    (hb : l.length + news.length ≤ 2000000) (hbase : base ≤ w.heap.size) :
    ∃ g' c' w', (Builtin.append_ #[22, 22] ty #[.slice (some ⟨g, 0, none⟩) l.length c, .slice (some x) news.length c2]).run P w = .ok (.slice (some ⟨g', 0, none⟩) (l.length + news.length) c') w' ∧ OwnR w' base (.slice (some ⟨g', 0, none⟩) (l.length + news.length) c') (l ++ news) ∧ w.grownBy w' (some g) ∧ (g' = g ∨ g' = w.heap.size) := by
  obtain ⟨v', w', hrun, h2, h3, h4, h5⟩ := run_append_own_at (P := P) w base 22 ty 24 i z 5 64 hu hi hz hsize hby hzs (by omega) (.slice (some ⟨g, 0, none⟩) l.length c) l.length (flat5 l) hown x news.length c2 (flat5 news) (flat5_len news)
    (fun j u hj => by
      have hj5 : j < news.length * 5 := by
        have := (List.getElem?_eq_some_iff.1 hj).1
        rw [flat5_len] at this
        exact this
      have hlt : j / 5 < news.length := by omega
      have e : j = (j / 5) * 5 + j % 5 := by omega
      rw [e, flat5_at news (j / 5) hlt (j % 5) (by omega)] at hj
      have := (hx (j / 5) hlt).list (j % 5) u hj
      rw [Go.Deep.add_add, ← e] at this
      exact this)
    (flat5_one' news) (by unfold maxLen; omega) (by omega) hbase
  have h6 : OwnR w' base v' (l ++ news) := by unfold OwnR; rw [List.length_append, flat5_append]; exact h2
  have hne : v' ≠ .slice none 0 0 := fun e => by have := (h4.1 e).1; cases this
  rcases h6.2 with ⟨h0, _⟩ | ⟨g', cap, cur, h0, _⟩
  · exact (hne h0).elim
  · rw [List.length_append] at h0
    subst h0
    refine ⟨g', cap, w', hrun, h6, h3, ?_⟩
    rcases h5 with h5 | h5
    · left; simpa [Value.ownBlock] using h5
    · right; simpa [Value.ownBlock] using h5
theorem wpList_appR {ops : Array Oper} {rest : List Oper} {o : Oper} {a : Act} {Q : Exit → Act → World → Prop} (hgd : o.guard = none) (s x : Operand)
    (ho : o.op = .call { callee := .builtin .append, args := #[s, x], argTypes := #[22, 22] })
    (hu : P.underlying 22 = some (.slice 24)) (i : TypeInfo) (z : Value) (hi : P.info? 24 = some i) (hz : i.zero = some z) (hsize : i.size = 5) (hby : i.bytes = 64) (hzs : z.cells.size = 5)
    (base g c : Nat) (l news : List LT) (n m : Nat) (hn : l.length = n) (hm : news.length = m) (hs : a.eval s = .slice (some ⟨g, 0, none⟩) n c) (hown : OwnR w base (.slice (some ⟨g, 0, none⟩) n c) l) (xa : Addr) (c2 : Nat) (hxe : a.eval x = .slice (some xa) m c2) (hx : ∀ j (h : j < news.length), At5 w (xa.add (j * 5)) news[j])
    (hb : n + m ≤ 2000000) (hbase : base ≤ w.heap.size)
    (h : ∀ g' c' w', OwnR w' base (.slice (some ⟨g', 0, none⟩) (n + m) c') (l ++ news) → w.grownBy w' (some g) → (g' = g ∨ g' = w.heap.size) → wpList P ops Q rest (a.put o.dst (.slice (some ⟨g', 0, none⟩) (n + m) c')) w') : wpList P ops Q (o :: rest) a w := by
  subst hn
  subst hm
  obtain ⟨g', c', w', hrun, h1, h2, h3⟩ := run_appR (P := P) hu i z hi hz hsize hby hzs o.type base g c l news hown xa c2 hx hb hbase
  refine wpList_plain hgd fun _ hK => ?_
  unfold Oper.wp execOp
  simp only [ho, resolve, invoke, builtin, Sem.run_bind, Sem.run_pure, Result.andThen_ok, List.map_toArray, List.map_cons, List.map_nil, hs, hxe, hrun]
  exact hK _ _ (h g' c' w' h1 h2 h3)
end

end Go.Proofs.YtnaghafmpncdkaaDoor.val
/-
  A value in memory of its own; what a law carries along that compares two of them.
-/
namespace Go.Proofs.YtnaghafmpncdkaaDoor.newval
open Go.ChangeShapes Go.WideShapes Go.ChangeAt Go.RowKit
open Go.Proofs.YtnaghafmpncdkaaDoor.val
set_option maxRecDepth 100000

/-- The value v, made by a call in memory of its own. -/
structure NewV (w' w'' : World) (v : VT) (t' : LT) : Prop where
  er : er t' = v
  tr : Tr w'' t'
  new : ∀ b, b ∈ t'.blks → w'.heap.size ≤ b
  nodup : t'.blks.Nodup
  below : Below w'.heap.size w' w''
  sz : t'.sz ≤ 1048576
def zeroV : VT := .mk 0 0 0 ⟨#[]⟩ []
def zeroL : LT := .mk 0 0 0 ⟨#[]⟩ none 0 []
theorem NewV.zero {w w' : World} (hb : Below w.heap.size w w') : NewV w w' zeroV zeroL :=
  ⟨by rw [zeroL, val.er, erL_map]; rfl, .nil (by unfold InI; decide) (by unfold InI; decide) (by unfold InI; decide) (by decide), fun b hb => by simp [zeroL, LT.blks, LT.blksL] at hb, by simp [zeroL, LT.blks, LT.blksL], hb, by rw [zeroL, LT.sz, LT.szL]; decide⟩
theorem tr_in {w : World} {t : LT} (h : Tr w t) : In w w.heap.size t := h.isIn h.lt
theorem tr_drewN {w : World} {t : LT} (h : Tr w t) (n : Nat) : Tr (w.drewN n) t := h.kept fun _ _ => rfl
theorem tr_touched {w w' : World} {lo hi : Nat} {t : LT} (h : Tr w t) (ht : Touched lo hi w w') (hn : ∀ b, b ∈ t.blks → b < lo ∨ hi ≤ b) : Tr w' t := h.kept fun b hb => ht.out b (h.lt b hb) (hn b hb)
theorem wrt_below {bs : List Nat} {B : Nat} {a b : World} (h : Wrt bs a b) (hB : B ≤ a.heap.size) (hn : ∀ x, x ∈ bs → B ≤ x) : Below B a b := ⟨h.os, h.tape, h.output, h.size, fun k hk => h.out k (by omega) (fun hx => by have := hn k hx; omega)⟩
/-- What is kept: the wanted value and the got value with their boxes. -/
structure St (w W : World) (t0 tg : LT) (N0 Ng : Nat) : Prop where
  B : Below w.heap.size w W
  WB : Box W N0 t0
  GB : Box W Ng tg
  T0 : Tr W t0
  TG : Tr W tg
theorem St.behind {w W W' : World} {t0 tg : LT} {N0 Ng : Nat} (h : St w W t0 tg N0 Ng) (hb : Below W.heap.size W W') : St w W' t0 tg N0 Ng :=
  ⟨below_of2 h.B hb, h.WB.behind hb, h.GB.behind hb, h.T0.behind hb, h.TG.behind hb⟩
theorem St.drewN {w W : World} {t0 tg : LT} {N0 Ng : Nat} (h : St w W t0 tg N0 Ng) (n : Nat) : St w (W.drewN n) t0 tg N0 Ng :=
  ⟨belowN h.B n, h.WB.drewN n, h.GB.drewN n, tr_drewN h.T0 n, tr_drewN h.TG n⟩
/-- The blocks of the wanted value are old, those of the got value new. -/
structure Far (w : World) (lo : Nat) (t0 tg : LT) (N0 Ng : Nat) : Prop where
  z : w.heap.size ≤ lo
  n0 : N0 < lo
  b0 : ∀ b, b ∈ t0.blks → b < lo
  bg : ∀ b, b ∈ tg.blks → lo ≤ b ∧ b < Ng
/-- Behind the marks of the got value. -/
structure Sm (w W : World) (t0 tg : LT) (N0 Ng : Nat) : Prop where
  B : Below w.heap.size w W
  WB : Box W N0 t0
  GB : Box W Ng tg
  T0 : Tr W t0
  MG : Marked W 1 tg
theorem Sm.behind {w W W' : World} {t0 tg : LT} {N0 Ng : Nat} (h : Sm w W t0 tg N0 Ng) (hb : Below W.heap.size W W') : Sm w W' t0 tg N0 Ng :=
  ⟨below_of2 h.B hb, h.WB.behind hb, h.GB.behind hb, h.T0.behind hb, h.MG.kept fun b hbb => hb.block b (h.MG.lt b hbb)⟩
theorem St.marked {w W W' : World} {t0 tg : LT} {N0 Ng lo : Nat} (h : St w W t0 tg N0 Ng) (hf : Far w lo t0 tg N0 Ng) (hm : Marked W' 1 tg) (ht : Wrt tg.blks W W') : Sm w W' t0 tg N0 Ng := by
  have hz := h.B.size
  refine ⟨h.B.trans (wrt_below ht hz fun x hx => ?_), h.WB.of_block (ht.out _ h.WB.lt fun hx => ?_), h.GB.of_block (ht.out _ h.GB.lt fun hx => ?_), h.T0.kept fun b hb => ht.out b (h.T0.lt b hb) fun hx => ?_, hm⟩
  · have := (hf.bg x hx).1; have := hf.z; omega
  · have := (hf.bg _ hx).1; have := hf.n0; omega
  · have := (hf.bg _ hx).2; omega
  · have := (hf.bg b hx).1; have := hf.b0 b hb; omega
end Go.Proofs.YtnaghafmpncdkaaDoor.newval
