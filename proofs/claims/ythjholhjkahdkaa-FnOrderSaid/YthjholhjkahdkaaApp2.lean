/-
  append(s, x...) where both are slices of the call's own. Of any program.
-/
import Derived.Test.YthjholhjkahdkaaOwn
namespace Go.Proofs.Ythjholhjkahdkaa
open Go.RowKit

/-- A slice of the call's own that is not nil. -/
theorem own_some {α : Type} {w : World} {base : Nat} {e : TypeId} {enc : α → Value} {v : Value} {l : List α} (h : OwnL w base e enc v l) (hn : v ≠ .slice none 0 0) : ∃ g c, v = .slice (some ⟨g, 0, none⟩) l.length c := by
  rcases h.2 with ⟨rfl, _⟩ | ⟨g, cap, cur, rfl, _⟩
  · exact (hn rfl).elim
  · exact ⟨g, cap, rfl⟩
section
variable {P : Program} {w : World} {α : Type}
theorem run_app2 (t ty : TypeId) (base : Nat) (e : TypeId) (enc : α → Value) (i : TypeInfo) (z : Value) (bytes : Nat) (ht : P.underlying t = some (.slice e)) (hi : P.info? e = some i) (hz : i.zero = some z)
    (hsize : i.size = 1) (hby : i.bytes = bytes) (hzs : z.cells.size = 1) (h1 : ∀ x, (enc x).oneCell' = true)
    (g c : Nat) (l : List α) (hown : OwnL w base e enc (.slice (some ⟨g, 0, none⟩) l.length c) l)
    (base2 g2 c2 : Nat) (news : List α) (hown2 : OwnL w base2 e enc (.slice (some ⟨g2, 0, none⟩) news.length c2) news)
    (h63 : l.length + news.length ≤ maxLen) (hbytes : (l.length + news.length) * bytes ≤ 140737488355328) (hbase : base ≤ w.heap.size) :
    ∃ g' c' w', (Builtin.append_ #[t, t] ty #[.slice (some ⟨g, 0, none⟩) l.length c, .slice (some ⟨g2, 0, none⟩) news.length c2]).run P w = .ok (.slice (some ⟨g', 0, none⟩) (l ++ news).length c') w' ∧ OwnL w' base e enc (.slice (some ⟨g', 0, none⟩) (l ++ news).length c') (l ++ news) ∧ w.grownBy w' (some g) := by
  obtain ⟨v', w', hrun, h2, h3, h4, _⟩ := run_append_own_at (P := P) w base t ty e i z 1 bytes ht hi hz hsize hby hzs (by omega) (.slice (some ⟨g, 0, none⟩) l.length c) l.length (l.map enc) hown ⟨g2, 0, none⟩ news.length c2 (news.map enc) (by simp)
    (fun j u hj => by
      have hp : (⟨g2, 0, none⟩ : Addr).add j = ⟨g2, j, none⟩ := by unfold Addr.add; split <;> simp_all
      have hl : j < news.length := by
        have := (List.getElem?_eq_some_iff.1 hj).1
        simpa using this
      rw [hp, hown2.cell j hl, ← hj]; simp [List.getElem?_eq_getElem hl])
    (fun u hu => by obtain ⟨x, _, rfl⟩ := List.mem_map.1 hu; exact h1 x) h63 hbytes hbase
  have h5 : OwnL w' base e enc v' (l ++ news) := by unfold OwnL; rw [List.length_append, List.map_append]; exact h2
  obtain ⟨g', c', rfl⟩ := own_some h5 (fun e => by have := (h4.1 e).1; cases this)
  exact ⟨g', c', w', hrun, h5, h3⟩
theorem wp_app2 {o : Oper} {a : Act} {K : Act → World → Prop} {Q : Exit → Act → World → Prop} (s x : Operand) (t : TypeId)
    (ho : o.op = .call { callee := .builtin .append, args := #[s, x], argTypes := #[t, t] })
    (base : Nat) (e : TypeId) (enc : α → Value) (i : TypeInfo) (z : Value) (bytes : Nat) (ht : P.underlying t = some (.slice e)) (hi : P.info? e = some i) (hz : i.zero = some z)
    (hsize : i.size = 1) (hby : i.bytes = bytes) (hzs : z.cells.size = 1) (h1 : ∀ x, (enc x).oneCell' = true)
    (g c : Nat) (l : List α) (n : Nat) (hn : l.length = n) (hs : a.eval s = .slice (some ⟨g, 0, none⟩) n c) (hown : OwnL w base e enc (.slice (some ⟨g, 0, none⟩) n c) l)
    (base2 g2 c2 : Nat) (news : List α) (m : Nat) (hm : news.length = m) (hx : a.eval x = .slice (some ⟨g2, 0, none⟩) m c2) (hown2 : OwnL w base2 e enc (.slice (some ⟨g2, 0, none⟩) m c2) news)
    (h63 : n + m ≤ maxLen) (hbytes : (n + m) * bytes ≤ 140737488355328) (hbase : base ≤ w.heap.size)
    (h : ∀ g' c' w', OwnL w' base e enc (.slice (some ⟨g', 0, none⟩) (n + m) c') (l ++ news) → w.grownBy w' (some g) → K (a.put o.dst (.slice (some ⟨g', 0, none⟩) (n + m) c')) w') : o.wp P a w K Q := by
  subst hn
  subst hm
  obtain ⟨g', c', w', hrun, h5, h3⟩ := run_app2 (P := P) t o.type base e enc i z bytes ht hi hz hsize hby hzs h1 g c l hown base2 g2 c2 news hown2 h63 hbytes hbase
  unfold Oper.wp execOp
  simp only [ho, resolve, invoke, builtin, Sem.run_bind, Sem.run_pure, Result.andThen_ok, List.map_toArray, List.map_cons, List.map_nil, hs, hx, hrun]
  rw [List.length_append] at h5 ⊢
  exact h g' c' w' h5 h3
/-- append of a slice of the call's own. -/
theorem wpList_app2 {ops : Array Oper} {rest : List Oper} {o : Oper} {a : Act} {Q : Exit → Act → World → Prop} (hgd : o.guard = none) (s x : Operand) (t : TypeId)
    (ho : o.op = .call { callee := .builtin .append, args := #[s, x], argTypes := #[t, t] })
    (base : Nat) (e : TypeId) (enc : α → Value) (i : TypeInfo) (z : Value) (bytes : Nat) (ht : P.underlying t = some (.slice e)) (hi : P.info? e = some i) (hz : i.zero = some z)
    (hsize : i.size = 1) (hby : i.bytes = bytes) (hzs : z.cells.size = 1) (h1 : ∀ x, (enc x).oneCell' = true)
    (g c : Nat) (l : List α) (n : Nat) (hn : l.length = n) (hs : a.eval s = .slice (some ⟨g, 0, none⟩) n c) (hown : OwnL w base e enc (.slice (some ⟨g, 0, none⟩) n c) l)
    (base2 g2 c2 : Nat) (news : List α) (m : Nat) (hm : news.length = m) (hx : a.eval x = .slice (some ⟨g2, 0, none⟩) m c2) (hown2 : OwnL w base2 e enc (.slice (some ⟨g2, 0, none⟩) m c2) news)
    (h63 : n + m ≤ maxLen) (hbytes : (n + m) * bytes ≤ 140737488355328) (hbase : base ≤ w.heap.size)
    (h : ∀ g' c' w', OwnL w' base e enc (.slice (some ⟨g', 0, none⟩) (n + m) c') (l ++ news) → w.grownBy w' (some g) → wpList P ops Q rest (a.put o.dst (.slice (some ⟨g', 0, none⟩) (n + m) c')) w') : wpList P ops Q (o :: rest) a w :=
  wpList_plain hgd fun _ hK => wp_app2 s x t ho base e enc i z bytes ht hi hz hsize hby hzs h1 g c l n hn hs hown base2 g2 c2 news m hm hx hown2 h63 hbytes hbase fun g' c' w' h2 h3 => hK _ _ (h g' c' w' h2 h3)
/-- The same as a step of a region that draws its order. -/
theorem step_app2 {ops : Array Oper} {o : Oper} {a : Act} {K : Act → World → Prop} {Q : Exit → Act → World → Prop} {E : Prop} (hgd : o.guard = none) (s x : Operand) (t : TypeId)
    (ho : o.op = .call { callee := .builtin .append, args := #[s, x], argTypes := #[t, t] })
    (base : Nat) (e : TypeId) (enc : α → Value) (i : TypeInfo) (z : Value) (bytes : Nat) (ht : P.underlying t = some (.slice e)) (hi : P.info? e = some i) (hz : i.zero = some z)
    (hsize : i.size = 1) (hby : i.bytes = bytes) (hzs : z.cells.size = 1) (h1 : ∀ x, (enc x).oneCell' = true)
    (g c : Nat) (l : List α) (n : Nat) (hn : l.length = n) (hs : a.eval s = .slice (some ⟨g, 0, none⟩) n c) (hown : OwnL w base e enc (.slice (some ⟨g, 0, none⟩) n c) l)
    (base2 g2 c2 : Nat) (news : List α) (m : Nat) (hm : news.length = m) (hx : a.eval x = .slice (some ⟨g2, 0, none⟩) m c2) (hown2 : OwnL w base2 e enc (.slice (some ⟨g2, 0, none⟩) m c2) news)
    (h63 : n + m ≤ maxLen) (hbytes : (n + m) * bytes ≤ 140737488355328) (hbase : base ≤ w.heap.size)
    (h : ∀ g' c' w', OwnL w' base e enc (.slice (some ⟨g', 0, none⟩) (n + m) c') (l ++ news) → w.grownBy w' (some g) → K (a.put o.dst (.slice (some ⟨g', 0, none⟩) (n + m) c')) w') :
    if Region.wanted o (yielded ops a.tmps) = true then Oper.wp P o a w K Q else E := by
  have hw : Region.wanted o (yielded ops a.tmps) = true := by simp [Region.wanted, hgd]
  rw [if_pos hw]
  exact wp_app2 s x t ho base e enc i z bytes ht hi hz hsize hby hzs h1 g c l n hn hs hown base2 g2 c2 news m hm hx hown2 h63 hbytes hbase h
/-- append to a slice of the call's own; the block is the old one or a new one. -/
theorem wpList_appAt {ops : Array Oper} {rest : List Oper} {o : Oper} {a : Act} {Q : Exit → Act → World → Prop} (hgd : o.guard = none) (s x : Operand) (t : TypeId)
    (ho : o.op = .call { callee := .builtin .append, args := #[s, x], argTypes := #[t, t] })
    (base : Nat) (e : TypeId) (enc : α → Value) (i : TypeInfo) (z : Value) (bytes : Nat) (ht : P.underlying t = some (.slice e)) (hi : P.info? e = some i) (hz : i.zero = some z)
    (hsize : i.size = 1) (hby : i.bytes = bytes) (hzs : z.cells.size = 1) (h1 : ∀ x, (enc x).oneCell' = true)
    (v : Value) (l : List α) (hs : a.eval s = v) (hown : OwnL w base e enc v l) (g m c : Nat) (news : List α) (hx : a.eval x = .slice (some ⟨g, 0, none⟩) m c) (hm : news.length = m) (cs : Array Value) (hg : w.heap[g]? = some (.cells cs e (0, 0))) (hcs : cs.toList = news.map enc)
    (h63 : l.length + m ≤ maxLen) (hbytes : (l.length + m) * bytes ≤ 140737488355328) (hbase : base ≤ w.heap.size)
    (h : ∀ v' w', OwnL w' base e enc v' (l ++ news) → w.grownBy w' v.ownBlock → (v'.ownBlock = v.ownBlock ∨ v'.ownBlock = some w.heap.size) → wpList P ops Q rest (a.put o.dst v') w') : wpList P ops Q (o :: rest) a w := by
  subst hm
  obtain ⟨v', w', hrun, h2, h3, _, h5⟩ := run_append_own_at (P := P) w base t o.type e i z 1 bytes ht hi hz hsize hby hzs (by omega) v l.length (l.map enc) hown ⟨g, 0, none⟩ news.length c (news.map enc) (by simp)
    (fun j u hj => by
      have hp : (⟨g, 0, none⟩ : Addr).add j = ⟨g, j, none⟩ := by unfold Addr.add; split <;> simp_all
      rw [hp, cell_of_row w g j cs e (0, 0) hg, ← hj, ← hcs]; simp)
    (fun u hu => by obtain ⟨x, _, rfl⟩ := List.mem_map.1 hu; exact h1 x) h63 hbytes hbase
  refine wpList_plain hgd fun _ hK => ?_
  unfold Oper.wp execOp
  simp only [ho, resolve, invoke, builtin, Sem.run_bind, Sem.run_pure, Result.andThen_ok, List.map_toArray, List.map_cons, List.map_nil, hs, hx, hrun]
  exact hK _ _ (h v' w' (by unfold OwnL; rw [List.length_append, List.map_append]; exact h2) h3 h5)
theorem own_blocks {base : Nat} {e : TypeId} {enc : α → Value} {v : Value} {l : List α} {w' : World} (h : OwnL w base e enc v l) (hk : ∀ k, v.ownBlock = some k → w'.heap[k]? = w.heap[k]?) : OwnL w' base e enc v l := by
  obtain ⟨h1, h2⟩ := h
  refine ⟨h1, ?_⟩
  rcases h2 with h2 | ⟨g, cap, cur, rfl, hb, hg, rest⟩
  · exact .inl h2
  · exact .inr ⟨g, cap, cur, rfl, hb, (hk g rfl).trans hg, rest⟩
end
end Go.Proofs.Ythjholhjkahdkaa
