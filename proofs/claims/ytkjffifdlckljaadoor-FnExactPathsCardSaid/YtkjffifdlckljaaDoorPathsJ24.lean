/-
  append(s, x...) where both are slices of the call's own: where the row lies then. Of any program.
-/
import Derived.Test.YtkjffifdlckljaaDoorPathsJ23
namespace Go.Proofs.YtkjffifdlckljaaDoor
open Go.RowKit
section
variable {P : Program} {w : World} {α : Type}
theorem run_app3 (t ty : TypeId) (base : Nat) (e : TypeId) (enc : α → Value) (i : TypeInfo) (z : Value) (bytes : Nat) (ht : P.underlying t = some (.slice e)) (hi : P.info? e = some i) (hz : i.zero = some z)
    (hsize : i.size = 1) (hby : i.bytes = bytes) (hzs : z.cells.size = 1) (h1 : ∀ x, (enc x).oneCell' = true)
    (g c : Nat) (l : List α) (hown : OwnL w base e enc (.slice (some ⟨g, 0, none⟩) l.length c) l)
    (base2 g2 c2 : Nat) (news : List α) (hown2 : OwnL w base2 e enc (.slice (some ⟨g2, 0, none⟩) news.length c2) news)
    (h63 : l.length + news.length ≤ maxLen) (hbytes : (l.length + news.length) * bytes ≤ 140737488355328) (hbase : base ≤ w.heap.size) :
    ∃ g' c' w', (Builtin.append_ #[t, t] ty #[.slice (some ⟨g, 0, none⟩) l.length c, .slice (some ⟨g2, 0, none⟩) news.length c2]).run P w = .ok (.slice (some ⟨g', 0, none⟩) (l ++ news).length c') w' ∧ OwnL w' base e enc (.slice (some ⟨g', 0, none⟩) (l ++ news).length c') (l ++ news) ∧ w.grownBy w' (some g) ∧ (g' = g ∨ g' = w.heap.size) := by
  obtain ⟨v', w', hrun, h2, h3, h4, h6⟩ := run_append_own_at (P := P) w base t ty e i z 1 bytes ht hi hz hsize hby hzs (by omega) (.slice (some ⟨g, 0, none⟩) l.length c) l.length (l.map enc) hown ⟨g2, 0, none⟩ news.length c2 (news.map enc) (by simp)
    (fun j u hj => by
      have hp : (⟨g2, 0, none⟩ : Addr).add j = ⟨g2, j, none⟩ := by unfold Addr.add; split <;> simp_all
      have hl : j < news.length := by
        have := (List.getElem?_eq_some_iff.1 hj).1
        simpa using this
      rw [hp, hown2.cell j hl, ← hj]; simp [List.getElem?_eq_getElem hl])
    (fun u hu => by obtain ⟨x, _, rfl⟩ := List.mem_map.1 hu; exact h1 x) h63 hbytes hbase
  have h5 : OwnL w' base e enc v' (l ++ news) := by unfold OwnL; rw [List.length_append, List.map_append]; exact h2
  obtain ⟨g', c', rfl⟩ := own_some h5 (fun e => by have := (h4.1 e).1; cases this)
  refine ⟨g', c', w', hrun, h5, h3, ?_⟩
  rcases h6 with h6 | h6
  · left; simpa [Value.ownBlock] using h6
  · right; simpa [Value.ownBlock] using h6
theorem wp_app3 {o : Oper} {a : Act} {K : Act → World → Prop} {Q : Exit → Act → World → Prop} (s x : Operand) (t : TypeId)
    (ho : o.op = .call { callee := .builtin .append, args := #[s, x], argTypes := #[t, t] })
    (base : Nat) (e : TypeId) (enc : α → Value) (i : TypeInfo) (z : Value) (bytes : Nat) (ht : P.underlying t = some (.slice e)) (hi : P.info? e = some i) (hz : i.zero = some z)
    (hsize : i.size = 1) (hby : i.bytes = bytes) (hzs : z.cells.size = 1) (h1 : ∀ x, (enc x).oneCell' = true)
    (g c : Nat) (l : List α) (n : Nat) (hn : l.length = n) (hs : a.eval s = .slice (some ⟨g, 0, none⟩) n c) (hown : OwnL w base e enc (.slice (some ⟨g, 0, none⟩) n c) l)
    (base2 g2 c2 : Nat) (news : List α) (m : Nat) (hm : news.length = m) (hx : a.eval x = .slice (some ⟨g2, 0, none⟩) m c2) (hown2 : OwnL w base2 e enc (.slice (some ⟨g2, 0, none⟩) m c2) news)
    (h63 : n + m ≤ maxLen) (hbytes : (n + m) * bytes ≤ 140737488355328) (hbase : base ≤ w.heap.size)
    (h : ∀ g' c' w', OwnL w' base e enc (.slice (some ⟨g', 0, none⟩) (n + m) c') (l ++ news) → w.grownBy w' (some g) → (g' = g ∨ g' = w.heap.size) → K (a.put o.dst (.slice (some ⟨g', 0, none⟩) (n + m) c')) w') : o.wp P a w K Q := by
  subst hn
  subst hm
  obtain ⟨g', c', w', hrun, h5, h3, h6⟩ := run_app3 (P := P) t o.type base e enc i z bytes ht hi hz hsize hby hzs h1 g c l hown base2 g2 c2 news hown2 h63 hbytes hbase
  unfold Oper.wp execOp
  simp only [ho, resolve, invoke, builtin, Sem.run_bind, Sem.run_pure, Result.andThen_ok, List.map_toArray, List.map_cons, List.map_nil, hs, hx, hrun]
  rw [List.length_append] at h5 ⊢
  exact h g' c' w' h5 h3 h6
/-- append of a slice of the call's own. -/
theorem wpList_app3 {ops : Array Oper} {rest : List Oper} {o : Oper} {a : Act} {Q : Exit → Act → World → Prop} (hgd : o.guard = none) (s x : Operand) (t : TypeId)
    (ho : o.op = .call { callee := .builtin .append, args := #[s, x], argTypes := #[t, t] })
    (base : Nat) (e : TypeId) (enc : α → Value) (i : TypeInfo) (z : Value) (bytes : Nat) (ht : P.underlying t = some (.slice e)) (hi : P.info? e = some i) (hz : i.zero = some z)
    (hsize : i.size = 1) (hby : i.bytes = bytes) (hzs : z.cells.size = 1) (h1 : ∀ x, (enc x).oneCell' = true)
    (g c : Nat) (l : List α) (n : Nat) (hn : l.length = n) (hs : a.eval s = .slice (some ⟨g, 0, none⟩) n c) (hown : OwnL w base e enc (.slice (some ⟨g, 0, none⟩) n c) l)
    (base2 g2 c2 : Nat) (news : List α) (m : Nat) (hm : news.length = m) (hx : a.eval x = .slice (some ⟨g2, 0, none⟩) m c2) (hown2 : OwnL w base2 e enc (.slice (some ⟨g2, 0, none⟩) m c2) news)
    (h63 : n + m ≤ maxLen) (hbytes : (n + m) * bytes ≤ 140737488355328) (hbase : base ≤ w.heap.size)
    (h : ∀ g' c' w', OwnL w' base e enc (.slice (some ⟨g', 0, none⟩) (n + m) c') (l ++ news) → w.grownBy w' (some g) → (g' = g ∨ g' = w.heap.size) → wpList P ops Q rest (a.put o.dst (.slice (some ⟨g', 0, none⟩) (n + m) c')) w') : wpList P ops Q (o :: rest) a w :=
  wpList_plain hgd fun _ hK => wp_app3 s x t ho base e enc i z bytes ht hi hz hsize hby hzs h1 g c l n hn hs hown base2 g2 c2 news m hm hx hown2 h63 hbytes hbase fun g' c' w' h2 h3 h4 => hK _ _ (h g' c' w' h2 h3 h4)
/-- The same as a step of a region that draws its order. -/
theorem step_app3 {ops : Array Oper} {o : Oper} {a : Act} {K : Act → World → Prop} {Q : Exit → Act → World → Prop} {E : Prop} (hgd : o.guard = none) (s x : Operand) (t : TypeId)
    (ho : o.op = .call { callee := .builtin .append, args := #[s, x], argTypes := #[t, t] })
    (base : Nat) (e : TypeId) (enc : α → Value) (i : TypeInfo) (z : Value) (bytes : Nat) (ht : P.underlying t = some (.slice e)) (hi : P.info? e = some i) (hz : i.zero = some z)
    (hsize : i.size = 1) (hby : i.bytes = bytes) (hzs : z.cells.size = 1) (h1 : ∀ x, (enc x).oneCell' = true)
    (g c : Nat) (l : List α) (n : Nat) (hn : l.length = n) (hs : a.eval s = .slice (some ⟨g, 0, none⟩) n c) (hown : OwnL w base e enc (.slice (some ⟨g, 0, none⟩) n c) l)
    (base2 g2 c2 : Nat) (news : List α) (m : Nat) (hm : news.length = m) (hx : a.eval x = .slice (some ⟨g2, 0, none⟩) m c2) (hown2 : OwnL w base2 e enc (.slice (some ⟨g2, 0, none⟩) m c2) news)
    (h63 : n + m ≤ maxLen) (hbytes : (n + m) * bytes ≤ 140737488355328) (hbase : base ≤ w.heap.size)
    (h : ∀ g' c' w', OwnL w' base e enc (.slice (some ⟨g', 0, none⟩) (n + m) c') (l ++ news) → w.grownBy w' (some g) → (g' = g ∨ g' = w.heap.size) → K (a.put o.dst (.slice (some ⟨g', 0, none⟩) (n + m) c')) w') :
    if Region.wanted o (yielded ops a.tmps) = true then Oper.wp P o a w K Q else E := by
  have hw : Region.wanted o (yielded ops a.tmps) = true := by simp [Region.wanted, hgd]
  rw [if_pos hw]
  exact wp_app3 s x t ho base e enc i z bytes ht hi hz hsize hby hzs h1 g c l n hn hs hown base2 g2 c2 news m hm hx hown2 h63 hbytes hbase h
end
/-- One value as a literal's row. -/
theorem lit_one {α : Type} (w : World) (e : TypeId) (enc : α → Value) (x : α) : OwnL (w.alloc (.cells #[enc x] e)) 0 e enc (.slice (some ⟨w.heap.size, 0, none⟩) 1 1) [x] :=
  OwnL.of_block (l := [x]) _ _ (Nat.zero_le _) (heap_alloc_new w _) rfl (by simp [maxLen])
end Go.Proofs.YtkjffifdlckljaaDoor
