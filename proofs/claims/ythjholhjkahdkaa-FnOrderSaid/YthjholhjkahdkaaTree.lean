/-
  Values whose lists are nil or whole blocks of their own; rows of values; append to such a row.
-/
import Derived.Test.YthjholhjkahdkaaMarks
import Derived.Test.YthjholhjkahdkaaApp2
namespace Go.Proofs.Ythjholhjkahdkaa.val
open Go.ChangeShapes Go.WideShapes Go.ChangeAt Go.RowKit
set_option maxRecDepth 100000

/-- Each list is nil or a block from its head, none frozen. -/
inductive Tr (w : World) : LT → Prop
  | nil {k n e : Int} {s : ByteArray} (hk : InI k) (hn : InI n) (he : InI e) (hs : s.size ≤ 9223372036854775807) : Tr w (.mk k n e s none 0 [])
  | mk {k n e : Int} {s : ByteArray} {g cap : Nat} {kids : List LT} (cs : Array Value) (hk : InI k) (hn : InI n) (he : InI e) (hs : s.size ≤ 9223372036854775807) (hl : kids.length ≤ cap ∧ cap ≤ 9223372036854775807)
      (hb : w.heap[g]? = some (.cells cs 26 (0, 0))) (hz : kids.length * 5 ≤ cs.size)
      (hc : ∀ i (h : i < kids.length), At5 w ⟨g, i * 5, none⟩ kids[i]) (hkids : ∀ i (h : i < kids.length), Tr w kids[i]) : Tr w (.mk k n e s (some ⟨g, 0, none⟩) cap kids)
theorem mem_blksL_iff : ∀ {l : List LT} {b : Nat}, b ∈ LT.blksL l → ∃ i, ∃ h : i < l.length, b ∈ l[i].blks
  | t :: ts, b, hb => by
    rw [LT.blksL] at hb
    rcases List.mem_append.1 hb with hb | hb
    · exact ⟨0, by simp, hb⟩
    · obtain ⟨i, hi, h⟩ := mem_blksL_iff (l := ts) hb
      exact ⟨i + 1, by simpa using hi, h⟩
  | [], b, hb => by simp [LT.blksL] at hb
theorem Tr.lt {w : World} {t : LT} (h : Tr w t) : ∀ b, b ∈ t.blks → b < w.heap.size := by
  induction h with
  | nil => intro b hb; simp [LT.blks, LT.blksL] at hb
  | @mk k n e s g cap kids cs _ _ _ _ _ hb _ _ _ ih =>
    intro b hbb
    rw [blks_some] at hbb
    rcases List.mem_cons.1 hbb with rfl | hbb
    · exact (Array.getElem?_eq_some_iff.1 hb).1
    · obtain ⟨i, hi, h⟩ := mem_blksL_iff hbb
      exact ih i hi b h
theorem Tr.kept {w w' : World} {t : LT} (h : Tr w t) (hk : ∀ b, b ∈ t.blks → w'.heap[b]? = w.heap[b]?) : Tr w' t := by
  induction h with
  | nil h1 h2 h3 h4 => exact .nil h1 h2 h3 h4
  | @mk k n e s g cap kids cs h1 h2 h3 h4 h5 hb hz hc _ ih =>
    have hg := hk g (by rw [blks_some]; exact List.mem_cons_self ..)
    refine .mk cs h1 h2 h3 h4 h5 (hg.trans hb) hz (fun i hi => (hc i hi).of_block hg) (fun i hi => ih i hi (fun b hbb => hk b ?_))
    rw [blks_some]
    exact List.mem_cons_of_mem _ (mem_blksL hi hbb)
theorem Tr.behind {w w' : World} {t : LT} (h : Tr w t) (hb : Below w.heap.size w w') : Tr w' t := h.kept fun b hbb => hb.block b (h.lt b hbb)
theorem Tr.isIn {w : World} {t : LT} (h : Tr w t) {B : Nat} (hB : ∀ b, b ∈ t.blks → b < B) : In w B t := by
  induction h with
  | nil h1 h2 h3 h4 => exact .mk h1 h2 h3 h4 ⟨by simp, by omega⟩ (fun i hi => by simp at hi) (fun i hi => by simp at hi)
  | @mk k n e s g cap kids cs h1 h2 h3 h4 h5 hb hz hc _ ih =>
    refine .mk h1 h2 h3 h4 h5 (fun i hi => ⟨_, rfl, hB g (by rw [blks_some]; exact List.mem_cons_self ..), by rw [add0]; exact hc i hi⟩) (fun i hi => ih i hi (fun b hbb => hB b ?_))
    rw [blks_some]
    exact List.mem_cons_of_mem _ (mem_blksL hi hbb)
theorem Tr.sh {w : World} {t : LT} (h : Tr w t) (hz : t.sz ≤ 1048576) : Sh w t := by
  induction h with
  | nil => exact .nil
  | @mk k n e s g cap kids cs h1 h2 h3 h4 h5 hb hz' hc _ ih =>
    rw [sz_mk] at hz
    simp only [LT.s, LT.kids] at hz
    have hlen := szL_len kids
    refine .mk cs (by omega) hb hz' (fun i hi => ?_) (fun i hi => ih i hi ?_)
    · have := (hc i hi).c4
      rw [cell_of_row w g (i * 5 + 4) cs _ (0, 0) hb] at this
      exact this
    · have := sz_kid i hi; omega
theorem Own.tr {w : World} {lo hi : Nat} {t : LT} (h : Own w lo hi t) : Tr w t ∧ ∀ b, b ∈ t.blks → lo ≤ b ∧ b < hi := by
  induction h with
  | @mk k n e s g cap kids cs k1 k2 k3 k4 k5 hlo hhi hb hz hc _ ih =>
    refine ⟨.mk cs k1 k2 k3 k4 k5 hb hz hc (fun i hi => (ih i hi).1), fun b hbb => ?_⟩
    rw [blks_some] at hbb
    rcases List.mem_cons.1 hbb with rfl | hbb
    · exact ⟨hlo, hhi⟩
    · obtain ⟨i, hi, h⟩ := mem_blksL_iff hbb
      exact (ih i hi).2 b h

/-! Rows of values. -/
def one5 (t : LT) : List Value := [.int .i64 t.k, .int .i64 t.n, .int .i64 t.e, .string t.s, t.row]
def flat5 (l : List LT) : List Value := l.flatMap one5
theorem flat5_len (l : List LT) : (flat5 l).length = l.length * 5 := by
  induction l with
  | nil => rfl
  | cons t ts ih => rw [flat5, List.flatMap_cons, List.length_append, List.length_cons]; unfold flat5 at ih; rw [ih]; simp [one5]; omega
theorem flat5_append (a b : List LT) : flat5 (a ++ b) = flat5 a ++ flat5 b := by simp [flat5]
theorem flat5_one (t : LT) : flat5 [t] = one5 t := by simp [flat5]
theorem flat5_at : ∀ (l : List LT) (i : Nat) (h : i < l.length) (j : Nat), j < 5 → (flat5 l)[i * 5 + j]? = (one5 l[i])[j]?
  | t :: ts, 0, _, j, hj => by
    have : j < (one5 t).length := by simpa [one5] using hj
    rw [flat5, List.flatMap_cons, Nat.zero_mul, Nat.zero_add, List.getElem?_append_left this]; rfl
  | t :: ts, i + 1, h, j, hj => by
    have e : (one5 t).length = 5 := rfl
    rw [flat5, List.flatMap_cons, List.getElem?_append_right (by omega), e, show (i + 1) * 5 + j - 5 = i * 5 + j by omega]
    exact flat5_at ts i (by simpa using h) j hj
theorem flat5_one' (l : List LT) : ∀ u ∈ flat5 l, u.oneCell' = true := by
  intro u hu
  obtain ⟨t, _, ht⟩ := List.mem_flatMap.1 hu
  simp only [one5, List.mem_cons, List.not_mem_nil, or_false] at ht
  rcases ht with rfl | rfl | rfl | rfl | rfl <;> rfl
/-- The slice v owns a row of the values l, from block 'base' on. -/
def OwnR (w : World) (base : Nat) (v : Value) (l : List LT) : Prop := w.ownsRow base 26 5 v l.length (flat5 l)
theorem OwnR.at5 {w : World} {base g n c : Nat} {l : List LT} (h : OwnR w base (.slice (some ⟨g, 0, none⟩) n c) l) : (∃ cs, w.heap[g]? = some (.cells cs 26 (0, 0)) ∧ l.length * 5 ≤ cs.size) ∧ base ≤ g ∧ n = l.length ∧ l.length ≤ c ∧ c ≤ maxLen ∧ ∀ i (h : i < l.length), At5 w ⟨g, i * 5, none⟩ l[i] := by
  rcases h.2 with ⟨h0, _⟩ | ⟨g', cap, cur, h0, hb, hg, hc, hm, hs, ht⟩
  · cases h0
  · injection h0 with h1 h2 h3
    injection h1 with h1
    injection h1 with h1
    subst h1; subst h3
    have hl : l.length * 5 ≤ cur.size := by rw [hs]; exact Nat.mul_le_mul_right 5 hc
    refine ⟨⟨cur, hg, hl⟩, hb, h2, hc, hm, fun i hi => ?_⟩
    have cell : ∀ j, j < 5 → w.cell? ⟨g, i * 5 + j, none⟩ = (one5 l[i])[j]? := fun j hj => by
      rw [cell_of_row w g (i * 5 + j) cur _ (0, 0) hg, ← flat5_at l i hi j hj, ← ht, List.getElem?_take_of_lt (by omega)]
      simp
    exact ⟨cell 0 (by omega), cell 1 (by omega), cell 2 (by omega), cell 3 (by omega), cell 4 (by omega)⟩
theorem OwnR.same {w w' : World} {base : Nat} {v : Value} {l : List LT} (h : OwnR w base v l) (hk : ∀ k, v.ownBlock = some k → w'.heap[k]? = w.heap[k]?) : OwnR w' base v l := by
  obtain ⟨h1, h2⟩ := h
  refine ⟨h1, ?_⟩
  rcases h2 with h2 | ⟨g, cap, cur, rfl, hb, hg, rest⟩
  · exact .inl h2
  · exact .inr ⟨g, cap, cur, rfl, hb, (hk g rfl).trans hg, rest⟩
theorem OwnR.empty (w : World) (base : Nat) (hb : base ≤ w.heap.size) : OwnR (w.alloc (.cells #[] 26)) base (.slice (some ⟨w.heap.size, 0, none⟩) 0 0) [] :=
  ⟨rfl, .inr ⟨_, _, #[], rfl, hb, heap_alloc_new w _, Nat.le_refl _, by simp [maxLen], rfl, rfl⟩⟩
theorem OwnR.lt {w : World} {base : Nat} {v : Value} {l : List LT} (h : OwnR w base v l) (k : Nat) (hk : v.ownBlock = some k) : base ≤ k ∧ k < w.heap.size := World.ownsRow.lt h k hk
section
variable {P : Program} {w : World}
/-- append of a row of values to a row of the call's own. -/
theorem run_appR (hu : P.underlying 24 = some (.slice 26)) (i : TypeInfo) (z : Value) (hi : P.info? 26 = some i) (hz : i.zero = some z) (hsize : i.size = 5) (hby : i.bytes = 64) (hzs : z.cells.size = 5) (ty : TypeId)
    (base g c : Nat) (l news : List LT) (hown : OwnR w base (.slice (some ⟨g, 0, none⟩) l.length c) l) (x : Addr) (c2 : Nat) (hx : ∀ j (h : j < news.length), At5 w (x.add (j * 5)) news[j])
    (hb : l.length + news.length ≤ 2000000) (hbase : base ≤ w.heap.size) :
    ∃ g' c' w', (Builtin.append_ #[24, 24] ty #[.slice (some ⟨g, 0, none⟩) l.length c, .slice (some x) news.length c2]).run P w = .ok (.slice (some ⟨g', 0, none⟩) (l.length + news.length) c') w' ∧ OwnR w' base (.slice (some ⟨g', 0, none⟩) (l.length + news.length) c') (l ++ news) ∧ w.grownBy w' (some g) ∧ (g' = g ∨ g' = w.heap.size) := by
  obtain ⟨v', w', hrun, h2, h3, h4, h5⟩ := run_append_own_at (P := P) w base 24 ty 26 i z 5 64 hu hi hz hsize hby hzs (by omega) (.slice (some ⟨g, 0, none⟩) l.length c) l.length (flat5 l) hown x news.length c2 (flat5 news) (flat5_len news)
    (fun j u hj => by
      have hj5 : j < news.length * 5 := by
        have := (List.getElem?_eq_some_iff.1 hj).1
        rw [flat5_len] at this
        exact this
      have hlt : j / 5 < news.length := by omega
      have e : j = (j / 5) * 5 + j % 5 := by omega
      rw [e, flat5_at news (j / 5) hlt (j % 5) (by omega)] at hj
      have := (hx (j / 5) hlt).list (j % 5) u hj
      rw [Go.Deep.add_add, ← e] at this
      exact this)
    (flat5_one' news) (by unfold maxLen; omega) (by omega) hbase
  have h6 : OwnR w' base v' (l ++ news) := by unfold OwnR; rw [List.length_append, flat5_append]; exact h2
  have hne : v' ≠ .slice none 0 0 := fun e => by have := (h4.1 e).1; cases this
  rcases h6.2 with ⟨h0, _⟩ | ⟨g', cap, cur, h0, _⟩
  · exact (hne h0).elim
  · rw [List.length_append] at h0
    subst h0
    refine ⟨g', cap, w', hrun, h6, h3, ?_⟩
    rcases h5 with h5 | h5
    · left; simpa [Value.ownBlock] using h5
    · right; simpa [Value.ownBlock] using h5
theorem wpList_appR {ops : Array Oper} {rest : List Oper} {o : Oper} {a : Act} {Q : Exit → Act → World → Prop} (hgd : o.guard = none) (s x : Operand)
    (ho : o.op = .call { callee := .builtin .append, args := #[s, x], argTypes := #[24, 24] })
    (hu : P.underlying 24 = some (.slice 26)) (i : TypeInfo) (z : Value) (hi : P.info? 26 = some i) (hz : i.zero = some z) (hsize : i.size = 5) (hby : i.bytes = 64) (hzs : z.cells.size = 5)
    (base g c : Nat) (l news : List LT) (n m : Nat) (hn : l.length = n) (hm : news.length = m) (hs : a.eval s = .slice (some ⟨g, 0, none⟩) n c) (hown : OwnR w base (.slice (some ⟨g, 0, none⟩) n c) l) (xa : Addr) (c2 : Nat) (hxe : a.eval x = .slice (some xa) m c2) (hx : ∀ j (h : j < news.length), At5 w (xa.add (j * 5)) news[j])
    (hb : n + m ≤ 2000000) (hbase : base ≤ w.heap.size)
    (h : ∀ g' c' w', OwnR w' base (.slice (some ⟨g', 0, none⟩) (n + m) c') (l ++ news) → w.grownBy w' (some g) → (g' = g ∨ g' = w.heap.size) → wpList P ops Q rest (a.put o.dst (.slice (some ⟨g', 0, none⟩) (n + m) c')) w') : wpList P ops Q (o :: rest) a w := by
  subst hn
  subst hm
  obtain ⟨g', c', w', hrun, h1, h2, h3⟩ := run_appR (P := P) hu i z hi hz hsize hby hzs o.type base g c l news hown xa c2 hx hb hbase
  refine wpList_plain hgd fun _ hK => ?_
  unfold Oper.wp execOp
  simp only [ho, resolve, invoke, builtin, Sem.run_bind, Sem.run_pure, Result.andThen_ok, List.map_toArray, List.map_cons, List.map_nil, hs, hxe, hrun]
  exact hK _ _ (h g' c' w' h1 h2 h3)
end

end Go.Proofs.Ythjholhjkahdkaa.val
