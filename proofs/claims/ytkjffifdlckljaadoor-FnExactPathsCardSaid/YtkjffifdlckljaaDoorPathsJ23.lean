/-
  Plain: the paths of a value's nodes.
-/
import Derived.Test.YtkjffifdlckljaaDoorPathsJ10
import Derived.Test.YtkjffifdlckljaaDoorPathsJ11
import Derived.Test.YtkjffifdlckljaaDoorPathsJ22
import Derived.Lib.ItoaLen
import Derived.Lib.ValidAsc
import Derived.Test.YtkjffifdlckljaaDoorPathsJ0
namespace Go.Proofs.YtkjffifdlckljaaDoor.path
open Go.RowKit
open Go.Proofs.YtkjffifdlckljaaDoor.sign (textOk)
open Go.Proofs.YtkjffifdlckljaaDoor.val Go.Proofs.YtkjffifdlckljaaDoor.node
set_option maxRecDepth 100000

def tagB : ByteArray := ⟨#[116, 97, 103]⟩
def itoaB (i : Nat) : ByteArray := ⟨(Lib.itoa (i : Int)).toArray⟩
/-- The step to a kid. -/
def stepAt (k : Int) (all : List VT) (i : Nat) : Option ByteArray :=
  if k = 7 then some (itoaB i) else if k = 9 then some tagB else if i % 2 = 0 then none else
  match all[i - 1]? with
  | some x => if x.k = 5 then some x.s else none
  | none => none
mutual
/-- The steps to each node, the node's own first. -/
def pathsT : VT → List ByteArray → List (List ByteArray)
  | .mk k _ _ _ kids, st => st :: pathsL k kids kids 0 st
def pathsL (k : Int) (all : List VT) : List VT → Nat → List ByteArray → List (List ByteArray)
  | [], _, _ => []
  | t :: ts, i, st => (match stepAt k all i with | some x => pathsT t (st ++ [x]) | none => []) ++ pathsL k all ts (i + 1) st
end
theorem pathsL_take (k : Int) (all : List VT) (st : List ByteArray) : ∀ (l : List VT) (i j : Nat) (h : j < l.length), pathsL k all (l.take (j + 1)) i st = pathsL k all (l.take j) i st ++ (match stepAt k all (i + j) with | some x => pathsT l[j] (st ++ [x]) | none => []) := by
  intro l
  induction l with
  | nil => intro i j h; simp at h
  | cons t ts ih =>
    intro i j h
    cases j with
    | zero => simp [pathsL]
    | succ j =>
      rw [List.take_succ_cons, List.take_succ_cons, pathsL, pathsL, ih (i + 1) j (by simpa using h), List.append_assoc, List.getElem_cons_succ, show i + 1 + j = i + (j + 1) by omega]
mutual
theorem paths_len : ∀ (t : LT) (st : List ByteArray), (pathsT (er t) st).length ≤ t.nodes
  | .mk k n e s a cap kids, st => by
    rw [er, pathsT, LT.nodes, List.length_cons]
    have := pathsL_len kids k (erL kids) 0 st
    omega
theorem pathsL_len : ∀ (l : List LT) (k : Int) (all : List VT) (i : Nat) (st : List ByteArray), (pathsL k all (erL l) i st).length ≤ LT.nodesL l
  | [], k, all, i, st => by rw [erL, pathsL]; simp
  | t :: ts, k, all, i, st => by
    rw [erL, pathsL, LT.nodesL, List.length_append]
    have h1 := pathsL_len ts k all (i + 1) st
    have h2 : ∀ x, (pathsT (er t) (st ++ [x])).length ≤ t.nodes := fun x => paths_len t (st ++ [x])
    split
    · have := h2 (by assumption); omega
    · simp; omega
end
/-! Which texts are steps. -/
theorem asc_ok (s : ByteArray) (h : ∀ b ∈ s.data.toList, b.toNat < 128) : textOk s = true := by
  rw [← sign.valid_eq]
  have := Lib.valid_skip s s.size (fun b hb => h b (List.mem_of_mem_take hb))
  rw [Lib.ext_list, List.drop_eq_nil_of_le (by simp)] at this
  rw [← this]
  rfl
theorem dec_asc : ∀ (u : Nat), ∀ b ∈ Lib.decDigits u, b.toNat < 128 := by
  intro u
  induction u using Nat.strongRecOn with
  | ind u ih =>
    intro b hb
    rw [Lib.decDigits] at hb
    by_cases hs : u < 10
    · rw [dif_pos hs, List.mem_singleton] at hb
      subst hb
      rw [UInt8.toNat_ofNat']
      omega
    · rw [dif_neg hs] at hb
      rcases List.mem_append.1 hb with h | h
      · exact ih (u / 10) (by omega) b h
      · rw [List.mem_singleton] at h
        subst h
        rw [UInt8.toNat_ofNat']
        omega
theorem itoa_ok (i : Nat) (h : i ≤ 9223372036854775807) : stepOk (itoaB i) = true := by
  unfold stepOk
  have h1 : Lib.itoa (i : Int) = Lib.decDigits i := by unfold Lib.itoa; rw [if_neg (by omega), Int.toNat_natCast]
  have h2 := Lib.itoa_length_le (i : Int) (by omega) (by omega)
  rw [Bool.and_eq_true]
  refine ⟨asc_ok _ ?_, decide_eq_true ?_⟩
  · intro b hb
    have hb : b ∈ Lib.itoa (i : Int) := hb
    rw [h1] at hb
    exact dec_asc i b hb
  · show (Lib.itoa (i : Int)).toArray.size ≤ 2000
    simp
    omega
theorem tag_ok : stepOk tagB = true := by
  unfold stepOk
  rw [Bool.and_eq_true]
  exact ⟨asc_ok _ (by decide), by decide⟩
theorem text_ok {x : LT} (h : OwnP x) (h5 : x.k = 5) : stepOk x.s = true := by
  unfold OwnP at h
  rw [if_neg (by omega), if_neg (by omega), if_pos h5] at h
  unfold stepOk
  rw [Bool.and_eq_true]
  exact ⟨h.2.2.1, decide_eq_true h.2.2.2.1⟩
theorem right_own {t : LT} {d : Int} (h : RightT t d) : 0 ≤ d ∧ OwnP t ∧ RightL t.kids (d - 1) := by
  obtain ⟨k, n, e, s, a, cap, kids⟩ := t
  rw [RightT] at h
  exact h
theorem step_good {t : LT} {d : Int} (h : RightT t d) (hl : t.kids.length ≤ 9223372036854775807) {i : Nat} (hi : i < t.kids.length) {x : ByteArray} (hx : stepAt t.k (t.kids.map er) i = some x) : stepOk x = true := by
  obtain ⟨h0, h1, h2⟩ := right_own h
  unfold stepAt at hx
  split at hx
  · injection hx with hx; subst hx; exact itoa_ok i (by omega)
  split at hx
  · injection hx with hx; subst hx; exact tag_ok
  split at hx
  · cases hx
  · have hi' : i - 1 < t.kids.length := by omega
    rw [List.getElem?_map, List.getElem?_eq_getElem hi'] at hx
    simp only [Option.map_some, er_k, er_s] at hx
    split at hx
    · injection hx with hx
      subst hx
      exact text_ok (right_own (rightL_mem h2 _ hi')).2.1 ‹_›
    · cases hx
/-- So many steps, each right. -/
structure StOk (st : List ByteArray) (d : Int) : Prop where
  len : (st.length : Int) + d ≤ 12
  ok : ∀ s ∈ st, stepOk s = true
theorem StOk.start : StOk [] 12 := ⟨by simp, fun s h => by simp at h⟩
theorem StOk.next {st : List ByteArray} {d : Int} (h : StOk st d) {x : ByteArray} (hx : stepOk x = true) : StOk (st ++ [x]) (d - 1) :=
  ⟨by rw [List.length_append, List.length_singleton]; have := h.len; omega, fun s hs => by
    rcases List.mem_append.1 hs with hs | hs
    · exact h.ok s hs
    · rw [List.mem_singleton] at hs; subst hs; exact hx⟩
theorem StOk.put {st : List ByteArray} {d : Int} (h : StOk st d) (hd : 0 ≤ d) : putP st = ⟨(encP st).toArray⟩ := putP_ok ⟨by have := h.len; omega, h.ok⟩
theorem StOk.bytes {st : List ByteArray} {d : Int} (h : StOk st d) (hd : 0 ≤ d) : (encP st).length ≤ 48012 := by
  have h1 := encP_bound st h.ok
  have := h.len
  omega
theorem StOk.size {st : List ByteArray} {d : Int} (h : StOk st d) : ∀ j (hj : j < st.length), st[j].size ≤ 1048576 := fun j hj => by
  have := h.ok st[j] (List.getElem_mem hj)
  unfold stepOk at this
  have : st[j].size ≤ 2000 := by simpa using (Bool.and_eq_true_iff.1 this).2
  omega
/-- Which kids have kids. -/
theorem own_kind {t : LT} (h : OwnP t) (hk : 0 < t.kids.length) : t.k = 7 ∨ t.k = 8 ∨ t.k = 9 := by
  unfold OwnP at h
  split at h
  · omega
  split at h
  · unfold num.numOk at h
    rw [Bool.and_eq_true, decide_eq_true_eq] at h
    omega
  split at h
  · omega
  split at h
  · omega
  split at h
  · left; assumption
  split at h
  · right; left; assumption
  split at h
  · right; right; assumption
  · exact h.elim
theorem own_pair {t : LT} (h : OwnP t) (h8 : t.k = 8) : t.kids.length % 2 = 0 := by
  unfold OwnP at h
  rw [if_neg (by omega), if_neg (by omega), if_neg (by omega), if_neg (by omega), if_neg (by omega), if_pos h8] at h
  exact h.2.2.2.2.1
/-- What Paths returns. -/
def pathsV (v : VT) : List ByteArray := (pathsT v []).map putP
end Go.Proofs.YtkjffifdlckljaaDoor.path
/-
  append(s, x...) where both are slices of the call's own. Of any program.
-/
namespace Go.Proofs.YtkjffifdlckljaaDoor
open Go.RowKit

/-- A slice of the call's own that is not nil. -/
theorem own_some {α : Type} {w : World} {base : Nat} {e : TypeId} {enc : α → Value} {v : Value} {l : List α} (h : OwnL w base e enc v l) (hn : v ≠ .slice none 0 0) : ∃ g c, v = .slice (some ⟨g, 0, none⟩) l.length c := by
  rcases h.2 with ⟨rfl, _⟩ | ⟨g, cap, cur, rfl, _⟩
  · exact (hn rfl).elim
  · exact ⟨g, cap, rfl⟩
section
variable {P : Program} {w : World} {α : Type}
theorem run_app2 (t ty : TypeId) (base : Nat) (e : TypeId) (enc : α → Value) (i : TypeInfo) (z : Value) (bytes : Nat) (ht : P.underlying t = some (.slice e)) (hi : P.info? e = some i) (hz : i.zero = some z)
    (hsize : i.size = 1) (hby : i.bytes = bytes) (hzs : z.cells.size = 1) (h1 : ∀ x, (enc x).oneCell' = true)
    (g c : Nat) (l : List α) (hown : OwnL w base e enc (.slice (some ⟨g, 0, none⟩) l.length c) l)
    (base2 g2 c2 : Nat) (news : List α) (hown2 : OwnL w base2 e enc (.slice (some ⟨g2, 0, none⟩) news.length c2) news)
    (h63 : l.length + news.length ≤ maxLen) (hbytes : (l.length + news.length) * bytes ≤ 140737488355328) (hbase : base ≤ w.heap.size) :
    ∃ g' c' w', (Builtin.append_ #[t, t] ty #[.slice (some ⟨g, 0, none⟩) l.length c, .slice (some ⟨g2, 0, none⟩) news.length c2]).run P w = .ok (.slice (some ⟨g', 0, none⟩) (l ++ news).length c') w' ∧ OwnL w' base e enc (.slice (some ⟨g', 0, none⟩) (l ++ news).length c') (l ++ news) ∧ w.grownBy w' (some g) := by
  obtain ⟨v', w', hrun, h2, h3, h4, _⟩ := run_append_own_at (P := P) w base t ty e i z 1 bytes ht hi hz hsize hby hzs (by omega) (.slice (some ⟨g, 0, none⟩) l.length c) l.length (l.map enc) hown ⟨g2, 0, none⟩ news.length c2 (news.map enc) (by simp)
    (fun j u hj => by
      have hp : (⟨g2, 0, none⟩ : Addr).add j = ⟨g2, j, none⟩ := by unfold Addr.add; split <;> simp_all
      have hl : j < news.length := by
        have := (List.getElem?_eq_some_iff.1 hj).1
        simpa using this
      rw [hp, hown2.cell j hl, ← hj]; simp [List.getElem?_eq_getElem hl])
    (fun u hu => by obtain ⟨x, _, rfl⟩ := List.mem_map.1 hu; exact h1 x) h63 hbytes hbase
  have h5 : OwnL w' base e enc v' (l ++ news) := by unfold OwnL; rw [List.length_append, List.map_append]; exact h2
  obtain ⟨g', c', rfl⟩ := own_some h5 (fun e => by have := (h4.1 e).1; cases this)
  exact ⟨g', c', w', hrun, h5, h3⟩
theorem wp_app2 {o : Oper} {a : Act} {K : Act → World → Prop} {Q : Exit → Act → World → Prop} (s x : Operand) (t : TypeId)
    (ho : o.op = .call { callee := .builtin .append, args := #[s, x], argTypes := #[t, t] })
    (base : Nat) (e : TypeId) (enc : α → Value) (i : TypeInfo) (z : Value) (bytes : Nat) (ht : P.underlying t = some (.slice e)) (hi : P.info? e = some i) (hz : i.zero = some z)
    (hsize : i.size = 1) (hby : i.bytes = bytes) (hzs : z.cells.size = 1) (h1 : ∀ x, (enc x).oneCell' = true)
    (g c : Nat) (l : List α) (n : Nat) (hn : l.length = n) (hs : a.eval s = .slice (some ⟨g, 0, none⟩) n c) (hown : OwnL w base e enc (.slice (some ⟨g, 0, none⟩) n c) l)
    (base2 g2 c2 : Nat) (news : List α) (m : Nat) (hm : news.length = m) (hx : a.eval x = .slice (some ⟨g2, 0, none⟩) m c2) (hown2 : OwnL w base2 e enc (.slice (some ⟨g2, 0, none⟩) m c2) news)
    (h63 : n + m ≤ maxLen) (hbytes : (n + m) * bytes ≤ 140737488355328) (hbase : base ≤ w.heap.size)
    (h : ∀ g' c' w', OwnL w' base e enc (.slice (some ⟨g', 0, none⟩) (n + m) c') (l ++ news) → w.grownBy w' (some g) → K (a.put o.dst (.slice (some ⟨g', 0, none⟩) (n + m) c')) w') : o.wp P a w K Q := by
  subst hn
  subst hm
  obtain ⟨g', c', w', hrun, h5, h3⟩ := run_app2 (P := P) t o.type base e enc i z bytes ht hi hz hsize hby hzs h1 g c l hown base2 g2 c2 news hown2 h63 hbytes hbase
  unfold Oper.wp execOp
  simp only [ho, resolve, invoke, builtin, Sem.run_bind, Sem.run_pure, Result.andThen_ok, List.map_toArray, List.map_cons, List.map_nil, hs, hx, hrun]
  rw [List.length_append] at h5 ⊢
  exact h g' c' w' h5 h3
/-- append of a slice of the call's own. -/
theorem wpList_app2 {ops : Array Oper} {rest : List Oper} {o : Oper} {a : Act} {Q : Exit → Act → World → Prop} (hgd : o.guard = none) (s x : Operand) (t : TypeId)
    (ho : o.op = .call { callee := .builtin .append, args := #[s, x], argTypes := #[t, t] })
    (base : Nat) (e : TypeId) (enc : α → Value) (i : TypeInfo) (z : Value) (bytes : Nat) (ht : P.underlying t = some (.slice e)) (hi : P.info? e = some i) (hz : i.zero = some z)
    (hsize : i.size = 1) (hby : i.bytes = bytes) (hzs : z.cells.size = 1) (h1 : ∀ x, (enc x).oneCell' = true)
    (g c : Nat) (l : List α) (n : Nat) (hn : l.length = n) (hs : a.eval s = .slice (some ⟨g, 0, none⟩) n c) (hown : OwnL w base e enc (.slice (some ⟨g, 0, none⟩) n c) l)
    (base2 g2 c2 : Nat) (news : List α) (m : Nat) (hm : news.length = m) (hx : a.eval x = .slice (some ⟨g2, 0, none⟩) m c2) (hown2 : OwnL w base2 e enc (.slice (some ⟨g2, 0, none⟩) m c2) news)
    (h63 : n + m ≤ maxLen) (hbytes : (n + m) * bytes ≤ 140737488355328) (hbase : base ≤ w.heap.size)
    (h : ∀ g' c' w', OwnL w' base e enc (.slice (some ⟨g', 0, none⟩) (n + m) c') (l ++ news) → w.grownBy w' (some g) → wpList P ops Q rest (a.put o.dst (.slice (some ⟨g', 0, none⟩) (n + m) c')) w') : wpList P ops Q (o :: rest) a w :=
  wpList_plain hgd fun _ hK => wp_app2 s x t ho base e enc i z bytes ht hi hz hsize hby hzs h1 g c l n hn hs hown base2 g2 c2 news m hm hx hown2 h63 hbytes hbase fun g' c' w' h2 h3 => hK _ _ (h g' c' w' h2 h3)
/-- The same as a step of a region that draws its order. -/
theorem step_app2 {ops : Array Oper} {o : Oper} {a : Act} {K : Act → World → Prop} {Q : Exit → Act → World → Prop} {E : Prop} (hgd : o.guard = none) (s x : Operand) (t : TypeId)
    (ho : o.op = .call { callee := .builtin .append, args := #[s, x], argTypes := #[t, t] })
    (base : Nat) (e : TypeId) (enc : α → Value) (i : TypeInfo) (z : Value) (bytes : Nat) (ht : P.underlying t = some (.slice e)) (hi : P.info? e = some i) (hz : i.zero = some z)
    (hsize : i.size = 1) (hby : i.bytes = bytes) (hzs : z.cells.size = 1) (h1 : ∀ x, (enc x).oneCell' = true)
    (g c : Nat) (l : List α) (n : Nat) (hn : l.length = n) (hs : a.eval s = .slice (some ⟨g, 0, none⟩) n c) (hown : OwnL w base e enc (.slice (some ⟨g, 0, none⟩) n c) l)
    (base2 g2 c2 : Nat) (news : List α) (m : Nat) (hm : news.length = m) (hx : a.eval x = .slice (some ⟨g2, 0, none⟩) m c2) (hown2 : OwnL w base2 e enc (.slice (some ⟨g2, 0, none⟩) m c2) news)
    (h63 : n + m ≤ maxLen) (hbytes : (n + m) * bytes ≤ 140737488355328) (hbase : base ≤ w.heap.size)
    (h : ∀ g' c' w', OwnL w' base e enc (.slice (some ⟨g', 0, none⟩) (n + m) c') (l ++ news) → w.grownBy w' (some g) → K (a.put o.dst (.slice (some ⟨g', 0, none⟩) (n + m) c')) w') :
    if Region.wanted o (yielded ops a.tmps) = true then Oper.wp P o a w K Q else E := by
  have hw : Region.wanted o (yielded ops a.tmps) = true := by simp [Region.wanted, hgd]
  rw [if_pos hw]
  exact wp_app2 s x t ho base e enc i z bytes ht hi hz hsize hby hzs h1 g c l n hn hs hown base2 g2 c2 news m hm hx hown2 h63 hbytes hbase h
/-- append to a slice of the call's own; the block is the old one or a new one. -/
theorem wpList_appAt {ops : Array Oper} {rest : List Oper} {o : Oper} {a : Act} {Q : Exit → Act → World → Prop} (hgd : o.guard = none) (s x : Operand) (t : TypeId)
    (ho : o.op = .call { callee := .builtin .append, args := #[s, x], argTypes := #[t, t] })
    (base : Nat) (e : TypeId) (enc : α → Value) (i : TypeInfo) (z : Value) (bytes : Nat) (ht : P.underlying t = some (.slice e)) (hi : P.info? e = some i) (hz : i.zero = some z)
    (hsize : i.size = 1) (hby : i.bytes = bytes) (hzs : z.cells.size = 1) (h1 : ∀ x, (enc x).oneCell' = true)
    (v : Value) (l : List α) (hs : a.eval s = v) (hown : OwnL w base e enc v l) (g m c : Nat) (news : List α) (hx : a.eval x = .slice (some ⟨g, 0, none⟩) m c) (hm : news.length = m) (cs : Array Value) (hg : w.heap[g]? = some (.cells cs e (0, 0))) (hcs : cs.toList = news.map enc)
    (h63 : l.length + m ≤ maxLen) (hbytes : (l.length + m) * bytes ≤ 140737488355328) (hbase : base ≤ w.heap.size)
    (h : ∀ v' w', OwnL w' base e enc v' (l ++ news) → w.grownBy w' v.ownBlock → (v'.ownBlock = v.ownBlock ∨ v'.ownBlock = some w.heap.size) → wpList P ops Q rest (a.put o.dst v') w') : wpList P ops Q (o :: rest) a w := by
  subst hm
  obtain ⟨v', w', hrun, h2, h3, _, h5⟩ := run_append_own_at (P := P) w base t o.type e i z 1 bytes ht hi hz hsize hby hzs (by omega) v l.length (l.map enc) hown ⟨g, 0, none⟩ news.length c (news.map enc) (by simp)
    (fun j u hj => by
      have hp : (⟨g, 0, none⟩ : Addr).add j = ⟨g, j, none⟩ := by unfold Addr.add; split <;> simp_all
      rw [hp, cell_of_row w g j cs e (0, 0) hg, ← hj, ← hcs]; simp)
    (fun u hu => by obtain ⟨x, _, rfl⟩ := List.mem_map.1 hu; exact h1 x) h63 hbytes hbase
  refine wpList_plain hgd fun _ hK => ?_
  unfold Oper.wp execOp
  simp only [ho, resolve, invoke, builtin, Sem.run_bind, Sem.run_pure, Result.andThen_ok, List.map_toArray, List.map_cons, List.map_nil, hs, hx, hrun]
  exact hK _ _ (h v' w' (by unfold OwnL; rw [List.length_append, List.map_append]; exact h2) h3 h5)
theorem own_blocks {base : Nat} {e : TypeId} {enc : α → Value} {v : Value} {l : List α} {w' : World} (h : OwnL w base e enc v l) (hk : ∀ k, v.ownBlock = some k → w'.heap[k]? = w.heap[k]?) : OwnL w' base e enc v l := by
  obtain ⟨h1, h2⟩ := h
  refine ⟨h1, ?_⟩
  rcases h2 with h2 | ⟨g, cap, cur, rfl, hb, hg, rest⟩
  · exact .inl h2
  · exact .inr ⟨g, cap, cur, rfl, hb, (hk g rfl).trans hg, rest⟩
end
end Go.Proofs.YtkjffifdlckljaaDoor
