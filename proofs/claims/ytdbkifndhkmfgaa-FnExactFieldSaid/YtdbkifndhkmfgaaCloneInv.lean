/-
  For impl.clone: what holds between the steps of its two loops.
-/
import Derived.Test.YtdbkifndhkmfgaaClonePlain
import Derived.Test.YtdbkifndhkmfgaaWalkIter
namespace Go.Proofs.Ytdbkifndhkmfgaa.val
open Go.ChangeShapes Go.WideShapes Go.ChangeAt Go.RowKit
set_option maxRecDepth 100000

def newOf (t : LT) (j : Job) : LT := .mk t.k t.n t.e t.s (some ⟨j.g, 0, none⟩) j.cap t.kids
theorem er_newOf (t : LT) (j : Job) : er (newOf t j) = er t := by rw [er_mk t, newOf, er, erL_map]
def cost : List Job → Nat
  | [] => 0
  | j :: js => LT.nodesL j.ts + 1 + cost js
theorem cost_append (a b : List Job) : cost (a ++ b) = cost a + cost b := by
  induction a with
  | nil => simp [cost]
  | cons j js ih => simp only [List.cons_append, cost, ih]; omega
theorem cost_reverse (a : List Job) : cost a.reverse = cost a := by
  induction a with
  | nil => rfl
  | cons j js ih => rw [List.reverse_cons, cost_append, ih]; simp [cost]; omega
theorem cost_len (a : List Job) : a.length ≤ cost a := by
  induction a with
  | nil => simp
  | cons j js ih => simp only [List.length_cons, cost]; omega
theorem nodesL_at : ∀ (ts : List LT) (js : List Job), js.length = ts.length → (∀ m (h : m < js.length) (h' : m < ts.length), js[m].ts = ts[m].kids) → cost js = LT.nodesL ts
  | [], [], _, _ => rfl
  | [], _ :: _, h, _ => by simp at h
  | _ :: _, [], h, _ => by simp at h
  | t :: ts, j :: js, h, hm => by
    have h0 := hm 0 (by simp) (by simp)
    simp only [List.getElem_cons_zero] at h0
    rw [cost, LT.nodesL, nodes_mk, h0, nodesL_at ts js (by simpa using h) (fun m h h' => by have := hm (m + 1) (by simpa using h) (by simpa using h'); simpa using this)]
    omega
structure Outer (W1 wr : World) (n₀ : Nat) (t : LT) (lv : Value) (st : List Job) (R : LT) (bl : List Nat) : Prop where
  part : Part wr st R bl
  jobs : ∀ j ∈ st, JobIn wr n₀ j
  own : OwnL wr W1.heap.size 34 Job.enc lv st.reverse
  sep : ∀ b, b ∈ bl → lv.ownBlock ≠ some b
  jin : ∀ j ∈ st, j.g ∈ bl
  uniq : (st.map Job.g).Nodup
  nodup : bl.Nodup
  bnd : ∀ b, b ∈ bl → W1.heap.size ≤ b ∧ b < wr.heap.size
  below : Below W1.heap.size W1 wr
  root : er R = .mk 0 0 0 ⟨#[]⟩ [er t]
  ra : R.row = .slice (some ⟨W1.heap.size, 0, none⟩) 1 1
structure Inner (W1 wr : World) (n₀ : Nat) (t : LT) (lv : Value) (st : List Job) (J : Job) (nj : List Job) (R : LT) (bl : List Nat) : Prop where
  part : Part wr (J :: st) R bl
  jobs : ∀ j ∈ st, JobIn wr n₀ j
  njobs : ∀ j ∈ nj, JobIn wr n₀ j
  nlen : nj.length ≤ J.ts.length
  nts : ∀ m (h : m < nj.length) (h' : m < J.ts.length), nj[m].ts = J.ts[m].kids
  own : OwnL wr W1.heap.size 34 Job.enc lv (st.reverse ++ nj)
  blk : ∃ cs, wr.heap[J.g]? = some (.cells cs 36 (0, 0)) ∧ J.ts.length * 5 ≤ cs.size
  done : ∀ m (h : m < nj.length) (h' : m < J.ts.length), At5 wr ⟨J.g, m * 5, none⟩ (newOf J.ts[m] nj[m])
  rest : ∀ m, nj.length ≤ m → ∀ (h' : m < J.ts.length), At5 wr ⟨J.g, m * 5, none⟩ J.ts[m]
  old : ∀ m (h : m < J.ts.length), Own wr 0 n₀ J.ts[m]
  lc : J.ts.length ≤ J.cap ∧ J.cap ≤ 9223372036854775807
  sep : ∀ b, b ∈ bl → lv.ownBlock ≠ some b
  nsep : ∀ j ∈ nj, lv.ownBlock ≠ some j.g
  jin : ∀ j ∈ st, j.g ∈ bl
  Jin : J.g ∈ bl
  uniq : ((J :: st).map Job.g).Nodup
  nuniq : (nj.map Job.g).Nodup
  nfr : ∀ j ∈ nj, j.g ∉ bl
  nbnd : ∀ j ∈ nj, W1.heap.size ≤ j.g ∧ j.g < wr.heap.size
  nodup : bl.Nodup
  bnd : ∀ b, b ∈ bl → W1.heap.size ≤ b ∧ b < wr.heap.size
  below : Below W1.heap.size W1 wr
  root : er R = .mk 0 0 0 ⟨#[]⟩ [er t]
  ra : R.row = .slice (some ⟨W1.heap.size, 0, none⟩) 1 1
theorem Outer.pop {W1 wr : World} {n₀ : Nat} {t R : LT} {J : Job} {st : List Job} {bl : List Nat} {g c m : Nat} (h : Outer W1 wr n₀ t (.slice (some ⟨g, 0, none⟩) m c) (J :: st) R bl) : Inner W1 wr n₀ t (.slice (some ⟨g, 0, none⟩) st.length c) st J [] R bl := by
  have hJ := h.jobs J (List.mem_cons_self ..)
  refine ⟨h.part, fun j hj => h.jobs j (List.mem_cons_of_mem _ hj), fun j hj => (by cases hj), Nat.zero_le _, fun m h => (by simp at h), ?_, hJ.blk, fun m h => (by simp at h), fun m _ h' => hJ.at5 m h', hJ.old, hJ.lc, h.sep, fun j hj => (by cases hj), fun j hj => h.jin j (List.mem_cons_of_mem _ hj), h.jin J (List.mem_cons_self ..), h.uniq, by simp, fun j hj => (by cases hj), fun j hj => (by cases hj), h.nodup, h.bnd, h.below, h.root, h.ra⟩
  have := own_take st.length (by simp) h.own
  rw [List.reverse_cons, List.take_left' (by simp)] at this
  rw [List.append_nil]
  exact this
theorem set_same {cs : Array Value} {o : Nat} {v : Value} (h : cs[o]? = some v) : cs.setIfInBounds o v = cs := by
  apply Array.ext_getElem?
  intro i
  by_cases e : o = i
  · subst e
    have hl := (Array.getElem?_eq_some_iff.1 h).1
    rw [Array.getElem?_setIfInBounds_self_of_lt hl, h]
  · rw [Array.getElem?_setIfInBounds_ne e]
/-- A store of what stands there already. -/
theorem below_same {B g o : Nat} {w w2 : World} {cs : Array Value} {T : TypeId} {v : Value} (h : Below B w w2) (hb : w2.heap[g]? = some (.cells cs T (0, 0))) (hv : cs[o]? = some v) : Below B w (w2.setCell ⟨g, o, none⟩ v) :=
  h.trans ⟨rfl, rfl, rfl, by rw [set_size]; exact Nat.le_refl _, fun k _ => by
    by_cases e : k = g
    · subst e; rw [blk_set hb v, set_same hv, hb]
    · exact blk_other v e⟩
theorem At5.set_other {w w' : World} {g m o : Nat} {cs : Array Value} {T : TypeId} {v : Value} {u : LT} (h : At5 w ⟨g, m * 5, none⟩ u) (hb : w.heap[g]? = some (.cells cs T (0, 0))) (hb' : w'.heap[g]? = some (.cells (cs.setIfInBounds o v) T (0, 0))) (ho : o < m * 5 ∨ m * 5 + 5 ≤ o) : At5 w' ⟨g, m * 5, none⟩ u := by
  have c : ∀ j, j < 5 → w'.cell? ⟨g, m * 5 + j, none⟩ = w.cell? ⟨g, m * 5 + j, none⟩ := fun j hj => by
    rw [cell_of_row w' g _ _ _ (0, 0) hb', cell_of_row w g _ _ _ (0, 0) hb, Array.getElem?_setIfInBounds_ne (by omega)]
  exact ⟨(c 0 (by omega)).trans h.c0, (c 1 (by omega)).trans h.c1, (c 2 (by omega)).trans h.c2, (c 3 (by omega)).trans h.c3, (c 4 (by omega)).trans h.c4⟩
theorem At5.set_row {w w' : World} {g m : Nat} {cs : Array Value} {T : TypeId} {u u' : LT} (h : At5 w ⟨g, m * 5, none⟩ u) (hb : w.heap[g]? = some (.cells cs T (0, 0))) (hz : m * 5 + 5 ≤ cs.size) (hb' : w'.heap[g]? = some (.cells (cs.setIfInBounds (m * 5 + 4) u'.row) T (0, 0))) (hk : u'.k = u.k) (hn : u'.n = u.n) (he : u'.e = u.e) (hs : u'.s = u.s) : At5 w' ⟨g, m * 5, none⟩ u' := by
  have c : ∀ j, j < 4 → w'.cell? ⟨g, m * 5 + j, none⟩ = w.cell? ⟨g, m * 5 + j, none⟩ := fun j hj => by
    rw [cell_of_row w' g _ _ _ (0, 0) hb', cell_of_row w g _ _ _ (0, 0) hb, Array.getElem?_setIfInBounds_ne (by omega)]
  refine ⟨?_, ?_, ?_, ?_, ?_⟩
  · rw [hk]; exact (c 0 (by omega)).trans h.c0
  · rw [hn]; exact (c 1 (by omega)).trans h.c1
  · rw [he]; exact (c 2 (by omega)).trans h.c2
  · rw [hs]; exact (c 3 (by omega)).trans h.c3
  · show w'.cell? ⟨g, m * 5 + 4, none⟩ = _
    rw [cell_of_row w' g _ _ _ (0, 0) hb', Array.getElem?_setIfInBounds_self_of_lt (by omega)]
theorem Own.kid {w : World} {lo hi : Nat} {t : LT} (h : Own w lo hi t) : ∀ i (hi' : i < t.kids.length), Own w lo hi t.kids[i] := by
  cases h with
  | mk cs k1 k2 k3 k4 k5 hlo hhi hb hz hc hk => exact hk
/-- One element's list is copied and pushed. -/
theorem Inner.step {W1 wr w2 w3 w6 : World} {n₀ : Nat} {t R : LT} {lv lv' : Value} {st nj : List Job} {J : Job} {bl : List Nat} {h c : Nat} {o : Obj} (I : Inner W1 wr n₀ t lv st J nj R bl) (hi : nj.length < J.ts.length) (hn : n₀ ≤ W1.heap.size) (hb2 : Below wr.heap.size wr w2)
    (hr : OwnR w3 W1.heap.size (.slice (some ⟨h, 0, none⟩) J.ts[nj.length].kids.length c) J.ts[nj.length].kids) (hg3 : (w2.alloc (.cells #[] 36)).grownBy w3 (some w2.heap.size)) (hh : h = w2.heap.size ∨ h = (w2.alloc (.cells #[] 36)).heap.size)
    (ho : OwnL w6 W1.heap.size 34 Job.enc lv' ((st.reverse ++ nj) ++ [⟨h, c, J.ts[nj.length].kids⟩])) (hg6 : ((w3.setCell ⟨J.g, nj.length * 5 + 4, none⟩ (.slice (some ⟨h, 0, none⟩) J.ts[nj.length].kids.length c)).alloc o).grownBy w6 lv.ownBlock)
    (hl : lv'.ownBlock = lv.ownBlock ∨ lv'.ownBlock = some ((w3.setCell ⟨J.g, nj.length * 5 + 4, none⟩ (.slice (some ⟨h, 0, none⟩) J.ts[nj.length].kids.length c)).alloc o).heap.size) :
    Inner W1 w6 n₀ t lv' st J (nj ++ [⟨h, c, J.ts[nj.length].kids⟩]) R bl := by
  have hz2 := hb2.size
  have hz3 := hg3.size
  have hz6 := hg6.size
  simp only [World.size_alloc, set_size] at hz3 hz6 hl hh
  have hJb := I.bnd J.g I.Jin
  have hlvlt : ∀ k, lv.ownBlock = some k → W1.heap.size ≤ k ∧ k < wr.heap.size := fun k hk => World.ownsRow.lt I.own k hk
  have hhb : wr.heap.size ≤ h ∧ h < w3.heap.size := by
    have := (hr.lt h rfl).2
    exact ⟨by omega, this⟩
  have k3 : ∀ b, b < wr.heap.size → w3.heap[b]? = wr.heap[b]? := fun b hb => by
    rw [hg3.block b (by simp; omega) (fun e => by injection e with e; omega), Below.heap_alloc _ _ _ (by omega), hb2.block b hb]
  have k6 : ∀ b, b < w3.heap.size → b ≠ J.g → lv.ownBlock ≠ some b → w6.heap[b]? = w3.heap[b]? := fun b hb hne hlv => by
    rw [hg6.block b (by simp only [World.size_alloc, set_size]; omega) (fun e => hlv e.symm), Below.heap_alloc _ _ _ (by rw [set_size]; omega), blk_other _ hne]
  have kk : ∀ b, b < wr.heap.size → b ≠ J.g → lv.ownBlock ≠ some b → w6.heap[b]? = wr.heap[b]? := fun b hb hne hlv => (k6 b (by omega) hne hlv).trans (k3 b hb)
  obtain ⟨cs, hcs, hcz⟩ := I.blk
  have hJ6 : w6.heap[J.g]? = some (.cells (cs.setIfInBounds (nj.length * 5 + 4) (.slice (some ⟨h, 0, none⟩) J.ts[nj.length].kids.length c)) 36 (0, 0)) := by
    rw [hg6.block J.g (by simp only [World.size_alloc, set_size]; omega) (fun e => I.sep J.g I.Jin e.symm), Below.heap_alloc _ _ _ (by rw [set_size]; omega)]
    exact blk_set ((k3 J.g hJb.2).trans hcs) _
  have hbl6 : Below n₀ wr w6 := by
    refine ⟨?_, ?_, ?_, by omega, fun b hb => kk b (by have := I.below.size; omega) (by omega) (fun e => by have := hlvlt b e; omega)⟩
    · exact hg6.os.trans (hg3.os.trans hb2.os)
    · exact hg6.tape.trans (hg3.tape.trans hb2.tape)
    · exact hg6.output.trans (hg3.output.trans hb2.output)
  have hbW : Below W1.heap.size W1 w6 := I.below.trans ⟨hbl6.os, hbl6.tape, hbl6.output, hbl6.size, fun b hb => kk b (by have := I.below.size; omega) (by omega) (fun e => by have := hlvlt b e; omega)⟩
  have hlh : lv.ownBlock ≠ some h := fun e => by have := hlvlt h e; omega
  have hR6 : OwnR w6 W1.heap.size (.slice (some ⟨h, 0, none⟩) J.ts[nj.length].kids.length c) J.ts[nj.length].kids := hr.same (fun k hk => by
    have e : h = k := by simpa [Value.ownBlock] using hk
    subst e
    exact k6 h hhb.2 (by omega) hlh)
  obtain ⟨hrb, _, _, hrl, hrm, hr5⟩ := hR6.at5
  unfold maxLen at hrm
  have hlv' : ∀ b, b < wr.heap.size → lv.ownBlock ≠ some b → lv'.ownBlock ≠ some b := fun b hb hne e => by
    rcases hl with hl | hl
    · exact hne (hl ▸ e)
    · rw [hl] at e; injection e with e; omega
  refine ⟨?_, ?_, ?_, by rw [List.length_append]; simp; omega, ?_, by rw [← List.append_assoc]; exact ho, ⟨_, hJ6, by simp; omega⟩, ?_, ?_, fun m hm => (I.old m hm).behind hbl6, I.lc, ?_, ?_, I.jin, I.Jin, I.uniq, ?_, ?_, ?_, I.nodup, ?_, hbW, I.root, I.ra⟩
  · exact I.part.kept fun b hb hj => kk b (I.bnd b hb).2 (fun e => hj J (List.mem_cons_self ..) e.symm) (I.sep b hb)
  · exact fun j hj => (I.jobs j hj).kept hbl6 (kk j.g (I.bnd _ (I.jin j hj)).2 (fun e => by
      have := (List.nodup_cons.1 I.uniq).1
      exact this (by rw [← e]; exact List.mem_map_of_mem hj)) (I.sep _ (I.jin j hj)))
  · intro j hj
    rcases List.mem_append.1 hj with hj | hj
    · exact (I.njobs j hj).kept hbl6 (kk j.g (I.nbnd j hj).2 (fun e => I.nfr j hj (e ▸ I.Jin)) (I.nsep j hj))
    · obtain rfl := List.mem_singleton.1 hj
      exact ⟨hrb, hr5, fun i hi' => ((I.old _ hi).kid i hi').behind hbl6, ⟨hrl, hrm⟩⟩
  · intro m hm hm'
    rw [List.length_append, List.length_singleton] at hm
    by_cases e : m < nj.length
    · rw [List.getElem_append_left e]; exact I.nts m e hm'
    · have e' : m = nj.length := by omega
      subst e'
      rw [List.getElem_append_right (Nat.le_refl _)]
      simp
  · intro m hm hm'
    rw [List.length_append, List.length_singleton] at hm
    by_cases e : m < nj.length
    · rw [List.getElem_append_left e]
      exact (I.done m e hm').set_other hcs hJ6 (by omega)
    · have e' : m = nj.length := by omega
      subst e'
      rw [List.getElem_append_right (Nat.le_refl _)]
      simp only [Nat.sub_self, List.getElem_cons_zero]
      exact (I.rest nj.length (Nat.le_refl _) hm').set_row hcs (by omega) hJ6 rfl rfl rfl rfl
  · intro m hm hm'
    rw [List.length_append, List.length_singleton] at hm
    exact (I.rest m (by omega) hm').set_other hcs hJ6 (by omega)
  · exact fun b hb => hlv' b (I.bnd b hb).2 (I.sep b hb)
  · intro j hj
    rcases List.mem_append.1 hj with hj | hj
    · exact hlv' _ (I.nbnd j hj).2 (I.nsep j hj)
    · obtain rfl := List.mem_singleton.1 hj
      intro e
      rcases hl with hl | hl
      · exact hlh (hl ▸ e)
      · rw [hl] at e; injection e with e; simp only at e; omega
  · rw [List.map_append, List.nodup_append]
    refine ⟨I.nuniq, by simp, fun a ha b hb e => ?_⟩
    obtain ⟨j, hj, rfl⟩ := List.mem_map.1 ha
    simp only [List.map_cons, List.map_nil, List.mem_singleton] at hb
    have := (I.nbnd j hj).2
    omega
  · intro j hj
    rcases List.mem_append.1 hj with hj | hj
    · exact I.nfr j hj
    · obtain rfl := List.mem_singleton.1 hj
      intro hb
      have := (I.bnd _ hb).2
      simp only at this
      omega
  · intro j hj
    rcases List.mem_append.1 hj with hj | hj
    · have := I.nbnd j hj; omega
    · obtain rfl := List.mem_singleton.1 hj
      have := I.below.size
      simp only
      omega
  · intro b hb
    have := I.bnd b hb
    omega
/-- All elements of the list are copied. -/
theorem Inner.fin {W1 wr : World} {n₀ : Nat} {t R : LT} {lv : Value} {st nj : List Job} {J : Job} {bl : List Nat} (I : Inner W1 wr n₀ t lv st J nj R bl) (hi : nj.length = J.ts.length) : ∃ R' bl', Outer W1 wr n₀ t lv (nj.reverse ++ st) R' bl' := by
  have hz : (List.zipWith newOf J.ts nj).length = J.ts.length := by simp [hi]
  have hat : ∀ i (h : i < (List.zipWith newOf J.ts nj).length), At5 wr ⟨J.g, i * 5, none⟩ (List.zipWith newOf J.ts nj)[i] := fun i h => by
    have h1 : i < J.ts.length := by omega
    rw [List.getElem_zipWith]
    exact I.done i (by omega) h1
  have hers : (List.zipWith newOf J.ts nj).map er = J.ts.map er := by
    apply List.ext_getElem
    · simp [hi]
    · intro i h1 h2
      simp only [List.getElem_map, List.getElem_zipWith]
      exact er_newOf _ _
  have hnew : ∀ i (h : i < (List.zipWith newOf J.ts nj).length) (h' : i < (nj.map Job.g).length), Part wr (nj.reverse ++ st) (List.zipWith newOf J.ts nj)[i] [(nj.map Job.g)[i]] := fun i h h' => by
    have h1 : i < J.ts.length := by omega
    have h2 : i < nj.length := by omega
    rw [List.getElem_zipWith, List.getElem_map]
    unfold newOf
    rw [← I.nts i h2 h1]
    have ho := I.old i h1
    refine Part.pend nj[i] (List.mem_append_left _ (List.mem_reverse.2 (List.getElem_mem h2))) ?_ ?_ ?_ ?_ <;> (cases hx : J.ts[i]; rw [hx] at ho; cases ho; assumption)
  have huq : ∀ j ∈ st, j.g ≠ J.g := fun j hj e => (List.nodup_cons.1 I.uniq).1 (by rw [← e]; exact List.mem_map_of_mem hj)
  obtain ⟨R', bl', p1, p2, p3, p4⟩ := I.part.graft (w' := wr) (st' := nj.reverse ++ st) (ts' := List.zipWith newOf J.ts nj) (hs := nj.map Job.g) (fun _ _ _ _ => rfl) (by obtain ⟨cs, h1, h2⟩ := I.blk; exact ⟨cs, h1, by rw [hz]; exact h2⟩) hat I.lc hz hers (by simp [hi]) hnew
    (fun j hj => List.mem_append_right _ hj) huq (fun j hj => by
      rcases List.mem_append.1 hj with hj | hj
      · exact .inr (I.nfr j (List.mem_reverse.1 hj))
      · exact .inl hj) (fun j hj e => by
      rcases List.mem_append.1 hj with hj | hj
      · exact I.nfr j (List.mem_reverse.1 hj) (e ▸ I.Jin)
      · exact huq j hj e)
  have hcJ : bl.count J.g = 1 := by
    have h1 := List.nodup_iff_count.1 I.nodup J.g
    have h2 := List.count_pos_iff.2 I.Jin
    omega
  have hmem : ∀ b, b ∈ bl' ↔ b ∈ bl ∨ b ∈ nj.map Job.g := fun b => by
    rw [← List.count_pos_iff, ← List.count_pos_iff (l := bl), ← List.count_pos_iff (l := nj.map Job.g), p4 b, hcJ]
    omega
  refine ⟨R', bl', p1, ?_, by rw [List.reverse_append, List.reverse_reverse]; exact I.own, ?_, ?_, ?_, ?_, ?_, I.below, p2.trans I.root, p3.row.trans I.ra⟩
  · intro j hj
    rcases List.mem_append.1 hj with hj | hj
    · exact I.njobs j (List.mem_reverse.1 hj)
    · exact I.jobs j hj
  · intro b hb
    rcases (hmem b).1 hb with hb | hb
    · exact I.sep b hb
    · obtain ⟨j, hj, rfl⟩ := List.mem_map.1 hb
      exact I.nsep j hj
  · intro j hj
    rcases List.mem_append.1 hj with hj | hj
    · exact (hmem _).2 (.inr (List.mem_map_of_mem (List.mem_reverse.1 hj)))
    · exact (hmem _).2 (.inl (I.jin j hj))
  · rw [List.map_append, List.nodup_append]
    refine ⟨by rw [List.map_reverse]; exact List.nodup_iff_count.2 (fun b => by rw [List.count_reverse]; exact List.nodup_iff_count.1 I.nuniq b), (List.nodup_cons.1 I.uniq).2, fun a ha b hb e => ?_⟩
    obtain ⟨j, hj, rfl⟩ := List.mem_map.1 ha
    obtain ⟨j2, hj2, rfl⟩ := List.mem_map.1 hb
    exact I.nfr j (List.mem_reverse.1 hj) (by rw [e]; exact I.jin j2 hj2)
  · rw [List.nodup_iff_count]
    intro b
    rw [p4 b, hcJ]
    have h1 := List.nodup_iff_count.1 I.nodup b
    have h2 := List.nodup_iff_count.1 I.nuniq b
    by_cases hb : b ∈ bl
    · have : (nj.map Job.g).count b = 0 := List.count_eq_zero.2 (fun hm => by
        obtain ⟨j, hj, rfl⟩ := List.mem_map.1 hm
        exact I.nfr j hj hb)
      omega
    · have := List.count_eq_zero.2 hb
      omega
  · intro b hb
    rcases (hmem b).1 hb with hb | hb
    · exact I.bnd b hb
    · obtain ⟨j, hj, rfl⟩ := List.mem_map.1 hb
      exact I.nbnd j hj

end Go.Proofs.Ytdbkifndhkmfgaa.val
