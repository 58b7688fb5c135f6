/-
  For impl.clone: a value of which some lists are still to be copied.
-/
import Derived.Test.YtdbkifndhkmfgaaCopySpec
namespace Go.Proofs.Ytdbkifndhkmfgaa.val
open Go.ChangeShapes Go.WideShapes Go.ChangeAt Go.RowKit
set_option maxRecDepth 100000

theorem choose_list {α : Type} (n : Nat) (P : Nat → α → Prop) (h : ∀ i, i < n → ∃ x, P i x) : ∃ l : List α, l.length = n ∧ ∀ i (hi : i < l.length), P i l[i] := by
  induction n with
  | zero => exact ⟨[], rfl, fun i hi => by simp at hi⟩
  | succ n ih =>
    obtain ⟨l, h1, h2⟩ := ih (fun i hi => h i (by omega))
    obtain ⟨x, hx⟩ := h n (by omega)
    refine ⟨l ++ [x], by simp [h1], fun i hi => ?_⟩
    rw [List.length_append, List.length_singleton] at hi
    by_cases hl : i < l.length
    · rw [List.getElem_append_left hl]; exact h2 i hl
    · have e : i = l.length := by omega
      subst e
      rw [List.getElem_append_right (Nat.le_refl _)]
      simp only [Nat.sub_self, List.getElem_cons_zero, h1]
      exact hx
theorem flat_count (g : Nat) (hs : List Nat) : ∀ (a b : List (List Nat)), b.length = a.length → (∀ i (h : i < a.length) (h' : i < b.length), ∀ x, b[i].count x = a[i].count x + a[i].count g * hs.count x) → ∀ x, b.flatten.count x = a.flatten.count x + a.flatten.count g * hs.count x
  | [], [], _, _, x => by simp
  | [], _ :: _, h, _, _ => by simp at h
  | _ :: _, [], h, _, _ => by simp at h
  | a :: la, b :: lb, h, hi, x => by
    have h0 := hi 0 (by simp) (by simp) x
    have ih := flat_count g hs la lb (by simpa using h) (fun i h h' => hi (i + 1) (by simpa using h) (by simpa using h')) x
    simp only [List.getElem_cons_zero] at h0
    simp only [List.flatten_cons, List.count_append, h0, ih, Nat.add_mul]
    omega
/-- A list that is still to be copied: its new block, its elements, whose own lists are old. -/
structure Job where
  g : Nat
  cap : Nat
  ts : List LT
def Job.enc (j : Job) : Value := .slice (some ⟨j.g, 0, none⟩) j.ts.length j.cap
theorem oneJob (j : Job) : j.enc.oneCell' = true := rfl
structure JobIn (w : World) (n₀ : Nat) (j : Job) : Prop where
  blk : ∃ cs, w.heap[j.g]? = some (.cells cs 36 (0, 0)) ∧ j.ts.length * 5 ≤ cs.size
  at5 : ∀ i (h : i < j.ts.length), At5 w ⟨j.g, i * 5, none⟩ j.ts[i]
  old : ∀ i (h : i < j.ts.length), Own w 0 n₀ j.ts[i]
  lc : j.ts.length ≤ j.cap ∧ j.cap ≤ 9223372036854775807
theorem JobIn.kept {w w' : World} {n₀ : Nat} {j : Job} (h : JobIn w n₀ j) (hb : Below n₀ w w') (hg : w'.heap[j.g]? = w.heap[j.g]?) : JobIn w' n₀ j :=
  ⟨by obtain ⟨cs, h1, h2⟩ := h.blk; exact ⟨cs, hg.trans h1, h2⟩, fun i hi => (h.at5 i hi).of_block hg, fun i hi => (h.old i hi).behind hb, h.lc⟩
/-- A value of which the lists of st are still to be copied; its new blocks. -/
inductive Part (w : World) (st : List Job) : LT → List Nat → Prop
  | pend {k n e : Int} {s : ByteArray} (j : Job) (hj : j ∈ st) (hk : InI k) (hn : InI n) (he : InI e) (hs : s.size ≤ 9223372036854775807) : Part w st (.mk k n e s (some ⟨j.g, 0, none⟩) j.cap j.ts) [j.g]
  | own {k n e : Int} {s : ByteArray} {g cap : Nat} {kids : List LT} (cs : Array Value) (hg : ∀ j ∈ st, j.g ≠ g) (hk : InI k) (hn : InI n) (he : InI e) (hs : s.size ≤ 9223372036854775807) (hl : kids.length ≤ cap ∧ cap ≤ 9223372036854775807)
      (hb : w.heap[g]? = some (.cells cs 36 (0, 0))) (hz : kids.length * 5 ≤ cs.size) (hc : ∀ i (h : i < kids.length), At5 w ⟨g, i * 5, none⟩ kids[i]) (bl : List (List Nat)) (hbl : bl.length = kids.length)
      (hkids : ∀ i (h : i < kids.length) (h' : i < bl.length), Part w st kids[i] bl[i]) : Part w st (.mk k n e s (some ⟨g, 0, none⟩) cap kids) (g :: bl.flatten)
theorem mem_flat {bl : List (List Nat)} {i : Nat} (h : i < bl.length) {b : Nat} (hb : b ∈ bl[i]) : b ∈ bl.flatten := List.mem_flatten.2 ⟨_, List.getElem_mem h, hb⟩
theorem Part.kept {w w' : World} {st : List Job} {T : LT} {bl : List Nat} (h : Part w st T bl) (hk : ∀ b, b ∈ bl → (∀ j ∈ st, j.g ≠ b) → w'.heap[b]? = w.heap[b]?) : Part w' st T bl := by
  induction h with
  | pend j hj h1 h2 h3 h4 => exact .pend j hj h1 h2 h3 h4
  | @own k n e s g cap kids cs hg h1 h2 h3 h4 h5 hb hz hc bl hbl _ ih =>
    have e := hk g (List.mem_cons_self ..) hg
    exact .own cs hg h1 h2 h3 h4 h5 (e.trans hb) hz (fun i hi => (hc i hi).of_block e) bl hbl (fun i hi hi' => ih i hi hi' (fun b hbb hj => hk b (List.mem_cons_of_mem _ (mem_flat hi' hbb)) hj))
/-- The same head: kind, numbers, text, and its list as a cell. -/
structure Alike (t u : LT) : Prop where
  k : u.k = t.k
  n : u.n = t.n
  e : u.e = t.e
  s : u.s = t.s
  row : u.row = t.row
  a : u.a = t.a
theorem At5.alike {w : World} {p : Addr} {t u : LT} (h : At5 w p t) (ha : Alike t u) : At5 w p u :=
  ⟨by rw [ha.k]; exact h.c0, by rw [ha.n]; exact h.c1, by rw [ha.e]; exact h.c2, by rw [ha.s]; exact h.c3, by rw [ha.row]; exact h.c4⟩
/-- One list is copied: its elements' lists are to be copied now. -/
theorem Part.graft {w w' : World} {st st' : List Job} {J : Job} {ts' : List LT} {hs : List Nat} {T : LT} {bl : List Nat} (h : Part w (J :: st) T bl)
    (hkeep : ∀ b, b ∈ bl → b ≠ J.g → (∀ j ∈ st, j.g ≠ b) → w'.heap[b]? = w.heap[b]?)
    (hblk : ∃ cs, w'.heap[J.g]? = some (.cells cs 36 (0, 0)) ∧ ts'.length * 5 ≤ cs.size) (hat : ∀ i (h : i < ts'.length), At5 w' ⟨J.g, i * 5, none⟩ ts'[i]) (hlc : J.ts.length ≤ J.cap ∧ J.cap ≤ 9223372036854775807)
    (hlen : ts'.length = J.ts.length) (hers : ts'.map er = J.ts.map er) (hhs : hs.length = ts'.length) (hnew : ∀ i (h : i < ts'.length) (h' : i < hs.length), Part w' st' ts'[i] [hs[i]])
    (hst : ∀ j, j ∈ st → j ∈ st') (huq : ∀ j ∈ st, j.g ≠ J.g) (hfr : ∀ j ∈ st', j ∈ st ∨ j.g ∉ bl) (hJ : ∀ j ∈ st', j.g ≠ J.g) :
    ∃ T' bl', Part w' st' T' bl' ∧ er T' = er T ∧ Alike T T' ∧ ∀ x, bl'.count x = bl.count x + bl.count J.g * hs.count x := by
  induction h with
  | @pend k n e s j hj h1 h2 h3 h4 =>
    rcases List.mem_cons.1 hj with rfl | hj
    · obtain ⟨cs, hb, hz⟩ := hblk
      have hp := Part.own (st := st') cs hJ h1 h2 h3 h4 (kids := ts') (g := j.g) (cap := j.cap) ⟨by omega, hlc.2⟩ hb hz hat (hs.map fun x => [x]) (by simp [hhs]) (fun i hi hi' => by
        have := hnew i hi (by omega)
        simpa using this)
      have hfl : (hs.map fun x => [x]).flatten = hs := by
        have : ∀ l : List Nat, (l.map fun x => [x]).flatten = l := by
          intro l
          induction l with
          | nil => rfl
          | cons x l ih => simp [ih]
        exact this hs
      rw [hfl] at hp
      refine ⟨_, _, hp, ?_, ⟨rfl, rfl, rfl, rfl, by unfold LT.row; simp only [LT.a, LT.kids, LT.cap, hlen], rfl⟩, fun x => ?_⟩
      · simp only [er, erL_map, hers]
      · simp [List.count_cons]
        omega
    · refine ⟨_, _, .pend j (hst j hj) h1 h2 h3 h4, rfl, ⟨rfl, rfl, rfl, rfl, rfl, rfl⟩, fun x => ?_⟩
      have : [j.g].count J.g = 0 := by simp [List.count_cons]; exact huq j hj
      rw [this]
      omega
  | @own k n e s g cap kids cs hg h1 h2 h3 h4 h5 hb hz hc bl hbl hkids ih =>
    have hgJ : g ≠ J.g := fun e => hg J (List.mem_cons_self ..) e.symm
    have hch := choose_list kids.length (fun i (x : LT × List Nat) => ∀ (h : i < kids.length) (h' : i < bl.length), Part w' st' x.1 x.2 ∧ er x.1 = er kids[i] ∧ Alike kids[i] x.1 ∧ ∀ y, x.2.count y = bl[i].count y + bl[i].count J.g * hs.count y) (fun i hi => by
      have hi' : i < bl.length := by omega
      obtain ⟨T', bl', q1, q2, q3, q4⟩ := ih i hi hi' (fun b hbb hne hj => hkeep b (List.mem_cons_of_mem _ (mem_flat hi' hbb)) hne hj) (fun j hj => by
        rcases hfr j hj with h | h
        · exact .inl h
        · exact .inr (fun hm => h (List.mem_cons_of_mem _ (mem_flat hi' hm))))
      exact ⟨(T', bl'), fun _ _ => ⟨q1, q2, q3, q4⟩⟩)
    obtain ⟨l, hl1, hl2⟩ := hch
    have eg := hkeep g (List.mem_cons_self ..) hgJ (fun j hj => hg j (List.mem_cons_of_mem _ hj))
    have hkl : (l.map Prod.fst).length = kids.length := by simp [hl1]
    refine ⟨.mk k n e s (some ⟨g, 0, none⟩) cap (l.map Prod.fst), g :: (l.map Prod.snd).flatten, .own cs ?_ h1 h2 h3 h4 (by rw [hkl]; exact h5) (eg.trans hb) (by rw [hkl]; exact hz) ?_ (l.map Prod.snd) (by simp) ?_, ?_, ?_, ?_⟩
    · intro j hj e
      rcases hfr j hj with h | h
      · exact hg j (List.mem_cons_of_mem _ h) e
      · exact h (by rw [e]; exact List.mem_cons_self ..)
    · intro i hi
      have hi1 : i < l.length := by simpa using hi
      obtain ⟨_, _, q3, _⟩ := hl2 i hi1 (by omega) (by omega)
      have := ((hc i (by omega)).of_block eg).alike q3
      simpa using this
    · intro i hi hi'
      have hi1 : i < l.length := by simpa using hi
      obtain ⟨q1, _, _, _⟩ := hl2 i hi1 (by omega) (by omega)
      simpa using q1
    · simp only [er, erL_map]
      congr 1
      apply List.ext_getElem
      · simp [hl1]
      · intro i hi1 hi2
        simp only [List.length_map] at hi1 hi2
        obtain ⟨_, q2, _, _⟩ := hl2 i hi1 (by omega) (by omega)
        simpa using q2
    · exact ⟨rfl, rfl, rfl, rfl, by unfold LT.row; simp only [LT.a, LT.kids, LT.cap, hkl], rfl⟩
    · intro x
      have hf := flat_count J.g hs bl (l.map Prod.snd) (by simp [hl1, hbl]) (fun i hi hi' y => by
        have hi1 : i < l.length := by simpa using hi'
        obtain ⟨_, _, _, q4⟩ := hl2 i hi1 (by omega) hi
        simpa using q4 y) x
      have hgc : (g :: bl.flatten).count J.g = bl.flatten.count J.g := by rw [List.count_cons]; simp [hgJ]
      rw [List.count_cons, List.count_cons, hf]
      simp only [hgc]
      omega
/-- Nothing is left to be copied. -/
theorem Part.tr {w : World} {T : LT} {bl : List Nat} (h : Part w [] T bl) : Tr w T ∧ T.blks = bl := by
  induction h with
  | pend j hj => cases hj
  | @own k n e s g cap kids cs hg h1 h2 h3 h4 h5 hb hz hc bl hbl _ ih =>
    refine ⟨.mk cs h1 h2 h3 h4 h5 hb hz hc (fun i hi => (ih i hi (by omega)).1), ?_⟩
    rw [blks_some]
    congr 1
    have : ∀ (l : List LT) (b : List (List Nat)), b.length = l.length → (∀ i (h : i < l.length) (h' : i < b.length), l[i].blks = b[i]) → LT.blksL l = b.flatten := by
      intro l
      induction l with
      | nil =>
        intro b hb _
        obtain rfl : b = [] := List.length_eq_zero_iff.1 (by simpa using hb)
        rw [LT.blksL]; rfl
      | cons t ts iht =>
        intro b hb hall
        cases b with
        | nil => simp at hb
        | cons x xs =>
          rw [LT.blksL, List.flatten_cons, iht xs (by simpa using hb) (fun i h h' => hall (i + 1) (by simpa using h) (by simpa using h'))]
          have := hall 0 (by simp) (by simp)
          simp only [List.getElem_cons_zero] at this
          rw [this]
    exact this kids bl hbl (fun i h h' => (ih i h h').2)

end Go.Proofs.Ytdbkifndhkmfgaa.val
