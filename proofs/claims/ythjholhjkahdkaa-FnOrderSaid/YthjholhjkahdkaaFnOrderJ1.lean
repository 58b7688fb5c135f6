/-
  What impl.Count returns where impl.finite hands its value back: how many nodes of the kind the value has.
-/
import Derived.Test.YthjholhjkahdkaaRangeBox
import Derived.Test.YthjholhjkahdkaaDeepWalk
import Derived.Test.YthjholhjkahdkaaTree
import Derived.Test.YthjholhjkahdkaaWalkIter
namespace Go.Proofs.Ythjholhjkahdkaa.val
open Go.ChangeShapes Go.WideShapes Go.ChangeAt Go.RowKit
set_option maxRecDepth 100000
attribute [local go_sem] Oper.semAt_some

/-- How many of those met are of the kind. -/
def kindOf (kd : Int) (pre : List (Nat × LT)) : Nat := (pre.filter (fun x => x.2.k == kd)).length
theorem kindOf_yes (kd : Int) (pre : List (Nat × LT)) (x : Nat × LT) (h : x.2.k = kd) : kindOf kd (pre ++ [x]) = kindOf kd pre + 1 := by simp [kindOf, h]
theorem kindOf_no (kd : Int) (pre : List (Nat × LT)) (x : Nat × LT) (h : ¬ x.2.k = kd) : kindOf kd (pre ++ [x]) = kindOf kd pre := by simp [kindOf, h]
theorem kindOf_le (kd : Int) (pre : List (Nat × LT)) : kindOf kd pre ≤ pre.length := List.length_filter_le _ _

structure KindInv (w W : World) (kd : Int) (B : Nat) (m : Nat) : Prop where
  kind : One W (w.heap.size + 1) 3 (.int .i64 kd)
  many : One W (w.heap.size + 1 + 1) 3 (.int .i64 (m : Int))
  below : Below w.heap.size w W
  size : B ≤ W.heap.size
theorem KindInv.kept {w W W' : World} {kd : Int} {B B' m : Nat} (h : KindInv w W kd B m) (hb : Below B' W W') (hB : w.heap.size + 3 ≤ B') : KindInv w W' kd B m := ⟨h.kind.below hb (by omega), h.many.below hb (by omega), h.below.trans (hb.mono (by omega)), Nat.le_trans h.size hb.size⟩
theorem KindInv.more {w W : World} {kd : Int} {B m : Nat} (h : KindInv w W kd B m) (k : Nat) : KindInv w (W.setCell ⟨w.heap.size + 1 + 1, 0, none⟩ (.int .i64 (k : Int))) kd B k :=
  ⟨h.kind.other _ (by omega), h.many.set _, h.below.setCell (p := ⟨w.heap.size + 1 + 1, 0, none⟩) (by show w.heap.size ≤ w.heap.size + 1 + 1; omega) _, by rw [set_size]; exact h.size⟩

end Go.Proofs.Ythjholhjkahdkaa.val
/-
  What is told of a value: how many nodes it has, how deep it is, how many nodes of a kind it has; by the order in which the walk meets them, and by its parts.
-/
namespace Go.Proofs.Ythjholhjkahdkaa.val
open Go.ChangeShapes Go.WideShapes Go.ChangeAt Go.RowKit
set_option maxRecDepth 100000

mutual
def VT.nodes : VT → Nat
  | .mk _ _ _ _ kids => 1 + VT.nodesL kids
def VT.nodesL : List VT → Nat
  | [] => 0
  | t :: ts => VT.nodes t + VT.nodesL ts
end
mutual
def VT.deep : VT → Nat
  | .mk _ _ _ _ kids => VT.deepL kids
def VT.deepL : List VT → Nat
  | [] => 0
  | t :: ts => max (VT.deep t + 1) (VT.deepL ts)
end
mutual
def VT.count (kd : Int) : VT → Nat
  | .mk k _ _ _ kids => (if k = kd then 1 else 0) + VT.countL kd kids
def VT.countL (kd : Int) : List VT → Nat
  | [] => 0
  | t :: ts => VT.count kd t + VT.countL kd ts
end
mutual
theorem nodes_er : ∀ t : LT, (er t).nodes = t.nodes
  | .mk k n e s a cap kids => by rw [er, VT.nodes, LT.nodes, nodesL_er kids]
theorem nodesL_er : ∀ l : List LT, VT.nodesL (erL l) = LT.nodesL l
  | [] => by rw [erL, VT.nodesL, LT.nodesL]
  | t :: ts => by rw [erL, VT.nodesL, LT.nodesL, nodes_er t, nodesL_er ts]
end
theorem er_nodes {t u : LT} (h : er t = er u) : t.nodes = u.nodes := by rw [← nodes_er t, ← nodes_er u, h]
theorem topOf_from (l : List (Nat × LT)) : ∀ m, l.foldl (fun m x => max m x.1) m = max m (topOf l) := by
  unfold topOf
  induction l with
  | nil => intro m; simp
  | cons x l ih =>
    intro m
    rw [List.foldl_cons, List.foldl_cons, ih, ih (max 0 x.1)]
    omega
theorem topOf_append (a b : List (Nat × LT)) : topOf (a ++ b) = max (topOf a) (topOf b) := by
  rw [topOf, List.foldl_append, topOf_from]
  rfl
theorem topOf_cons (x : Nat × LT) (l : List (Nat × LT)) : topOf (x :: l) = max x.1 (topOf l) := by
  rw [topOf, List.foldl_cons, topOf_from]
  omega
mutual
theorem top_pre : ∀ (d : Nat) (t : LT), topOf (t.pre d) = d + (er t).deep
  | d, .mk k n e s a cap kids => by rw [LT.pre, topOf_cons, er, VT.deep, top_preL d kids]
theorem top_preL : ∀ (d : Nat) (l : List LT), max d (topOf (preL (d + 1) l)) = d + VT.deepL (erL l)
  | d, [] => by rw [preL, erL, VT.deepL]; simp [topOf]
  | d, t :: ts => by
    have h1 := top_pre (d + 1) t
    have h2 := top_preL d ts
    rw [preL, topOf_append, erL, VT.deepL, h1]
    omega
end
theorem kindOf_append (kd : Int) (a b : List (Nat × LT)) : kindOf kd (a ++ b) = kindOf kd a + kindOf kd b := by simp [kindOf]
theorem kindOf_cons (kd : Int) (x : Nat × LT) (l : List (Nat × LT)) : kindOf kd (x :: l) = (if x.2.k = kd then 1 else 0) + kindOf kd l := by
  unfold kindOf
  by_cases h : x.2.k = kd
  · simp [h]; omega
  · simp [h]
mutual
theorem kind_pre (kd : Int) : ∀ (d : Nat) (t : LT), kindOf kd (t.pre d) = (er t).count kd
  | d, .mk k n e s a cap kids => by rw [LT.pre, kindOf_cons, er, VT.count, kind_preL kd (d + 1) kids]; rfl
theorem kind_preL (kd : Int) : ∀ (d : Nat) (l : List LT), kindOf kd (preL d l) = VT.countL kd (erL l)
  | d, [] => by rw [preL, erL, VT.countL]; rfl
  | d, t :: ts => by rw [preL, kindOf_append, erL, VT.countL, kind_pre kd d t, kind_preL kd d ts]
end
mutual
theorem deep_le : ∀ v : VT, v.deep ≤ v.nodes
  | .mk k n e s kids => by rw [VT.deep, VT.nodes]; have := deepL_le kids; omega
theorem deepL_le : ∀ l : List VT, VT.deepL l ≤ VT.nodesL l + 1
  | [] => by rw [VT.deepL]; omega
  | t :: ts => by rw [VT.deepL, VT.nodesL]; have := deep_le t; have := deepL_le ts; omega
end
mutual
theorem count_le (kd : Int) : ∀ v : VT, v.count kd ≤ v.nodes
  | .mk k n e s kids => by rw [VT.count, VT.nodes]; have := countL_le kd kids; split <;> omega
theorem countL_le (kd : Int) : ∀ l : List VT, VT.countL kd l ≤ VT.nodesL l
  | [] => by rw [VT.countL]; omega
  | t :: ts => by rw [VT.countL, VT.nodesL]; have := count_le kd t; have := countL_le kd ts; omega
end
/-! By the first kids. -/
theorem nodesL_take (l : List VT) : ∀ j (h : j < l.length), VT.nodesL (l.take (j + 1)) = VT.nodesL (l.take j) + l[j].nodes := by
  induction l with
  | nil => intro j h; simp at h
  | cons t ts ih =>
    intro j h
    cases j with
    | zero => simp [VT.nodesL]
    | succ j => have := ih j (by simpa using h); simp only [List.take_succ_cons, VT.nodesL, List.getElem_cons_succ]; omega
theorem nodesL_take_le (l : List VT) (j : Nat) : VT.nodesL (l.take j) ≤ VT.nodesL l := by
  induction l generalizing j with
  | nil => simp
  | cons t ts ih =>
    cases j with
    | zero => simp [VT.nodesL]
    | succ j => have := ih j; simp only [List.take_succ_cons, VT.nodesL]; omega
theorem deepL_take (l : List VT) : ∀ j (h : j < l.length), VT.deepL (l.take (j + 1)) = max (VT.deepL (l.take j)) (l[j].deep + 1) := by
  induction l with
  | nil => intro j h; simp at h
  | cons t ts ih =>
    intro j h
    cases j with
    | zero => simp [VT.deepL]
    | succ j => have := ih j (by simpa using h); simp only [List.take_succ_cons, VT.deepL, List.getElem_cons_succ]; omega
theorem countL_take (kd : Int) (l : List VT) : ∀ j (h : j < l.length), VT.countL kd (l.take (j + 1)) = VT.countL kd (l.take j) + l[j].count kd := by
  induction l with
  | nil => intro j h; simp at h
  | cons t ts ih =>
    intro j h
    cases j with
    | zero => simp [VT.countL]
    | succ j => have := ih j (by simpa using h); simp only [List.take_succ_cons, VT.countL, List.getElem_cons_succ]; omega
theorem kid_nodes (l : List LT) (j : Nat) (h : j < l.length) : l[j].nodes ≤ LT.nodesL l := by
  have h1 := nodesL_take (erL l) j (by rw [erL_map]; simpa using h)
  have h2 := nodesL_take_le (erL l) (j + 1)
  rw [nodesL_er] at h2
  have h3 : (erL l)[j]'(by rw [erL_map]; simpa using h) = er l[j] := by simp [erL_map]
  rw [h3, nodes_er] at h1
  omega
theorem wrap_add (a b : Nat) (h : a + b ≤ 4000000) : wrap64 ((a : Int) + (b : Int)) = ((a + b : Nat) : Int) := by unfold wrap64; omega

end Go.Proofs.Ythjholhjkahdkaa.val
/-
  What spec.l02Copy returns: the value in new memory.
-/
namespace Go.Proofs.Ythjholhjkahdkaa.val
open Go.ChangeShapes Go.WideShapes Go.ChangeAt Go.RowKit
set_option maxRecDepth 100000

/-- A value in new memory. -/
structure Fresh (w' w'' : World) (t t' : LT) : Prop where
  er : er t' = er t
  tr : Tr w'' t'
  new : ∀ b, b ∈ t'.blks → w'.heap.size ≤ b
  nodup : t'.blks.Nodup
  below : Below w'.heap.size w' w''
def CopyC (w : World) (B : Nat) (t : LT) : Prop := t.nodes ≤ 2000000 → ∀ w', Below B w w' → B ≤ w'.heap.size → Calls Try.prog 16 #[.agg #[.int .i64 t.k, .int .i64 t.n, .int .i64 t.e, .string t.s, t.row]] w' fun e w'' => ∃ t' : LT, e = .returned (.agg #[.int .i64 t'.k, .int .i64 t'.n, .int .i64 t'.e, .string t'.s, t'.row]) ∧ Fresh w' w'' t t'
/-- The copies made so far. -/
structure CMade (w' wr : World) (g c : Nat) (kids done : List LT) : Prop where
  row : OwnR wr w'.heap.size (.slice (some ⟨g, 0, none⟩) done.length c) done
  ers : done.map er = (kids.take done.length).map er
  trs : ∀ i (h : i < done.length), Tr wr done[i]
  new : ∀ b, b ∈ LT.blksL done → w'.heap.size ≤ b
  nodup : (g :: LT.blksL done).Nodup
  below : Below w'.heap.size w' wr
theorem blksL_append (a b : List LT) : LT.blksL (a ++ b) = LT.blksL a ++ LT.blksL b := by
  induction a with
  | nil => rw [LT.blksL]; rfl
  | cons t ts ih => rw [List.cons_append, LT.blksL, LT.blksL, ih, List.append_assoc]
theorem blksL_one (t : LT) : LT.blksL [t] = t.blks := by rw [LT.blksL, LT.blksL, List.append_nil]
theorem CMade.lt {w' wr : World} {g c : Nat} {kids done : List LT} (h : CMade w' wr g c kids done) : ∀ b, b ∈ LT.blksL done → b < wr.heap.size := fun b hb => by
  obtain ⟨i, hi, hbb⟩ := mem_blksL_iff hb
  exact (h.trs i hi).lt b hbb
theorem CMade.step {w' wr w1 w3 : World} {g c g' c' : Nat} {kids done : List LT} {t' : LT} {o : Obj} (h : CMade w' wr g c kids done) (hlt : done.length < kids.length) (hF : Fresh wr w1 kids[done.length] t')
    (ho : OwnR w3 w'.heap.size (.slice (some ⟨g', 0, none⟩) (done.length + 1) c') (done ++ [t'])) (hg : (w1.alloc o).grownBy w3 (some g)) (hg' : g' = g ∨ g' = (w1.alloc o).heap.size) : CMade w' w3 g' c' kids (done ++ [t']) := by
  have hgl := (h.row.lt g rfl)
  have hz1 := hF.below.size
  have hk : ∀ b, b < w1.heap.size → b ≠ g → w3.heap[b]? = w1.heap[b]? := fun b hb hne => by
    rw [hg.block b (by simp; omega) (fun e => hne (by injection e)), Below.heap_alloc _ _ _ hb]
  have hgn : g ∉ LT.blksL done := (List.nodup_cons.1 h.nodup).1
  have htn : ∀ b, b ∈ t'.blks → b ≠ g := fun b hb e => by have := hF.new b hb; omega
  refine ⟨by rw [List.length_append]; exact ho, ?_, ?_, ?_, ?_, ?_⟩
  · rw [List.map_append, h.ers, List.length_append, List.length_singleton, List.take_succ_eq_append_getElem hlt, List.map_append]
    simp [hF.er]
  · intro i hi
    rw [List.length_append, List.length_singleton] at hi
    by_cases hd : i < done.length
    · rw [List.getElem_append_left hd]
      exact ((h.trs i hd).behind hF.below).kept fun b hb => hk b (by have := (h.trs i hd).lt b hb; omega) (fun e => hgn (e ▸ mem_blksL hd hb))
    · have e : i = done.length := by omega
      subst e
      rw [List.getElem_append_right (Nat.le_refl _)]
      simp only [Nat.sub_self, List.getElem_cons_zero]
      exact hF.tr.kept fun b hb => hk b (hF.tr.lt b hb) (htn b hb)
  · intro b hb
    rw [blksL_append, blksL_one] at hb
    rcases List.mem_append.1 hb with hb | hb
    · exact h.new b hb
    · have := hF.new b hb; have := h.below.size; omega
  · rw [blksL_append, blksL_one]
    have hg1 : ∀ b, b ∈ LT.blksL done ++ t'.blks → g' ≠ b := fun b hb e => by
      rcases hg' with rfl | rfl
      · rcases List.mem_append.1 hb with hb | hb
        · exact hgn (e ▸ hb)
        · exact htn b hb e.symm
      · rcases List.mem_append.1 hb with hb | hb
        · have := h.lt b hb; simp at e; omega
        · have := hF.tr.lt b hb; simp at e; omega
    refine List.nodup_cons.2 ⟨fun hm => hg1 g' hm rfl, List.nodup_append.2 ⟨(List.nodup_cons.1 h.nodup).2, hF.nodup, fun a ha b hb e => ?_⟩⟩
    have := h.lt a ha
    have := hF.new b hb
    omega
  · have hb1 : Below w'.heap.size w' w1 := h.below.trans (hF.below.mono h.below.size)
    exact (hb1.alloc hb1.size o).grown hg (by simp; have := hb1.size; omega) (fun k hk => by injection hk with hk; omega)
theorem CMade.start (w' : World) (kids : List LT) : CMade w' (w'.alloc (.cells #[] 26)) w'.heap.size 0 kids [] :=
  ⟨OwnR.empty w' _ (Nat.le_refl _), by simp, fun i h => by simp at h, fun b hb => by simp [LT.blksL] at hb, by simp [LT.blksL], (Below.refl _ _).alloc (Nat.le_refl _) _⟩

set_option maxHeartbeats 2000000 in
theorem copyAll (w : World) (B : Nat) (a : Option Addr) (cap : Nat) (kids : List LT) (hzk : LT.nodesL kids ≤ 2000000) (hl : kids.length ≤ 2000000) (hc : ∀ i (h : i < kids.length), ∃ x, a = some x ∧ x.block < B ∧ At5 w (x.add (i * 5)) kids[i]) (ih : ∀ i (h : i < kids.length), CopyC w B kids[i]) (w' : World) (hb : Below B w w') (hB : B ≤ w'.heap.size) :
    Calls Try.prog 32 #[.slice a kids.length cap] w' fun e w'' => ∃ g c done, e = .returned (.slice (some ⟨g, 0, none⟩) kids.length c) ∧ done.length = kids.length ∧ CMade w' w'' g c kids done := by
  obtain ⟨i0, hi0, hz0, hz1, hz2⟩ := info_parts infoV
  have HC := Lib.hid hc
  have IH := Lib.hid ih
  have HB := Lib.hid hb
  have HS := Lib.hid (CMade.start w' kids)
  have HZK := Lib.hid hzk
  clear hc ih hb hzk
  go_enter Try.func32, Try.ntmps32
  go_wp2_with fail
  go_loopw [3, 4] (fun v i wr => ∃ (j g c : Nat) (done : List LT), i = .int .i64 j ∧ j ≤ kids.length ∧ v = .slice (some ⟨g, 0, none⟩) j c ∧ Hid (done.length = j) ∧ w'.heap.size ≤ wr.heap.size ∧ Hid (CMade w' wr g c kids done)) (fun _ i _ => kids.length - (intOf i).toNat)
  case atStart => exact ⟨0, w'.heap.size, 0, [], rfl, by omega, rfl, rfl, by simp, HS⟩
  case round =>
    clear HS
    obtain ⟨j, g, c, done, rfl, hj, rfl, HD, hwz, HM⟩ := hrel
    by_cases hlt : j < kids.length
    · have hj0 : (0 : Int) ≤ (j : Int) := by omega
      have hj1 : (j : Int) < (kids.length : Int) := by omega
      obtain ⟨x, rfl, hx, h5⟩ := HC.out j hlt
      have hbr := HB.out.trans (HM.out.below.mono hB)
      obtain ⟨c0, c1, c2, c3, c4⟩ := h5.below (by rw [add_block]; exact hx) hbr
      have hkn := kid_nodes kids j hlt
      have C := IH.out j hlt (by have := HZK.out; omega) wr hbr (by omega)
      have HST : Hid (∀ w1 w3 g' c' t' o, Fresh wr w1 kids[j] t' → OwnR w3 w'.heap.size (.slice (some ⟨g', 0, none⟩) (j + 1) c') (done ++ [t']) → (w1.alloc o).grownBy w3 (some g) → (g' = g ∨ g' = (w1.alloc o).heap.size) → CMade w' w3 g' c' kids (done ++ [t'])) := by
        obtain rfl := HD.out
        exact fun w1 w3 g' c' t' o h1 h2 h3 h4 => HM.out.step hlt h1 h2 h3 h4
      have HRW : Hid (OwnR wr w'.heap.size (.slice (some ⟨g, 0, none⟩) j c) done) := by
        have := HM.out.row
        rw [HD.out] at this
        exact this
      have hgl : g < wr.heap.size := (HRW.out.lt g rfl).2
      generalize kids[j] = t at *
      have hrow : t.row = .slice t.a t.kids.length t.cap := rfl
      rw [hrow] at C c4
      replace C := Lib.hid C
      clear h5 hbr hkn HC IH HB hrow HM
      go_wp2_with fail
      with_reducible refine C.out.mono ?_
      rintro e w1 ⟨t', rfl, hF⟩
      have HF := Lib.hid hF
      have hz1' := Nat.le_trans hwz hF.below.size
      have HR1 : Hid (OwnR w1 w'.heap.size (.slice (some ⟨g, 0, none⟩) j c) done) := HRW.out.same (fun k hk => hF.below.block k (HRW.out.lt k hk).2)
      have HLT : Hid (∀ i (h : i < [t'].length), At5 (w1.alloc (.cells #[.int .i64 t'.k, .int .i64 t'.n, .int .i64 t'.e, .string t'.s, t'.row] 26)) ((⟨w1.heap.size, 0, none⟩ : Addr).add (i * 5)) [t'][i]) := fun i hi => by
        obtain rfl : i = 0 := by simp at hi; omega
        have hb := Box.new w1 t' 26
        rw [Nat.zero_mul, add0]
        exact ⟨hb.b0, hb.b1, hb.b2, hb.b3, hb.b4⟩
      have hrow' : t'.row = .slice t'.a t'.kids.length t'.cap := rfl
      rw [hrow'] at HLT ⊢
      clear C hF c0 c1 c2 c3 c4 HRW hrow'
      have HR2 := Lib.hid (HR1.out.same (w' := w1.alloc (.cells #[.int .i64 t'.k, .int .i64 t'.n, .int .i64 t'.e, .string t'.s, .slice t'.a t'.kids.length t'.cap] 26)) (fun k hk => Below.heap_alloc _ _ _ (HR1.out.lt k hk).2))
      go_wp2_with (at_builtin; refine wpList_appR (by rfl) _ _ (by rfl) Try.underlying24 i0 _ hi0 hz0 hz1 hz2 rfl w'.heap.size g c done [t'] j 1 HD.out rfl (by rfl) HR2.out ⟨w1.heap.size, 0, none⟩ 1 (by rfl) HLT.out (by omega) (by simp; omega) ?_; intro g' c' w3 ho3 hg3 hg3')
      have HM3 := Lib.hid (HST.out w1 w3 g' c' t' _ HF.out ho3 hg3 hg3')
      have hz3 : w'.heap.size ≤ w3.heap.size := by have := hg3.size; simp at this; omega
      have HD3 : Hid ((done ++ [t']).length = j + 1) := by unfold Hid; rw [List.length_append, HD.out]; rfl
      clear ho3 hg3 hg3' HST HR2 HLT HF HR1
      go_wp2
      go_roundw
      case rel => exact ⟨j + 1, g', c', done ++ [t'], by go_num, by omega, rfl, HD3, hz3, HM3⟩
      case measure => simp [intOf]; omega
    · have hj1 : ¬ (j : Int) < (kids.length : Int) := by omega
      have he : j = kids.length := by omega
      subst he
      clear HC IH HB
      go_wp2
      go_ret
      exact ⟨g, c, rfl, done, HD.out, HM.out⟩

/-- What l02Copy has made, behind its own stores. -/
theorem copy_own {w' wc w1 wf : World} {k n e : Int} {s : ByteArray} {a : Option Addr} {cap g c : Nat} {kids done : List LT} (hk : InI k) (hn : InI n) (he : InI e) (hs : s.size ≤ 9223372036854775807)
    (hwc : Below w'.heap.size w' wc) (hc3 : wc.heap.size = w'.heap.size + 3) (hm : CMade wc w1 g c kids done) (hd : done.length = kids.length)
    (hb : Below w'.heap.size w1 wf) (hk2 : ∀ b, b ≠ w'.heap.size + 1 → b ≠ w'.heap.size + 1 + 1 → wf.heap[b]? = w1.heap[b]?) :
    Fresh w' wf (.mk k n e s a cap kids) (.mk k n e s (some ⟨g, 0, none⟩) c done) := by
  have hgl := hm.row.lt g rfl
  have hg := hk2 g (by omega) (by omega)
  obtain ⟨⟨cs, hcs, hcz⟩, hb1, _, hlc, hcm, h5⟩ := hm.row.at5
  unfold maxLen at hcm
  refine ⟨?_, ?_, ?_, ?_, (hwc.trans (hm.below.mono (by omega))).trans hb⟩
  · simp only [er, erL_map]
    congr 1
    rw [hm.ers, hd, List.take_of_length_le (by omega)]
  · exact .mk cs hk hn he hs ⟨hlc, hcm⟩ (hg.trans hcs) hcz (fun i hi => (h5 i hi).of_block hg) (fun i hi => (hm.trs i hi).kept fun b hbb => hk2 b (by have := hm.new b (mem_blksL hi hbb); omega) (by have := hm.new b (mem_blksL hi hbb); omega))
  · intro b hbb
    rw [blks_some] at hbb
    rcases List.mem_cons.1 hbb with rfl | hbb
    · omega
    · have := hm.new b hbb; omega
  · rw [blks_some]
    exact hm.nodup

set_option maxHeartbeats 2000000 in
theorem copy_any {w : World} {B : Nat} {t : LT} (h : In w B t) : CopyC w B t := by
  induction h with
  | mk hk hn he hs hl hc hkids ih =>
    rename_i k n e s a cap kids
    intro hz w' hb hB
    have hzk : LT.nodesL kids ≤ 2000000 := by rw [LT.nodes] at hz; omega
    have hkl : kids.length ≤ 2000000 := by
      have : ∀ l : List LT, l.length ≤ LT.nodesL l := by
        intro l
        induction l with
        | nil => simp
        | cons t ts ih => rw [LT.nodesL, List.length_cons]; have := nodes_mk t; omega
      have := this kids
      omega
    have C := Lib.hid (fun w2 (h1 : Below B w w2) (h2 : B ≤ w2.heap.size) => copyAll w B a cap kids hzk hkl hc ih w2 h1 h2)
    have HH := Lib.hid (And.intro hk (And.intro hn (And.intro he (And.intro hs hl))))
    have HB := Lib.hid hb
    unfold LT.row
    simp only [LT.k, LT.n, LT.e, LT.s, LT.a, LT.cap, LT.kids]
    clear hc hkids ih hb hz hk hn he hs hl hzk
    go_enter Try.func16, Try.ntmps16
    go_wp2_with fail
    with_reducible refine (C.out _ (((HB.out.alloc hB _).alloc (by simp; omega) _).alloc (by simp; omega) _) (by simp; omega)).mono ?_
    rintro e1 w1 ⟨g, c, done, rfl, hd, hm⟩
    obtain ⟨t3, t1, t2⟩ := three w' (.cells #[.int .i64 k, .int .i64 n, .int .i64 e, .string s, .slice a kids.length cap] 26) (.cells #[.int .i64 0, .int .i64 0, .int .i64 0, .string ⟨#[]⟩, .slice none 0 0] 26) (.cells #[.int .i64 k, .int .i64 n, .int .i64 e, .string s, .slice a kids.length cap] 26)
    have HWC : Hid (Below w'.heap.size w' (((w'.alloc (.cells #[.int .i64 k, .int .i64 n, .int .i64 e, .string s, .slice a kids.length cap] 26)).alloc (.cells #[.int .i64 0, .int .i64 0, .int .i64 0, .string ⟨#[]⟩, .slice none 0 0] 26)).alloc (.cells #[.int .i64 k, .int .i64 n, .int .i64 e, .string s, .slice a kids.length cap] 26))) := (((Below.refl _ _).alloc (Nat.le_refl _) _).alloc (by simp) _).alloc (by simp; omega) _
    generalize (((w'.alloc (.cells #[.int .i64 k, .int .i64 n, .int .i64 e, .string s, .slice a kids.length cap] 26)).alloc (.cells #[.int .i64 0, .int .i64 0, .int .i64 0, .string ⟨#[]⟩, .slice none 0 0] 26)).alloc (.cells #[.int .i64 k, .int .i64 n, .int .i64 e, .string s, .slice a kids.length cap] 26)) = wc at *
    have HM := Lib.hid hm
    have r1 : w1.heap[w'.heap.size + 1]? = some (.cells #[.int .i64 0, .int .i64 0, .int .i64 0, .string ⟨#[]⟩, .slice none 0 0] 26 (0, 0)) := (hm.below.block _ (by omega)).trans t1
    have r2 : w1.heap[w'.heap.size + 1 + 1]? = some (.cells #[.int .i64 k, .int .i64 n, .int .i64 e, .string s, .slice a kids.length cap] 26 (0, 0)) := (hm.below.block _ (by omega)).trans t2
    clear hm t1 t2 C
    have f0 := fun o => frozen_of_row w1 _ o _ _ r1
    have f1 := fun o => frozen_of_row w1 _ o _ _ r2
    have d0 : w1.cell? ⟨w'.heap.size + 1, 0, none⟩ = some (.int .i64 0) := cell_of_row w1 _ 0 _ _ (0, 0) r1
    have d1 : w1.cell? ⟨w'.heap.size + 1, 1, none⟩ = some (.int .i64 0) := cell_of_row w1 _ 1 _ _ (0, 0) r1
    have d2 : w1.cell? ⟨w'.heap.size + 1, 2, none⟩ = some (.int .i64 0) := cell_of_row w1 _ 2 _ _ (0, 0) r1
    have d3 : w1.cell? ⟨w'.heap.size + 1, 3, none⟩ = some (.string ⟨#[]⟩) := cell_of_row w1 _ 3 _ _ (0, 0) r1
    have d4 : w1.cell? ⟨w'.heap.size + 1, 4, none⟩ = some (.slice none 0 0) := cell_of_row w1 _ 4 _ _ (0, 0) r1
    have g0 : w1.cell? ⟨w'.heap.size + 1 + 1, 0, none⟩ = some (.int .i64 k) := cell_of_row w1 _ 0 _ _ (0, 0) r2
    have g1 : w1.cell? ⟨w'.heap.size + 1 + 1, 1, none⟩ = some (.int .i64 n) := cell_of_row w1 _ 1 _ _ (0, 0) r2
    have g2 : w1.cell? ⟨w'.heap.size + 1 + 1, 2, none⟩ = some (.int .i64 e) := cell_of_row w1 _ 2 _ _ (0, 0) r2
    have g3 : w1.cell? ⟨w'.heap.size + 1 + 1, 3, none⟩ = some (.string s) := cell_of_row w1 _ 3 _ _ (0, 0) r2
    have g4 : w1.cell? ⟨w'.heap.size + 1 + 1, 4, none⟩ = some (.slice a kids.length cap) := cell_of_row w1 _ 4 _ _ (0, 0) r2
    clear r1 r2
    have HD := Lib.hid hd
    have HT3 := Lib.hid t3
    clear hd
    go_wp2
    refine bodyPost_ret (v := .agg #[.int .i64 k, .int .i64 n, .int .i64 e, .string s, .slice (some ⟨g, 0, none⟩) kids.length c]) (by simp [results, Try.results16, go_sem, d0, d1, d2, d3, d4]) rfl ?_
    have hF := copy_own (a := a) (cap := cap) HH.out.1 HH.out.2.1 HH.out.2.2.1 HH.out.2.2.2.1 HWC.out HT3.out HM.out HD.out (six_below w1 w'.heap.size (.slice (some ⟨g, 0, none⟩) kids.length c) (.int .i64 k) (.int .i64 n) (.int .i64 e) (.string s) (.slice (some ⟨g, 0, none⟩) kids.length c)) (six_other _ _ _ _ _ _ _ _)
    refine ⟨_, ?_, hF⟩
    show Ending.returned (.agg #[.int .i64 k, .int .i64 n, .int .i64 e, .string s, .slice (some ⟨g, 0, none⟩) kids.length c]) = .returned (.agg #[.int .i64 k, .int .i64 n, .int .i64 e, .string s, .slice (some ⟨g, 0, none⟩) done.length c])
    rw [HD.out]

end Go.Proofs.Ythjholhjkahdkaa.val
/-
  For the laws on values: how many nodes a value of bounded size has; what stays behind draws.
-/
namespace Go.Proofs.Ythjholhjkahdkaa.val
open Go.ChangeShapes Go.WideShapes Go.ChangeAt Go.RowKit
set_option maxRecDepth 100000
theorem nodes_small (t : LT) (hz : t.sz ≤ 1048576) : t.nodes ≤ 2000000 := by
  have h1 := nodesL_sz t.kids
  have h2 := sz_mk t
  rw [nodes_mk]
  omega
theorem In.drewBehind {w w' : World} {t : LT} (h : In w w.heap.size t) (n : Nat) (hb : Below (w.drewN n).heap.size (w.drewN n) w') : In w' w'.heap.size t :=
  ((h.behind (belowN (Below.refl _ _) n)).behind (hb.mono (Nat.le_refl _))).mono hb.size
end Go.Proofs.Ythjholhjkahdkaa.val
