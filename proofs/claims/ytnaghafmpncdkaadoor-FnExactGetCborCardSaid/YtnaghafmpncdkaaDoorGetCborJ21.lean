/-
  impl.ValueOk at every value.
-/
import Derived.Test.YtnaghafmpncdkaaDoorGetCborJ19
import Derived.Test.YtnaghafmpncdkaaDoorGetCborJ20
namespace Go.Proofs.YtnaghafmpncdkaaDoor.val
open Go.ChangeShapes Go.WideShapes Go.ChangeAt Go.RowKit
open Go.Proofs.YtnaghafmpncdkaaDoor.node
set_option maxRecDepth 100000
attribute [local go_sem] Oper.semAt_some

theorem mem_preL {y : Nat × LT} {d : Nat} {l : List LT} (h : y ∈ preL d l) : ∃ i, ∃ hi : i < l.length, y ∈ (l[i]).pre d := by
  induction l with
  | nil => rw [preL] at h; simp at h
  | cons x l ih =>
    rw [preL] at h
    rcases List.mem_append.1 h with h | h
    · exact ⟨0, by simp, h⟩
    · obtain ⟨i, hi, hm⟩ := ih h
      exact ⟨i + 1, by simp; omega, by simpa using hm⟩
/-- Every node of a value lies in memory, and is no greater. -/
theorem pre_in {w : World} {B : Nat} {t : LT} (h : In w B t) : ∀ (d : Nat) (y : Nat × LT), y ∈ t.pre d → In w B y.2 ∧ y.2.sz ≤ t.sz := by
  induction h with
  | mk hk hn he hs hl hc hkids ih =>
    rename_i k n e s a cap kids
    intro d y hy
    rw [LT.pre] at hy
    rcases List.mem_cons.1 hy with rfl | hy
    · exact ⟨.mk hk hn he hs hl hc hkids, Nat.le_refl _⟩
    · obtain ⟨i, hi, hm⟩ := mem_preL hy
      obtain ⟨h1, h2⟩ := ih i hi (d + 1) y hm
      have h3 := (kid_sz kids i hi).1
      refine ⟨h1, ?_⟩
      rw [LT.sz]
      omega
/-- A value is valid to impl. -/
def ValidI (t : LT) : Prop := SmallT t ∧ ∀ y ∈ t.pre 0, NodeP y.2
set_option maxHeartbeats 2000000 in
theorem value_any (w : World) (t : LT) (h : In w w.heap.size t) (hsz : t.sz ≤ 1048576) (hT : signs.Tabs w) :
    Calls Tryd.prog 61 #[.agg #[.int .i64 t.k, .int .i64 t.n, .int .i64 t.e, .string t.s, t.row]] w (TellR (ValidI t) w) := by
  have hz : t.nodes ≤ 2000000 := nodes_small t hsz
  have HIn := Lib.hid h
  have HZ := Lib.hid hz
  have HND : Hid (∀ (pre : List (Nat × LT)) (x : Nat × LT), pre ++ [x] <+: t.pre 0 → ∀ W, Below w.heap.size w W → Calls Tryd.prog 85 #[.agg #[.int .i64 x.2.k, .int .i64 x.2.n, .int .i64 x.2.e, .string x.2.s, x.2.row]] W (node.OwnR (NodeP x.2) W)) := fun pre x hp W hW => by
    obtain ⟨h1, h2⟩ := pre_in h 0 x (hp.subset (by simp))
    exact node_any h1 (by omega) W hW hW.size (signs.tabs_below hT hW)
  have HNO : Hid (∀ (pre : List (Nat × LT)) (x : Nat × LT), pre ++ [x] <+: t.pre 0 → ValidI t → NodeP x.2) := fun pre x hp hv => hv.2 x (hp.subset (by simp))
  have HYES : Hid (SmallT t → (∀ y ∈ t.pre 0, NodeP y.2) → ValidI t) := fun h1 h2 => ⟨h1, h2⟩
  have HSM : Hid (ValidI t → SmallT t) := fun hv => hv.1
  have HSZ : Hid (∀ W, Below w.heap.size w W → Calls Tryd.prog 84 #[.agg #[.int .i64 t.k, .int .i64 t.n, .int .i64 t.e, .string t.s, t.row]] W (TellR (SmallT t) W)) := fun W hb => size_exact W t ((h.behind hb).mono hb.size) hz
  generalize ValidI t = V at *
  generalize SmallT t = Sm at *
  clear h hz hT hsz
  refine (callsIn_wide (n := 4)).1 ?_
  refine callsIn_of_wp_marks Tryd.func61 rfl trivial ?_ rfl
  simp only [Tryd.ntmps61, List.size_toArray, List.length_cons, List.length_nil, Nat.reduceAdd, Nat.reduceSub, Array.replicate_succ, Array.replicate_zero, List.push_toArray, List.append_toArray, List.nil_append, List.cons_append]
  gi_wp2_with fail
  refine ⟨trivial, ?_⟩
  have hb0 : Below w.heap.size w ((w.alloc (.cells #[.int .i64 t.k, .int .i64 t.n, .int .i64 t.e, .string t.s, t.row] 24)).alloc (.cells #[.bool false] 4)) := ((Below.refl _ _).alloc (Nat.le_refl _) _).alloc (by simp) _
  refine (callsIn_wide.2 (HSZ.out _ hb0)).mono ?_
  rintro e w1 ⟨b, rfl, hbv, hb1⟩
  have hx1 : Box w1 w.heap.size t := ((Box.new w t 24).of_block (Below.heap_alloc _ _ _ (by simp))).of_block (hb1.block _ (by simp; omega))
  have hr1 : One w1 (w.heap.size + 1) 4 (.bool false) := by
    have := heap_alloc_new (w.alloc (.cells #[.int .i64 t.k, .int .i64 t.n, .int .i64 t.e, .string t.s, t.row] 24)) (.cells #[.bool false] 4)
    unfold One
    rw [hb1.block _ (by simp)]
    simpa using this
  have hs1 : w.heap.size + 2 ≤ w1.heap.size := by have := hb1.size; simp at this; omega
  replace hb0 : Below w.heap.size w w1 := hb0.trans (hb1.mono (by simp; omega))
  clear HSZ hb1
  have HB0 := Lib.hid hb0
  have HR1 := Lib.hid hr1
  have HX1 := Lib.hid hx1
  have HS1 := Lib.hid hs1
  obtain ⟨c0, c1, c2, c3, c4⟩ := hx1
  have k1 := hr1.cell
  have k2 := hr1.frozen
  clear hb0 hr1 hs1
  cases b with
  | false =>
    have HF : Hid (¬ V) := fun hv => by have := hbv.2 (HSM.out hv); cases this
    clear hbv
    have HRS := Lib.hid (HR1.out.set (.bool false))
    have HBL := Lib.hid (HB0.out.setCell (p := ⟨w.heap.size + 1, 0, none⟩) (Nat.le_succ _) (.bool false))
    have k5 := HRS.out.cell
    gi_wp2
    exact ⟨.bool false, by simp [results, Tryd.results61, go_sem, k5], false, rfl, ⟨fun h => (by cases h), fun h => (HF.out h).elim⟩, HBL.out⟩
  | true =>
    have HSS : Hid Sm := hbv.1 rfl
    clear hbv
    gi_wp2_with (refine ⟨trivial, ?_⟩; gi_at_call 62; refine (callsIn_wide.2 (walk_any _ t)).mono ?_; rintro e w' ⟨rfl, rfl⟩)
    have hx0 : Box (w1.alloc (.cells #[.int .i64 t.k, .int .i64 t.n, .int .i64 t.e, .string t.s, t.row] 24)) w1.heap.size t := Box.new w1 t 24
    have hs0 : w.heap.size + 2 < (w1.alloc (.cells #[.int .i64 t.k, .int .i64 t.n, .int .i64 t.e, .string t.s, t.row] 24)).heap.size := by have := HS1.out; simp; omega
    have hb0 : Below w.heap.size w (w1.alloc (.cells #[.int .i64 t.k, .int .i64 t.n, .int .i64 t.e, .string t.s, t.row] 24)) := HB0.out.alloc (by have := HS1.out; omega) _
    have hr0 : One (w1.alloc (.cells #[.int .i64 t.k, .int .i64 t.n, .int .i64 t.e, .string t.s, t.row] 24)) (w.heap.size + 1) 4 (.bool false) := (Below.heap_alloc _ _ _ (by have := HS1.out; omega)).trans HR1.out
    generalize w1.alloc (.cells #[.int .i64 t.k, .int .i64 t.n, .int .i64 t.e, .string t.s, t.row] 24) = W0 at *
    generalize w1.heap.size = Bx at *
    have hIn0 := HIn.out.behind hb0
    have hz := HZ.out
    clear c0 c1 c2 c3 c4 k1 k2 HB0 HR1 HX1 HS1
    have HS : OkInv w W0 false := ⟨hr0, hb0, hs0⟩
    refine range_box (by decide) (Bx := Bx) (n₀ := w.heap.size) (t := t) rfl hz (by omega) hIn0 hx0 rfl (fun pre W => OkInv w W false ∧ ∀ y ∈ pre, NodeP y.2) (fun c _ W => c = .ret ∧ OkInv w W false ∧ ¬ V)
      (fun _ A B hs hb => ⟨hs.1.kept hb (by omega), hs.2⟩) (fun _ _ A B hs hb => ⟨hs.1, hs.2.1.kept hb (by omega), hs.2.2⟩) ⟨HS, fun y hy => by simp at hy⟩
      (fun x W a' W' => a' = { tmps := #[.agg #[.int .i64 t.k, .int .i64 t.n, .int .i64 t.e, .string t.s, t.row], .pointer (some ⟨w.heap.size, 0, none⟩), .pointer (some ⟨w.heap.size + 1, 0, none⟩), undef, .pointer (some ⟨W.heap.size, 0, none⟩), .agg #[.int .i64 t.k, .int .i64 t.n, .int .i64 t.e, .string t.s, t.row], .bool true, .bool false, .agg #[.int .i64 t.k, .int .i64 t.n, .int .i64 t.e, .string t.s, t.row], .func (.func 86) #[] #[.pointer (some ⟨Bx, 0, none⟩)], .int .i64 (x.1 : Nat), .agg #[.int .i64 x.2.k, .int .i64 x.2.n, .int .i64 x.2.e, .string x.2.s, x.2.row], undef, undef, undef], defers := [] } ∧ W' = W.alloc (.cells #[.int .i64 x.2.k, .int .i64 x.2.n, .int .i64 x.2.e, .string x.2.s, x.2.row] 24))
      (fun x W a' W' h => by rw [h.2]; exact (Below.refl _ _).alloc (Nat.le_refl _) _) ?assign ?body ?done ?stop
    case assign =>
      intro l x W K hK
      have hrow : x.2.row = .slice x.2.a x.2.kids.length x.2.cap := rfl
      have HK := Lib.hid hK
      clear hK
      simp only [encs, hrow]
      clear hrow
      gi_wp2
      exact HK.out _ _ ⟨rfl, rfl⟩
    case body =>
      rintro l pre x V0 V' W a' hI hpre ⟨rfl, rfl⟩ hV hW
      have HCN := Lib.hid (HND.out pre x hpre)
      have HNP := Lib.hid (HNO.out pre x hpre)
      have HLV : Hid (NodeP x.2 → ∀ y ∈ pre ++ [x], NodeP y.2) := fun hx y hy => by
        rcases List.mem_append.1 hy with h | h
        · exact hI.2 y h
        · simp only [List.mem_singleton] at h
          rw [h]; exact hx
      obtain ⟨lv, x⟩ := x
      have hbx : W.heap[V0.heap.size]? = some (.cells #[.int .i64 x.k, .int .i64 x.n, .int .i64 x.e, .string x.s, x.row] 24 (0, 0)) := (hW _ (Nat.le_refl _)).trans (heap_alloc_new V0 _)
      have c0 : W.cell? ⟨V0.heap.size, 0, none⟩ = some (.int .i64 x.k) := cell_of_row W _ 0 _ _ (0, 0) hbx
      have c1 : W.cell? ⟨V0.heap.size, 1, none⟩ = some (.int .i64 x.n) := cell_of_row W _ 1 _ _ (0, 0) hbx
      have c2 : W.cell? ⟨V0.heap.size, 2, none⟩ = some (.int .i64 x.e) := cell_of_row W _ 2 _ _ (0, 0) hbx
      have c3 : W.cell? ⟨V0.heap.size, 3, none⟩ = some (.string x.s) := cell_of_row W _ 3 _ _ (0, 0) hbx
      have c4 : W.cell? ⟨V0.heap.size, 4, none⟩ = some x.row := cell_of_row W _ 4 _ _ (0, 0) hbx
      have HI := Lib.hid hI.1
      have HSZ := Lib.hid hs0
      clear hI hpre HS hr0 hb0 hs0 hx0 hz hIn0 hbx hW hV HND HNO HYES HSM
      gi_wp2_with fail
      refine ⟨trivial, ?_⟩
      refine (CallsIn.inRound l (callsIn_wide.2 (HCN.out W HI.out.below))).mono ?_
      rintro e w2 ⟨b, rfl, hbi, hb2⟩
      have hI2 := HI.out.kept hb2 (by have := HI.out.size; omega)
      have k1 := hI2.res.cell
      have k2 := hI2.res.frozen
      have HI2 := Lib.hid hI2
      have HM2 : Hid (Mid w.heap.size W0.heap.size W w2) := ⟨hb2.os, hb2.tape, hb2.output, hb2.size, fun k hk _ => hb2.block k hk⟩
      have HM3 : Hid (∀ v : Value, Mid w.heap.size W0.heap.size w2 (w2.setCell ⟨w.heap.size + 1, 0, none⟩ v)) := fun v => mid_set w2 v (by omega) (by have := HSZ.out; omega)
      clear hI2 hb2 c0 c1 c2 c3 c4
      cases b with
      | true =>
        have HF := Lib.hid (HLV.out (hbi.1 rfl))
        clear hbi HLV HNP
        gi_wp2
        first
        | exact ⟨HM2.out, HI2.out, HF.out⟩
        | exact ⟨HM2.out, HI2.out, fun a b h => HF.out (a, b) h⟩
      | false =>
        have HF : Hid (¬ V) := fun hv => by have := hbi.2 (HNP.out hv); cases this
        clear hbi HLV HNP
        gi_wp2
        exact ⟨HM2.out.trans (HM3.out _), rfl, HI2.out.set false, HF.out⟩
    case done =>
      rintro D W hD ⟨hI, hv⟩ hK
      have HF : Hid V := HYES.out HSS.out hv
      have k3 := hI.res.cell
      have k4 := hI.res.frozen
      have hK2 : (W.setCell ⟨w.heap.size + 1, 0, none⟩ (.bool true)).heap[D]? = some (.deferred (some [])) := (blk_other _ (by omega)).trans hK
      have hrs : One ((W.setCell ⟨w.heap.size + 1, 0, none⟩ (.bool true)).putObj D (.deferred none)) (w.heap.size + 1) 4 (.bool true) := (World.putObj_heap_other (by omega)).trans (hI.res.set _)
      have HBL : Hid (Below w.heap.size w ((W.setCell ⟨w.heap.size + 1, 0, none⟩ (.bool true)).putObj D (.deferred none))) := (hI.below.setCell (p := ⟨w.heap.size + 1, 0, none⟩) (Nat.le_succ _) _).trans (below_put _ _ (by omega))
      have k5 := hrs.cell
      clear HS hr0 hx0 hb0 hz hI hD hs0 hIn0 hv HND HNO HYES HSM
      gi_wp2
      refine ⟨by simp, .inl ⟨_, _, rfl, run_takeDeferred hK2, ?_⟩⟩
      exact ⟨.bool true, by simp [results, Tryd.results61, go_sem, k5], true, rfl, ⟨fun _ => HF.out, fun _ => rfl⟩, HBL.out⟩
    case stop =>
      rintro D c p W hD hp ⟨rfl, hI, hnv⟩ hK
      have HF : Hid (¬ V) := hnv
      have hrs : One (W.putObj D (.deferred none)) (w.heap.size + 1) 4 (.bool false) := (World.putObj_heap_other (by omega)).trans hI.res
      have HBL : Hid (Below w.heap.size w (W.putObj D (.deferred none))) := hI.below.trans (below_put _ _ (by omega))
      have k5 := hrs.cell
      clear HS hr0 hx0 hb0 hz hI hD hs0 hIn0 hnv HND HNO HYES HSM
      gi_wp2
      refine ⟨by simp, .inl ⟨_, _, rfl, run_takeDeferred hK, ?_⟩⟩
      exact ⟨.bool false, by simp [results, Tryd.results61, go_sem, k5], false, rfl, ⟨fun h => (by cases h), fun h => (HF.out h).elim⟩, HBL.out⟩

end Go.Proofs.YtnaghafmpncdkaaDoor.val
/-
  Plain: a value is valid to spec exactly if it is to impl.
-/
namespace Go.Proofs.YtnaghafmpncdkaaDoor.val
open Go.RowKit
open Go.Proofs.YtnaghafmpncdkaaDoor.node
set_option maxRecDepth 100000

mutual
theorem right_pre : ∀ (t : LT) (d : Int) (b : Nat), RightT t d ↔ 0 ≤ d ∧ ∀ y ∈ t.pre b, ((y.1 : Int) ≤ b + d ∧ OwnP y.2)
  | .mk k n e s a cap kids, d, b => by
    rw [RightT, LT.pre, rightL_pre kids (d - 1) (b + 1)]
    constructor
    · rintro ⟨h0, h1, h2⟩
      refine ⟨h0, fun y hy => ?_⟩
      rcases List.mem_cons.1 hy with rfl | hy
      · exact ⟨by show (b : Int) ≤ b + d; omega, h1⟩
      · have := h2 y hy
        exact ⟨by have := this.1; omega, this.2⟩
    · rintro ⟨h0, h⟩
      refine ⟨h0, (h _ (List.mem_cons_self ..)).2, fun y hy => ?_⟩
      have := h y (List.mem_cons_of_mem _ hy)
      exact ⟨by have := this.1; omega, this.2⟩
theorem rightL_pre : ∀ (l : List LT) (d : Int) (b : Nat), RightL l d ↔ ∀ y ∈ preL b l, ((y.1 : Int) ≤ b + d ∧ OwnP y.2)
  | [], d, b => by rw [RightL, preL]; simp
  | t :: ts, d, b => by
    rw [RightL, preL, right_pre t d b, rightL_pre ts d b]
    constructor
    · rintro ⟨⟨h0, h1⟩, h2⟩ y hy
      rcases List.mem_append.1 hy with h | h
      · exact h1 y h
      · exact h2 y h
    · intro h
      have ht : (b, t) ∈ t.pre b ++ preL b ts := by rw [pre_mk]; simp
      have h0 := (h _ ht).1
      exact ⟨⟨by have : (b : Int) ≤ b + d := h0; omega, fun y hy => h y (List.mem_append_left _ hy)⟩, fun y hy => h y (List.mem_append_right _ hy)⟩
end
theorem preL_mem {l : List LT} {i d : Nat} (hi : i < l.length) {y : Nat × LT} (hy : y ∈ (l[i]).pre d) : y ∈ preL d l := by
  induction l generalizing i with
  | nil => simp at hi
  | cons x l ih =>
    rw [preL]
    cases i with
    | zero => exact List.mem_append_left _ hy
    | succ i => exact List.mem_append_right _ (ih (by simpa using hi) (by simpa using hy))
mutual
/-- The kids of a node are nodes; a node has no more nodes than the value. -/
theorem pre_kid : ∀ (t : LT) (d : Nat) (y : Nat × LT), y ∈ t.pre d → (∀ i (hi : i < y.2.kids.length), (y.1 + 1, y.2.kids[i]) ∈ t.pre d) ∧ y.2.nodes ≤ t.nodes
  | .mk k n e s a cap kids, d, y, hy => by
    rw [LT.pre] at hy ⊢
    rcases List.mem_cons.1 hy with rfl | hy
    · refine ⟨fun i hi => List.mem_cons_of_mem _ (preL_mem (i := i) hi ?_), Nat.le_refl _⟩
      rw [pre_mk]
      simp [LT.kids]
    · obtain ⟨h1, h2⟩ := preL_kid kids (d + 1) y hy
      exact ⟨fun i hi => List.mem_cons_of_mem _ (h1 i hi), by rw [LT.nodes]; omega⟩
theorem preL_kid : ∀ (l : List LT) (d : Nat) (y : Nat × LT), y ∈ preL d l → (∀ i (hi : i < y.2.kids.length), (y.1 + 1, y.2.kids[i]) ∈ preL d l) ∧ y.2.nodes ≤ LT.nodesL l
  | [], d, y, hy => by rw [preL] at hy; simp at hy
  | t :: ts, d, y, hy => by
    rw [preL] at hy ⊢
    rcases List.mem_append.1 hy with h | h
    · obtain ⟨h1, h2⟩ := pre_kid t d y h
      exact ⟨fun i hi => List.mem_append_left _ (h1 i hi), by rw [LT.nodesL]; omega⟩
    · obtain ⟨h1, h2⟩ := preL_kid ts d y h
      exact ⟨fun i hi => List.mem_append_right _ (h1 i hi), by rw [LT.nodesL]; omega⟩
end
theorem len_nodes (l : List LT) : l.length ≤ LT.nodesL l := by
  induction l with
  | nil => simp [LT.nodesL]
  | cons x l ih => rw [LT.nodesL, List.length_cons, nodes_mk]; omega
/-- What the keys of a map hold besides. -/
def KeyFit (x : LT) : Prop := (x.k = 3 → x.s.size = 0) ∧ (x.k = 5 → x.n = 0)
theorem node_is {x : LT} (h : x.k ≠ 8) : NodeP x ↔ OwnP x := by unfold NodeP; rw [if_neg h]
theorem own_fit {x : LT} (h : OwnP x) : KeyFit x := by
  obtain ⟨k, n, e, s, a, cap, kids⟩ := x
  refine ⟨fun hk => ?_, fun hk => ?_⟩
  · obtain rfl : k = 3 := hk
    have h1 : num.numOk (.mk 3 n e s a cap kids) = true := h
    rw [num.num_int', Bool.and_eq_true, decide_eq_true_eq] at h1
    exact h1.1.1
  · obtain rfl : k = 5 := hk
    have h1 : n = 0 ∧ e = 0 ∧ sign.textOk s = true ∧ s.size ≤ 2000 ∧ kids.length = 0 := h
    exact h1.1
theorem node_fit {x : LT} (h : NodeP x) : KeyFit x := by
  by_cases h8 : x.k = 8
  · exact ⟨fun h => by omega, fun h => by omega⟩
  · exact own_fit ((node_is h8).1 h)
theorem empty_eq {a b : ByteArray} (ha : a.size = 0) (hb : b.size = 0) : a = b := by
  apply list_inj
  have h1 : a.data.toList = [] := List.eq_nil_of_length_eq_zero (by simpa using ha)
  have h2 : b.data.toList = [] := List.eq_nil_of_length_eq_zero (by simpa using hb)
  rw [h1, h2]
theorem keys_iff {l : List LT} (hf : ∀ i (h : i < l.length), KeyFit l[i]) : KeysGood l l.length ↔ GoodTo l l.length := by
  have key : ∀ i, GoodKey l i ↔ GoodI l i := fun i => by
    constructor
    · intro h hi
      obtain ⟨h1, h2⟩ := h hi
      refine ⟨h1.symm, fun j hj he hs => h2 j hj he ?_⟩
      rcases hs with ⟨a, b, c⟩ | ⟨a, b, c⟩
      · have e := empty_eq ((hf j (Nat.lt_trans hj hi)).1 a) ((hf i hi).1 b)
        unfold LT.key
        rw [a, b, c, e]
      · have e1 := (hf j (Nat.lt_trans hj hi)).2 a
        have e2 := (hf i hi).2 b
        unfold LT.key
        rw [a, b, c, e1, e2]
    · intro h hi
      obtain ⟨h1, h2⟩ := h hi
      refine ⟨h1.symm, fun j hj he hk => h2 j hj he ?_⟩
      unfold LT.key at hk
      injection hk with k1 k2
      injection k2 with k2 k3
      rcases h1 with h3 | h5
      · exact .inl ⟨by rw [k1]; exact h3, h3, k2⟩
      · exact .inr ⟨by rw [k1]; exact h5, h5, k3⟩
  constructor
  · intro h i hi he
    exact (key i).1 (h i hi he)
  · intro h i hi he
    exact (key i).2 (h i hi he)
/-- At a node whose kids are fit the two agree. -/
theorem node_own {x : LT} (hl : x.kids.length ≤ 300) (hf : ∀ i (h : i < x.kids.length), KeyFit x.kids[i]) : NodeP x ↔ OwnP x := by
  by_cases h8 : x.k = 8
  · obtain ⟨k, n, e, s, a, cap, kids⟩ := x
    obtain rfl : k = 8 := h8
    have e1 : NodeP (.mk 8 n e s a cap kids) ↔ n = 0 ∧ e = 0 ∧ s.size = 0 ∧ (kids.length % 2 = 0 ∧ GoodTo kids kids.length) := Iff.rfl
    have e2 : OwnP (.mk 8 n e s a cap kids) ↔ n = 0 ∧ e = 0 ∧ s.size = 0 ∧ Pairs kids := Iff.rfl
    rw [e1, e2]
    unfold Pairs
    have hf' : ∀ i (h : i < kids.length), KeyFit kids[i] := hf
    rw [keys_iff hf']
    have hl' : kids.length ≤ 300 := hl
    exact ⟨fun h => ⟨h.1, h.2.1, h.2.2.1, h.2.2.2.2, h.2.2.2.1, hl'⟩, fun h => ⟨h.1, h.2.1, h.2.2.1, h.2.2.2.2.1, h.2.2.2.1⟩⟩
  · exact node_is h8
theorem valid_iff (t : LT) : ValidI t ↔ ValidT t := by
  have hlen : t.nodes ≤ 300 → ∀ y ∈ t.pre 0, y.2.kids.length ≤ 300 := fun hn y hy => by
    have h1 := (pre_kid t 0 y hy).2
    have h2 := len_nodes y.2.kids
    rw [nodes_mk] at h1
    omega
  unfold ValidI ValidT SmallT
  rw [right_pre t 12 0]
  constructor
  · rintro ⟨⟨h1, h2⟩, h3⟩
    refine ⟨⟨by omega, fun y hy => ⟨by have := h2 y hy; omega, ?_⟩⟩, h1⟩
    exact (node_own (hlen h1 y hy) (fun i hi => node_fit (h3 _ ((pre_kid t 0 y hy).1 i hi)))).1 (h3 y hy)
  · rintro ⟨⟨_, h2⟩, h1⟩
    refine ⟨⟨h1, fun y hy => by have := (h2 y hy).1; omega⟩, fun y hy => ?_⟩
    exact (node_own (hlen h1 y hy) (fun i hi => own_fit (h2 _ ((pre_kid t 0 y hy).1 i hi)).2)).2 (h2 y hy).2
end Go.Proofs.YtnaghafmpncdkaaDoor.val
/-
  impl.CborFits at every value.
-/
namespace Go.Proofs.YtnaghafmpncdkaaDoor.val
open Go.ChangeShapes Go.WideShapes Go.ChangeAt Go.RowKit
open Go.Proofs.YtnaghafmpncdkaaDoor.node
set_option maxRecDepth 100000
attribute [local go_sem] Oper.semAt_some

/-- No tag 4. -/
def NoFour (x : LT) : Prop := ¬ (x.k = 9 ∧ x.n = 4)
def FitsC (t : LT) : Prop := ValidI t ∧ ∀ y ∈ t.pre 0, NoFour y.2
set_option maxHeartbeats 2000000 in
theorem cbor_fits (w : World) (t : LT) (h : In w w.heap.size t) (hsz : t.sz ≤ 1048576) (hT : signs.Tabs w) :
    Calls Tryd.prog 28 #[.agg #[.int .i64 t.k, .int .i64 t.n, .int .i64 t.e, .string t.s, t.row]] w (TellR (FitsC t) w) := by
  have hz : t.nodes ≤ 2000000 := nodes_small t hsz
  have HIn := Lib.hid h
  have HZ := Lib.hid hz
  have HNO : Hid (∀ (pre : List (Nat × LT)) (x : Nat × LT), pre ++ [x] <+: t.pre 0 → FitsC t → NoFour x.2) := fun pre x hp hv => hv.2 x (hp.subset (by simp))
  have HYES : Hid (ValidI t → (∀ y ∈ t.pre 0, NoFour y.2) → FitsC t) := fun h1 h2 => ⟨h1, h2⟩
  have HSM : Hid (FitsC t → ValidI t) := fun hv => hv.1
  have HSZ : Hid (∀ W, Below w.heap.size w W → Calls Tryd.prog 61 #[.agg #[.int .i64 t.k, .int .i64 t.n, .int .i64 t.e, .string t.s, t.row]] W (TellR (ValidI t) W)) := fun W hb => value_any W t ((h.behind hb).mono hb.size) hsz (signs.tabs_below hT hb)
  generalize FitsC t = V at *
  generalize ValidI t = Sm at *
  clear h hz hT hsz
  refine (callsIn_wide (n := 4)).1 ?_
  refine callsIn_of_wp_marks Tryd.func28 rfl trivial ?_ rfl
  simp only [Tryd.ntmps28, List.size_toArray, List.length_cons, List.length_nil, Nat.reduceAdd, Nat.reduceSub, Array.replicate_succ, Array.replicate_zero, List.push_toArray, List.append_toArray, List.nil_append, List.cons_append]
  gi_wp2_with fail
  refine ⟨trivial, ?_⟩
  have hb0 : Below w.heap.size w ((w.alloc (.cells #[.int .i64 t.k, .int .i64 t.n, .int .i64 t.e, .string t.s, t.row] 24)).alloc (.cells #[.bool false] 4)) := ((Below.refl _ _).alloc (Nat.le_refl _) _).alloc (by simp) _
  refine (callsIn_wide.2 (HSZ.out _ hb0)).mono ?_
  rintro e w1 ⟨b, rfl, hbv, hb1⟩
  have hx1 : Box w1 w.heap.size t := ((Box.new w t 24).of_block (Below.heap_alloc _ _ _ (by simp))).of_block (hb1.block _ (by simp; omega))
  have hr1 : One w1 (w.heap.size + 1) 4 (.bool false) := by
    have := heap_alloc_new (w.alloc (.cells #[.int .i64 t.k, .int .i64 t.n, .int .i64 t.e, .string t.s, t.row] 24)) (.cells #[.bool false] 4)
    unfold One
    rw [hb1.block _ (by simp)]
    simpa using this
  have hs1 : w.heap.size + 2 ≤ w1.heap.size := by have := hb1.size; simp at this; omega
  replace hb0 : Below w.heap.size w w1 := hb0.trans (hb1.mono (by simp; omega))
  clear HSZ hb1
  have HB0 := Lib.hid hb0
  have HR1 := Lib.hid hr1
  have HX1 := Lib.hid hx1
  have HS1 := Lib.hid hs1
  obtain ⟨c0, c1, c2, c3, c4⟩ := hx1
  have k1 := hr1.cell
  have k2 := hr1.frozen
  clear hb0 hr1 hs1
  cases b with
  | false =>
    have HF : Hid (¬ V) := fun hv => by have := hbv.2 (HSM.out hv); cases this
    clear hbv
    have HRS := Lib.hid (HR1.out.set (.bool false))
    have HBL := Lib.hid (HB0.out.setCell (p := ⟨w.heap.size + 1, 0, none⟩) (Nat.le_succ _) (.bool false))
    have k5 := HRS.out.cell
    gi_wp2
    exact ⟨.bool false, by simp [results, Tryd.results28, go_sem, k5], false, rfl, ⟨fun h => (by cases h), fun h => (HF.out h).elim⟩, HBL.out⟩
  | true =>
    have HSS : Hid Sm := hbv.1 rfl
    clear hbv
    gi_wp2_with (refine ⟨trivial, ?_⟩; gi_at_call 62; refine (callsIn_wide.2 (walk_any _ t)).mono ?_; rintro e w' ⟨rfl, rfl⟩)
    have hx0 : Box (w1.alloc (.cells #[.int .i64 t.k, .int .i64 t.n, .int .i64 t.e, .string t.s, t.row] 24)) w1.heap.size t := Box.new w1 t 24
    have hs0 : w.heap.size + 2 < (w1.alloc (.cells #[.int .i64 t.k, .int .i64 t.n, .int .i64 t.e, .string t.s, t.row] 24)).heap.size := by have := HS1.out; simp; omega
    have hb0 : Below w.heap.size w (w1.alloc (.cells #[.int .i64 t.k, .int .i64 t.n, .int .i64 t.e, .string t.s, t.row] 24)) := HB0.out.alloc (by have := HS1.out; omega) _
    have hr0 : One (w1.alloc (.cells #[.int .i64 t.k, .int .i64 t.n, .int .i64 t.e, .string t.s, t.row] 24)) (w.heap.size + 1) 4 (.bool false) := (Below.heap_alloc _ _ _ (by have := HS1.out; omega)).trans HR1.out
    generalize w1.alloc (.cells #[.int .i64 t.k, .int .i64 t.n, .int .i64 t.e, .string t.s, t.row] 24) = W0 at *
    generalize w1.heap.size = Bx at *
    have hIn0 := HIn.out.behind hb0
    have hz := HZ.out
    clear c0 c1 c2 c3 c4 k1 k2 HB0 HR1 HX1 HS1
    have HS : OkInv w W0 false := ⟨hr0, hb0, hs0⟩
    refine range_box (by decide) (Bx := Bx) (n₀ := w.heap.size) (t := t) rfl hz (by omega) hIn0 hx0 rfl (fun pre W => OkInv w W false ∧ ∀ y ∈ pre, NoFour y.2) (fun c _ W => c = .ret ∧ OkInv w W false ∧ ¬ V)
      (fun _ A B hs hb => ⟨hs.1.kept hb (by omega), hs.2⟩) (fun _ _ A B hs hb => ⟨hs.1, hs.2.1.kept hb (by omega), hs.2.2⟩) ⟨HS, fun y hy => by simp at hy⟩
      (fun x W a' W' => a' = { tmps := #[.agg #[.int .i64 t.k, .int .i64 t.n, .int .i64 t.e, .string t.s, t.row], .pointer (some ⟨w.heap.size, 0, none⟩), .pointer (some ⟨w.heap.size + 1, 0, none⟩), undef, .pointer (some ⟨W.heap.size, 0, none⟩), .agg #[.int .i64 t.k, .int .i64 t.n, .int .i64 t.e, .string t.s, t.row], .bool true, .bool false, .agg #[.int .i64 t.k, .int .i64 t.n, .int .i64 t.e, .string t.s, t.row], .func (.func 86) #[] #[.pointer (some ⟨Bx, 0, none⟩)], .int .i64 (x.1 : Nat), .agg #[.int .i64 x.2.k, .int .i64 x.2.n, .int .i64 x.2.e, .string x.2.s, x.2.row], undef, undef, undef, undef, undef, undef, undef, undef], defers := [] } ∧ W' = W.alloc (.cells #[.int .i64 x.2.k, .int .i64 x.2.n, .int .i64 x.2.e, .string x.2.s, x.2.row] 24))
      (fun x W a' W' h => by rw [h.2]; exact (Below.refl _ _).alloc (Nat.le_refl _) _) ?assign ?body ?done ?stop
    case assign =>
      intro l x W K hK
      have hrow : x.2.row = .slice x.2.a x.2.kids.length x.2.cap := rfl
      have HK := Lib.hid hK
      clear hK
      simp only [encs, hrow]
      clear hrow
      gi_wp2
      exact HK.out _ _ ⟨rfl, rfl⟩
    case body =>
      rintro l pre x V0 V' W a' hI hpre ⟨rfl, rfl⟩ hV hW
      have HNP := Lib.hid (HNO.out pre x hpre)
      have HLV : Hid (NoFour x.2 → ∀ y ∈ pre ++ [x], NoFour y.2) := fun hx y hy => by
        rcases List.mem_append.1 hy with h | h
        · exact hI.2 y h
        · simp only [List.mem_singleton] at h
          rw [h]; exact hx
      obtain ⟨lv, x⟩ := x
      have hbx : W.heap[V0.heap.size]? = some (.cells #[.int .i64 x.k, .int .i64 x.n, .int .i64 x.e, .string x.s, x.row] 24 (0, 0)) := (hW _ (Nat.le_refl _)).trans (heap_alloc_new V0 _)
      have c0 : W.cell? ⟨V0.heap.size, 0, none⟩ = some (.int .i64 x.k) := cell_of_row W _ 0 _ _ (0, 0) hbx
      have c1 : W.cell? ⟨V0.heap.size, 1, none⟩ = some (.int .i64 x.n) := cell_of_row W _ 1 _ _ (0, 0) hbx
      have c2 : W.cell? ⟨V0.heap.size, 2, none⟩ = some (.int .i64 x.e) := cell_of_row W _ 2 _ _ (0, 0) hbx
      have c3 : W.cell? ⟨V0.heap.size, 3, none⟩ = some (.string x.s) := cell_of_row W _ 3 _ _ (0, 0) hbx
      have c4 : W.cell? ⟨V0.heap.size, 4, none⟩ = some x.row := cell_of_row W _ 4 _ _ (0, 0) hbx
      have HI := Lib.hid hI.1
      have HSZ := Lib.hid hs0
      clear hI hpre HS hr0 hb0 hs0 hx0 hz hIn0 hbx hW hV HNO HYES HSM
      have k1 := HI.out.res.cell
      have k2 := HI.out.res.frozen
      have HM0 : Hid (Mid w.heap.size W0.heap.size W W) := ⟨rfl, rfl, rfl, Nat.le_refl _, fun k hk _ => rfl⟩
      have HM3 : Hid (∀ v : Value, Mid w.heap.size W0.heap.size W (W.setCell ⟨w.heap.size + 1, 0, none⟩ v)) := fun v => mid_set W v (by omega) (by have := HSZ.out; omega)
      by_cases h9 : x.k = 9
      · by_cases h4 : x.n = 4
        · have HF : Hid (¬ V) := fun hv => HNP.out hv ⟨h9, h4⟩
          rw [h9] at c0
          rw [h4] at c1
          clear HLV HNP
          gi_wp2
          exact ⟨HM3.out _, rfl, HI.out.set false, HF.out⟩
        · have HF := Lib.hid (HLV.out (fun h => h4 h.2))
          have e4 : (x.n == 4) = false := by simp [h4]
          rw [h9] at c0
          clear HLV HNP h9
          gi_wp2
          first
          | exact ⟨HM0.out, HI.out, HF.out⟩
          | exact ⟨HM0.out, HI.out, fun a b h => HF.out (a, b) h⟩
      · have HF := Lib.hid (HLV.out (fun h => h9 h.1))
        have e9 : (x.k == 9) = false := by simp [h9]
        clear HLV HNP
        gi_wp2
        first
        | exact ⟨HM0.out, HI.out, HF.out⟩
        | exact ⟨HM0.out, HI.out, fun a b h => HF.out (a, b) h⟩
    case done =>
      rintro D W hD ⟨hI, hv⟩ hK
      have HF : Hid V := HYES.out HSS.out hv
      have k3 := hI.res.cell
      have k4 := hI.res.frozen
      have hK2 : (W.setCell ⟨w.heap.size + 1, 0, none⟩ (.bool true)).heap[D]? = some (.deferred (some [])) := (blk_other _ (by omega)).trans hK
      have hrs : One ((W.setCell ⟨w.heap.size + 1, 0, none⟩ (.bool true)).putObj D (.deferred none)) (w.heap.size + 1) 4 (.bool true) := (World.putObj_heap_other (by omega)).trans (hI.res.set _)
      have HBL : Hid (Below w.heap.size w ((W.setCell ⟨w.heap.size + 1, 0, none⟩ (.bool true)).putObj D (.deferred none))) := (hI.below.setCell (p := ⟨w.heap.size + 1, 0, none⟩) (Nat.le_succ _) _).trans (below_put _ _ (by omega))
      have k5 := hrs.cell
      clear HS hr0 hx0 hb0 hz hI hD hs0 hIn0 hv HNO HYES HSM
      gi_wp2
      refine ⟨by simp, .inl ⟨_, _, rfl, run_takeDeferred hK2, ?_⟩⟩
      exact ⟨.bool true, by simp [results, Tryd.results28, go_sem, k5], true, rfl, ⟨fun _ => HF.out, fun _ => rfl⟩, HBL.out⟩
    case stop =>
      rintro D c p W hD hp ⟨rfl, hI, hnv⟩ hK
      have HF : Hid (¬ V) := hnv
      have hrs : One (W.putObj D (.deferred none)) (w.heap.size + 1) 4 (.bool false) := (World.putObj_heap_other (by omega)).trans hI.res
      have HBL : Hid (Below w.heap.size w (W.putObj D (.deferred none))) := hI.below.trans (below_put _ _ (by omega))
      have k5 := hrs.cell
      clear HS hr0 hx0 hb0 hz hI hD hs0 hIn0 hnv HNO HYES HSM
      gi_wp2
      refine ⟨by simp, .inl ⟨_, _, rfl, run_takeDeferred hK, ?_⟩⟩
      exact ⟨.bool false, by simp [results, Tryd.results28, go_sem, k5], false, rfl, ⟨fun h => (by cases h), fun h => (HF.out h).elim⟩, HBL.out⟩

end Go.Proofs.YtnaghafmpncdkaaDoor.val
