/-
  Plain facts on maps that are only counted: how many keys a map has behind a store; when the keys of a list of keys and values are distinct.
-/
import Derived.Test.YtkjffifdlckljaaDoorPathsJ15
import Derived.Maps.Own
import Derived.Maps.OwnOps
namespace Go.Proofs.YtkjffifdlckljaaDoor.node
open Go.RowKit
open Go.Proofs.YtkjffifdlckljaaDoor.val
open Go.ChangeMaps (mem_insert_iff)
open Go.WideShapes (insert_perm)

open Classical
set_option maxRecDepth 100000

abbrev Ents := List (Lit × DataW Unit)
/-- The keys are distinct, and they are those. -/
structure KeyIs (l : Ents) (S : Lit → Prop) : Prop where
  nodup : (l.map Prod.fst).Nodup
  mem : ∀ x, x ∈ l.map Prod.fst ↔ S x
theorem KeyIs.empty : KeyIs [] (fun _ => False) := ⟨List.nodup_nil, fun x => by simp⟩
theorem filter_key (l : Ents) (k : Lit) (hk : WideAt.IsKeyLit k) : (l.filter (ChangeMaps.notKey k)).map Prod.fst = (l.map Prod.fst).filter (fun x => decide (x ≠ k)) := by
  induction l with
  | nil => rfl
  | cons p l ih =>
    by_cases h : p.1 = k
    · have e1 : ChangeMaps.notKey k p = false := by
        rw [Bool.eq_false_iff]
        intro h'
        exact (Maps.notKey_iff hk).1 h' h
      have e2 : decide (p.1 ≠ k) = false := decide_eq_false (fun h' => h' h)
      rw [List.filter_cons, e1, List.map_cons, List.filter_cons, e2]
      simpa using ih
    · have e1 : ChangeMaps.notKey k p = true := (Maps.notKey_iff hk).2 h
      have e2 : decide (p.1 ≠ k) = true := decide_eq_true h
      rw [List.filter_cons, e1, List.map_cons, List.filter_cons, e2]
      simpa using ih
theorem filter_len {α : Type} (l : List α) (k : α) (h : l.Nodup) : (l.filter (fun x => decide (x ≠ k))).length + (if k ∈ l then 1 else 0) = l.length := by
  induction l with
  | nil => simp
  | cons x l ih =>
    obtain ⟨h1, h2⟩ := List.nodup_cons.1 h
    have ih' := ih h2
    by_cases e : x = k
    · subst e
      have e2 : decide (x ≠ x) = false := decide_eq_false (fun h' => h' rfl)
      rw [if_neg h1] at ih'
      rw [List.filter_cons, e2, if_pos (List.mem_cons_self ..), List.length_cons, if_neg (by decide)]
      omega
    · have e2 : decide (x ≠ k) = true := decide_eq_true e
      have e3 : (k ∈ x :: l) ↔ k ∈ l := by
        rw [List.mem_cons]
        exact ⟨fun h => h.resolve_left (fun h => e h.symm), Or.inr⟩
      rw [List.filter_cons, e2, List.length_cons, if_pos rfl, List.length_cons]
      by_cases hm : k ∈ l
      · rw [if_pos hm] at ih'
        rw [if_pos (e3.2 hm)]
        omega
      · rw [if_neg hm] at ih'
        rw [if_neg (fun h => hm (e3.1 h))]
        omega
theorem KeyIs.put {l : Ents} {S : Lit → Prop} (h : KeyIs l S) (k : Lit) (hk : WideAt.IsKeyLit k) (d : DataW Unit) : KeyIs (ChangeMaps.putKey k d l) (fun x => S x ∨ x = k) ∧ (S k → (ChangeMaps.putKey k d l).length = l.length) ∧ (¬ S k → (ChangeMaps.putKey k d l).length = l.length + 1) := by
  have hp : ((ChangeMaps.putKey k d l).map Prod.fst).Perm (k :: (l.map Prod.fst).filter (fun x => decide (x ≠ k))) := by
    have := (insert_perm (k, d) (l.filter (ChangeMaps.notKey k))).map Prod.fst
    rw [List.map_cons, filter_key l k hk] at this
    exact this
  have hlen := filter_len (l.map Prod.fst) k h.nodup
  have hl : (ChangeMaps.putKey k d l).length = ((l.map Prod.fst).filter (fun x => decide (x ≠ k))).length + 1 := by
    have := hp.length_eq
    simpa using this
  rw [List.length_map] at hlen
  refine ⟨⟨hp.nodup_iff.2 (List.nodup_cons.2 ⟨by simp, h.nodup.filter _⟩), fun x => ?_⟩, fun hs => ?_, fun hs => ?_⟩
  · rw [hp.mem_iff, List.mem_cons, List.mem_filter, decide_eq_true_eq, h.mem]
    constructor
    · rintro (rfl | ⟨h1, _⟩)
      · exact .inr rfl
      · exact .inl h1
    · rintro (h1 | rfl)
      · by_cases e : x = k
        · exact .inl e
        · exact .inr ⟨h1, e⟩
      · exact .inl rfl
  · rw [if_pos ((h.mem k).2 hs)] at hlen
    omega
  · rw [if_neg (fun h' => hs ((h.mem k).1 h'))] at hlen
    omega
/-- Block b is a map whose keys are those; c of them. -/
def Cnt (W : World) (kt et : TypeId) (b c : Nat) (S : Lit → Prop) : Prop := ∃ l : Ents, W.ownsMap Tryd.prog kt (plainElem Tryd.prog et) b c (.map l) ∧ l.length = c ∧ KeyIs l S
theorem tight {W : World} {kt et : TypeId} {b n : Nat} {l : Ents} (h : W.ownsMap Tryd.prog kt (plainElem Tryd.prog et) b n (.map l)) : W.ownsMap Tryd.prog kt (plainElem Tryd.prog et) b l.length (.map l) := by
  obtain ⟨es, clock, h1, h2, h3, h4⟩ := h
  refine ⟨es, clock, h1, h2, ?_, h4⟩
  injection h4 with h4
  rw [h4, length_sorted]
  simp
theorem wf64 (x : Int) : (Lit.int .i64 (wrap64 x)).wf = true := by
  simp [Lit.wf, IntKind.min, IntKind.max, IntKind.signed, IntKind.bits, wrap64]
  omega

/-- Two keys are one to impl.keysOk. -/
def SameKey (x y : LT) : Prop := (x.k = 3 ∧ y.k = 3 ∧ x.n = y.n) ∨ (x.k = 5 ∧ y.k = 5 ∧ x.s = y.s)
def GoodI (l : List LT) (i : Nat) : Prop := ∀ h : i < l.length, (l[i].k = 3 ∨ l[i].k = 5) ∧ ∀ j (hj : j < i), j % 2 = 0 → ¬ SameKey (l[j]'(Nat.lt_trans hj h)) l[i]
def GoodTo (l : List LT) (m : Nat) : Prop := ∀ i, i < m → i % 2 = 0 → GoodI l i
/-- The numbers, the texts among the keys ahead of a place. -/
def SN (l : List LT) (m : Nat) (x : Lit) : Prop := ∃ i, ∃ h : i < l.length, i < m ∧ i % 2 = 0 ∧ l[i].k = 3 ∧ x = .int .i64 l[i].n
def ST (l : List LT) (m : Nat) (x : Lit) : Prop := ∃ i, ∃ h : i < l.length, i < m ∧ i % 2 = 0 ∧ l[i].k = 5 ∧ x = .string l[i].s.data.toList
theorem Cnt.of_block {W W' : World} {kt et : TypeId} {b c : Nat} {S : Lit → Prop} (h : Cnt W kt et b c S) (hb : W'.heap[b]? = W.heap[b]?) : Cnt W' kt et b c S := by
  obtain ⟨l, ⟨es, clock, h1, h2⟩, hn⟩ := h
  exact ⟨l, ⟨es, clock, hb.trans h1, h2⟩, hn⟩
theorem Cnt.lt {W : World} {kt et : TypeId} {b c : Nat} {S : Lit → Prop} (h : Cnt W kt et b c S) : b < W.heap.size := by
  obtain ⟨l, h1, _⟩ := h
  exact h1.lt
theorem Cnt.len {W : World} {kt et t : TypeId} {b c : Nat} {S : Lit → Prop} (h : Cnt W kt et b c S) (ht : Tryd.prog.underlying t = some (.map kt et)) (ty : TypeId) : (Builtin.len_ #[t] ty #[.map (some b)]).run Tryd.prog W = .ok (.int .i64 c) W := by
  obtain ⟨l, ⟨es, clock, h1, h2, h3, h4⟩, hl, _⟩ := h
  have e : es.size = c := by
    have h5 := congrArg List.length (DataW.map.inj h4)
    rw [length_sorted, List.length_map, Array.length_toList] at h5
    exact h5.symm.trans hl
  simp [Builtin.len_, run_underlying ht, MapKept.run_getObj_map h1, Result.andThen, goInt, e]
theorem Cnt.made (W : World) (kt et : TypeId) : Cnt (W.alloc (.map #[] 0)) kt et W.heap.size 0 (fun _ => False) :=
  ⟨[], World.ownsMap_made W _ _ _, rfl, KeyIs.empty⟩
/-- Behind a store, by what was there. -/
theorem Cnt.store {W' : World} {kt et : TypeId} {b c n : Nat} {S S' : Lit → Prop} {l : Ents} {k : Lit} {d : DataW Unit} (hk : WideAt.IsKeyLit k) (hl : l.length = c) (hK : KeyIs l S) (hW : W'.ownsMap Tryd.prog kt (plainElem Tryd.prog et) b (n + 1) ((DataW.map l).put k d)) (hS : ∀ x, S' x ↔ S x ∨ x = k) :
    ∃ c', Cnt W' kt et b c' S' ∧ (S k → c' = c) ∧ (¬ S k → c' = c + 1) := by
  obtain ⟨h1, h2, h3⟩ := hK.put k hk d
  rw [DataW.put_eq] at hW
  refine ⟨(ChangeMaps.putKey k d l).length, ⟨_, tight hW, rfl, ⟨h1.nodup, fun x => (h1.mem x).trans (hS x).symm⟩⟩, fun h => (h2 h).trans hl, fun h => by rw [h3 h, hl]⟩
/-- What is known of the two maps behind so many keys. -/
structure Tally (l : List LT) (j N T : Nat) : Prop where
  le : N + T ≤ j / 2
  iff : N + T = j / 2 ↔ GoodTo l j
theorem Tally.start (l : List LT) : Tally l 0 0 0 := ⟨by omega, ⟨fun _ i hi => by omega, fun _ => rfl⟩⟩
theorem goodTo_back {l : List LT} {j : Nat} (h : GoodTo l (j + 2)) : GoodTo l j := fun i hi he => h i (by omega) he
theorem goodTo_next {l : List LT} {j : Nat} (he : j % 2 = 0) (h : GoodTo l j) (hj : GoodI l j) : GoodTo l (j + 2) := fun i hi h2 => by
  by_cases hij : i < j
  · exact h i hij h2
  · have e : i = j := by omega
    subst e
    exact hj
section
variable {l : List LT} {j N T : Nat}
theorem Tally.bad (h : Tally l j N T) (hn : ¬ GoodTo l (j + 2)) : Tally l (j + 2) N T :=
  ⟨by have := h.le; omega, ⟨fun e => by have := h.le; omega, fun h' => (hn h').elim⟩⟩
theorem Tally.good {N' T' : Nat} (h : Tally l j N T) (he : j % 2 = 0) (hs : N' + T' = N + T + 1) (hj : GoodI l j) : Tally l (j + 2) N' T' :=
  ⟨by have := h.le; omega, ⟨fun e => goodTo_next he (h.iff.1 (by omega)) hj, fun h' => by have := h.iff.2 (goodTo_back h'); omega⟩⟩
theorem not_good_kind (hl : j < l.length) (he : j % 2 = 0) (h3 : l[j].k ≠ 3) (h5 : l[j].k ≠ 5) : ¬ GoodTo l (j + 2) := fun h => by
  rcases (h j (by omega) he hl).1 with h1 | h1
  · exact h3 h1
  · exact h5 h1
theorem not_good_num (hl : j < l.length) (he : j % 2 = 0) (h3 : l[j].k = 3) (hs : SN l j (.int .i64 l[j].n)) : ¬ GoodTo l (j + 2) := fun h => by
  obtain ⟨i, hi, hij, hie, hk, hx⟩ := hs
  injection hx with _ hx
  exact (h j (by omega) he hl).2 i hij hie (.inl ⟨hk, h3, hx.symm⟩)
theorem good_num (hl : j < l.length) (h3 : l[j].k = 3) (hs : ¬ SN l j (.int .i64 l[j].n)) : GoodI l j := fun _ => ⟨.inl h3, fun i hij hie hsame => by
  rcases hsame with ⟨hk, _, hn⟩ | ⟨_, hk, _⟩
  · exact hs ⟨i, by omega, hij, hie, hk, by rw [hn]⟩
  · rw [h3] at hk; omega⟩
theorem list_inj {a b : ByteArray} (h : a.data.toList = b.data.toList) : a = b := by
  apply ByteArray.ext
  exact Array.toList_inj.1 h
theorem not_good_text (hl : j < l.length) (he : j % 2 = 0) (h5 : l[j].k = 5) (hs : ST l j (.string l[j].s.data.toList)) : ¬ GoodTo l (j + 2) := fun h => by
  obtain ⟨i, hi, hij, hie, hk, hx⟩ := hs
  injection hx with hx
  exact (h j (by omega) he hl).2 i hij hie (.inr ⟨hk, h5, (list_inj hx).symm⟩)
theorem good_text (hl : j < l.length) (h5 : l[j].k = 5) (hs : ¬ ST l j (.string l[j].s.data.toList)) : GoodI l j := fun _ => ⟨.inr h5, fun i hij hie hsame => by
  rcases hsame with ⟨_, hk, _⟩ | ⟨hk, _, hn⟩
  · rw [h5] at hk; omega
  · exact hs ⟨i, by omega, hij, hie, hk, by rw [hn]⟩⟩
theorem SN_same (he : j % 2 = 0) (h : ∀ hl : j < l.length, l[j].k ≠ 3) (x : Lit) : SN l (j + 2) x ↔ SN l j x := by
  constructor
  · rintro ⟨i, hi, hij, hie, hk, hx⟩
    by_cases e : i = j
    · subst e; exact (h hi hk).elim
    · exact ⟨i, hi, by omega, hie, hk, hx⟩
  · rintro ⟨i, hi, hij, hie, hk, hx⟩
    exact ⟨i, hi, by omega, hie, hk, hx⟩
theorem ST_same (he : j % 2 = 0) (h : ∀ hl : j < l.length, l[j].k ≠ 5) (x : Lit) : ST l (j + 2) x ↔ ST l j x := by
  constructor
  · rintro ⟨i, hi, hij, hie, hk, hx⟩
    by_cases e : i = j
    · subst e; exact (h hi hk).elim
    · exact ⟨i, hi, by omega, hie, hk, hx⟩
  · rintro ⟨i, hi, hij, hie, hk, hx⟩
    exact ⟨i, hi, by omega, hie, hk, hx⟩
theorem SN_more (hl : j < l.length) (he : j % 2 = 0) (h3 : l[j].k = 3) (x : Lit) : SN l (j + 2) x ↔ SN l j x ∨ x = .int .i64 l[j].n := by
  constructor
  · rintro ⟨i, hi, hij, hie, hk, hx⟩
    by_cases e : i = j
    · subst e; exact .inr hx
    · exact .inl ⟨i, hi, by omega, hie, hk, hx⟩
  · rintro (⟨i, hi, hij, hie, hk, hx⟩ | hx)
    · exact ⟨i, hi, by omega, hie, hk, hx⟩
    · exact ⟨j, hl, by omega, he, h3, hx⟩
theorem ST_more (hl : j < l.length) (he : j % 2 = 0) (h5 : l[j].k = 5) (x : Lit) : ST l (j + 2) x ↔ ST l j x ∨ x = .string l[j].s.data.toList := by
  constructor
  · rintro ⟨i, hi, hij, hie, hk, hx⟩
    by_cases e : i = j
    · subst e; exact .inr hx
    · exact .inl ⟨i, hi, by omega, hie, hk, hx⟩
  · rintro (⟨i, hi, hij, hie, hk, hx⟩ | hx)
    · exact ⟨i, hi, by omega, hie, hk, hx⟩
    · exact ⟨j, hl, by omega, he, h5, hx⟩
theorem Cnt.same {W : World} {kt et : TypeId} {b c : Nat} {S S' : Lit → Prop} (h : Cnt W kt et b c S) (hS : ∀ x, S' x ↔ S x) : Cnt W kt et b c S' := by
  obtain ⟨l, h1, h3, h4⟩ := h
  exact ⟨l, h1, h3, ⟨h4.nodup, fun x => (h4.mem x).trans (hS x).symm⟩⟩
end
end Go.Proofs.YtkjffifdlckljaaDoor.node
