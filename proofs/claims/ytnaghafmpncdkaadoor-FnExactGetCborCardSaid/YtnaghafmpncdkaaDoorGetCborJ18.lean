/-
  Plain facts on maps that are only counted: how many keys a map has behind a store; when the keys of a list of keys and values are distinct.
-/
import Derived.Test.YtnaghafmpncdkaaDoorGetCborJ8
import Derived.Maps.Own
import Derived.Maps.OwnOps
import Derived.Test.YtnaghafmpncdkaaDoorGetCborJ15
import Derived.Shelf.LaysM
import Derived.Shelf.Unicode.ValidAny
import Derived.Test.YtnaghafmpncdkaaDoorProg
import Derived.Test.YtnaghafmpncdkaaDoorGetCborJ10
namespace Go.Proofs.YtnaghafmpncdkaaDoor.node
open Go.RowKit
open Go.Proofs.YtnaghafmpncdkaaDoor.val
open Go.ChangeMaps (mem_insert_iff)
open Go.WideShapes (insert_perm)

open Classical
set_option maxRecDepth 100000

abbrev Ents := List (Lit × DataW Unit)
/-- The keys are distinct, and they are those. -/
structure KeyIs (l : Ents) (S : Lit → Prop) : Prop where
  nodup : (l.map Prod.fst).Nodup
  mem : ∀ x, x ∈ l.map Prod.fst ↔ S x
theorem KeyIs.empty : KeyIs [] (fun _ => False) := ⟨List.nodup_nil, fun x => by simp⟩
theorem filter_key (l : Ents) (k : Lit) (hk : WideAt.IsKeyLit k) : (l.filter (ChangeMaps.notKey k)).map Prod.fst = (l.map Prod.fst).filter (fun x => decide (x ≠ k)) := by
  induction l with
  | nil => rfl
  | cons p l ih =>
    by_cases h : p.1 = k
    · have e1 : ChangeMaps.notKey k p = false := by
        rw [Bool.eq_false_iff]
        intro h'
        exact (Maps.notKey_iff hk).1 h' h
      have e2 : decide (p.1 ≠ k) = false := decide_eq_false (fun h' => h' h)
      rw [List.filter_cons, e1, List.map_cons, List.filter_cons, e2]
      simpa using ih
    · have e1 : ChangeMaps.notKey k p = true := (Maps.notKey_iff hk).2 h
      have e2 : decide (p.1 ≠ k) = true := decide_eq_true h
      rw [List.filter_cons, e1, List.map_cons, List.filter_cons, e2]
      simpa using ih
theorem filter_len {α : Type} (l : List α) (k : α) (h : l.Nodup) : (l.filter (fun x => decide (x ≠ k))).length + (if k ∈ l then 1 else 0) = l.length := by
  induction l with
  | nil => simp
  | cons x l ih =>
    obtain ⟨h1, h2⟩ := List.nodup_cons.1 h
    have ih' := ih h2
    by_cases e : x = k
    · subst e
      have e2 : decide (x ≠ x) = false := decide_eq_false (fun h' => h' rfl)
      rw [if_neg h1] at ih'
      rw [List.filter_cons, e2, if_pos (List.mem_cons_self ..), List.length_cons, if_neg (by decide)]
      omega
    · have e2 : decide (x ≠ k) = true := decide_eq_true e
      have e3 : (k ∈ x :: l) ↔ k ∈ l := by
        rw [List.mem_cons]
        exact ⟨fun h => h.resolve_left (fun h => e h.symm), Or.inr⟩
      rw [List.filter_cons, e2, List.length_cons, if_pos rfl, List.length_cons]
      by_cases hm : k ∈ l
      · rw [if_pos hm] at ih'
        rw [if_pos (e3.2 hm)]
        omega
      · rw [if_neg hm] at ih'
        rw [if_neg (fun h => hm (e3.1 h))]
        omega
theorem KeyIs.put {l : Ents} {S : Lit → Prop} (h : KeyIs l S) (k : Lit) (hk : WideAt.IsKeyLit k) (d : DataW Unit) : KeyIs (ChangeMaps.putKey k d l) (fun x => S x ∨ x = k) ∧ (S k → (ChangeMaps.putKey k d l).length = l.length) ∧ (¬ S k → (ChangeMaps.putKey k d l).length = l.length + 1) := by
  have hp : ((ChangeMaps.putKey k d l).map Prod.fst).Perm (k :: (l.map Prod.fst).filter (fun x => decide (x ≠ k))) := by
    have := (insert_perm (k, d) (l.filter (ChangeMaps.notKey k))).map Prod.fst
    rw [List.map_cons, filter_key l k hk] at this
    exact this
  have hlen := filter_len (l.map Prod.fst) k h.nodup
  have hl : (ChangeMaps.putKey k d l).length = ((l.map Prod.fst).filter (fun x => decide (x ≠ k))).length + 1 := by
    have := hp.length_eq
    simpa using this
  rw [List.length_map] at hlen
  refine ⟨⟨hp.nodup_iff.2 (List.nodup_cons.2 ⟨by simp, h.nodup.filter _⟩), fun x => ?_⟩, fun hs => ?_, fun hs => ?_⟩
  · rw [hp.mem_iff, List.mem_cons, List.mem_filter, decide_eq_true_eq, h.mem]
    constructor
    · rintro (rfl | ⟨h1, _⟩)
      · exact .inr rfl
      · exact .inl h1
    · rintro (h1 | rfl)
      · by_cases e : x = k
        · exact .inl e
        · exact .inr ⟨h1, e⟩
      · exact .inl rfl
  · rw [if_pos ((h.mem k).2 hs)] at hlen
    omega
  · rw [if_neg (fun h' => hs ((h.mem k).1 h'))] at hlen
    omega
/-- Block b is a map whose keys are those; c of them. -/
def Cnt (W : World) (kt et : TypeId) (b c : Nat) (S : Lit → Prop) : Prop := ∃ l : Ents, W.ownsMap Tryd.prog kt (plainElem Tryd.prog et) b c (.map l) ∧ l.length = c ∧ KeyIs l S
theorem tight {W : World} {kt et : TypeId} {b n : Nat} {l : Ents} (h : W.ownsMap Tryd.prog kt (plainElem Tryd.prog et) b n (.map l)) : W.ownsMap Tryd.prog kt (plainElem Tryd.prog et) b l.length (.map l) := by
  obtain ⟨es, clock, h1, h2, h3, h4⟩ := h
  refine ⟨es, clock, h1, h2, ?_, h4⟩
  injection h4 with h4
  rw [h4, length_sorted]
  simp
theorem wf64 (x : Int) : (Lit.int .i64 (wrap64 x)).wf = true := by
  simp [Lit.wf, IntKind.min, IntKind.max, IntKind.signed, IntKind.bits, wrap64]
  omega

/-- Two keys are one to impl.keysOk. -/
def SameKey (x y : LT) : Prop := (x.k = 3 ∧ y.k = 3 ∧ x.n = y.n) ∨ (x.k = 5 ∧ y.k = 5 ∧ x.s = y.s)
def GoodI (l : List LT) (i : Nat) : Prop := ∀ h : i < l.length, (l[i].k = 3 ∨ l[i].k = 5) ∧ ∀ j (hj : j < i), j % 2 = 0 → ¬ SameKey (l[j]'(Nat.lt_trans hj h)) l[i]
def GoodTo (l : List LT) (m : Nat) : Prop := ∀ i, i < m → i % 2 = 0 → GoodI l i
/-- The numbers, the texts among the keys ahead of a place. -/
def SN (l : List LT) (m : Nat) (x : Lit) : Prop := ∃ i, ∃ h : i < l.length, i < m ∧ i % 2 = 0 ∧ l[i].k = 3 ∧ x = .int .i64 l[i].n
def ST (l : List LT) (m : Nat) (x : Lit) : Prop := ∃ i, ∃ h : i < l.length, i < m ∧ i % 2 = 0 ∧ l[i].k = 5 ∧ x = .string l[i].s.data.toList
theorem Cnt.of_block {W W' : World} {kt et : TypeId} {b c : Nat} {S : Lit → Prop} (h : Cnt W kt et b c S) (hb : W'.heap[b]? = W.heap[b]?) : Cnt W' kt et b c S := by
  obtain ⟨l, ⟨es, clock, h1, h2⟩, hn⟩ := h
  exact ⟨l, ⟨es, clock, hb.trans h1, h2⟩, hn⟩
theorem Cnt.lt {W : World} {kt et : TypeId} {b c : Nat} {S : Lit → Prop} (h : Cnt W kt et b c S) : b < W.heap.size := by
  obtain ⟨l, h1, _⟩ := h
  exact h1.lt
theorem Cnt.len {W : World} {kt et t : TypeId} {b c : Nat} {S : Lit → Prop} (h : Cnt W kt et b c S) (ht : Tryd.prog.underlying t = some (.map kt et)) (ty : TypeId) : (Builtin.len_ #[t] ty #[.map (some b)]).run Tryd.prog W = .ok (.int .i64 c) W := by
  obtain ⟨l, ⟨es, clock, h1, h2, h3, h4⟩, hl, _⟩ := h
  have e : es.size = c := by
    have h5 := congrArg List.length (DataW.map.inj h4)
    rw [length_sorted, List.length_map, Array.length_toList] at h5
    exact h5.symm.trans hl
  simp [Builtin.len_, run_underlying ht, MapKept.run_getObj_map h1, Result.andThen, goInt, e]
theorem Cnt.made (W : World) (kt et : TypeId) : Cnt (W.alloc (.map #[] 0)) kt et W.heap.size 0 (fun _ => False) :=
  ⟨[], World.ownsMap_made W _ _ _, rfl, KeyIs.empty⟩
/-- Behind a store, by what was there. -/
theorem Cnt.store {W' : World} {kt et : TypeId} {b c n : Nat} {S S' : Lit → Prop} {l : Ents} {k : Lit} {d : DataW Unit} (hk : WideAt.IsKeyLit k) (hl : l.length = c) (hK : KeyIs l S) (hW : W'.ownsMap Tryd.prog kt (plainElem Tryd.prog et) b (n + 1) ((DataW.map l).put k d)) (hS : ∀ x, S' x ↔ S x ∨ x = k) :
    ∃ c', Cnt W' kt et b c' S' ∧ (S k → c' = c) ∧ (¬ S k → c' = c + 1) := by
  obtain ⟨h1, h2, h3⟩ := hK.put k hk d
  rw [DataW.put_eq] at hW
  refine ⟨(ChangeMaps.putKey k d l).length, ⟨_, tight hW, rfl, ⟨h1.nodup, fun x => (h1.mem x).trans (hS x).symm⟩⟩, fun h => (h2 h).trans hl, fun h => by rw [h3 h, hl]⟩
/-- What is known of the two maps behind so many keys. -/
structure Tally (l : List LT) (j N T : Nat) : Prop where
  le : N + T ≤ j / 2
  iff : N + T = j / 2 ↔ GoodTo l j
theorem Tally.start (l : List LT) : Tally l 0 0 0 := ⟨by omega, ⟨fun _ i hi => by omega, fun _ => rfl⟩⟩
theorem goodTo_back {l : List LT} {j : Nat} (h : GoodTo l (j + 2)) : GoodTo l j := fun i hi he => h i (by omega) he
theorem goodTo_next {l : List LT} {j : Nat} (he : j % 2 = 0) (h : GoodTo l j) (hj : GoodI l j) : GoodTo l (j + 2) := fun i hi h2 => by
  by_cases hij : i < j
  · exact h i hij h2
  · have e : i = j := by omega
    subst e
    exact hj
section
variable {l : List LT} {j N T : Nat}
theorem Tally.bad (h : Tally l j N T) (hn : ¬ GoodTo l (j + 2)) : Tally l (j + 2) N T :=
  ⟨by have := h.le; omega, ⟨fun e => by have := h.le; omega, fun h' => (hn h').elim⟩⟩
theorem Tally.good {N' T' : Nat} (h : Tally l j N T) (he : j % 2 = 0) (hs : N' + T' = N + T + 1) (hj : GoodI l j) : Tally l (j + 2) N' T' :=
  ⟨by have := h.le; omega, ⟨fun e => goodTo_next he (h.iff.1 (by omega)) hj, fun h' => by have := h.iff.2 (goodTo_back h'); omega⟩⟩
theorem not_good_kind (hl : j < l.length) (he : j % 2 = 0) (h3 : l[j].k ≠ 3) (h5 : l[j].k ≠ 5) : ¬ GoodTo l (j + 2) := fun h => by
  rcases (h j (by omega) he hl).1 with h1 | h1
  · exact h3 h1
  · exact h5 h1
theorem not_good_num (hl : j < l.length) (he : j % 2 = 0) (h3 : l[j].k = 3) (hs : SN l j (.int .i64 l[j].n)) : ¬ GoodTo l (j + 2) := fun h => by
  obtain ⟨i, hi, hij, hie, hk, hx⟩ := hs
  injection hx with _ hx
  exact (h j (by omega) he hl).2 i hij hie (.inl ⟨hk, h3, hx.symm⟩)
theorem good_num (hl : j < l.length) (h3 : l[j].k = 3) (hs : ¬ SN l j (.int .i64 l[j].n)) : GoodI l j := fun _ => ⟨.inl h3, fun i hij hie hsame => by
  rcases hsame with ⟨hk, _, hn⟩ | ⟨_, hk, _⟩
  · exact hs ⟨i, by omega, hij, hie, hk, by rw [hn]⟩
  · rw [h3] at hk; omega⟩
theorem list_inj {a b : ByteArray} (h : a.data.toList = b.data.toList) : a = b := by
  apply ByteArray.ext
  exact Array.toList_inj.1 h
theorem not_good_text (hl : j < l.length) (he : j % 2 = 0) (h5 : l[j].k = 5) (hs : ST l j (.string l[j].s.data.toList)) : ¬ GoodTo l (j + 2) := fun h => by
  obtain ⟨i, hi, hij, hie, hk, hx⟩ := hs
  injection hx with hx
  exact (h j (by omega) he hl).2 i hij hie (.inr ⟨hk, h5, (list_inj hx).symm⟩)
theorem good_text (hl : j < l.length) (h5 : l[j].k = 5) (hs : ¬ ST l j (.string l[j].s.data.toList)) : GoodI l j := fun _ => ⟨.inr h5, fun i hij hie hsame => by
  rcases hsame with ⟨_, hk, _⟩ | ⟨hk, _, hn⟩
  · rw [h5] at hk; omega
  · exact hs ⟨i, by omega, hij, hie, hk, by rw [hn]⟩⟩
theorem SN_same (he : j % 2 = 0) (h : ∀ hl : j < l.length, l[j].k ≠ 3) (x : Lit) : SN l (j + 2) x ↔ SN l j x := by
  constructor
  · rintro ⟨i, hi, hij, hie, hk, hx⟩
    by_cases e : i = j
    · subst e; exact (h hi hk).elim
    · exact ⟨i, hi, by omega, hie, hk, hx⟩
  · rintro ⟨i, hi, hij, hie, hk, hx⟩
    exact ⟨i, hi, by omega, hie, hk, hx⟩
theorem ST_same (he : j % 2 = 0) (h : ∀ hl : j < l.length, l[j].k ≠ 5) (x : Lit) : ST l (j + 2) x ↔ ST l j x := by
  constructor
  · rintro ⟨i, hi, hij, hie, hk, hx⟩
    by_cases e : i = j
    · subst e; exact (h hi hk).elim
    · exact ⟨i, hi, by omega, hie, hk, hx⟩
  · rintro ⟨i, hi, hij, hie, hk, hx⟩
    exact ⟨i, hi, by omega, hie, hk, hx⟩
theorem SN_more (hl : j < l.length) (he : j % 2 = 0) (h3 : l[j].k = 3) (x : Lit) : SN l (j + 2) x ↔ SN l j x ∨ x = .int .i64 l[j].n := by
  constructor
  · rintro ⟨i, hi, hij, hie, hk, hx⟩
    by_cases e : i = j
    · subst e; exact .inr hx
    · exact .inl ⟨i, hi, by omega, hie, hk, hx⟩
  · rintro (⟨i, hi, hij, hie, hk, hx⟩ | hx)
    · exact ⟨i, hi, by omega, hie, hk, hx⟩
    · exact ⟨j, hl, by omega, he, h3, hx⟩
theorem ST_more (hl : j < l.length) (he : j % 2 = 0) (h5 : l[j].k = 5) (x : Lit) : ST l (j + 2) x ↔ ST l j x ∨ x = .string l[j].s.data.toList := by
  constructor
  · rintro ⟨i, hi, hij, hie, hk, hx⟩
    by_cases e : i = j
    · subst e; exact .inr hx
    · exact .inl ⟨i, hi, by omega, hie, hk, hx⟩
  · rintro (⟨i, hi, hij, hie, hk, hx⟩ | hx)
    · exact ⟨i, hi, by omega, hie, hk, hx⟩
    · exact ⟨j, hl, by omega, he, h5, hx⟩
theorem Cnt.same {W : World} {kt et : TypeId} {b c : Nat} {S S' : Lit → Prop} (h : Cnt W kt et b c S) (hS : ∀ x, S' x ↔ S x) : Cnt W kt et b c S' := by
  obtain ⟨l, h1, h3, h4⟩ := h
  exact ⟨l, h1, h3, ⟨h4.nodup, fun x => (h4.mem x).trans (hS x).symm⟩⟩
end
end Go.Proofs.YtnaghafmpncdkaaDoor.node
/-
  impl.keysOk: whether the keys among keys and values are distinct texts and numbers.
-/
namespace Go.Proofs.YtnaghafmpncdkaaDoor.node
open Go.ChangeShapes Go.WideShapes Go.ChangeAt Go.RowKit
open Go.Proofs.YtnaghafmpncdkaaDoor.val
set_option maxRecDepth 100000

/-- The node of a key is neither a number's nor a text's. -/
theorem ta_other {k n e : Int} {s : ByteArray} {a : Option Addr} {m cap : Nat} {v : Value} (hv : nodeV k n e s (.slice a m cap) = some v) (h3 : k ≠ 3) (h5 : k ≠ 5) :
    (∀ w, (Instr.typeAssert v 143 173 true).run Tryd.prog w = .ok (.tuple #[.agg #[.int .i64 0], .bool false]) w) ∧ (∀ w, (Instr.typeAssert v 143 177 true).run Tryd.prog w = .ok (.tuple #[.agg #[.string ⟨#[]⟩], .bool false]) w) := by
  unfold nodeV at hv
  repeat' split at hv
  all_goals cases hv
  all_goals first
    | (exfalso; omega)
    | exact ⟨fun w => by kernel_rfl, fun w => by kernel_rfl⟩
theorem ta_nil : (∀ w, (Instr.typeAssert .nilIface 143 173 true).run Tryd.prog w = .ok (.tuple #[.agg #[.int .i64 0], .bool false]) w) ∧ (∀ w, (Instr.typeAssert .nilIface 143 177 true).run Tryd.prog w = .ok (.tuple #[.agg #[.string ⟨#[]⟩], .bool false]) w) :=
  ⟨fun w => by kernel_rfl, fun w => by kernel_rfl⟩
theorem ta_num (n : Int) (w : World) : (Instr.typeAssert (.iface 173 (.agg #[.int .i64 n])) 143 173 true).run Tryd.prog w = .ok (.tuple #[.agg #[.int .i64 n], .bool true]) w := by kernel_rfl
theorem ta_text0 (s : ByteArray) (w : World) : (Instr.typeAssert (.iface 177 (.agg #[.string s])) 143 173 true).run Tryd.prog w = .ok (.tuple #[.agg #[.int .i64 0], .bool false]) w := by kernel_rfl
theorem ta_text (s : ByteArray) (w : World) : (Instr.typeAssert (.iface 177 (.agg #[.string s])) 143 177 true).run Tryd.prog w = .ok (.tuple #[.agg #[.string s], .bool true]) w := by kernel_rfl
theorem kInt : Maps.Keyed Tryd.prog 3 := Maps.int_keyed Tryd.underlying3
theorem kStr : Maps.Keyed Tryd.prog 9 := Maps.string_keyed Tryd.underlying9
theorem zeroInt (w : World) : (zeroValue 3).run Tryd.prog w = .ok (.int .i64 0) w := by simp [zeroValue, go_sem, Tryd.t3]
/-- What keysOk carries along. -/
structure KInv (w' W : World) (l : List LT) (j N T : Nat) : Prop where
  nums : Cnt W 3 3 w'.heap.size N (SN l j)
  texts : Cnt W 9 3 (w'.heap.size + 1) T (ST l j)
  below : Below w'.heap.size w' W
  size : w'.heap.size + 2 ≤ W.heap.size
  tally : Tally l j N T
theorem KInv.later {w' W W' : World} {l : List LT} {j N T B : Nat} (h : KInv w' W l j N T) (hb : Below B W W') (hB : w'.heap.size + 2 ≤ B) : KInv w' W' l j N T :=
  ⟨h.nums.of_block (hb.block _ (by omega)), h.texts.of_block (hb.block _ (by omega)), h.below.trans (hb.mono (by omega)), Nat.le_trans h.size hb.size, h.tally⟩
theorem KInv.other {w' W : World} {l : List LT} {j N T : Nat} (h : KInv w' W l j N T) (hl : j < l.length) (he : j % 2 = 0) (h3 : l[j].k ≠ 3) (h5 : l[j].k ≠ 5) : KInv w' W l (j + 2) N T :=
  ⟨h.nums.same (SN_same he (fun _ => h3)), h.texts.same (ST_same he (fun _ => h5)), h.below, h.size, h.tally.bad (not_good_kind hl he h3 h5)⟩
theorem KInv.num {w' W W' : World} {l : List LT} {j N T N' : Nat} (h : KInv w' W l j N T) (hl : j < l.length) (he : j % 2 = 0) (h3 : l[j].k = 3) (hg : W.grownBy W' (some w'.heap.size)) (hc : Cnt W' 3 3 w'.heap.size N' (SN l (j + 2))) (h1 : SN l j (.int .i64 l[j].n) → N' = N) (h2 : ¬ SN l j (.int .i64 l[j].n) → N' = N + 1) : KInv w' W' l (j + 2) N' T := by
  refine ⟨hc, (h.texts.same (ST_same he (fun _ => by omega))).of_block (hg.block _ h.texts.lt (fun e => by injection e with e; omega)), h.below.grown hg h.below.size (fun k hk => by injection hk with hk; omega), Nat.le_trans h.size hg.size, ?_⟩
  by_cases hs : SN l j (.int .i64 l[j].n)
  · rw [h1 hs]; exact h.tally.bad (not_good_num hl he h3 hs)
  · rw [h2 hs]; exact h.tally.good he (by omega) (good_num hl h3 hs)
theorem KInv.text {w' W W' : World} {l : List LT} {j N T T' : Nat} (h : KInv w' W l j N T) (hl : j < l.length) (he : j % 2 = 0) (h5 : l[j].k = 5) (hg : W.grownBy W' (some (w'.heap.size + 1))) (hc : Cnt W' 9 3 (w'.heap.size + 1) T' (ST l (j + 2))) (h1 : ST l j (.string l[j].s.data.toList) → T' = T) (h2 : ¬ ST l j (.string l[j].s.data.toList) → T' = T + 1) : KInv w' W' l (j + 2) N T' := by
  refine ⟨(h.nums.same (SN_same he (fun _ => by omega))).of_block (hg.block _ h.nums.lt (fun e => by injection e with e; omega)), hc, h.below.grown hg h.below.size (fun k hk => by injection hk with hk; omega), Nat.le_trans h.size hg.size, ?_⟩
  by_cases hs : ST l j (.string l[j].s.data.toList)
  · rw [h1 hs]; exact h.tally.bad (not_good_text hl he h5 hs)
  · rw [h2 hs]; exact h.tally.good he (by omega) (good_text hl h5 hs)
theorem wf_of {n : Int} (h : InI n) : (Lit.int .i64 n).wf = true := by
  unfold InI at h
  simp [Lit.wf, IntKind.min, IntKind.max, IntKind.signed, IntKind.bits]
  omega
def KeysR (V : Prop) (w : World) (r : Ending) (w' : World) : Prop := ∃ b : Bool, r = .returned (.bool b) ∧ (b = true ↔ V) ∧ Below w.heap.size w w'
set_option maxHeartbeats 4000000 in
theorem keys_any (w : World) (B : Nat) (a : Option Addr) (cap : Nat) (kids : List LT) (hl : kids.length ≤ 1048576) (hev : kids.length % 2 = 0) (hin : ∀ i (h : i < kids.length), InI kids[i].n ∧ kids[i].s.size ≤ 9223372036854775807) (hc : ∀ i (h : i < kids.length), ∃ x, a = some x ∧ x.block < B ∧ At5 w (x.add (i * 5)) kids[i]) (w' : World) (hb : Below B w w') (hB : B ≤ w'.heap.size) :
    Calls Tryd.prog 200 #[.slice a kids.length cap] w' (KeysR (GoodTo kids kids.length) w') := by
  have HC := Lib.hid hc
  have HIN := Lib.hid hin
  have HB := Lib.hid hb
  have HEV := Lib.hid hev
  have hmm := @run_makeMap Tryd.prog
  have HI0 : Hid (KInv w' ((w'.alloc (.map #[] 0)).alloc (.map #[] 0)) kids 0 0 0) :=
    ⟨((Cnt.made w' 3 3).same (fun x => ⟨fun ⟨i, _, h, _⟩ => by omega, fun h => h.elim⟩)).of_block (Below.heap_alloc _ _ _ (by simp)),
     by have := (Cnt.made (w'.alloc (.map #[] 0)) 9 3).same (S' := ST kids 0) (fun x => ⟨fun ⟨i, _, h, _⟩ => by omega, fun h => h.elim⟩)
        simpa using this,
     ((Below.refl _ _).alloc (Nat.le_refl _) _).alloc (by simp) _, by simp, Tally.start kids⟩
  generalize hV : GoodTo kids kids.length = V
  have HV := Lib.hid hV
  clear hc hb hV hev hin
  go_enter Tryd.func200, Tryd.ntmps200
  go_wp2_with fail
  go_loopw [5] (fun i wr => ∃ (j N T : Nat), i = .int .i64 j ∧ j ≤ kids.length + 1 ∧ Hid (j % 2 = 0) ∧ Hid (KInv w' wr kids j N T)) (fun i _ => kids.length + 2 - (intOf i).toNat)
  case atStart => exact ⟨0, 0, 0, rfl, by omega, rfl, HI0⟩
  case round =>
    clear HI0
    obtain ⟨j, N, T, rfl, hj, HE, HI⟩ := hrel
    by_cases hlt : j < kids.length
    · have hj0 : (0 : Int) ≤ (j : Int) := by omega
      have hj1 : (j : Int) < (kids.length : Int) := by omega
      obtain ⟨x, rfl, hx, h5⟩ := HC.out j hlt
      obtain ⟨c0, c1, c2, c3, c4⟩ := h5.below (by rw [add_block]; exact hx) (HB.out.trans (HI.out.below.mono hB))
      have HO : Hid (kids[j].k ≠ 3 → kids[j].k ≠ 5 → ∀ W, KInv w' W kids j N T → KInv w' W kids (j + 2) N T) := fun h3 h5 W h => h.other hlt HE.out h3 h5
      have HN : Hid (kids[j].k = 3 → ∀ (W W' : World) (N' : Nat), KInv w' W kids j N T → W.grownBy W' (some w'.heap.size) → Cnt W' 3 3 w'.heap.size N' (SN kids (j + 2)) → (SN kids j (.int .i64 kids[j].n) → N' = N) → (¬ SN kids j (.int .i64 kids[j].n) → N' = N + 1) → KInv w' W' kids (j + 2) N' T) := fun h3 W W' N' h hg hc h1 h2 => h.num hlt HE.out h3 hg hc h1 h2
      have HS : Hid (kids[j].k = 5 → ∀ (W W' : World) (T' : Nat), KInv w' W kids j N T → W.grownBy W' (some (w'.heap.size + 1)) → Cnt W' 9 3 (w'.heap.size + 1) T' (ST kids (j + 2)) → (ST kids j (.string kids[j].s.data.toList) → T' = T) → (¬ ST kids j (.string kids[j].s.data.toList) → T' = T + 1) → KInv w' W' kids (j + 2) N T') := fun h5 W W' N' h hg hc h1 h2 => h.text hlt HE.out h5 hg hc h1 h2
      have HMN : Hid (kids[j].k = 3 → ∀ x, SN kids (j + 2) x ↔ SN kids j x ∨ x = .int .i64 kids[j].n) := fun h3 => SN_more hlt HE.out h3
      have HMT : Hid (kids[j].k = 5 → ∀ x, ST kids (j + 2) x ↔ ST kids j x ∨ x = .string kids[j].s.data.toList) := fun h5 => ST_more hlt HE.out h5
      have CN := nodeOf_any kids[j].k kids[j].n kids[j].e kids[j].s kids[j].a kids[j].kids.length kids[j].cap
      have CZ := nodeOf_none kids[j].k kids[j].n kids[j].e kids[j].s kids[j].a kids[j].kids.length kids[j].cap
      have HKN : Hid (keyOf Tryd.prog 3 (.int .i64 kids[j].n) = some (.int .i64 kids[j].n)) := Maps.keyOf_int_mk Tryd.underlying3 (wf_of (HIN.out j hlt).1)
      have HKT : Hid (keyOf Tryd.prog 9 (.string kids[j].s) = some (.string kids[j].s.data.toList)) := by
        unfold Hid
        simp [keyOf, Tryd.underlying9, mapKey]
        have := (HIN.out j hlt).2
        unfold maxLen
        omega
      have hrow : kids[j].row = .slice kids[j].a kids[j].kids.length kids[j].cap := rfl
      rw [hrow] at c4
      clear h5 hrow
      generalize kids[j].k = k at *
      generalize kids[j].n = n at *
      generalize kids[j].e = e at *
      generalize kids[j].s = s at *
      generalize kids[j].a = ka at *
      generalize kids[j].kids.length = km at *
      generalize kids[j].cap = kc at *
      have hsz := HI.out.size
      by_cases h3 : k = 3
      · subst h3
        replace CN := Lib.hid (CN _ rfl)
        replace HMN := Lib.hid (HMN.out rfl)
        replace HN := Lib.hid (HN.out rfl)
        have T1 := ta_num n
        clear CZ HO HS HMT
        go_wp2_with fail
        with_reducible refine (CN.out _).mono ?_
        rintro r w1 ⟨rfl, hb1⟩
        have HI1 := Lib.hid (HI.out.later hb1 hsz)
        have hz1 := Nat.le_trans hsz hb1.size
        clear hb1 CN HI c0 c1 c2 c3 c4
        have HIa := Lib.hid (HI1.out.later ((Below.refl w1.heap.size w1).alloc (Nat.le_refl _) (.cells #[.int .i64 n] 173)) hz1)
        obtain ⟨ml, hown, hmc, hmk⟩ := HIa.out.nums
        have hNm : N < 4000000 := by have := HI1.out.tally.le; omega
        go_wp2_with (first
          | (at_lookup; refine wpList_lookup_own_int _ rfl _ _ 248 rfl 3 3 .i64 kInt Tryd.underlying248 Tryd.underlying3 (zeroInt _) w'.heap.size N (.map ml) rfl hown _ _ rfl HKN.out ?_; intro c hat hwc)
          | (at_mapUpdate; refine wpList_mapUpdate_own _ rfl _ _ _ 248 rfl 3 3 kInt Tryd.underlying248 _ w'.heap.size N (.map ml) rfl hown (by unfold maxLen; omega) _ _ _ rfl rfl HKN.out _ [] (plainElem_int Tryd.underlying3 (wf64 _)) ?_; intro w2 hown2 hg2))
        obtain ⟨N', hc2, g1, g2⟩ := Cnt.store (S' := SN kids (j + 2)) (k := .int .i64 n) (show WideAt.IsKeyLit (.int .i64 n) from trivial) hmc hmk hown2 HMN.out
        have HI2 := Lib.hid (HN.out _ _ N' HIa.out hg2 hc2 g1 g2)
        exact ⟨⟨j + 2, N', T, by go_num, by omega, by have := HE.out; unfold Hid; omega, HI2⟩, by simp [intOf]; omega⟩
      · by_cases h5 : k = 5
        · subst h5
          replace CN := Lib.hid (CN _ rfl)
          replace HMT := Lib.hid (HMT.out rfl)
          replace HS := Lib.hid (HS.out rfl)
          have T0 := ta_text0 s
          have T1 := ta_text s
          clear CZ HO HN HMN
          go_wp2_with fail
          with_reducible refine (CN.out _).mono ?_
          rintro r w1 ⟨rfl, hb1⟩
          have HI1 := Lib.hid (HI.out.later hb1 hsz)
          have hz1 := Nat.le_trans hsz hb1.size
          clear hb1 CN HI c0 c1 c2 c3 c4
          have HIa := Lib.hid (HI1.out.later ((Below.refl w1.heap.size w1).alloc (Nat.le_refl _) (.cells #[.string s] 177)) hz1)
          obtain ⟨ml, hown, hmc, hmk⟩ := HIa.out.texts
          have hNm : T < 4000000 := by have := HI1.out.tally.le; omega
          go_wp2_with (first
            | (at_lookup; refine wpList_lookup_own_int _ rfl _ _ 249 rfl 9 3 .i64 kStr Tryd.underlying249 Tryd.underlying3 (zeroInt _) (w'.heap.size + 1) T (.map ml) rfl hown _ _ rfl HKT.out ?_; intro c hat hwc)
            | (at_mapUpdate; refine wpList_mapUpdate_own _ rfl _ _ _ 249 rfl 9 3 kStr Tryd.underlying249 _ (w'.heap.size + 1) T (.map ml) rfl hown (by unfold maxLen; omega) _ _ _ rfl rfl HKT.out _ [] (plainElem_int Tryd.underlying3 (wf64 _)) ?_; intro w2 hown2 hg2))
          obtain ⟨T', hc2, g1, g2⟩ := Cnt.store (S' := ST kids (j + 2)) (k := .string s.data.toList) (show WideAt.IsKeyLit (.string s.data.toList) from trivial) hmc hmk hown2 HMT.out
          have HI2 := Lib.hid (HS.out _ _ T' HIa.out hg2 hc2 g1 g2)
          exact ⟨⟨j + 2, N, T', by go_num, by omega, by have := HE.out; unfold Hid; omega, HI2⟩, by simp [intOf]; omega⟩
        · have HO2 := Lib.hid (HO.out h3 h5)
          clear HN HS HMN HMT HO HKN HKT
          cases hv : nodeV k n e s (.slice ka km kc) with
          | none =>
            replace CZ := Lib.hid (CZ hv)
            obtain ⟨T0, T1⟩ := ta_nil
            clear CN hv h3 h5
            go_wp2_with fail
            with_reducible refine (CZ.out _).mono ?_
            rintro r w1 ⟨rfl, hb1⟩
            have HI1 := Lib.hid (HO2.out _ (HI.out.later hb1 hsz))
            clear hb1 CZ HI c0 c1 c2 c3 c4
            go_wp2
            exact ⟨⟨j + 2, N, T, by go_num, by omega, by have := HE.out; unfold Hid; omega, HI1⟩, by simp [intOf]; omega⟩
          | some v =>
            obtain ⟨T0, T1⟩ := ta_other hv h3 h5
            replace CN := Lib.hid (CN v hv)
            clear CZ hv h3 h5
            go_wp2_with fail
            with_reducible refine (CN.out _).mono ?_
            rintro r w1 ⟨rfl, hb1⟩
            have HI1 := Lib.hid (HO2.out _ (HI.out.later hb1 hsz))
            clear hb1 CN HI c0 c1 c2 c3 c4
            go_wp2
            exact ⟨⟨j + 2, N, T, by go_num, by omega, by have := HE.out; unfold Hid; omega, HI1⟩, by simp [intOf]; omega⟩
    · have hj1 : ¬ (j : Int) < (kids.length : Int) := by omega
      have hje : j = kids.length := by have := HE.out; have := HEV.out; omega
      have hlN := HI.out.nums.len Tryd.underlying248
      have hlT := HI.out.texts.len Tryd.underlying249
      have hNT := HI.out.tally.le
      have HF : Hid ((2 * ((N : Int) + (T : Int)) == (kids.length : Int)) = true ↔ V) := by
        unfold Hid
        rw [← HV.out, beq_iff_eq]
        have h1 := HI.out.tally.iff
        have h2 := HEV.out
        rw [hje] at h1
        exact ⟨fun h => h1.1 (by omega), fun h => by have := h1.2 h; omega⟩
      have HBF := Lib.hid HI.out.below
      clear HI HC HB HIN hje
      go_wp2
      go_ret
      exact ⟨_, rfl, HF.out, HBF.out⟩
end Go.Proofs.YtnaghafmpncdkaaDoor.node
/-
  Contracts of Go's library at this seat's program: each a theorem that the kit proves over any program, laid here at this one.
-/
namespace Go.Proofs
open Go.Shelf
def Tryd.lays196_ren : Go.Shelf.Ren := ⟨fun | 196 => 135 | 259 => 143 | n => n, fun | 9 => 9 | 4 => 4 | 3 => 3 | 5 => 5 | 12 => 12 | 119 => 207 | 0 => 0 | 46 => 140 | 139 => 210 | 138 => 209 | 53 => 76 | n => n, fun | 3 => 6 | 4 => 7 | n => n⟩
theorem Tryd.lays196 : Go.Proofs.Lays.n196 Tryd.prog Tryd.lays196_ren := {
  mixed := by kernel_rfl
  f196 := Tryd.func135.trans (congrArg some (by kernel_rfl))
  f259 := Tryd.func143.trans (congrArg some (by kernel_rfl))
  t0 := Tryd.underlying0
  a0 := Tryd.isAgg0
  z0 := Tryd.sizeOf0
  v0 := Tryd.zeroValue0
  t3 := Tryd.underlying3
  a3 := Tryd.isAgg3
  z3 := Tryd.sizeOf3
  v3 := Tryd.zeroValue3
  t4 := Tryd.underlying4
  a4 := Tryd.isAgg4
  z4 := Tryd.sizeOf4
  v4 := Tryd.zeroValue4
  t5 := Tryd.underlying5
  a5 := Tryd.isAgg5
  z5 := Tryd.sizeOf5
  v5 := Tryd.zeroValue5
  t9 := Tryd.underlying9
  a9 := Tryd.isAgg9
  z9 := Tryd.sizeOf9
  v9 := Tryd.zeroValue9
  t12 := Tryd.underlying12
  a12 := Tryd.isAgg12
  z12 := Tryd.sizeOf12
  v12 := Tryd.zeroValue12
  t46 := Tryd.underlying140
  a46 := Tryd.isAgg140
  z46 := Tryd.sizeOf140
  v46 := Tryd.zeroValue140
  t53 := Tryd.underlying76
  a53 := Tryd.isAgg76
  z53 := Tryd.sizeOf76
  v53 := Tryd.zeroValue76
  t119 := Tryd.underlying207
  a119 := Tryd.isAgg207
  z119 := Tryd.sizeOf207
  t138 := Tryd.underlying209
  a138 := Tryd.isAgg209
  z138 := Tryd.sizeOf209
  v138 := Tryd.zeroValue209
  t139 := Tryd.underlying210
  a139 := Tryd.isAgg210
  z139 := Tryd.sizeOf210
  v139 := Tryd.zeroValue210
  g3 := by kernel_rfl
  g4 := by kernel_rfl }
open Go.RowKit Go.Lib in
theorem Tryd.utf8_ValidString (s : ByteArray) (w : World) (hs : s.size ≤ 9223372036854775807) (hT : Lib.Utf8Tabs 6 7 w) :
    Calls Tryd.prog 135 #[.string s] w fun e w' => e = .returned (.bool (Lib.validD s.data.toList)) ∧ Below w.heap.size w w' := Any.utf8_ValidString Tryd.lays196 s w hs hT
end Go.Proofs
/-
  What impl.TextOk returns: whether a text is valid. For texts of at most 1048576 bytes. The tables of unicode/utf8 are as the library lays them.
-/
namespace Go.Proofs.YtnaghafmpncdkaaDoor.signs
open Go.ChangeShapes Go.WideShapes Go.ChangeAt Go.RowKit
open Go.Proofs.YtnaghafmpncdkaaDoor.sign
set_option maxRecDepth 100000

abbrev Tabs (w : World) : Prop := Lib.Utf8Tabs 6 7 w
theorem tabs_below {w w' : World} (h : Tabs w) (hb : Below w.heap.size w w') : Tabs w' := by
  refine ⟨fun c hc => ?_, fun i hi => ⟨?_, ?_⟩⟩
  · have := h.1 c hc
    rw [hb.cell (World.block_lt_of_cell? w _ this)]; exact this
  · have := (h.2 i hi).1
    rw [hb.cell (World.block_lt_of_cell? w _ this)]; exact this
  · have := (h.2 i hi).2
    rw [hb.cell (World.block_lt_of_cell? w _ this)]; exact this
theorem impl_text (s : ByteArray) (w : World) (hs : s.size ≤ 1048576) (hT : Lib.Utf8Tabs 6 7 w) :
    Calls Tryd.prog 122 #[.string s] w fun e w' => e = .returned (.bool (textOk s)) ∧ Below w.heap.size w w' := by
  have c := Tryd.utf8_ValidString s w (by omega) hT
  rw [valid_eq] at c
  have C := Lib.hid c
  clear c hT
  generalize textOk s = r at *
  go_enter Tryd.func122, Tryd.ntmps122
  go_wp2_with fail
  with_reducible refine C.out.mono ?_
  rintro e w1 ⟨rfl, hb⟩
  go_wp2
  go_ret
  exact ⟨rfl, hb⟩

end Go.Proofs.YtnaghafmpncdkaaDoor.signs
