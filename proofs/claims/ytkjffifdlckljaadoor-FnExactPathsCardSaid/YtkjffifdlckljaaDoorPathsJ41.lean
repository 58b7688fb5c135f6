/-
  A map that a call has made, with places of values as keys and small numbers as elements: what a look-up answers, what a store leaves.
-/
import Derived.LaidEqlPtr
import Derived.Maps.Own
import Derived.Maps.OwnOps
import Derived.Test.YtkjffifdlckljaaDoorPathsJ18
namespace Go.Proofs.YtkjffifdlckljaaDoor.val
open Go.ChangeShapes Go.WideShapes Go.ChangeAt Go.RowKit
open Go.ChangeMaps (setBlock heap_setBlock_same heap_setBlock_other)
open Go.MapKept
set_option maxRecDepth 100000

/-- A place in plain memory. -/
def Solid (w : World) (hi : Nat) (a : Addr) : Prop := a.block < hi ∧ ∃ cs T, w.heap[a.block]? = some (.cells cs T (0, 0))
theorem Solid.kept {w w' : World} {hi : Nat} {a : Addr} (h : Solid w hi a) (hb : ∀ k, k < hi → w'.heap[k]? = w.heap[k]?) : Solid w' hi a := by
  obtain ⟨hl, cs, T, h⟩ := h
  exact ⟨hl, cs, T, (hb _ hl).trans h⟩
def seek (a : Addr) : List MapEntry → Nat → Option (Nat × Value)
  | [], _ => none
  | e :: es, i => match e.key with
    | .pointer (some b) => if a = b then some (i, e.val) else seek a es (i + 1)
    | _ => seek a es (i + 1)
def Keyd (w : World) (hi : Nat) (es : List MapEntry) : Prop := ∀ e ∈ es, ∃ b, e.key = .pointer (some b) ∧ Solid w hi b
theorem run_equal_ptr {P : Program} {kt te : TypeId} {j : TypeInfo} {w : World} {hi : Nat} (hu : P.underlying kt = some (.pointer te)) (hte : P.info? te = some j) (hsz : j.size ≠ 0) {a b : Addr} (ha : Solid w hi a) (hb : Solid w hi b) :
    (Op.equal kt (.pointer (some a)) (.pointer (some b))).run P w = .ok (decide (a = b)) w := by
  obtain ⟨_, ca, ta, ha⟩ := ha
  obtain ⟨_, cb, tb, hb⟩ := hb
  have h : ∀ d : Nat, (Op.equalIn (d + 1) kt (.pointer (some a)) (.pointer (some b))).run P w = .ok (decide (a = b)) w := fun d => by
    by_cases hab : a = b
    · subst hab
      simp [Op.equalIn, run_underlying hu, sizeOf, typeInfo, hte, run_sameAddr_same]
    · simp [Op.equalIn, run_underlying hu, sizeOf, typeInfo, hte, hsz, run_sameAddr_other w hab ha hb, hab]
  exact h 9999
theorem run_findAsking_ptr {P : Program} {kt te : TypeId} {j : TypeInfo} {w : World} {hi : Nat} (hu : P.underlying kt = some (.pointer te)) (hte : P.info? te = some j) (hsz : j.size ≠ 0) {a : Addr} (ha : Solid w hi a) :
    ∀ (es : List MapEntry) (i : Nat), Keyd w hi es → (Instr.findAsking kt (.pointer (some a)) es i).run P w = .ok (seek a es i) w
  | [], i, _ => by simp [Instr.findAsking, seek]
  | e :: es, i, h => by
    obtain ⟨b, hk, hb⟩ := h e (List.mem_cons_self ..)
    have ih := run_findAsking_ptr hu hte hsz ha es (i + 1) (fun x hx => h x (List.mem_cons_of_mem _ hx))
    unfold Instr.findAsking seek
    rw [Sem.run_bind, hk, run_equal_ptr hu hte hsz ha hb]
    by_cases hab : a = b
    · simp [hab]
    · simp [hab, ih]
theorem run_findKey_ptr {P : Program} {kt te : TypeId} {j : TypeInfo} {w : World} {hi : Nat} (hu : P.underlying kt = some (.pointer te)) (hte : P.info? te = some j) (hsz : j.size ≠ 0) {a : Addr} (ha : Solid w hi a) (es : List MapEntry) (h : Keyd w hi es) :
    (Instr.findKey kt (.pointer (some a)) es).run P w = .ok (seek a es 0) w := by
  unfold Instr.findKey
  rw [Sem.run_bind, run_underlying hu]
  cases es with
  | nil => simp [Instr.findNow, seek]
  | cons e es => simp [Instr.findNow, Instr.sameNow, run_findAsking_ptr hu hte hsz ha (e :: es) 0 h]
theorem run_checkKey_ptr {P : Program} {kt te : TypeId} {w : World} (hu : P.underlying kt = some (.pointer te)) (em : Bool) (n : Nat) (v : Value) : (Instr.checkKey em (n + 1) kt v).run P w = .ok () w := by
  unfold Instr.checkKey
  rw [Sem.run_bind, run_underlying hu]
  simp

theorem seek_push (a b : Addr) (v : Value) (c : Nat) : ∀ (es : List MapEntry) (i : Nat), seek a (es ++ [⟨.pointer (some b), v, c⟩]) i = match seek a es i with | some x => some x | none => if a = b then some (i + es.length, v) else none
  | [], i => by simp [seek]
  | e :: es, i => by
    have ih := seek_push a b v c es (i + 1)
    rw [List.cons_append]
    unfold seek
    split
    · split
      · rfl
      · rw [ih, List.length_cons, show i + 1 + es.length = i + (es.length + 1) by omega]
    · rw [ih, List.length_cons, show i + 1 + es.length = i + (es.length + 1) by omega]
theorem seek_at (a : Addr) : ∀ (es : List MapEntry) (i k : Nat) (v : Value), seek a es i = some (k, v) → ∃ j, k = i + j ∧ ∃ h : j < es.length, es[j].key = .pointer (some a) ∧ ∀ (b : Addr) (x : Value), seek b (es.set j ⟨.pointer (some a), x, es[j].born⟩) i = if b = a then some (k, x) else seek b es i
  | [], i, k, v, h => by simp [seek] at h
  | e :: es, i, k, v, h => by
    have step : seek a es (i + 1) = some (k, v) → (∀ b, e.key = .pointer (some b) → a ≠ b) → ∃ j, k = i + j ∧ ∃ h : j < (e :: es).length, (e :: es)[j].key = .pointer (some a) ∧ ∀ (b : Addr) (x : Value), seek b ((e :: es).set j ⟨.pointer (some a), x, (e :: es)[j].born⟩) i = if b = a then some (k, x) else seek b (e :: es) i := by
      intro h hne
      obtain ⟨j, hk, hj, h1, h2⟩ := seek_at a es (i + 1) k v h
      refine ⟨j + 1, by omega, by simpa using hj, by simpa using h1, fun b x => ?_⟩
      simp only [List.set_cons_succ, List.getElem_cons_succ]
      rw [seek, seek, h2 b x]
      split
      · rename_i c hc
        by_cases hbc : b = c
        · subst hbc
          have := hne b hc
          rw [if_pos rfl, if_pos rfl, if_neg (fun h => this h.symm)]
        · rw [if_neg hbc, if_neg hbc]
      · rfl
    unfold seek at h
    split at h
    · rename_i c hc
      split at h
      · rename_i hac
        subst hac
        obtain ⟨rfl, rfl⟩ := Prod.mk.inj (Option.some.inj h)
        refine ⟨0, rfl, by simp, hc, fun b x => ?_⟩
        simp only [List.set_cons_zero]
        rw [seek, seek, hc]
        simp only
        split <;> rfl
      · rename_i hac
        exact step h (fun b hb => by rw [hc] at hb; injection hb with hb; injection hb with hb; subst hb; exact hac)
    · rename_i hno
      exact step h (fun b hb => absurd hb (hno b))

/-- The map in block r answers by f: 0 where nothing is stored. -/
def MapIs (w : World) (hi r : Nat) (f : Addr → Int) : Prop := ∃ es clock, w.heap[r]? = some (.map es clock) ∧ Keyd w hi es.toList ∧ ∀ a, (seek a es.toList 0 = none ∧ f a = 0) ∨ ∃ k, seek a es.toList 0 = some (k, .int .i64 (f a))
def upd (f : Addr → Int) (a : Addr) (c : Int) : Addr → Int := fun b => if b = a then c else f b
theorem MapIs.lt {w : World} {hi r : Nat} {f : Addr → Int} (h : MapIs w hi r f) : r < w.heap.size := by
  obtain ⟨es, clock, h, _⟩ := h
  exact (Array.getElem?_eq_some_iff.1 h).1
theorem MapIs.kept {w w' : World} {hi r : Nat} {f : Addr → Int} (h : MapIs w hi r f) (hr : w'.heap[r]? = w.heap[r]?) (hs : ∀ k, k < hi → w'.heap[k]? = w.heap[k]?) : MapIs w' hi r f := by
  obtain ⟨es, clock, h1, h2, h3⟩ := h
  exact ⟨es, clock, hr.trans h1, fun e he => by obtain ⟨b, hk, hb⟩ := h2 e he; exact ⟨b, hk, hb.kept hs⟩, h3⟩
theorem MapIs.made (w : World) (hi : Nat) : MapIs (w.alloc (.map #[] 0)) hi w.heap.size (fun _ => 0) :=
  ⟨#[], 0, (MapKept.heap_alloc w _).1, fun e he => by simp at he, fun a => .inl ⟨by simp [seek], rfl⟩⟩
theorem MapIs.look {P : Program} {mt kt te et : TypeId} {j : TypeInfo} {w : World} {hi r : Nat} {f : Addr → Int} (h : MapIs w hi r f) (hm : P.underlying mt = some (.map kt et)) (hu : P.underlying kt = some (.pointer te)) (hte : P.info? te = some j) (hsz : j.size ≠ 0)
    (hz : (zeroValue et).run P w = .ok (.int .i64 0) w) {a : Addr} (ha : Solid w hi a) : (Instr.lookup mt (.map (some r)) (.pointer (some a)) false).run P w = .ok (.int .i64 (f a)) w := by
  obtain ⟨es, clock, h1, h2, h3⟩ := h
  unfold Instr.lookup
  rw [Sem.run_bind, run_underlying hm]
  rcases h3 a with ⟨h4, h5⟩ | ⟨k, h4⟩
  · simp [MapKept.run_getObj_map h1, run_checkKey_ptr hu, run_findKey_ptr hu hte hsz ha _ h2, h4, hz, h5, Result.andThen]
  · simp [MapKept.run_getObj_map h1, run_checkKey_ptr hu, run_findKey_ptr hu hte hsz ha _ h2, h4, Result.andThen]
theorem MapIs.store {P : Program} {mt kt te et : TypeId} {j : TypeInfo} {w : World} {hi r : Nat} {f : Addr → Int} (h : MapIs w hi r f) (hm : P.underlying mt = some (.map kt et)) (hu : P.underlying kt = some (.pointer te)) (hte : P.info? te = some j) (hsz : j.size ≠ 0)
    {a : Addr} (ha : Solid w hi a) (c : Int) (hc : c ≠ 0) : ∃ w', (Instr.mapUpdate mt (.map (some r)) (.pointer (some a)) (.int .i64 c)).run P w = .ok () w' ∧ MapIs w' hi r (upd f a c) ∧ w.grownBy w' (some r) ∧ w'.heap.size = w.heap.size := by
  obtain ⟨es, clock, h1, h2, h3⟩ := h
  have hsolid : ∀ o b, Solid w hi b → Solid (setBlock w r o) hi b := fun o b hb => by
    obtain ⟨hl, cs, T, hb⟩ := hb
    refine ⟨hl, cs, T, ?_⟩
    rw [heap_setBlock_other h1 _ (fun e => by rw [e, h1] at hb; cases hb)]
    exact hb
  have hg : ∀ o, w.grownBy (setBlock w r o) (some r) := fun o => ⟨rfl, rfl, rfl, by simp [setBlock], fun i _ hi => heap_setBlock_other h1 _ (fun e => hi (by rw [e]))⟩
  rcases h3 a with ⟨h4, h5⟩ | ⟨k, h4⟩
  · refine ⟨setBlock w r (.map (es.push ⟨.pointer (some a), .int .i64 c, clock⟩) (clock + 1)), ?_, ⟨_, _, heap_setBlock_same h1 _, ?_, ?_⟩, hg _, by simp [setBlock]⟩
    · unfold Instr.mapUpdate
      rw [Sem.run_bind, run_underlying hm]
      simp [MapKept.run_getObj_map h1, run_checkKey_ptr hu, run_findKey_ptr hu hte hsz ha _ h2, h4, MapKept.run_setObj_map _ h1, Result.andThen, setBlock]
    · intro e he
      simp only [Array.toList_push, List.mem_append, List.mem_singleton] at he
      rcases he with he | rfl
      · obtain ⟨b, hk, hb⟩ := h2 e he
        exact ⟨b, hk, hsolid _ _ hb⟩
      · exact ⟨a, rfl, hsolid _ _ ha⟩
    · intro b
      rw [Array.toList_push, seek_push]
      unfold upd
      by_cases hba : b = a
      · subst hba
        rw [h4, if_pos rfl, if_pos rfl]
        exact .inr ⟨_, rfl⟩
      · rw [if_neg hba, if_neg hba]
        rcases h3 b with ⟨h6, h7⟩ | ⟨k, h6⟩
        · exact .inl ⟨by rw [h6], h7⟩
        · exact .inr ⟨k, by rw [h6]⟩
  · obtain ⟨i, hki, hi, hkey, hset⟩ := seek_at a _ 0 k _ h4
    have hki' : k = i := by omega
    subst hki'
    have hi' : k < es.size := by simpa using hi
    have hmod : es.modify k (fun e => { e with key := .pointer (some a), val := .int .i64 c }) = es.set k ⟨.pointer (some a), .int .i64 c, es[k].born⟩ hi' := by
      apply Array.ext
      · simp
      · intro i h1 h2
        simp only [Array.getElem_modify, Array.getElem_set]
        split
        · rename_i e; subst e; rfl
        · rfl
    refine ⟨setBlock w r (.map (es.set k ⟨.pointer (some a), .int .i64 c, es[k].born⟩ hi') clock), ?_, ⟨_, _, heap_setBlock_same h1 _, ?_, ?_⟩, hg _, by simp [setBlock]⟩
    · unfold Instr.mapUpdate
      rw [Sem.run_bind, run_underlying hm]
      have hek : es[k].key = .pointer (some a) := by simpa using hkey
      simp [MapKept.run_getObj_map h1, run_checkKey_ptr hu, run_findKey_ptr hu hte hsz ha _ h2, h4, MapKept.run_setObj_map _ h1, Result.andThen, setBlock, Instr.keyThatStays, Instr.sameBits, hi', hek, hmod]
    · intro e he
      rw [Array.toList_set] at he
      rcases List.mem_or_eq_of_mem_set he with he | rfl
      · obtain ⟨b, hk, hb⟩ := h2 e he
        exact ⟨b, hk, hsolid _ _ hb⟩
      · exact ⟨a, rfl, hsolid _ _ ha⟩
    · intro b
      have hs := hset b (.int .i64 c)
      rw [Array.toList_set]
      have e1 : es.toList[k].born = es[k].born := by simp
      rw [e1] at hs
      rw [hs]
      unfold upd
      by_cases hba : b = a
      · rw [if_pos hba, if_pos hba]
        exact .inr ⟨_, rfl⟩
      · rw [if_neg hba, if_neg hba]
        exact h3 b
/-- The store at the operation, for the walk. -/
theorem wpList_store_ptr {P : Program} (w : World) {ops : Array Oper} {rest : List Oper} {o : Oper} {a : Act} {Q : Exit → Act → World → Prop}
    (hg : o.guard = none) (m x v : Operand) (t : TypeId) (hop : o.op = Op.mapUpdate t m x v) {kt te et : TypeId} {j : TypeInfo} {hi : Nat} (ht : P.underlying t = some (.map kt et)) (hu : P.underlying kt = some (.pointer te)) (hte : P.info? te = some j) (hsz : j.size ≠ 0)
    (r : Nat) (f : Addr → Int) (hm : a.eval m = .map (some r)) (h : MapIs w hi r f) (p : Addr) (c : Int) (hx : a.eval x = .pointer (some p)) (hv : a.eval v = .int .i64 c) (hp : Solid w hi p) (hc : c ≠ 0)
    (hK : ∀ w', MapIs w' hi r (upd f p c) → w.grownBy w' (some r) → w'.heap.size = w.heap.size → wpList P ops Q rest (a.put o.dst undef) w') :
    wpList P ops Q (o :: rest) a w := by
  refine wpList_plain hg fun K' hK' => ?_
  obtain ⟨w', hrun, r1, r2, r3⟩ := h.store ht hu hte hsz hp c hc
  unfold Oper.wp
  simp [execOp, hop, hm, hx, hv, hrun, Result.andThen]
  exact hK' _ _ (hK w' r1 r2 r3)

end Go.Proofs.YtkjffifdlckljaaDoor.val
