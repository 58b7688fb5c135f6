/-
  impl.nodeOk by what its callees tell.
-/
import Derived.Test.YtkjffifdlckljaaDoorPathsJ28
import Derived.Test.YtkjffifdlckljaaDoorPathsJ29
import Derived.Test.YtkjffifdlckljaaDoorPathsJ16
namespace Go.Proofs.YtkjffifdlckljaaDoor.node
open Go.ChangeShapes Go.WideShapes Go.ChangeAt Go.RowKit
open Go.Proofs.YtkjffifdlckljaaDoor.val Go.Proofs.YtkjffifdlckljaaDoor.num
set_option maxRecDepth 100000

set_option maxHeartbeats 1000000 in
theorem nodeOk_gen (w : World) (t u : LT) (T : TypeId) (c : Value) (fn : FuncId) (F : Prop)
    (C1 : ∀ W, Calls Tryd.prog 117 #[.agg #[.int .i64 t.k, .int .i64 t.n, .int .i64 t.e, .string t.s, .slice t.a t.kids.length t.cap]] W fun r w' => r = .returned (.iface T c) ∧ Below W.heap.size W w')
    (M : ∀ W, (method 362 T c "loop.example/g00421/impl.fieldsOk").run Tryd.prog W = .ok (fn, c) W)
    (E : ∀ args W, (callFunc fn args).run Tryd.prog W = .ok (.enter fn args) W)
    (C2 : ∀ W, Below w.heap.size w W → Calls Tryd.prog fn #[c] W (OwnR F W))
    (C3 : ∀ W, Calls Tryd.prog 119 #[.agg #[.int .i64 t.k, .int .i64 t.n, .int .i64 t.e, .string t.s, .slice t.a t.kids.length t.cap]] W fun r w' => r = .returned (.agg #[.int .i64 t.k, .int .i64 u.n, .int .i64 u.e, .string u.s, .slice u.a u.kids.length u.cap]) ∧ Below W.heap.size W w')
    (hk : u.k = t.k) :
    Calls Tryd.prog 87 #[.agg #[.int .i64 t.k, .int .i64 t.n, .int .i64 t.e, .string t.s, .slice t.a t.kids.length t.cap]] w (OwnR (F ∧ cmpF u (.mk t.k 0 0 ⟨#[]⟩ none 0 []) = 0) w) := by
  have C4 := fun W => fields_any u (.mk t.k 0 0 ⟨#[]⟩ none 0 []) W
  have hru : u.row = .slice u.a u.kids.length u.cap := rfl
  rw [hk, hru] at C4
  have hr0 : (val.LT.mk t.k 0 0 ⟨#[]⟩ none 0 []).row = .slice none 0 0 := rfl
  rw [hr0] at C4
  have e1 : (val.LT.mk t.k 0 0 ⟨#[]⟩ none 0 []).k = t.k := rfl
  have e2 : (val.LT.mk t.k 0 0 ⟨#[]⟩ none 0 []).n = 0 := rfl
  have e3 : (val.LT.mk t.k 0 0 ⟨#[]⟩ none 0 []).e = 0 := rfl
  have e4 : (val.LT.mk t.k 0 0 ⟨#[]⟩ none 0 []).s = ⟨#[]⟩ := rfl
  rw [e1, e2, e3, e4] at C4
  replace C1 := Lib.hid C1
  replace C2 := Lib.hid C2
  replace C3 := Lib.hid C3
  replace C4 := Lib.hid C4
  generalize cmpF u (.mk t.k 0 0 ⟨#[]⟩ none 0 []) = C at *
  clear hk hru hr0 e1 e2 e3 e4
  generalize t.k = k at *
  generalize t.n = n at *
  generalize t.e = e at *
  generalize t.s = s at *
  generalize t.a = a at *
  generalize t.kids.length = m at *
  generalize t.cap = cap at *
  generalize u.n = n' at *
  generalize u.e = e' at *
  generalize u.s = s' at *
  generalize u.a = a' at *
  generalize u.kids.length = m' at *
  generalize u.cap = cap' at *
  go_enter Tryd.func87, Tryd.ntmps87
  go_wp2_with fail
  with_reducible refine (C1.out _).mono ?_
  rintro r w1 ⟨rfl, hb⟩
  have HB : Hid (Below w.heap.size w w1) := ((Below.refl w.heap.size w).alloc (Nat.le_refl _) _).trans (hb.mono (by simp))
  have HX : Hid (w1.heap[w.heap.size]? = some (.cells #[.int .i64 k, .int .i64 n, .int .i64 e, .string s, .slice a m cap] 24 (0, 0))) := (hb.block _ (by simp)).trans (heap_alloc_new w _)
  clear hb
  go_wp2_with fail
  with_reducible refine (C2.out _ HB.out).mono ?_
  rintro r w2 ⟨b, rfl, hbi, hb⟩
  have hx := (hb.block _ (lt_heap HX.out)).trans HX.out
  replace HB : Hid (Below w.heap.size w w2) := HB.out.trans (hb.mono HB.out.size)
  clear hb HX C1 C2
  cases b with
  | false =>
    have HF : Hid (¬ F) := fun hf => by have := hbi.2 hf; cases this
    clear hbi hx
    go_wp2
    go_ret
    exact ⟨false, rfl, ⟨fun h => (by cases h), fun h => (HF.out h.1).elim⟩, HB.out⟩
  | true =>
    have HD : Hid ((C == 0) = true ↔ F ∧ C = 0) := by
      unfold Hid
      rw [beq_iff_eq]
      exact ⟨fun h => ⟨hbi.1 rfl, h⟩, fun h => h.2⟩
    clear hbi
    have c0 := cell_of_row w2 _ 0 _ _ (0, 0) hx
    have c1 := cell_of_row w2 _ 1 _ _ (0, 0) hx
    have c2 := cell_of_row w2 _ 2 _ _ (0, 0) hx
    have c3 := cell_of_row w2 _ 3 _ _ (0, 0) hx
    have c4 := cell_of_row w2 _ 4 _ _ (0, 0) hx
    simp only [List.getElem?_toArray, List.getElem?_cons_succ, List.getElem?_cons_zero] at c0 c1 c2 c3 c4
    have HX2 := Lib.hid hx
    clear hx
    go_wp2_with fail
    go_region_with (first
      | (go_at_call 119; refine (C3.out _).mono ?_; rintro r w3 ⟨rfl, hb3⟩
         have hx3 := ((hb3.block _ (lt_heap HX2.out)).trans HX2.out)
         have d0 := cell_of_row w3 _ 0 _ _ (0, 0) hx3
         simp only [List.getElem?_toArray, List.getElem?_cons_succ, List.getElem?_cons_zero] at d0
         have HB3 : Hid (Below w.heap.size w w3) := (belowN HB.out 1).trans (hb3.mono HB.out.size)
         clear hb3 hx3)
      | (go_at_call 118; refine (C4.out _).mono ?_; rintro r w4 ⟨rfl, hb4⟩
         have HB4 : Hid (Below w.heap.size w w4) := HB3.out.trans (hb4.mono HB3.out.size)
         clear hb4))
    all_goals
      go_wp2
      go_ret
      exact ⟨_, rfl, HD.out, HB4.out⟩
end Go.Proofs.YtkjffifdlckljaaDoor.node
