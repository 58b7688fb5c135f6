/-
  impl.withoutUsed at every kind: the value with the fields zero that its kind uses.
-/
import Derived.Test.YtnaghafmpncdkaaDoorGetCborJ16
namespace Go.Proofs.YtnaghafmpncdkaaDoor.node
open Go.ChangeShapes Go.WideShapes Go.ChangeAt Go.RowKit
open Go.Proofs.YtnaghafmpncdkaaDoor.val Go.Proofs.YtnaghafmpncdkaaDoor.num
set_option maxRecDepth 100000
section
variable (n e : Int) (s : ByteArray) (a : Option Addr) (kids : List LT) (cap : Nat) (w : World)

set_option maxHeartbeats 1000000 in
theorem out_null : Calls Tryd.prog 110 #[.agg #[.int .i64 0, .int .i64 n, .int .i64 e, .string s, .slice a kids.length cap]] w fun r w' => r = .returned (.agg #[.int .i64 0, .int .i64 n, .int .i64 e, .string s, .slice a kids.length cap]) ∧ Below w.heap.size w w' := by
  have C := Lib.hid (fun W => nodeOf_any 0 n e s a kids.length cap _ rfl W)
  have Tint : ∀ W, (Instr.typeAssert (.iface 169 (.agg #[])) 143 173 true).run Tryd.prog W = .ok (.tuple #[.agg #[.int .i64 0], .bool false]) W := fun W => by kernel_rfl
  have Tdec : ∀ W, (Instr.typeAssert (.iface 169 (.agg #[])) 143 175 true).run Tryd.prog W = .ok (.tuple #[.agg #[.int .i64 0, .int .i64 0], .bool false]) W := fun W => by kernel_rfl
  have Ttext : ∀ W, (Instr.typeAssert (.iface 169 (.agg #[])) 143 177 true).run Tryd.prog W = .ok (.tuple #[.agg #[.string ⟨#[]⟩], .bool false]) W := fun W => by kernel_rfl
  have Tbytes : ∀ W, (Instr.typeAssert (.iface 169 (.agg #[])) 143 178 true).run Tryd.prog W = .ok (.tuple #[.agg #[.string ⟨#[]⟩], .bool false]) W := fun W => by kernel_rfl
  have Tlist : ∀ W, (Instr.typeAssert (.iface 169 (.agg #[])) 143 180 true).run Tryd.prog W = .ok (.tuple #[.agg #[.slice none 0 0], .bool false]) W := fun W => by kernel_rfl
  have Tmap : ∀ W, (Instr.typeAssert (.iface 169 (.agg #[])) 143 181 true).run Tryd.prog W = .ok (.tuple #[.agg #[.slice none 0 0], .bool false]) W := fun W => by kernel_rfl
  have Ttag : ∀ W, (Instr.typeAssert (.iface 169 (.agg #[])) 143 183 true).run Tryd.prog W = .ok (.tuple #[.agg #[.int .i64 0, .slice none 0 0], .bool false]) W := fun W => by kernel_rfl
  go_enter Tryd.func110, Tryd.ntmps110
  go_wp2_with fail
  with_reducible refine (C.out _).mono ?_
  rintro r w1 ⟨rfl, hb⟩
  have HB : Hid (Below w.heap.size w w1) := (((Below.refl w.heap.size w).alloc (Nat.le_refl _) _).alloc (by simp) _).trans (hb.mono (by simp; omega))
  have hx : w1.heap[w.heap.size]? = some (.cells #[.int .i64 0, .int .i64 n, .int .i64 e, .string s, .slice a kids.length cap] 24 (0, 0)) := (hb.block _ (by simp; omega)).trans ((Below.heap_alloc _ _ _ (by simp)).trans (heap_alloc_new w _))
  have hy : w1.heap[w.heap.size + 1]? = some (.cells #[.int .i64 0, .int .i64 0, .int .i64 0, .string ⟨#[]⟩, .slice none 0 0] 24 (0, 0)) := by
    refine (hb.block _ (by simp)).trans ?_
    have := heap_alloc_new (w.alloc (.cells #[.int .i64 0, .int .i64 n, .int .i64 e, .string s, .slice a kids.length cap] 24)) (.cells #[.int .i64 0, .int .i64 0, .int .i64 0, .string ⟨#[]⟩, .slice none 0 0] 24)
    simpa using this
  have hs1 : w.heap.size + 1 < w1.heap.size := (Array.getElem?_eq_some_iff.1 hy).1
  have c0 := cell_of_row w1 _ 0 _ _ (0, 0) hx
  have c1 := cell_of_row w1 _ 1 _ _ (0, 0) hx
  have c2 := cell_of_row w1 _ 2 _ _ (0, 0) hx
  have c3 := cell_of_row w1 _ 3 _ _ (0, 0) hx
  have c4 := cell_of_row w1 _ 4 _ _ (0, 0) hx
  have d0 := cell_of_row w1 _ 0 _ _ (0, 0) hy
  have d1 := cell_of_row w1 _ 1 _ _ (0, 0) hy
  have d2 := cell_of_row w1 _ 2 _ _ (0, 0) hy
  have d3 := cell_of_row w1 _ 3 _ _ (0, 0) hy
  have d4 := cell_of_row w1 _ 4 _ _ (0, 0) hy
  have g0 := frozen_of_row w1 _ 0 _ _ hy
  have g1 := frozen_of_row w1 _ 1 _ _ hy
  have g2 := frozen_of_row w1 _ 2 _ _ hy
  have g3 := frozen_of_row w1 _ 3 _ _ hy
  have g4 := frozen_of_row w1 _ 4 _ _ hy
  simp only [List.getElem?_toArray, List.getElem?_cons_succ, List.getElem?_cons_zero] at c0 c1 c2 c3 c4 d0 d1 d2 d3 d4
  have KB : Hid (Box (put5 w1 (w.heap.size + 1) 0 (.mk 0 n e s a cap kids)) (w.heap.size + 1) (.mk 0 n e s a cap kids)) := put_box hy
  have KL : Hid (Below w.heap.size w (put5 w1 (w.heap.size + 1) 0 (.mk 0 n e s a cap kids))) := put_below HB.out (Nat.le_succ _)
  clear hb hx hy
  go_wp2
  obtain ⟨k0, k1, k2, k3, k4⟩ := KB.out
  simp only [put5, Nat.zero_add, LT.row, LT.k, LT.n, LT.e, LT.s, LT.a, LT.cap, LT.kids, List.length_nil] at k0 k1 k2 k3 k4
  refine bodyPost_ret (v := .agg #[.int .i64 0, .int .i64 n, .int .i64 e, .string s, .slice a kids.length cap]) (by simp [results, Tryd.results110, go_sem, k0, k1, k2, k3, k4]) rfl ?_
  exact ⟨rfl, KL.out⟩

set_option maxHeartbeats 1000000 in
theorem out_false : Calls Tryd.prog 110 #[.agg #[.int .i64 1, .int .i64 n, .int .i64 e, .string s, .slice a kids.length cap]] w fun r w' => r = .returned (.agg #[.int .i64 1, .int .i64 n, .int .i64 e, .string s, .slice a kids.length cap]) ∧ Below w.heap.size w w' := by
  have C := Lib.hid (fun W => nodeOf_any 1 n e s a kids.length cap _ rfl W)
  have Tint : ∀ W, (Instr.typeAssert (.iface 170 (.agg #[])) 143 173 true).run Tryd.prog W = .ok (.tuple #[.agg #[.int .i64 0], .bool false]) W := fun W => by kernel_rfl
  have Tdec : ∀ W, (Instr.typeAssert (.iface 170 (.agg #[])) 143 175 true).run Tryd.prog W = .ok (.tuple #[.agg #[.int .i64 0, .int .i64 0], .bool false]) W := fun W => by kernel_rfl
  have Ttext : ∀ W, (Instr.typeAssert (.iface 170 (.agg #[])) 143 177 true).run Tryd.prog W = .ok (.tuple #[.agg #[.string ⟨#[]⟩], .bool false]) W := fun W => by kernel_rfl
  have Tbytes : ∀ W, (Instr.typeAssert (.iface 170 (.agg #[])) 143 178 true).run Tryd.prog W = .ok (.tuple #[.agg #[.string ⟨#[]⟩], .bool false]) W := fun W => by kernel_rfl
  have Tlist : ∀ W, (Instr.typeAssert (.iface 170 (.agg #[])) 143 180 true).run Tryd.prog W = .ok (.tuple #[.agg #[.slice none 0 0], .bool false]) W := fun W => by kernel_rfl
  have Tmap : ∀ W, (Instr.typeAssert (.iface 170 (.agg #[])) 143 181 true).run Tryd.prog W = .ok (.tuple #[.agg #[.slice none 0 0], .bool false]) W := fun W => by kernel_rfl
  have Ttag : ∀ W, (Instr.typeAssert (.iface 170 (.agg #[])) 143 183 true).run Tryd.prog W = .ok (.tuple #[.agg #[.int .i64 0, .slice none 0 0], .bool false]) W := fun W => by kernel_rfl
  go_enter Tryd.func110, Tryd.ntmps110
  go_wp2_with fail
  with_reducible refine (C.out _).mono ?_
  rintro r w1 ⟨rfl, hb⟩
  have HB : Hid (Below w.heap.size w w1) := (((Below.refl w.heap.size w).alloc (Nat.le_refl _) _).alloc (by simp) _).trans (hb.mono (by simp; omega))
  have hx : w1.heap[w.heap.size]? = some (.cells #[.int .i64 1, .int .i64 n, .int .i64 e, .string s, .slice a kids.length cap] 24 (0, 0)) := (hb.block _ (by simp; omega)).trans ((Below.heap_alloc _ _ _ (by simp)).trans (heap_alloc_new w _))
  have hy : w1.heap[w.heap.size + 1]? = some (.cells #[.int .i64 0, .int .i64 0, .int .i64 0, .string ⟨#[]⟩, .slice none 0 0] 24 (0, 0)) := by
    refine (hb.block _ (by simp)).trans ?_
    have := heap_alloc_new (w.alloc (.cells #[.int .i64 1, .int .i64 n, .int .i64 e, .string s, .slice a kids.length cap] 24)) (.cells #[.int .i64 0, .int .i64 0, .int .i64 0, .string ⟨#[]⟩, .slice none 0 0] 24)
    simpa using this
  have hs1 : w.heap.size + 1 < w1.heap.size := (Array.getElem?_eq_some_iff.1 hy).1
  have c0 := cell_of_row w1 _ 0 _ _ (0, 0) hx
  have c1 := cell_of_row w1 _ 1 _ _ (0, 0) hx
  have c2 := cell_of_row w1 _ 2 _ _ (0, 0) hx
  have c3 := cell_of_row w1 _ 3 _ _ (0, 0) hx
  have c4 := cell_of_row w1 _ 4 _ _ (0, 0) hx
  have d0 := cell_of_row w1 _ 0 _ _ (0, 0) hy
  have d1 := cell_of_row w1 _ 1 _ _ (0, 0) hy
  have d2 := cell_of_row w1 _ 2 _ _ (0, 0) hy
  have d3 := cell_of_row w1 _ 3 _ _ (0, 0) hy
  have d4 := cell_of_row w1 _ 4 _ _ (0, 0) hy
  have g0 := frozen_of_row w1 _ 0 _ _ hy
  have g1 := frozen_of_row w1 _ 1 _ _ hy
  have g2 := frozen_of_row w1 _ 2 _ _ hy
  have g3 := frozen_of_row w1 _ 3 _ _ hy
  have g4 := frozen_of_row w1 _ 4 _ _ hy
  simp only [List.getElem?_toArray, List.getElem?_cons_succ, List.getElem?_cons_zero] at c0 c1 c2 c3 c4 d0 d1 d2 d3 d4
  have KB : Hid (Box (put5 w1 (w.heap.size + 1) 0 (.mk 1 n e s a cap kids)) (w.heap.size + 1) (.mk 1 n e s a cap kids)) := put_box hy
  have KL : Hid (Below w.heap.size w (put5 w1 (w.heap.size + 1) 0 (.mk 1 n e s a cap kids))) := put_below HB.out (Nat.le_succ _)
  clear hb hx hy
  go_wp2
  obtain ⟨k0, k1, k2, k3, k4⟩ := KB.out
  simp only [put5, Nat.zero_add, LT.row, LT.k, LT.n, LT.e, LT.s, LT.a, LT.cap, LT.kids, List.length_nil] at k0 k1 k2 k3 k4
  refine bodyPost_ret (v := .agg #[.int .i64 1, .int .i64 n, .int .i64 e, .string s, .slice a kids.length cap]) (by simp [results, Tryd.results110, go_sem, k0, k1, k2, k3, k4]) rfl ?_
  exact ⟨rfl, KL.out⟩

set_option maxHeartbeats 1000000 in
theorem out_true : Calls Tryd.prog 110 #[.agg #[.int .i64 2, .int .i64 n, .int .i64 e, .string s, .slice a kids.length cap]] w fun r w' => r = .returned (.agg #[.int .i64 2, .int .i64 n, .int .i64 e, .string s, .slice a kids.length cap]) ∧ Below w.heap.size w w' := by
  have C := Lib.hid (fun W => nodeOf_any 2 n e s a kids.length cap _ rfl W)
  have Tint : ∀ W, (Instr.typeAssert (.iface 171 (.agg #[])) 143 173 true).run Tryd.prog W = .ok (.tuple #[.agg #[.int .i64 0], .bool false]) W := fun W => by kernel_rfl
  have Tdec : ∀ W, (Instr.typeAssert (.iface 171 (.agg #[])) 143 175 true).run Tryd.prog W = .ok (.tuple #[.agg #[.int .i64 0, .int .i64 0], .bool false]) W := fun W => by kernel_rfl
  have Ttext : ∀ W, (Instr.typeAssert (.iface 171 (.agg #[])) 143 177 true).run Tryd.prog W = .ok (.tuple #[.agg #[.string ⟨#[]⟩], .bool false]) W := fun W => by kernel_rfl
  have Tbytes : ∀ W, (Instr.typeAssert (.iface 171 (.agg #[])) 143 178 true).run Tryd.prog W = .ok (.tuple #[.agg #[.string ⟨#[]⟩], .bool false]) W := fun W => by kernel_rfl
  have Tlist : ∀ W, (Instr.typeAssert (.iface 171 (.agg #[])) 143 180 true).run Tryd.prog W = .ok (.tuple #[.agg #[.slice none 0 0], .bool false]) W := fun W => by kernel_rfl
  have Tmap : ∀ W, (Instr.typeAssert (.iface 171 (.agg #[])) 143 181 true).run Tryd.prog W = .ok (.tuple #[.agg #[.slice none 0 0], .bool false]) W := fun W => by kernel_rfl
  have Ttag : ∀ W, (Instr.typeAssert (.iface 171 (.agg #[])) 143 183 true).run Tryd.prog W = .ok (.tuple #[.agg #[.int .i64 0, .slice none 0 0], .bool false]) W := fun W => by kernel_rfl
  go_enter Tryd.func110, Tryd.ntmps110
  go_wp2_with fail
  with_reducible refine (C.out _).mono ?_
  rintro r w1 ⟨rfl, hb⟩
  have HB : Hid (Below w.heap.size w w1) := (((Below.refl w.heap.size w).alloc (Nat.le_refl _) _).alloc (by simp) _).trans (hb.mono (by simp; omega))
  have hx : w1.heap[w.heap.size]? = some (.cells #[.int .i64 2, .int .i64 n, .int .i64 e, .string s, .slice a kids.length cap] 24 (0, 0)) := (hb.block _ (by simp; omega)).trans ((Below.heap_alloc _ _ _ (by simp)).trans (heap_alloc_new w _))
  have hy : w1.heap[w.heap.size + 1]? = some (.cells #[.int .i64 0, .int .i64 0, .int .i64 0, .string ⟨#[]⟩, .slice none 0 0] 24 (0, 0)) := by
    refine (hb.block _ (by simp)).trans ?_
    have := heap_alloc_new (w.alloc (.cells #[.int .i64 2, .int .i64 n, .int .i64 e, .string s, .slice a kids.length cap] 24)) (.cells #[.int .i64 0, .int .i64 0, .int .i64 0, .string ⟨#[]⟩, .slice none 0 0] 24)
    simpa using this
  have hs1 : w.heap.size + 1 < w1.heap.size := (Array.getElem?_eq_some_iff.1 hy).1
  have c0 := cell_of_row w1 _ 0 _ _ (0, 0) hx
  have c1 := cell_of_row w1 _ 1 _ _ (0, 0) hx
  have c2 := cell_of_row w1 _ 2 _ _ (0, 0) hx
  have c3 := cell_of_row w1 _ 3 _ _ (0, 0) hx
  have c4 := cell_of_row w1 _ 4 _ _ (0, 0) hx
  have d0 := cell_of_row w1 _ 0 _ _ (0, 0) hy
  have d1 := cell_of_row w1 _ 1 _ _ (0, 0) hy
  have d2 := cell_of_row w1 _ 2 _ _ (0, 0) hy
  have d3 := cell_of_row w1 _ 3 _ _ (0, 0) hy
  have d4 := cell_of_row w1 _ 4 _ _ (0, 0) hy
  have g0 := frozen_of_row w1 _ 0 _ _ hy
  have g1 := frozen_of_row w1 _ 1 _ _ hy
  have g2 := frozen_of_row w1 _ 2 _ _ hy
  have g3 := frozen_of_row w1 _ 3 _ _ hy
  have g4 := frozen_of_row w1 _ 4 _ _ hy
  simp only [List.getElem?_toArray, List.getElem?_cons_succ, List.getElem?_cons_zero] at c0 c1 c2 c3 c4 d0 d1 d2 d3 d4
  have KB : Hid (Box (put5 w1 (w.heap.size + 1) 0 (.mk 2 n e s a cap kids)) (w.heap.size + 1) (.mk 2 n e s a cap kids)) := put_box hy
  have KL : Hid (Below w.heap.size w (put5 w1 (w.heap.size + 1) 0 (.mk 2 n e s a cap kids))) := put_below HB.out (Nat.le_succ _)
  clear hb hx hy
  go_wp2
  obtain ⟨k0, k1, k2, k3, k4⟩ := KB.out
  simp only [put5, Nat.zero_add, LT.row, LT.k, LT.n, LT.e, LT.s, LT.a, LT.cap, LT.kids, List.length_nil] at k0 k1 k2 k3 k4
  refine bodyPost_ret (v := .agg #[.int .i64 2, .int .i64 n, .int .i64 e, .string s, .slice a kids.length cap]) (by simp [results, Tryd.results110, go_sem, k0, k1, k2, k3, k4]) rfl ?_
  exact ⟨rfl, KL.out⟩

set_option maxHeartbeats 1000000 in
theorem out_int : Calls Tryd.prog 110 #[.agg #[.int .i64 3, .int .i64 n, .int .i64 e, .string s, .slice a kids.length cap]] w fun r w' => r = .returned (.agg #[.int .i64 3, .int .i64 0, .int .i64 e, .string s, .slice a kids.length cap]) ∧ Below w.heap.size w w' := by
  have C := Lib.hid (fun W => nodeOf_any 3 n e s a kids.length cap _ rfl W)
  have Tint : ∀ W, (Instr.typeAssert (.iface 173 (.agg #[.int .i64 n])) 143 173 true).run Tryd.prog W = .ok (.tuple #[.agg #[.int .i64 n], .bool true]) W := fun W => by kernel_rfl
  go_enter Tryd.func110, Tryd.ntmps110
  go_wp2_with fail
  with_reducible refine (C.out _).mono ?_
  rintro r w1 ⟨rfl, hb⟩
  have HB : Hid (Below w.heap.size w w1) := (((Below.refl w.heap.size w).alloc (Nat.le_refl _) _).alloc (by simp) _).trans (hb.mono (by simp; omega))
  have hx : w1.heap[w.heap.size]? = some (.cells #[.int .i64 3, .int .i64 n, .int .i64 e, .string s, .slice a kids.length cap] 24 (0, 0)) := (hb.block _ (by simp; omega)).trans ((Below.heap_alloc _ _ _ (by simp)).trans (heap_alloc_new w _))
  have hy : w1.heap[w.heap.size + 1]? = some (.cells #[.int .i64 0, .int .i64 0, .int .i64 0, .string ⟨#[]⟩, .slice none 0 0] 24 (0, 0)) := by
    refine (hb.block _ (by simp)).trans ?_
    have := heap_alloc_new (w.alloc (.cells #[.int .i64 3, .int .i64 n, .int .i64 e, .string s, .slice a kids.length cap] 24)) (.cells #[.int .i64 0, .int .i64 0, .int .i64 0, .string ⟨#[]⟩, .slice none 0 0] 24)
    simpa using this
  have hs1 : w.heap.size + 1 < w1.heap.size := (Array.getElem?_eq_some_iff.1 hy).1
  have c0 := cell_of_row w1 _ 0 _ _ (0, 0) hx
  have c1 := cell_of_row w1 _ 1 _ _ (0, 0) hx
  have c2 := cell_of_row w1 _ 2 _ _ (0, 0) hx
  have c3 := cell_of_row w1 _ 3 _ _ (0, 0) hx
  have c4 := cell_of_row w1 _ 4 _ _ (0, 0) hx
  have f1 := frozen_of_row w1 _ 1 _ _ hx
  have d0 := cell_of_row w1 _ 0 _ _ (0, 0) hy
  have d1 := cell_of_row w1 _ 1 _ _ (0, 0) hy
  have d2 := cell_of_row w1 _ 2 _ _ (0, 0) hy
  have d3 := cell_of_row w1 _ 3 _ _ (0, 0) hy
  have d4 := cell_of_row w1 _ 4 _ _ (0, 0) hy
  have g0 := frozen_of_row w1 _ 0 _ _ hy
  have g1 := frozen_of_row w1 _ 1 _ _ hy
  have g2 := frozen_of_row w1 _ 2 _ _ hy
  have g3 := frozen_of_row w1 _ 3 _ _ hy
  have g4 := frozen_of_row w1 _ 4 _ _ hy
  simp only [List.getElem?_toArray, List.getElem?_cons_succ, List.getElem?_cons_zero] at c0 c1 c2 c3 c4 d0 d1 d2 d3 d4
  have KB : Hid (Box (put5 (w1.setCell ⟨w.heap.size, 1, none⟩ (.int .i64 0)) (w.heap.size + 1) 0 (.mk 3 0 e s a cap kids)) (w.heap.size + 1) (.mk 3 0 e s a cap kids)) := put_box ((blk_other _ (by omega)).trans hy)
  have KL : Hid (Below w.heap.size w (put5 (w1.setCell ⟨w.heap.size, 1, none⟩ (.int .i64 0)) (w.heap.size + 1) 0 (.mk 3 0 e s a cap kids))) := put_below (HB.out.setCell (p := ⟨w.heap.size, 1, none⟩) (Nat.le_refl _) _) (Nat.le_succ _)
  clear hb hx hy
  go_wp2
  obtain ⟨k0, k1, k2, k3, k4⟩ := KB.out
  simp only [put5, Nat.zero_add, LT.row, LT.k, LT.n, LT.e, LT.s, LT.a, LT.cap, LT.kids, List.length_nil] at k0 k1 k2 k3 k4
  refine bodyPost_ret (v := .agg #[.int .i64 3, .int .i64 0, .int .i64 e, .string s, .slice a kids.length cap]) (by simp [results, Tryd.results110, go_sem, k0, k1, k2, k3, k4]) rfl ?_
  exact ⟨rfl, KL.out⟩

set_option maxHeartbeats 1000000 in
theorem out_dec : Calls Tryd.prog 110 #[.agg #[.int .i64 4, .int .i64 n, .int .i64 e, .string s, .slice a kids.length cap]] w fun r w' => r = .returned (.agg #[.int .i64 4, .int .i64 0, .int .i64 0, .string s, .slice a kids.length cap]) ∧ Below w.heap.size w w' := by
  have C := Lib.hid (fun W => nodeOf_any 4 n e s a kids.length cap _ rfl W)
  have Tint : ∀ W, (Instr.typeAssert (.iface 175 (.agg #[.int .i64 n, .int .i64 e])) 143 173 true).run Tryd.prog W = .ok (.tuple #[.agg #[.int .i64 0], .bool false]) W := fun W => by kernel_rfl
  have Tdec : ∀ W, (Instr.typeAssert (.iface 175 (.agg #[.int .i64 n, .int .i64 e])) 143 175 true).run Tryd.prog W = .ok (.tuple #[.agg #[.int .i64 n, .int .i64 e], .bool true]) W := fun W => by kernel_rfl
  go_enter Tryd.func110, Tryd.ntmps110
  go_wp2_with fail
  with_reducible refine (C.out _).mono ?_
  rintro r w1 ⟨rfl, hb⟩
  have HB : Hid (Below w.heap.size w w1) := (((Below.refl w.heap.size w).alloc (Nat.le_refl _) _).alloc (by simp) _).trans (hb.mono (by simp; omega))
  have hx : w1.heap[w.heap.size]? = some (.cells #[.int .i64 4, .int .i64 n, .int .i64 e, .string s, .slice a kids.length cap] 24 (0, 0)) := (hb.block _ (by simp; omega)).trans ((Below.heap_alloc _ _ _ (by simp)).trans (heap_alloc_new w _))
  have hy : w1.heap[w.heap.size + 1]? = some (.cells #[.int .i64 0, .int .i64 0, .int .i64 0, .string ⟨#[]⟩, .slice none 0 0] 24 (0, 0)) := by
    refine (hb.block _ (by simp)).trans ?_
    have := heap_alloc_new (w.alloc (.cells #[.int .i64 4, .int .i64 n, .int .i64 e, .string s, .slice a kids.length cap] 24)) (.cells #[.int .i64 0, .int .i64 0, .int .i64 0, .string ⟨#[]⟩, .slice none 0 0] 24)
    simpa using this
  have hs1 : w.heap.size + 1 < w1.heap.size := (Array.getElem?_eq_some_iff.1 hy).1
  have c0 := cell_of_row w1 _ 0 _ _ (0, 0) hx
  have c1 := cell_of_row w1 _ 1 _ _ (0, 0) hx
  have c2 := cell_of_row w1 _ 2 _ _ (0, 0) hx
  have c3 := cell_of_row w1 _ 3 _ _ (0, 0) hx
  have c4 := cell_of_row w1 _ 4 _ _ (0, 0) hx
  have f1 := frozen_of_row w1 _ 1 _ _ hx
  have f2 := frozen_of_row w1 _ 2 _ _ hx
  have d0 := cell_of_row w1 _ 0 _ _ (0, 0) hy
  have d1 := cell_of_row w1 _ 1 _ _ (0, 0) hy
  have d2 := cell_of_row w1 _ 2 _ _ (0, 0) hy
  have d3 := cell_of_row w1 _ 3 _ _ (0, 0) hy
  have d4 := cell_of_row w1 _ 4 _ _ (0, 0) hy
  have g0 := frozen_of_row w1 _ 0 _ _ hy
  have g1 := frozen_of_row w1 _ 1 _ _ hy
  have g2 := frozen_of_row w1 _ 2 _ _ hy
  have g3 := frozen_of_row w1 _ 3 _ _ hy
  have g4 := frozen_of_row w1 _ 4 _ _ hy
  simp only [List.getElem?_toArray, List.getElem?_cons_succ, List.getElem?_cons_zero] at c0 c1 c2 c3 c4 d0 d1 d2 d3 d4
  have KB : Hid (Box (put5 ((w1.setCell ⟨w.heap.size, 1, none⟩ (.int .i64 0)).setCell ⟨w.heap.size, 2, none⟩ (.int .i64 0)) (w.heap.size + 1) 0 (.mk 4 0 0 s a cap kids)) (w.heap.size + 1) (.mk 4 0 0 s a cap kids)) := put_box ((blk_other _ (by omega)).trans ((blk_other _ (by omega)).trans hy))
  have KL : Hid (Below w.heap.size w (put5 ((w1.setCell ⟨w.heap.size, 1, none⟩ (.int .i64 0)).setCell ⟨w.heap.size, 2, none⟩ (.int .i64 0)) (w.heap.size + 1) 0 (.mk 4 0 0 s a cap kids))) := put_below ((HB.out.setCell (p := ⟨w.heap.size, 1, none⟩) (Nat.le_refl _) _).setCell (p := ⟨w.heap.size, 2, none⟩) (Nat.le_refl _) _) (Nat.le_succ _)
  clear hb hx hy
  go_wp2
  obtain ⟨k0, k1, k2, k3, k4⟩ := KB.out
  simp only [put5, Nat.zero_add, LT.row, LT.k, LT.n, LT.e, LT.s, LT.a, LT.cap, LT.kids, List.length_nil] at k0 k1 k2 k3 k4
  refine bodyPost_ret (v := .agg #[.int .i64 4, .int .i64 0, .int .i64 0, .string s, .slice a kids.length cap]) (by simp [results, Tryd.results110, go_sem, k0, k1, k2, k3, k4]) rfl ?_
  exact ⟨rfl, KL.out⟩

set_option maxHeartbeats 1000000 in
theorem out_text : Calls Tryd.prog 110 #[.agg #[.int .i64 5, .int .i64 n, .int .i64 e, .string s, .slice a kids.length cap]] w fun r w' => r = .returned (.agg #[.int .i64 5, .int .i64 n, .int .i64 e, .string ⟨#[]⟩, .slice a kids.length cap]) ∧ Below w.heap.size w w' := by
  have C := Lib.hid (fun W => nodeOf_any 5 n e s a kids.length cap _ rfl W)
  have Tint : ∀ W, (Instr.typeAssert (.iface 177 (.agg #[.string s])) 143 173 true).run Tryd.prog W = .ok (.tuple #[.agg #[.int .i64 0], .bool false]) W := fun W => by kernel_rfl
  have Tdec : ∀ W, (Instr.typeAssert (.iface 177 (.agg #[.string s])) 143 175 true).run Tryd.prog W = .ok (.tuple #[.agg #[.int .i64 0, .int .i64 0], .bool false]) W := fun W => by kernel_rfl
  have Ttext : ∀ W, (Instr.typeAssert (.iface 177 (.agg #[.string s])) 143 177 true).run Tryd.prog W = .ok (.tuple #[.agg #[.string s], .bool true]) W := fun W => by kernel_rfl
  have Tbytes : ∀ W, (Instr.typeAssert (.iface 177 (.agg #[.string s])) 143 178 true).run Tryd.prog W = .ok (.tuple #[.agg #[.string ⟨#[]⟩], .bool false]) W := fun W => by kernel_rfl
  go_enter Tryd.func110, Tryd.ntmps110
  go_wp2_with fail
  with_reducible refine (C.out _).mono ?_
  rintro r w1 ⟨rfl, hb⟩
  have HB : Hid (Below w.heap.size w w1) := (((Below.refl w.heap.size w).alloc (Nat.le_refl _) _).alloc (by simp) _).trans (hb.mono (by simp; omega))
  have hx : w1.heap[w.heap.size]? = some (.cells #[.int .i64 5, .int .i64 n, .int .i64 e, .string s, .slice a kids.length cap] 24 (0, 0)) := (hb.block _ (by simp; omega)).trans ((Below.heap_alloc _ _ _ (by simp)).trans (heap_alloc_new w _))
  have hy : w1.heap[w.heap.size + 1]? = some (.cells #[.int .i64 0, .int .i64 0, .int .i64 0, .string ⟨#[]⟩, .slice none 0 0] 24 (0, 0)) := by
    refine (hb.block _ (by simp)).trans ?_
    have := heap_alloc_new (w.alloc (.cells #[.int .i64 5, .int .i64 n, .int .i64 e, .string s, .slice a kids.length cap] 24)) (.cells #[.int .i64 0, .int .i64 0, .int .i64 0, .string ⟨#[]⟩, .slice none 0 0] 24)
    simpa using this
  have hs1 : w.heap.size + 1 < w1.heap.size := (Array.getElem?_eq_some_iff.1 hy).1
  have c0 := cell_of_row w1 _ 0 _ _ (0, 0) hx
  have c1 := cell_of_row w1 _ 1 _ _ (0, 0) hx
  have c2 := cell_of_row w1 _ 2 _ _ (0, 0) hx
  have c3 := cell_of_row w1 _ 3 _ _ (0, 0) hx
  have c4 := cell_of_row w1 _ 4 _ _ (0, 0) hx
  have f3 := frozen_of_row w1 _ 3 _ _ hx
  have d0 := cell_of_row w1 _ 0 _ _ (0, 0) hy
  have d1 := cell_of_row w1 _ 1 _ _ (0, 0) hy
  have d2 := cell_of_row w1 _ 2 _ _ (0, 0) hy
  have d3 := cell_of_row w1 _ 3 _ _ (0, 0) hy
  have d4 := cell_of_row w1 _ 4 _ _ (0, 0) hy
  have g0 := frozen_of_row w1 _ 0 _ _ hy
  have g1 := frozen_of_row w1 _ 1 _ _ hy
  have g2 := frozen_of_row w1 _ 2 _ _ hy
  have g3 := frozen_of_row w1 _ 3 _ _ hy
  have g4 := frozen_of_row w1 _ 4 _ _ hy
  simp only [List.getElem?_toArray, List.getElem?_cons_succ, List.getElem?_cons_zero] at c0 c1 c2 c3 c4 d0 d1 d2 d3 d4
  have KB : Hid (Box (put5 (w1.setCell ⟨w.heap.size, 3, none⟩ (.string ⟨#[]⟩)) (w.heap.size + 1) 0 (.mk 5 n e ⟨#[]⟩ a cap kids)) (w.heap.size + 1) (.mk 5 n e ⟨#[]⟩ a cap kids)) := put_box ((blk_other _ (by omega)).trans hy)
  have KL : Hid (Below w.heap.size w (put5 (w1.setCell ⟨w.heap.size, 3, none⟩ (.string ⟨#[]⟩)) (w.heap.size + 1) 0 (.mk 5 n e ⟨#[]⟩ a cap kids))) := put_below (HB.out.setCell (p := ⟨w.heap.size, 3, none⟩) (Nat.le_refl _) _) (Nat.le_succ _)
  clear hb hx hy
  go_wp2
  obtain ⟨k0, k1, k2, k3, k4⟩ := KB.out
  simp only [put5, Nat.zero_add, LT.row, LT.k, LT.n, LT.e, LT.s, LT.a, LT.cap, LT.kids, List.length_nil] at k0 k1 k2 k3 k4
  refine bodyPost_ret (v := .agg #[.int .i64 5, .int .i64 n, .int .i64 e, .string ⟨#[]⟩, .slice a kids.length cap]) (by simp [results, Tryd.results110, go_sem, k0, k1, k2, k3, k4]) rfl ?_
  exact ⟨rfl, KL.out⟩

set_option maxHeartbeats 1000000 in
theorem out_bytes : Calls Tryd.prog 110 #[.agg #[.int .i64 6, .int .i64 n, .int .i64 e, .string s, .slice a kids.length cap]] w fun r w' => r = .returned (.agg #[.int .i64 6, .int .i64 n, .int .i64 e, .string ⟨#[]⟩, .slice a kids.length cap]) ∧ Below w.heap.size w w' := by
  have C := Lib.hid (fun W => nodeOf_any 6 n e s a kids.length cap _ rfl W)
  have Tint : ∀ W, (Instr.typeAssert (.iface 178 (.agg #[.string s])) 143 173 true).run Tryd.prog W = .ok (.tuple #[.agg #[.int .i64 0], .bool false]) W := fun W => by kernel_rfl
  have Tdec : ∀ W, (Instr.typeAssert (.iface 178 (.agg #[.string s])) 143 175 true).run Tryd.prog W = .ok (.tuple #[.agg #[.int .i64 0, .int .i64 0], .bool false]) W := fun W => by kernel_rfl
  have Ttext : ∀ W, (Instr.typeAssert (.iface 178 (.agg #[.string s])) 143 177 true).run Tryd.prog W = .ok (.tuple #[.agg #[.string ⟨#[]⟩], .bool false]) W := fun W => by kernel_rfl
  have Tbytes : ∀ W, (Instr.typeAssert (.iface 178 (.agg #[.string s])) 143 178 true).run Tryd.prog W = .ok (.tuple #[.agg #[.string s], .bool true]) W := fun W => by kernel_rfl
  go_enter Tryd.func110, Tryd.ntmps110
  go_wp2_with fail
  with_reducible refine (C.out _).mono ?_
  rintro r w1 ⟨rfl, hb⟩
  have HB : Hid (Below w.heap.size w w1) := (((Below.refl w.heap.size w).alloc (Nat.le_refl _) _).alloc (by simp) _).trans (hb.mono (by simp; omega))
  have hx : w1.heap[w.heap.size]? = some (.cells #[.int .i64 6, .int .i64 n, .int .i64 e, .string s, .slice a kids.length cap] 24 (0, 0)) := (hb.block _ (by simp; omega)).trans ((Below.heap_alloc _ _ _ (by simp)).trans (heap_alloc_new w _))
  have hy : w1.heap[w.heap.size + 1]? = some (.cells #[.int .i64 0, .int .i64 0, .int .i64 0, .string ⟨#[]⟩, .slice none 0 0] 24 (0, 0)) := by
    refine (hb.block _ (by simp)).trans ?_
    have := heap_alloc_new (w.alloc (.cells #[.int .i64 6, .int .i64 n, .int .i64 e, .string s, .slice a kids.length cap] 24)) (.cells #[.int .i64 0, .int .i64 0, .int .i64 0, .string ⟨#[]⟩, .slice none 0 0] 24)
    simpa using this
  have hs1 : w.heap.size + 1 < w1.heap.size := (Array.getElem?_eq_some_iff.1 hy).1
  have c0 := cell_of_row w1 _ 0 _ _ (0, 0) hx
  have c1 := cell_of_row w1 _ 1 _ _ (0, 0) hx
  have c2 := cell_of_row w1 _ 2 _ _ (0, 0) hx
  have c3 := cell_of_row w1 _ 3 _ _ (0, 0) hx
  have c4 := cell_of_row w1 _ 4 _ _ (0, 0) hx
  have f3 := frozen_of_row w1 _ 3 _ _ hx
  have d0 := cell_of_row w1 _ 0 _ _ (0, 0) hy
  have d1 := cell_of_row w1 _ 1 _ _ (0, 0) hy
  have d2 := cell_of_row w1 _ 2 _ _ (0, 0) hy
  have d3 := cell_of_row w1 _ 3 _ _ (0, 0) hy
  have d4 := cell_of_row w1 _ 4 _ _ (0, 0) hy
  have g0 := frozen_of_row w1 _ 0 _ _ hy
  have g1 := frozen_of_row w1 _ 1 _ _ hy
  have g2 := frozen_of_row w1 _ 2 _ _ hy
  have g3 := frozen_of_row w1 _ 3 _ _ hy
  have g4 := frozen_of_row w1 _ 4 _ _ hy
  simp only [List.getElem?_toArray, List.getElem?_cons_succ, List.getElem?_cons_zero] at c0 c1 c2 c3 c4 d0 d1 d2 d3 d4
  have KB : Hid (Box (put5 (w1.setCell ⟨w.heap.size, 3, none⟩ (.string ⟨#[]⟩)) (w.heap.size + 1) 0 (.mk 6 n e ⟨#[]⟩ a cap kids)) (w.heap.size + 1) (.mk 6 n e ⟨#[]⟩ a cap kids)) := put_box ((blk_other _ (by omega)).trans hy)
  have KL : Hid (Below w.heap.size w (put5 (w1.setCell ⟨w.heap.size, 3, none⟩ (.string ⟨#[]⟩)) (w.heap.size + 1) 0 (.mk 6 n e ⟨#[]⟩ a cap kids))) := put_below (HB.out.setCell (p := ⟨w.heap.size, 3, none⟩) (Nat.le_refl _) _) (Nat.le_succ _)
  clear hb hx hy
  go_wp2
  obtain ⟨k0, k1, k2, k3, k4⟩ := KB.out
  simp only [put5, Nat.zero_add, LT.row, LT.k, LT.n, LT.e, LT.s, LT.a, LT.cap, LT.kids, List.length_nil] at k0 k1 k2 k3 k4
  refine bodyPost_ret (v := .agg #[.int .i64 6, .int .i64 n, .int .i64 e, .string ⟨#[]⟩, .slice a kids.length cap]) (by simp [results, Tryd.results110, go_sem, k0, k1, k2, k3, k4]) rfl ?_
  exact ⟨rfl, KL.out⟩

set_option maxHeartbeats 1000000 in
theorem out_list : Calls Tryd.prog 110 #[.agg #[.int .i64 7, .int .i64 n, .int .i64 e, .string s, .slice a kids.length cap]] w fun r w' => r = .returned (.agg #[.int .i64 7, .int .i64 n, .int .i64 e, .string s, .slice none 0 0]) ∧ Below w.heap.size w w' := by
  have C := Lib.hid (fun W => nodeOf_any 7 n e s a kids.length cap _ rfl W)
  have Tint : ∀ W, (Instr.typeAssert (.iface 180 (.agg #[.slice a kids.length cap])) 143 173 true).run Tryd.prog W = .ok (.tuple #[.agg #[.int .i64 0], .bool false]) W := fun W => by kernel_rfl
  have Tdec : ∀ W, (Instr.typeAssert (.iface 180 (.agg #[.slice a kids.length cap])) 143 175 true).run Tryd.prog W = .ok (.tuple #[.agg #[.int .i64 0, .int .i64 0], .bool false]) W := fun W => by kernel_rfl
  have Ttext : ∀ W, (Instr.typeAssert (.iface 180 (.agg #[.slice a kids.length cap])) 143 177 true).run Tryd.prog W = .ok (.tuple #[.agg #[.string ⟨#[]⟩], .bool false]) W := fun W => by kernel_rfl
  have Tbytes : ∀ W, (Instr.typeAssert (.iface 180 (.agg #[.slice a kids.length cap])) 143 178 true).run Tryd.prog W = .ok (.tuple #[.agg #[.string ⟨#[]⟩], .bool false]) W := fun W => by kernel_rfl
  have Tlist : ∀ W, (Instr.typeAssert (.iface 180 (.agg #[.slice a kids.length cap])) 143 180 true).run Tryd.prog W = .ok (.tuple #[.agg #[.slice a kids.length cap], .bool true]) W := fun W => by kernel_rfl
  have Tmap : ∀ W, (Instr.typeAssert (.iface 180 (.agg #[.slice a kids.length cap])) 143 181 true).run Tryd.prog W = .ok (.tuple #[.agg #[.slice none 0 0], .bool false]) W := fun W => by kernel_rfl
  go_enter Tryd.func110, Tryd.ntmps110
  go_wp2_with fail
  with_reducible refine (C.out _).mono ?_
  rintro r w1 ⟨rfl, hb⟩
  have HB : Hid (Below w.heap.size w w1) := (((Below.refl w.heap.size w).alloc (Nat.le_refl _) _).alloc (by simp) _).trans (hb.mono (by simp; omega))
  have hx : w1.heap[w.heap.size]? = some (.cells #[.int .i64 7, .int .i64 n, .int .i64 e, .string s, .slice a kids.length cap] 24 (0, 0)) := (hb.block _ (by simp; omega)).trans ((Below.heap_alloc _ _ _ (by simp)).trans (heap_alloc_new w _))
  have hy : w1.heap[w.heap.size + 1]? = some (.cells #[.int .i64 0, .int .i64 0, .int .i64 0, .string ⟨#[]⟩, .slice none 0 0] 24 (0, 0)) := by
    refine (hb.block _ (by simp)).trans ?_
    have := heap_alloc_new (w.alloc (.cells #[.int .i64 7, .int .i64 n, .int .i64 e, .string s, .slice a kids.length cap] 24)) (.cells #[.int .i64 0, .int .i64 0, .int .i64 0, .string ⟨#[]⟩, .slice none 0 0] 24)
    simpa using this
  have hs1 : w.heap.size + 1 < w1.heap.size := (Array.getElem?_eq_some_iff.1 hy).1
  have c0 := cell_of_row w1 _ 0 _ _ (0, 0) hx
  have c1 := cell_of_row w1 _ 1 _ _ (0, 0) hx
  have c2 := cell_of_row w1 _ 2 _ _ (0, 0) hx
  have c3 := cell_of_row w1 _ 3 _ _ (0, 0) hx
  have c4 := cell_of_row w1 _ 4 _ _ (0, 0) hx
  have f4 := frozen_of_row w1 _ 4 _ _ hx
  have d0 := cell_of_row w1 _ 0 _ _ (0, 0) hy
  have d1 := cell_of_row w1 _ 1 _ _ (0, 0) hy
  have d2 := cell_of_row w1 _ 2 _ _ (0, 0) hy
  have d3 := cell_of_row w1 _ 3 _ _ (0, 0) hy
  have d4 := cell_of_row w1 _ 4 _ _ (0, 0) hy
  have g0 := frozen_of_row w1 _ 0 _ _ hy
  have g1 := frozen_of_row w1 _ 1 _ _ hy
  have g2 := frozen_of_row w1 _ 2 _ _ hy
  have g3 := frozen_of_row w1 _ 3 _ _ hy
  have g4 := frozen_of_row w1 _ 4 _ _ hy
  simp only [List.getElem?_toArray, List.getElem?_cons_succ, List.getElem?_cons_zero] at c0 c1 c2 c3 c4 d0 d1 d2 d3 d4
  have KB : Hid (Box (put5 (w1.setCell ⟨w.heap.size, 4, none⟩ (.slice none 0 0)) (w.heap.size + 1) 0 (.mk 7 n e s none 0 [])) (w.heap.size + 1) (.mk 7 n e s none 0 [])) := put_box ((blk_other _ (by omega)).trans hy)
  have KL : Hid (Below w.heap.size w (put5 (w1.setCell ⟨w.heap.size, 4, none⟩ (.slice none 0 0)) (w.heap.size + 1) 0 (.mk 7 n e s none 0 []))) := put_below (HB.out.setCell (p := ⟨w.heap.size, 4, none⟩) (Nat.le_refl _) _) (Nat.le_succ _)
  clear hb hx hy
  go_wp2
  obtain ⟨k0, k1, k2, k3, k4⟩ := KB.out
  simp only [put5, Nat.zero_add, LT.row, LT.k, LT.n, LT.e, LT.s, LT.a, LT.cap, LT.kids, List.length_nil] at k0 k1 k2 k3 k4
  refine bodyPost_ret (v := .agg #[.int .i64 7, .int .i64 n, .int .i64 e, .string s, .slice none 0 0]) (by simp [results, Tryd.results110, go_sem, k0, k1, k2, k3, k4]) rfl ?_
  exact ⟨rfl, KL.out⟩

set_option maxHeartbeats 1000000 in
theorem out_map : Calls Tryd.prog 110 #[.agg #[.int .i64 8, .int .i64 n, .int .i64 e, .string s, .slice a kids.length cap]] w fun r w' => r = .returned (.agg #[.int .i64 8, .int .i64 n, .int .i64 e, .string s, .slice none 0 0]) ∧ Below w.heap.size w w' := by
  have C := Lib.hid (fun W => nodeOf_any 8 n e s a kids.length cap _ rfl W)
  have Tint : ∀ W, (Instr.typeAssert (.iface 181 (.agg #[.slice a kids.length cap])) 143 173 true).run Tryd.prog W = .ok (.tuple #[.agg #[.int .i64 0], .bool false]) W := fun W => by kernel_rfl
  have Tdec : ∀ W, (Instr.typeAssert (.iface 181 (.agg #[.slice a kids.length cap])) 143 175 true).run Tryd.prog W = .ok (.tuple #[.agg #[.int .i64 0, .int .i64 0], .bool false]) W := fun W => by kernel_rfl
  have Ttext : ∀ W, (Instr.typeAssert (.iface 181 (.agg #[.slice a kids.length cap])) 143 177 true).run Tryd.prog W = .ok (.tuple #[.agg #[.string ⟨#[]⟩], .bool false]) W := fun W => by kernel_rfl
  have Tbytes : ∀ W, (Instr.typeAssert (.iface 181 (.agg #[.slice a kids.length cap])) 143 178 true).run Tryd.prog W = .ok (.tuple #[.agg #[.string ⟨#[]⟩], .bool false]) W := fun W => by kernel_rfl
  have Tlist : ∀ W, (Instr.typeAssert (.iface 181 (.agg #[.slice a kids.length cap])) 143 180 true).run Tryd.prog W = .ok (.tuple #[.agg #[.slice none 0 0], .bool false]) W := fun W => by kernel_rfl
  have Tmap : ∀ W, (Instr.typeAssert (.iface 181 (.agg #[.slice a kids.length cap])) 143 181 true).run Tryd.prog W = .ok (.tuple #[.agg #[.slice a kids.length cap], .bool true]) W := fun W => by kernel_rfl
  go_enter Tryd.func110, Tryd.ntmps110
  go_wp2_with fail
  with_reducible refine (C.out _).mono ?_
  rintro r w1 ⟨rfl, hb⟩
  have HB : Hid (Below w.heap.size w w1) := (((Below.refl w.heap.size w).alloc (Nat.le_refl _) _).alloc (by simp) _).trans (hb.mono (by simp; omega))
  have hx : w1.heap[w.heap.size]? = some (.cells #[.int .i64 8, .int .i64 n, .int .i64 e, .string s, .slice a kids.length cap] 24 (0, 0)) := (hb.block _ (by simp; omega)).trans ((Below.heap_alloc _ _ _ (by simp)).trans (heap_alloc_new w _))
  have hy : w1.heap[w.heap.size + 1]? = some (.cells #[.int .i64 0, .int .i64 0, .int .i64 0, .string ⟨#[]⟩, .slice none 0 0] 24 (0, 0)) := by
    refine (hb.block _ (by simp)).trans ?_
    have := heap_alloc_new (w.alloc (.cells #[.int .i64 8, .int .i64 n, .int .i64 e, .string s, .slice a kids.length cap] 24)) (.cells #[.int .i64 0, .int .i64 0, .int .i64 0, .string ⟨#[]⟩, .slice none 0 0] 24)
    simpa using this
  have hs1 : w.heap.size + 1 < w1.heap.size := (Array.getElem?_eq_some_iff.1 hy).1
  have c0 := cell_of_row w1 _ 0 _ _ (0, 0) hx
  have c1 := cell_of_row w1 _ 1 _ _ (0, 0) hx
  have c2 := cell_of_row w1 _ 2 _ _ (0, 0) hx
  have c3 := cell_of_row w1 _ 3 _ _ (0, 0) hx
  have c4 := cell_of_row w1 _ 4 _ _ (0, 0) hx
  have f4 := frozen_of_row w1 _ 4 _ _ hx
  have d0 := cell_of_row w1 _ 0 _ _ (0, 0) hy
  have d1 := cell_of_row w1 _ 1 _ _ (0, 0) hy
  have d2 := cell_of_row w1 _ 2 _ _ (0, 0) hy
  have d3 := cell_of_row w1 _ 3 _ _ (0, 0) hy
  have d4 := cell_of_row w1 _ 4 _ _ (0, 0) hy
  have g0 := frozen_of_row w1 _ 0 _ _ hy
  have g1 := frozen_of_row w1 _ 1 _ _ hy
  have g2 := frozen_of_row w1 _ 2 _ _ hy
  have g3 := frozen_of_row w1 _ 3 _ _ hy
  have g4 := frozen_of_row w1 _ 4 _ _ hy
  simp only [List.getElem?_toArray, List.getElem?_cons_succ, List.getElem?_cons_zero] at c0 c1 c2 c3 c4 d0 d1 d2 d3 d4
  have KB : Hid (Box (put5 (w1.setCell ⟨w.heap.size, 4, none⟩ (.slice none 0 0)) (w.heap.size + 1) 0 (.mk 8 n e s none 0 [])) (w.heap.size + 1) (.mk 8 n e s none 0 [])) := put_box ((blk_other _ (by omega)).trans hy)
  have KL : Hid (Below w.heap.size w (put5 (w1.setCell ⟨w.heap.size, 4, none⟩ (.slice none 0 0)) (w.heap.size + 1) 0 (.mk 8 n e s none 0 []))) := put_below (HB.out.setCell (p := ⟨w.heap.size, 4, none⟩) (Nat.le_refl _) _) (Nat.le_succ _)
  clear hb hx hy
  go_wp2
  obtain ⟨k0, k1, k2, k3, k4⟩ := KB.out
  simp only [put5, Nat.zero_add, LT.row, LT.k, LT.n, LT.e, LT.s, LT.a, LT.cap, LT.kids, List.length_nil] at k0 k1 k2 k3 k4
  refine bodyPost_ret (v := .agg #[.int .i64 8, .int .i64 n, .int .i64 e, .string s, .slice none 0 0]) (by simp [results, Tryd.results110, go_sem, k0, k1, k2, k3, k4]) rfl ?_
  exact ⟨rfl, KL.out⟩

set_option maxHeartbeats 1000000 in
theorem out_tag : Calls Tryd.prog 110 #[.agg #[.int .i64 9, .int .i64 n, .int .i64 e, .string s, .slice a kids.length cap]] w fun r w' => r = .returned (.agg #[.int .i64 9, .int .i64 0, .int .i64 e, .string s, .slice none 0 0]) ∧ Below w.heap.size w w' := by
  have C := Lib.hid (fun W => nodeOf_any 9 n e s a kids.length cap _ rfl W)
  have Tint : ∀ W, (Instr.typeAssert (.iface 183 (.agg #[.int .i64 n, .slice a kids.length cap])) 143 173 true).run Tryd.prog W = .ok (.tuple #[.agg #[.int .i64 0], .bool false]) W := fun W => by kernel_rfl
  have Tdec : ∀ W, (Instr.typeAssert (.iface 183 (.agg #[.int .i64 n, .slice a kids.length cap])) 143 175 true).run Tryd.prog W = .ok (.tuple #[.agg #[.int .i64 0, .int .i64 0], .bool false]) W := fun W => by kernel_rfl
  have Ttext : ∀ W, (Instr.typeAssert (.iface 183 (.agg #[.int .i64 n, .slice a kids.length cap])) 143 177 true).run Tryd.prog W = .ok (.tuple #[.agg #[.string ⟨#[]⟩], .bool false]) W := fun W => by kernel_rfl
  have Tbytes : ∀ W, (Instr.typeAssert (.iface 183 (.agg #[.int .i64 n, .slice a kids.length cap])) 143 178 true).run Tryd.prog W = .ok (.tuple #[.agg #[.string ⟨#[]⟩], .bool false]) W := fun W => by kernel_rfl
  have Tlist : ∀ W, (Instr.typeAssert (.iface 183 (.agg #[.int .i64 n, .slice a kids.length cap])) 143 180 true).run Tryd.prog W = .ok (.tuple #[.agg #[.slice none 0 0], .bool false]) W := fun W => by kernel_rfl
  have Tmap : ∀ W, (Instr.typeAssert (.iface 183 (.agg #[.int .i64 n, .slice a kids.length cap])) 143 181 true).run Tryd.prog W = .ok (.tuple #[.agg #[.slice none 0 0], .bool false]) W := fun W => by kernel_rfl
  have Ttag : ∀ W, (Instr.typeAssert (.iface 183 (.agg #[.int .i64 n, .slice a kids.length cap])) 143 183 true).run Tryd.prog W = .ok (.tuple #[.agg #[.int .i64 n, .slice a kids.length cap], .bool true]) W := fun W => by kernel_rfl
  go_enter Tryd.func110, Tryd.ntmps110
  go_wp2_with fail
  with_reducible refine (C.out _).mono ?_
  rintro r w1 ⟨rfl, hb⟩
  have HB : Hid (Below w.heap.size w w1) := (((Below.refl w.heap.size w).alloc (Nat.le_refl _) _).alloc (by simp) _).trans (hb.mono (by simp; omega))
  have hx : w1.heap[w.heap.size]? = some (.cells #[.int .i64 9, .int .i64 n, .int .i64 e, .string s, .slice a kids.length cap] 24 (0, 0)) := (hb.block _ (by simp; omega)).trans ((Below.heap_alloc _ _ _ (by simp)).trans (heap_alloc_new w _))
  have hy : w1.heap[w.heap.size + 1]? = some (.cells #[.int .i64 0, .int .i64 0, .int .i64 0, .string ⟨#[]⟩, .slice none 0 0] 24 (0, 0)) := by
    refine (hb.block _ (by simp)).trans ?_
    have := heap_alloc_new (w.alloc (.cells #[.int .i64 9, .int .i64 n, .int .i64 e, .string s, .slice a kids.length cap] 24)) (.cells #[.int .i64 0, .int .i64 0, .int .i64 0, .string ⟨#[]⟩, .slice none 0 0] 24)
    simpa using this
  have hs1 : w.heap.size + 1 < w1.heap.size := (Array.getElem?_eq_some_iff.1 hy).1
  have c0 := cell_of_row w1 _ 0 _ _ (0, 0) hx
  have c1 := cell_of_row w1 _ 1 _ _ (0, 0) hx
  have c2 := cell_of_row w1 _ 2 _ _ (0, 0) hx
  have c3 := cell_of_row w1 _ 3 _ _ (0, 0) hx
  have c4 := cell_of_row w1 _ 4 _ _ (0, 0) hx
  have f1 := frozen_of_row w1 _ 1 _ _ hx
  have f4 := frozen_of_row w1 _ 4 _ _ hx
  have d0 := cell_of_row w1 _ 0 _ _ (0, 0) hy
  have d1 := cell_of_row w1 _ 1 _ _ (0, 0) hy
  have d2 := cell_of_row w1 _ 2 _ _ (0, 0) hy
  have d3 := cell_of_row w1 _ 3 _ _ (0, 0) hy
  have d4 := cell_of_row w1 _ 4 _ _ (0, 0) hy
  have g0 := frozen_of_row w1 _ 0 _ _ hy
  have g1 := frozen_of_row w1 _ 1 _ _ hy
  have g2 := frozen_of_row w1 _ 2 _ _ hy
  have g3 := frozen_of_row w1 _ 3 _ _ hy
  have g4 := frozen_of_row w1 _ 4 _ _ hy
  simp only [List.getElem?_toArray, List.getElem?_cons_succ, List.getElem?_cons_zero] at c0 c1 c2 c3 c4 d0 d1 d2 d3 d4
  have KB : Hid (Box (put5 ((w1.setCell ⟨w.heap.size, 1, none⟩ (.int .i64 0)).setCell ⟨w.heap.size, 4, none⟩ (.slice none 0 0)) (w.heap.size + 1) 0 (.mk 9 0 e s none 0 [])) (w.heap.size + 1) (.mk 9 0 e s none 0 [])) := put_box ((blk_other _ (by omega)).trans ((blk_other _ (by omega)).trans hy))
  have KL : Hid (Below w.heap.size w (put5 ((w1.setCell ⟨w.heap.size, 1, none⟩ (.int .i64 0)).setCell ⟨w.heap.size, 4, none⟩ (.slice none 0 0)) (w.heap.size + 1) 0 (.mk 9 0 e s none 0 []))) := put_below ((HB.out.setCell (p := ⟨w.heap.size, 1, none⟩) (Nat.le_refl _) _).setCell (p := ⟨w.heap.size, 4, none⟩) (Nat.le_refl _) _) (Nat.le_succ _)
  clear hb hx hy
  go_wp2
  obtain ⟨k0, k1, k2, k3, k4⟩ := KB.out
  simp only [put5, Nat.zero_add, LT.row, LT.k, LT.n, LT.e, LT.s, LT.a, LT.cap, LT.kids, List.length_nil] at k0 k1 k2 k3 k4
  refine bodyPost_ret (v := .agg #[.int .i64 9, .int .i64 0, .int .i64 e, .string s, .slice none 0 0]) (by simp [results, Tryd.results110, go_sem, k0, k1, k2, k3, k4]) rfl ?_
  exact ⟨rfl, KL.out⟩

end
end Go.Proofs.YtnaghafmpncdkaaDoor.node
