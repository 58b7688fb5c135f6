/-
  impl.nodeOk at a number: whether its own fields are valid.
-/
import Derived.Test.YthjholhjkahdkaaScaledWalk
import Derived.Test.YthjholhjkahdkaaCmpFields
import Derived.Test.YthjholhjkahdkaaFinite
namespace Go.Proofs.Ythjholhjkahdkaa.num
open Go.ChangeShapes Go.WideShapes Go.ChangeAt Go.RowKit
open Go.Proofs.Ythjholhjkahdkaa.val
set_option maxRecDepth 100000

theorem lt_heap {w : World} {k : Nat} {o : Obj} (h : w.heap[k]? = some o) : k < w.heap.size := (Array.getElem?_eq_some_iff.1 h).1
section
variable (n e : Int) (s : ByteArray) (a : Option Addr) (kids : List LT) (cap : Nat) (w : World)
theorem node_int : Calls Try.prog 53 #[.agg #[.int .i64 3, .int .i64 n, .int .i64 e, .string s, .slice a kids.length cap]] w fun r w' => r = .returned (.iface 87 (.agg #[.int .i64 n])) ∧ Below w.heap.size w w' := by
  go_enter Try.func53, Try.ntmps53
  go_wp2
  go_ret
  exact ⟨rfl, (Below.refl _ _).alloc (Nat.le_refl _) _⟩
theorem node_dec : Calls Try.prog 53 #[.agg #[.int .i64 4, .int .i64 n, .int .i64 e, .string s, .slice a kids.length cap]] w fun r w' => r = .returned (.iface 89 (.agg #[.int .i64 n, .int .i64 e])) ∧ Below w.heap.size w w' := by
  go_enter Try.func53, Try.ntmps53
  go_wp2
  go_ret
  exact ⟨rfl, (Below.refl _ _).alloc (Nat.le_refl _) _⟩
theorem ta_int : (Instr.typeAssert (.iface 87 (.agg #[.int .i64 n])) 76 87 true).run Try.prog w = .ok (.tuple #[.agg #[.int .i64 n], .bool true]) w := by kernel_rfl
theorem ta_not : (Instr.typeAssert (.iface 89 (.agg #[.int .i64 n, .int .i64 e])) 76 87 true).run Try.prog w = .ok (.tuple #[.agg #[.int .i64 0], .bool false]) w := by kernel_rfl
theorem ta_dec : (Instr.typeAssert (.iface 89 (.agg #[.int .i64 n, .int .i64 e])) 76 89 true).run Try.prog w = .ok (.tuple #[.agg #[.int .i64 n, .int .i64 e], .bool true]) w := by kernel_rfl
set_option maxHeartbeats 1000000 in
theorem without_int : Calls Try.prog 55 #[.agg #[.int .i64 3, .int .i64 n, .int .i64 e, .string s, .slice a kids.length cap]] w fun r w' => r = .returned (.agg #[.int .i64 3, .int .i64 0, .int .i64 e, .string s, .slice a kids.length cap]) ∧ Below w.heap.size w w' := by
  have C := Lib.hid (node_int n e s a kids cap)
  have T1 := ta_int n
  go_enter Try.func55, Try.ntmps55
  go_wp2_with fail
  with_reducible refine (C.out _).mono ?_
  rintro r w1 ⟨rfl, hb⟩
  have HB : Hid (Below w.heap.size w w1) := (((Below.refl w.heap.size w).alloc (Nat.le_refl _) _).alloc (by simp) _).trans (hb.mono (by simp; omega))
  have hx : w1.heap[w.heap.size]? = some (.cells #[.int .i64 3, .int .i64 n, .int .i64 e, .string s, .slice a kids.length cap] 26 (0, 0)) := (hb.block _ (by simp; omega)).trans ((Below.heap_alloc _ _ _ (by simp)).trans (heap_alloc_new w _))
  have hy : w1.heap[w.heap.size + 1]? = some (.cells #[.int .i64 0, .int .i64 0, .int .i64 0, .string ⟨#[]⟩, .slice none 0 0] 26 (0, 0)) := by
    refine (hb.block _ (by simp)).trans ?_
    have := heap_alloc_new (w.alloc (.cells #[.int .i64 3, .int .i64 n, .int .i64 e, .string s, .slice a kids.length cap] 26)) (.cells #[.int .i64 0, .int .i64 0, .int .i64 0, .string ⟨#[]⟩, .slice none 0 0] 26)
    simpa using this
  have hs1 : w.heap.size + 1 < w1.heap.size := (Array.getElem?_eq_some_iff.1 hy).1
  have c0 := cell_of_row w1 _ 0 _ _ (0, 0) hx
  have c1 := cell_of_row w1 _ 1 _ _ (0, 0) hx
  have c2 := cell_of_row w1 _ 2 _ _ (0, 0) hx
  have c3 := cell_of_row w1 _ 3 _ _ (0, 0) hx
  have c4 := cell_of_row w1 _ 4 _ _ (0, 0) hx
  have f1 := frozen_of_row w1 _ 1 _ _ hx
  have f2 := frozen_of_row w1 _ 2 _ _ hx
  have d0 := cell_of_row w1 _ 0 _ _ (0, 0) hy
  have d1 := cell_of_row w1 _ 1 _ _ (0, 0) hy
  have d2 := cell_of_row w1 _ 2 _ _ (0, 0) hy
  have d3 := cell_of_row w1 _ 3 _ _ (0, 0) hy
  have d4 := cell_of_row w1 _ 4 _ _ (0, 0) hy
  have g0 := frozen_of_row w1 _ 0 _ _ hy
  have g1 := frozen_of_row w1 _ 1 _ _ hy
  have g2 := frozen_of_row w1 _ 2 _ _ hy
  have g3 := frozen_of_row w1 _ 3 _ _ hy
  have g4 := frozen_of_row w1 _ 4 _ _ hy
  simp only [List.getElem?_toArray, List.getElem?_cons_succ, List.getElem?_cons_zero] at c0 c1 c2 c3 c4 d0 d1 d2 d3 d4
  have KB : Hid (Box (put5 (w1.setCell ⟨w.heap.size, 1, none⟩ (.int .i64 0)) (w.heap.size + 1) 0 (.mk 3 0 e s a cap kids)) (w.heap.size + 1) (.mk 3 0 e s a cap kids)) := put_box ((blk_other _ (by omega)).trans hy)
  have KL : Hid (Below w.heap.size w (put5 (w1.setCell ⟨w.heap.size, 1, none⟩ (.int .i64 0)) (w.heap.size + 1) 0 (.mk 3 0 e s a cap kids))) := put_below (HB.out.setCell (p := ⟨w.heap.size, 1, none⟩) (Nat.le_refl _) _) (Nat.le_succ _)
  clear hb hx hy
  go_wp2
  obtain ⟨k0, k1, k2, k3, k4⟩ := KB.out
  simp only [put5, Nat.zero_add, LT.row, LT.k, LT.n, LT.e, LT.s, LT.a, LT.cap, LT.kids] at k0 k1 k2 k3 k4
  refine bodyPost_ret (v := .agg #[.int .i64 3, .int .i64 0, .int .i64 e, .string s, .slice a kids.length cap]) (by simp [results, Try.results55, go_sem, k0, k1, k2, k3, k4]) rfl ?_
  exact ⟨rfl, KL.out⟩
set_option maxHeartbeats 1000000 in
theorem without_dec : Calls Try.prog 55 #[.agg #[.int .i64 4, .int .i64 n, .int .i64 e, .string s, .slice a kids.length cap]] w fun r w' => r = .returned (.agg #[.int .i64 4, .int .i64 0, .int .i64 0, .string s, .slice a kids.length cap]) ∧ Below w.heap.size w w' := by
  have C := Lib.hid (node_dec n e s a kids cap)
  have T1 := ta_not n e
  have T2 := ta_dec n e
  go_enter Try.func55, Try.ntmps55
  go_wp2_with fail
  with_reducible refine (C.out _).mono ?_
  rintro r w1 ⟨rfl, hb⟩
  have HB : Hid (Below w.heap.size w w1) := (((Below.refl w.heap.size w).alloc (Nat.le_refl _) _).alloc (by simp) _).trans (hb.mono (by simp; omega))
  have hx : w1.heap[w.heap.size]? = some (.cells #[.int .i64 4, .int .i64 n, .int .i64 e, .string s, .slice a kids.length cap] 26 (0, 0)) := (hb.block _ (by simp; omega)).trans ((Below.heap_alloc _ _ _ (by simp)).trans (heap_alloc_new w _))
  have hy : w1.heap[w.heap.size + 1]? = some (.cells #[.int .i64 0, .int .i64 0, .int .i64 0, .string ⟨#[]⟩, .slice none 0 0] 26 (0, 0)) := by
    refine (hb.block _ (by simp)).trans ?_
    have := heap_alloc_new (w.alloc (.cells #[.int .i64 4, .int .i64 n, .int .i64 e, .string s, .slice a kids.length cap] 26)) (.cells #[.int .i64 0, .int .i64 0, .int .i64 0, .string ⟨#[]⟩, .slice none 0 0] 26)
    simpa using this
  have hs1 : w.heap.size + 1 < w1.heap.size := (Array.getElem?_eq_some_iff.1 hy).1
  have c0 := cell_of_row w1 _ 0 _ _ (0, 0) hx
  have c1 := cell_of_row w1 _ 1 _ _ (0, 0) hx
  have c2 := cell_of_row w1 _ 2 _ _ (0, 0) hx
  have c3 := cell_of_row w1 _ 3 _ _ (0, 0) hx
  have c4 := cell_of_row w1 _ 4 _ _ (0, 0) hx
  have f1 := frozen_of_row w1 _ 1 _ _ hx
  have f2 := frozen_of_row w1 _ 2 _ _ hx
  have d0 := cell_of_row w1 _ 0 _ _ (0, 0) hy
  have d1 := cell_of_row w1 _ 1 _ _ (0, 0) hy
  have d2 := cell_of_row w1 _ 2 _ _ (0, 0) hy
  have d3 := cell_of_row w1 _ 3 _ _ (0, 0) hy
  have d4 := cell_of_row w1 _ 4 _ _ (0, 0) hy
  have g0 := frozen_of_row w1 _ 0 _ _ hy
  have g1 := frozen_of_row w1 _ 1 _ _ hy
  have g2 := frozen_of_row w1 _ 2 _ _ hy
  have g3 := frozen_of_row w1 _ 3 _ _ hy
  have g4 := frozen_of_row w1 _ 4 _ _ hy
  simp only [List.getElem?_toArray, List.getElem?_cons_succ, List.getElem?_cons_zero] at c0 c1 c2 c3 c4 d0 d1 d2 d3 d4
  have KB : Hid (Box (put5 ((w1.setCell ⟨w.heap.size, 1, none⟩ (.int .i64 0)).setCell ⟨w.heap.size, 2, none⟩ (.int .i64 0)) (w.heap.size + 1) 0 (.mk 4 0 0 s a cap kids)) (w.heap.size + 1) (.mk 4 0 0 s a cap kids)) := put_box ((blk_other _ (by omega)).trans ((blk_other _ (by omega)).trans hy))
  have KL : Hid (Below w.heap.size w (put5 ((w1.setCell ⟨w.heap.size, 1, none⟩ (.int .i64 0)).setCell ⟨w.heap.size, 2, none⟩ (.int .i64 0)) (w.heap.size + 1) 0 (.mk 4 0 0 s a cap kids))) := put_below ((HB.out.setCell (p := ⟨w.heap.size, 1, none⟩) (Nat.le_refl _) _).setCell (p := ⟨w.heap.size, 2, none⟩) (Nat.le_refl _) _) (Nat.le_succ _)
  clear hb hx hy
  go_wp2
  obtain ⟨k0, k1, k2, k3, k4⟩ := KB.out
  simp only [put5, Nat.zero_add, LT.row, LT.k, LT.n, LT.e, LT.s, LT.a, LT.cap, LT.kids] at k0 k1 k2 k3 k4
  refine bodyPost_ret (v := .agg #[.int .i64 4, .int .i64 0, .int .i64 0, .string s, .slice a kids.length cap]) (by simp [results, Try.results55, go_sem, k0, k1, k2, k3, k4]) rfl ?_
  exact ⟨rfl, KL.out⟩
theorem fields_int : Calls Try.prog 84 #[.agg #[.int .i64 n]] w fun r w' => r = .returned (.bool true) ∧ Below w.heap.size w w' := by
  go_enter Try.func84, Try.ntmps84
  go_wp2
  go_ret
  exact ⟨rfl, (Below.refl _ _).alloc (Nat.le_refl _) _⟩
end
theorem fields_dec (n e : Int) (w : World) : Calls Try.prog 85 #[.agg #[.int .i64 n, .int .i64 e]] w fun r w' => r = .returned (.bool (decOk n e)) ∧ Below w.heap.size w w' := by
  have HB := Lib.hid ((Below.refl w.heap.size w).alloc (Nat.le_refl _) (.cells #[.int .i64 n, .int .i64 e] 89))
  by_cases h1 : e < -20
  · have hf := Lib.hid (dec_no (n := n) (e := e) (by omega))
    go_enter Try.func85, Try.ntmps85
    go_wp2
    go_ret
    exact ⟨by rw [hf.out]; rfl, HB.out⟩
  · by_cases h2 : 20 < e
    · have hf := Lib.hid (dec_no (n := n) (e := e) (by omega))
      go_enter Try.func85, Try.ntmps85
      go_wp2
      go_ret
      exact ⟨by rw [hf.out]; rfl, HB.out⟩
    · by_cases h3 : e = 0
      · subst h3
        have hf := Lib.hid (dec_no (n := n) (e := 0) (by omega))
        go_enter Try.func85, Try.ntmps85
        go_wp2
        go_ret
        exact ⟨by rw [hf.out]; rfl, HB.out⟩
      · by_cases h4 : n < -999999999999999999
        · have hf := Lib.hid (dec_no (n := n) (e := e) (by omega))
          go_enter Try.func85, Try.ntmps85
          go_wp2
          go_ret
          exact ⟨by rw [hf.out]; rfl, HB.out⟩
        · by_cases h5 : 999999999999999999 < n
          · have hf := Lib.hid (dec_no (n := n) (e := e) (by omega))
            go_enter Try.func85, Try.ntmps85
            go_wp2
            go_ret
            exact ⟨by rw [hf.out]; rfl, HB.out⟩
          · by_cases h6 : n.tmod 10 = 0
            · have hf := Lib.hid (dec_no (n := n) (e := e) (by omega))
              go_enter Try.func85, Try.ntmps85
              go_wp2
              go_ret
              exact ⟨by rw [hf.out]; rfl, HB.out⟩
            · have hf := Lib.hid (dec_is (n := n) (e := e) (by omega))
              by_cases h7 : e < 0
              · go_enter Try.func85, Try.ntmps85
                go_wp2
                go_ret
                exact ⟨by rw [hf.out, decide_eq_true h7]; rfl, HB.out⟩
              · obtain ⟨k, rfl⟩ : ∃ k : Nat, e = k := ⟨e.toNat, by omega⟩
                have CS := Lib.hid (fun W => scaled_any n k (by omega) W)
                have hf2 : Hid (decOk n k = !(scal n k).isSome) := by
                  unfold Hid
                  rw [hf.out, decide_eq_false h7, Int.toNat_natCast]
                  cases scal n k <;> rfl
                clear hf
                generalize scal n k = R at *
                go_enter Try.func85, Try.ntmps85
                go_wp2_with (go_at_call 18; with_reducible refine (CS.out _).mono ?_; rintro e w2 ⟨rfl, rfl⟩)
                go_ret
                exact ⟨by rw [hf2.out]; cases R <;> rfl, HB.out⟩

theorem method_int (n : Int) (w : World) : (method 228 87 (.agg #[.int .i64 n]) "loop.example/g00421/impl.fieldsOk").run Try.prog w = .ok (84, .agg #[.int .i64 n]) w := by kernel_rfl
theorem method_dec (n e : Int) (w : World) : (method 228 89 (.agg #[.int .i64 n, .int .i64 e]) "loop.example/g00421/impl.fieldsOk").run Try.prog w = .ok (85, .agg #[.int .i64 n, .int .i64 e]) w := by kernel_rfl
theorem first0 (l : List Int) : firstOf l = 0 ↔ ∀ x ∈ l, x = 0 := by
  induction l with
  | nil => simp [firstOf]
  | cons x l ih =>
    rw [firstOf]
    by_cases h : x = 0
    · rw [if_pos h, ih]
      simp [h]
    · rw [if_neg h]
      simp [h]
theorem cmpI_zero (a b : Int) : cmpI a b = 0 ↔ a = b := by
  unfold cmpI
  split
  · omega
  · split <;> omega
theorem cmpS_zero (a : ByteArray) : cmpS a ⟨#[]⟩ = 0 ↔ a.size = 0 := by
  have e : (⟨#[]⟩ : ByteArray).toList = [] := by rw [Lib.toList_data]
  unfold cmpS
  rw [e]
  have hl : a.toList.length = a.size := by rw [Lib.toList_data, Lib.size_eq]
  cases h : a.toList with
  | nil =>
    rw [h] at hl
    have h0 : a.size = 0 := hl.symm
    exact ⟨fun _ => h0, fun _ => rfl⟩
  | cons x l =>
    rw [h] at hl
    have h0 : a.size ≠ 0 := by simp only [List.length_cons] at hl; omega
    have hb : Op.bytesLess (x :: l) [] = false := by rw [Op.bytesLess]
    have hc : ((x :: l) == ([] : List UInt8)) = false := rfl
    rw [hb, hc]
    exact ⟨fun h => by simp at h, fun h => absurd h h0⟩
theorem cmpF_num (k e : Int) (s : ByteArray) (a : Option Addr) (kids : List LT) (cap : Nat) : (cmpF (.mk k 0 e s a cap kids) (.mk k 0 0 ⟨#[]⟩ none 0 []) == 0) = (decide (s.size = 0 ∧ kids.length = 0) && decide (e = 0)) := by
  rw [Bool.eq_iff_iff, beq_iff_eq, Bool.and_eq_true, decide_eq_true_eq, decide_eq_true_eq]
  have hf : cmpF (.mk k 0 e s a cap kids) (.mk k 0 0 ⟨#[]⟩ none 0 []) = firstOf [cmpI k k, cmpI 0 0, cmpI e 0, cmpS s ⟨#[]⟩, cmpI kids.length (0 : Nat)] := rfl
  rw [hf, first0]
  constructor
  · intro h
    have h1 := (cmpI_zero e 0).1 (h _ (by simp))
    have h2 := (cmpS_zero s).1 (h _ (by simp))
    have h3 := (cmpI_zero kids.length (0 : Nat)).1 (h _ (by simp))
    exact ⟨⟨h2, by omega⟩, h1⟩
  · rintro ⟨⟨h2, h3⟩, h1⟩ x hx
    simp only [List.mem_cons, List.not_mem_nil, or_false] at hx
    rcases hx with rfl | rfl | rfl | rfl | rfl
    · exact (cmpI_zero _ _).2 rfl
    · exact (cmpI_zero _ _).2 rfl
    · exact (cmpI_zero _ _).2 h1
    · exact (cmpS_zero _).2 h2
    · exact (cmpI_zero _ _).2 (by omega)
theorem num_int (n e : Int) (s : ByteArray) (a : Option Addr) (kids : List LT) (cap : Nat) : numOk (.mk 3 n e s a cap kids) = (decide (s.size = 0 ∧ kids.length = 0) && decide (e = 0)) := rfl
theorem num_dec (n e : Int) (s : ByteArray) (a : Option Addr) (kids : List LT) (cap : Nat) : numOk (.mk 4 n e s a cap kids) = (decide (s.size = 0 ∧ kids.length = 0) && decOk n e) := rfl
set_option maxHeartbeats 1000000 in
theorem ok_int (n e : Int) (s : ByteArray) (a : Option Addr) (kids : List LT) (cap : Nat) (w : World) : Calls Try.prog 46 #[.agg #[.int .i64 3, .int .i64 n, .int .i64 e, .string s, .slice a kids.length cap]] w fun r w' => r = .returned (.bool (numOk (.mk 3 n e s a cap kids))) ∧ Below w.heap.size w w' := by
  have C1 := Lib.hid (node_int n e s a kids cap)
  have C2 := Lib.hid (fields_int n)
  have C3 := Lib.hid (without_int n e s a kids cap)
  have C4 := Lib.hid (fun W => fields_any (.mk 3 0 e s a cap kids) (.mk 3 0 0 ⟨#[]⟩ none 0 []) W)
  simp only [LT.row, LT.k, LT.n, LT.e, LT.s, LT.a, LT.cap, LT.kids, List.length_nil] at C4
  have HV : Hid ((cmpF (.mk 3 0 e s a cap kids) (.mk 3 0 0 ⟨#[]⟩ none 0 []) == 0) = numOk (.mk 3 n e s a cap kids)) := by
    unfold Hid
    rw [cmpF_num, num_int]
  generalize numOk (.mk 3 n e s a cap kids) = V at *
  generalize cmpF (.mk 3 0 e s a cap kids) (.mk 3 0 0 ⟨#[]⟩ none 0 []) = C at *
  have M := method_int n
  go_enter Try.func46, Try.ntmps46
  go_wp2_with fail
  with_reducible refine (C1.out _).mono ?_
  rintro r w1 ⟨rfl, hb⟩
  have HB : Hid (Below w.heap.size w w1) := ((Below.refl w.heap.size w).alloc (Nat.le_refl _) _).trans (hb.mono (by simp))
  have HX : Hid (w1.heap[w.heap.size]? = some (.cells #[.int .i64 3, .int .i64 n, .int .i64 e, .string s, .slice a kids.length cap] 26 (0, 0))) := (hb.block _ (by simp)).trans (heap_alloc_new w _)
  clear hb
  go_wp2_with fail
  with_reducible refine (C2.out _).mono ?_
  rintro r w2 ⟨rfl, hb⟩
  have hx := (hb.block _ (lt_heap HX.out)).trans HX.out
  replace HB : Hid (Below w.heap.size w w2) := HB.out.trans (hb.mono HB.out.size)
  have c0 := cell_of_row w2 _ 0 _ _ (0, 0) hx
  have c1 := cell_of_row w2 _ 1 _ _ (0, 0) hx
  have c2 := cell_of_row w2 _ 2 _ _ (0, 0) hx
  have c3 := cell_of_row w2 _ 3 _ _ (0, 0) hx
  have c4 := cell_of_row w2 _ 4 _ _ (0, 0) hx
  simp only [List.getElem?_toArray, List.getElem?_cons_succ, List.getElem?_cons_zero] at c0 c1 c2 c3 c4
  have HX2 := Lib.hid hx
  clear hb HX hx
  go_wp2_with fail
  go_region_with (first
    | (go_at_call 55; refine (C3.out _).mono ?_; rintro r w3 ⟨rfl, hb3⟩
       have hx3 := ((hb3.block _ (lt_heap HX2.out)).trans HX2.out)
       have d0 := cell_of_row w3 _ 0 _ _ (0, 0) hx3
       simp only [List.getElem?_toArray, List.getElem?_cons_succ, List.getElem?_cons_zero] at d0
       have HB3 : Hid (Below w.heap.size w w3) := (belowN HB.out 1).trans (hb3.mono HB.out.size)
       clear hb3 hx3)
    | (go_at_call 54; refine (C4.out _).mono ?_; rintro r w4 ⟨rfl, hb4⟩
       have HB4 : Hid (Below w.heap.size w w4) := HB3.out.trans (hb4.mono HB3.out.size)
       clear hb4))
  all_goals
    go_wp2
    go_ret
    exact ⟨by rw [← HV.out]; rfl, HB4.out⟩
set_option maxHeartbeats 1000000 in
theorem ok_dec (n e : Int) (s : ByteArray) (a : Option Addr) (kids : List LT) (cap : Nat) (hd : decOk n e = true) (w : World) : Calls Try.prog 46 #[.agg #[.int .i64 4, .int .i64 n, .int .i64 e, .string s, .slice a kids.length cap]] w fun r w' => r = .returned (.bool (numOk (.mk 4 n e s a cap kids))) ∧ Below w.heap.size w w' := by
  have C1 := Lib.hid (node_dec n e s a kids cap)
  have C2 := fun W => fields_dec n e W
  rw [hd] at C2
  replace C2 := Lib.hid C2
  have C3 := Lib.hid (without_dec n e s a kids cap)
  have C4 := Lib.hid (fun W => fields_any (.mk 4 0 0 s a cap kids) (.mk 4 0 0 ⟨#[]⟩ none 0 []) W)
  simp only [LT.row, LT.k, LT.n, LT.e, LT.s, LT.a, LT.cap, LT.kids, List.length_nil] at C4
  have HV : Hid ((cmpF (.mk 4 0 0 s a cap kids) (.mk 4 0 0 ⟨#[]⟩ none 0 []) == 0) = numOk (.mk 4 n e s a cap kids)) := by
    unfold Hid
    rw [cmpF_num, num_dec, hd]
    rfl
  clear hd
  generalize numOk (.mk 4 n e s a cap kids) = V at *
  generalize cmpF (.mk 4 0 0 s a cap kids) (.mk 4 0 0 ⟨#[]⟩ none 0 []) = C at *
  have M := method_dec n e
  go_enter Try.func46, Try.ntmps46
  go_wp2_with fail
  with_reducible refine (C1.out _).mono ?_
  rintro r w1 ⟨rfl, hb⟩
  have HB : Hid (Below w.heap.size w w1) := ((Below.refl w.heap.size w).alloc (Nat.le_refl _) _).trans (hb.mono (by simp))
  have HX : Hid (w1.heap[w.heap.size]? = some (.cells #[.int .i64 4, .int .i64 n, .int .i64 e, .string s, .slice a kids.length cap] 26 (0, 0))) := (hb.block _ (by simp)).trans (heap_alloc_new w _)
  clear hb
  go_wp2_with fail
  with_reducible refine (C2.out _).mono ?_
  rintro r w2 ⟨rfl, hb⟩
  have hx := (hb.block _ (lt_heap HX.out)).trans HX.out
  replace HB : Hid (Below w.heap.size w w2) := HB.out.trans (hb.mono HB.out.size)
  have c0 := cell_of_row w2 _ 0 _ _ (0, 0) hx
  have c1 := cell_of_row w2 _ 1 _ _ (0, 0) hx
  have c2 := cell_of_row w2 _ 2 _ _ (0, 0) hx
  have c3 := cell_of_row w2 _ 3 _ _ (0, 0) hx
  have c4 := cell_of_row w2 _ 4 _ _ (0, 0) hx
  simp only [List.getElem?_toArray, List.getElem?_cons_succ, List.getElem?_cons_zero] at c0 c1 c2 c3 c4
  have HX2 := Lib.hid hx
  clear hb HX hx
  go_wp2_with fail
  go_region_with (first
    | (go_at_call 55; refine (C3.out _).mono ?_; rintro r w3 ⟨rfl, hb3⟩
       have hx3 := ((hb3.block _ (lt_heap HX2.out)).trans HX2.out)
       have d0 := cell_of_row w3 _ 0 _ _ (0, 0) hx3
       simp only [List.getElem?_toArray, List.getElem?_cons_succ, List.getElem?_cons_zero] at d0
       have HB3 : Hid (Below w.heap.size w w3) := (belowN HB.out 1).trans (hb3.mono HB.out.size)
       clear hb3 hx3)
    | (go_at_call 54; refine (C4.out _).mono ?_; rintro r w4 ⟨rfl, hb4⟩
       have HB4 : Hid (Below w.heap.size w w4) := HB3.out.trans (hb4.mono HB3.out.size)
       clear hb4))
  all_goals
    go_wp2
    go_ret
    exact ⟨by rw [← HV.out]; rfl, HB4.out⟩
theorem no_dec (n e : Int) (s : ByteArray) (a : Option Addr) (kids : List LT) (cap : Nat) (hd : decOk n e = false) (w : World) : Calls Try.prog 46 #[.agg #[.int .i64 4, .int .i64 n, .int .i64 e, .string s, .slice a kids.length cap]] w fun r w' => r = .returned (.bool (numOk (.mk 4 n e s a cap kids))) ∧ Below w.heap.size w w' := by
  have C1 := Lib.hid (node_dec n e s a kids cap)
  have C2 := fun W => fields_dec n e W
  rw [hd] at C2
  replace C2 := Lib.hid C2
  have HV : Hid (numOk (.mk 4 n e s a cap kids) = false) := by
    unfold Hid
    rw [num_dec, hd, Bool.and_false]
  clear hd
  have M := method_dec n e
  go_enter Try.func46, Try.ntmps46
  go_wp2_with fail
  with_reducible refine (C1.out _).mono ?_
  rintro r w1 ⟨rfl, hb⟩
  have HB : Hid (Below w.heap.size w w1) := ((Below.refl w.heap.size w).alloc (Nat.le_refl _) _).trans (hb.mono (by simp))
  clear hb
  go_wp2_with fail
  with_reducible refine (C2.out _).mono ?_
  rintro r w2 ⟨rfl, hb⟩
  replace HB : Hid (Below w.heap.size w w2) := HB.out.trans (hb.mono HB.out.size)
  clear hb
  go_wp2
  go_ret
  exact ⟨by rw [HV.out]; rfl, HB.out⟩
/-- impl.nodeOk at a number. -/
theorem node_ok (t : LT) (hk : t.k = 3 ∨ t.k = 4) (w : World) : Calls Try.prog 46 #[.agg #[.int .i64 t.k, .int .i64 t.n, .int .i64 t.e, .string t.s, t.row]] w fun r w' => r = .returned (.bool (numOk t)) ∧ Below w.heap.size w w' := by
  obtain ⟨k, n, e, s, a, cap, kids⟩ := t
  rcases hk with hk | hk
  · obtain rfl : k = 3 := hk
    exact ok_int n e s a kids cap w
  · obtain rfl : k = 4 := hk
    cases hd : decOk n e with
    | true => exact ok_dec n e s a kids cap hd w
    | false => exact no_dec n e s a kids cap hd w

end Go.Proofs.Ythjholhjkahdkaa.num
