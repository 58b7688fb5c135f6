/-
  impl's reader of CBOR behind the head of a word: the table of numbers, what getSimple returns.
-/
import Derived.Test.YtnaghafmpncdkaaDoorGetCborJ29
import Derived.Lib.LaidU8
namespace Go.Proofs.YtnaghafmpncdkaaDoor.simpTab
open Go.Lib Go.RowKit
set_option maxRecDepth 100000

def cells : Array Value := #[.int .u64 22, .int .u64 20, .int .u64 21]
/-- The table lies where the program's text lays it. -/
structure Tab (w : World) : Prop where
  block : ∃ t fr, w.heap[0]? = some (.cells cells t fr)
theorem Tab.lt {w : World} (h : Tab w) : 0 < w.heap.size := by
  obtain ⟨t, fr, h⟩ := h
  exact (Array.getElem?_eq_some_iff.1 h).1
theorem Tab.below {w w' : World} {B : Nat} (h : Tab w) (hB : 0 < B) (hb : Below B w w') : Tab w' := by
  obtain ⟨t, fr, h⟩ := h
  exact ⟨t, fr, by rw [hb.block _ hB]; exact h⟩
theorem Tab.only {w w' : World} {b : Nat} (h : Tab w) (hg : w.grownBy w' (some b)) (hb : 0 ≠ b) : Tab w' := by
  have hl := h.lt
  obtain ⟨t, fr, h⟩ := h
  exact ⟨t, fr, (hg.block _ hl (fun e => hb (by injection e))).trans h⟩
theorem Tab.alloc {w : World} (h : Tab w) (o : Obj) : Tab (w.alloc o) := by
  have hl := h.lt
  obtain ⟨t, fr, h⟩ := h
  exact ⟨t, fr, (Below.heap_alloc _ _ _ hl).trans h⟩
theorem Tab.drew {w : World} (h : Tab w) : Tab w.drew := ⟨h.block⟩
theorem of_laid {l : List (String × DataW Unit)} {w : World} (hL : laidMet Tryd.prog l w) (h1 : ("loop.example/g00421/impl.simpleNumbers", Rows.laid_loop_example_g00421_impl_simpleNumbers) ∈ l) : Tab w := by
  obtain ⟨g, t, cs, fuel, p, hg, hty, hvar, hd⟩ := laidMet.reads hL h1
  obtain rfl := Option.some.inj ((show Tryd.prog.globalNamed "loop.example/g00421/impl.simpleNumbers" = some 0 by kernel_rfl).symm.trans hg)
  obtain rfl := Option.some.inj ((show (Tryd.prog.globals[0]?).map (·.type) = some 116 by kernel_rfl).symm.trans hty)
  have hc : Tryd.prog.cellsOf 76 = 1 := by kernel_rfl
  have hct : Tryd.prog.cellsOf 116 = 3 := by kernel_rfl
  have hlen : cs.toList.length = 3 := by
    obtain ⟨xs, m, _, _, hlen, _⟩ := DataW.trod_array Tryd.underlying116 hd
    rw [hlen, hct]
  have el : ∀ (i : Nat) (hi : i < 3) (z : Int), ([DataW.lit (.int .u64 22), .lit (.int .u64 20), .lit (.int .u64 21)] : List (DataW Unit))[i]? = some (.lit (.int .u64 z)) → (cs.toList.drop (i * 1)).take 1 = [.int .u64 z] := by
    intro i hi z hab
    obtain ⟨fuel', d, q, hdi, he⟩ := array_elem Tryd.underlying116 hd i hi
    rw [hab] at hdi
    obtain rfl := Option.some.inj hdi
    rw [hc] at he
    obtain ⟨n, e1, e2, _⟩ := DataW.trod_int Tryd.underlying76 he
    rw [e1]
    injection e2 with e2 _
    injection e2 with e2
    injection e2 with _ e2
    rw [e2]
  have hcs : cs.toList = cells.toList := by
    have a0 := el 0 (by omega) _ rfl
    have a1 := el 1 (by omega) _ rfl
    have a2 := el 2 (by omega) _ rfl
    generalize cs.toList = L at *
    match L, hlen with
    | [x0, x1, x2], _ =>
      simp at a0 a1 a2
      simp [a0, a1, a2, cells]
  have hcs' : cs = cells := Array.toList_inj.1 hcs
  subst hcs'
  unfold World.var? at hvar
  rw [show Tryd.prog.globalNamed "loop.example/g00421/impl.simpleNumbers" = some 0 by kernel_rfl, Option.bind_some] at hvar
  split at hvar
  · next cs' t fr hh =>
    obtain rfl := Option.some.inj hvar
    exact ⟨t, fr, hh⟩
  · cases hvar
end Go.Proofs.YtnaghafmpncdkaaDoor.simpTab
namespace Go.Proofs.YtnaghafmpncdkaaDoor.cbor
open Go.ChangeShapes Go.WideShapes Go.ChangeAt Go.RowKit
open Go.Proofs.YtnaghafmpncdkaaDoor.val Go.Proofs.YtnaghafmpncdkaaDoor.head
set_option maxRecDepth 100000
theorem sidx (w : World) (i : Nat) (z : Int) (h : simpTab.cells[i]? = some (.int .u64 z)) (hi : i < 3) : (Instr.index 116 (.agg simpTab.cells) (.int .i64 (i : Int))).run Tryd.prog w = .ok (.int .u64 z) w := by
  have hs : Tryd.prog.cellsOf 76 = 1 := by kernel_rfl
  rcases (show i = 0 ∨ i = 1 ∨ i = 2 by omega) with rfl | rfl | rfl <;> simp [simpTab.cells] at h <;> subst h <;>
  simp [Instr.index, run_underlying Tryd.underlying116, asIntOf, go_sem, simpTab.cells]
set_option maxHeartbeats 4000000 in
theorem simp_yes (m n b k : Nat) (hk : (k = 0 ∧ n = 22) ∨ (k = 1 ∧ n = 20) ∨ (k = 2 ∧ n = 21)) (W : World) (hT : simpTab.Tab W) :
    Calls Tryd.prog 60 #[.pointer (some ⟨b, 0, none⟩), .agg #[.int .i64 m, .int .u64 n, .bool false]] W fun r w' => r = .returned (leaf k 0 ⟨#[]⟩) ∧ Below W.heap.size W w' := by
  have HB := Lib.hid (hbox W m n false)
  obtain ⟨t, fr, hg⟩ := ((hT.alloc (.cells #[.int .i64 m, .int .u64 n, .bool false] 87)).alloc (.cells #[.int .i64 0, .int .i64 0, .int .i64 0, .string ⟨#[]⟩, .slice none 0 0] 24)).block
  have HT := Lib.hid hg
  clear hg hT
  have x0 : ∀ w, (Instr.index 116 (.agg simpTab.cells) (.int .i64 0)).run Tryd.prog w = .ok (.int .u64 22) w := fun w => sidx w 0 22 rfl (by omega)
  have x1 : ∀ w, (Instr.index 116 (.agg simpTab.cells) (.int .i64 1)).run Tryd.prog w = .ok (.int .u64 20) w := fun w => sidx w 1 20 rfl (by omega)
  have x2 : ∀ w, (Instr.index 116 (.agg simpTab.cells) (.int .i64 2)).run Tryd.prog w = .ok (.int .u64 21) w := fun w => sidx w 2 21 rfl (by omega)
  rcases hk with ⟨rfl, rfl⟩ | ⟨rfl, rfl⟩ | ⟨rfl, rfl⟩
  · have HBF := Lib.hid (HB.out.alloc (by simp) (.cells #[.int .i64 0, .int .i64 0, .int .i64 0, .string ⟨#[]⟩, .slice none 0 0] 24))
    go_enter Tryd.func60, Tryd.ntmps60
    go_wp2_with (refine wpList_load_row rfl 116 _ rfl 0 rfl t _ fr _ HT.out Tryd.underlying116 rfl (by kernel_rfl) ?_)
    clear HT
    refine wp_loop_rounds 4 ?_
    repeat any_goals (rw [rounds_succ]; go_wp2)
    obtain ⟨k0, k1, k2, k3, k4⟩ := cells5 (W.alloc (.cells #[.int .i64 m, .int .u64 22, .bool false] 87)) (.int .i64 0) (.int .i64 0) (.int .i64 0) (.string ⟨#[]⟩) (.slice none 0 0) 24
    simp only [World.size_alloc] at k0 k1 k2 k3 k4
    refine bodyPost_ret (v := leaf 0 0 ⟨#[]⟩) (by simp [results, Tryd.results60, go_sem, k0, k1, k2, k3, k4, leaf]) rfl ?_
    exact ⟨rfl, HBF.out⟩
  · have HBF := Lib.hid (HB.out.alloc (by simp) (.cells #[.int .i64 1, .int .i64 0, .int .i64 0, .string ⟨#[]⟩, .slice none 0 0] 24))
    go_enter Tryd.func60, Tryd.ntmps60
    go_wp2_with (refine wpList_load_row rfl 116 _ rfl 0 rfl t _ fr _ HT.out Tryd.underlying116 rfl (by kernel_rfl) ?_)
    clear HT
    refine wp_loop_rounds 4 ?_
    repeat any_goals (rw [rounds_succ]; go_wp2)
    obtain ⟨k0, k1, k2, k3, k4⟩ := cells5 (W.alloc (.cells #[.int .i64 m, .int .u64 20, .bool false] 87)) (.int .i64 1) (.int .i64 0) (.int .i64 0) (.string ⟨#[]⟩) (.slice none 0 0) 24
    simp only [World.size_alloc] at k0 k1 k2 k3 k4
    refine bodyPost_ret (v := leaf 1 0 ⟨#[]⟩) (by simp [results, Tryd.results60, go_sem, k0, k1, k2, k3, k4, leaf]) rfl ?_
    exact ⟨rfl, HBF.out⟩
  · have HBF := Lib.hid (HB.out.alloc (by simp) (.cells #[.int .i64 2, .int .i64 0, .int .i64 0, .string ⟨#[]⟩, .slice none 0 0] 24))
    go_enter Tryd.func60, Tryd.ntmps60
    go_wp2_with (refine wpList_load_row rfl 116 _ rfl 0 rfl t _ fr _ HT.out Tryd.underlying116 rfl (by kernel_rfl) ?_)
    clear HT
    refine wp_loop_rounds 4 ?_
    repeat any_goals (rw [rounds_succ]; go_wp2)
    obtain ⟨k0, k1, k2, k3, k4⟩ := cells5 (W.alloc (.cells #[.int .i64 m, .int .u64 21, .bool false] 87)) (.int .i64 2) (.int .i64 0) (.int .i64 0) (.string ⟨#[]⟩) (.slice none 0 0) 24
    simp only [World.size_alloc] at k0 k1 k2 k3 k4
    refine bodyPost_ret (v := leaf 2 0 ⟨#[]⟩) (by simp [results, Tryd.results60, go_sem, k0, k1, k2, k3, k4, leaf]) rfl ?_
    exact ⟨rfl, HBF.out⟩
set_option maxHeartbeats 4000000 in
theorem simp_no (m n b : Nat) (s : ByteArray) (i c : Int) (h20 : n ≠ 20) (h21 : n ≠ 21) (h22 : n ≠ 22) (W : World) (h : CR W b s i false c) (hT : simpTab.Tab W) :
    Calls Tryd.prog 60 #[.pointer (some ⟨b, 0, none⟩), .agg #[.int .i64 m, .int .u64 n, .bool false]] W fun r w' => r = .returned (leaf 0 0 ⟨#[]⟩) ∧ CRet W w' b s i true c := by
  have hlt := h.lt
  obtain ⟨t, fr, hg⟩ := ((hT.alloc (.cells #[.int .i64 m, .int .u64 n, .bool false] 87)).alloc (.cells #[.int .i64 0, .int .i64 0, .int .i64 0, .string ⟨#[]⟩, .slice none 0 0] 24)).block
  have HT := Lib.hid hg
  clear hg hT
  have x0 : ∀ w, (Instr.index 116 (.agg simpTab.cells) (.int .i64 0)).run Tryd.prog w = .ok (.int .u64 22) w := fun w => sidx w 0 22 rfl (by omega)
  have x1 : ∀ w, (Instr.index 116 (.agg simpTab.cells) (.int .i64 1)).run Tryd.prog w = .ok (.int .u64 20) w := fun w => sidx w 1 20 rfl (by omega)
  have x2 : ∀ w, (Instr.index 116 (.agg simpTab.cells) (.int .i64 2)).run Tryd.prog w = .ok (.int .u64 21) w := fun w => sidx w 2 21 rfl (by omega)
  have e0 : ((n : Int) == 22) = false := by rw [beq_eq_false_iff_ne]; omega
  have e1 : ((n : Int) == 20) = false := by rw [beq_eq_false_iff_ne]; omega
  have e2 : ((n : Int) == 21) = false := by rw [beq_eq_false_iff_ne]; omega
  have c2 := h.c2
  have c3 := CR.c3 h
  have f2 := h.fr 2
  have HS := Lib.hid ((h.spoil.more (.cells #[.int .i64 m, .int .u64 n, .bool false] 87)).more (.cells #[.int .i64 0, .int .i64 0, .int .i64 0, .string ⟨#[]⟩, .slice none 0 0] 24))
  clear h h20 h21 h22
  go_enter Tryd.func60, Tryd.ntmps60
  go_wp2_with (refine wpList_load_row rfl 116 _ rfl 0 rfl t _ fr _ HT.out Tryd.underlying116 rfl (by kernel_rfl) ?_)
  clear HT
  refine wp_loop_rounds 4 ?_
  repeat any_goals (rw [rounds_succ]; go_wp2)
  obtain ⟨k0, k1, k2, k3, k4⟩ := cells5 ((W.setCell ⟨b, 2, none⟩ (.bool true)).alloc (.cells #[.int .i64 m, .int .u64 n, .bool false] 87)) (.int .i64 0) (.int .i64 0) (.int .i64 0) (.string ⟨#[]⟩) (.slice none 0 0) 24
  simp only [World.size_alloc, val.set_size] at k0 k1 k2 k3 k4
  refine bodyPost_ret (v := leaf 0 0 ⟨#[]⟩) (by simp [results, Tryd.results60, go_sem, k0, k1, k2, k3, k4, leaf]) rfl ?_
  exact ⟨rfl, HS.out⟩
end Go.Proofs.YtnaghafmpncdkaaDoor.cbor
