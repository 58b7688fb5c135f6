/-
  What impl.appendQuoted and impl.Quote return: a text in JSON's quotes. For texts of at most 1048576 bytes.
-/
import Derived.Test.YtnfbjcpoealkoaaGreatDoorPrettyJ25
import Derived.Test.YtnfbjcpoealkoaaGreatDoorPrettyJ23
import Derived.Test.YtnfbjcpoealkoaaGreatDoorShortTab
import Derived.Laws.Rows
namespace Go.Proofs.YtnfbjcpoealkoaaGreatDoor.quote
open Go.ChangeShapes Go.WideShapes Go.ChangeAt Go.RowKit
open Go.Proofs.YtnfbjcpoealkoaaGreatDoor.sign
set_option maxRecDepth 100000

theorem grown_after {a b c : World} {row : Option Nat} (h : Below a.heap.size a b) (k : b.grownBy c row) : a.grownBy c row :=
  ⟨k.os.trans h.os, k.tape.trans h.tape, k.output.trans h.output, Nat.le_trans h.size k.size, fun i hi hn => (k.block i (Nat.lt_of_lt_of_le hi h.size) hn).trans (h.block i hi)⟩

theorem heap_new_at (w : World) (o : Obj) (g : Nat) (hg : g = w.heap.size) : (w.alloc o).heap[g]? = some o := by subst hg; exact heap_alloc_new w o

section
variable (w : World)
theorem idx0 : (Instr.index 255 (.agg shortTab.cells) (.int .i64 0)).run Tryz.prog w = .ok (.agg #[.int .u8 34, .int .u8 34]) w := by
  have hs : Tryz.prog.cellsOf 254 = 2 := by kernel_rfl
  simp [Instr.index, run_underlying Tryz.underlying255, asIntOf, go_sem, shortTab.cells]
theorem idx1 : (Instr.index 255 (.agg shortTab.cells) (.int .i64 1)).run Tryz.prog w = .ok (.agg #[.int .u8 92, .int .u8 92]) w := by
  have hs : Tryz.prog.cellsOf 254 = 2 := by kernel_rfl
  simp [Instr.index, run_underlying Tryz.underlying255, asIntOf, go_sem, shortTab.cells]
theorem idx2 : (Instr.index 255 (.agg shortTab.cells) (.int .i64 2)).run Tryz.prog w = .ok (.agg #[.int .u8 8, .int .u8 98]) w := by
  have hs : Tryz.prog.cellsOf 254 = 2 := by kernel_rfl
  simp [Instr.index, run_underlying Tryz.underlying255, asIntOf, go_sem, shortTab.cells]
theorem idx3 : (Instr.index 255 (.agg shortTab.cells) (.int .i64 3)).run Tryz.prog w = .ok (.agg #[.int .u8 12, .int .u8 102]) w := by
  have hs : Tryz.prog.cellsOf 254 = 2 := by kernel_rfl
  simp [Instr.index, run_underlying Tryz.underlying255, asIntOf, go_sem, shortTab.cells]
theorem idx4 : (Instr.index 255 (.agg shortTab.cells) (.int .i64 4)).run Tryz.prog w = .ok (.agg #[.int .u8 10, .int .u8 110]) w := by
  have hs : Tryz.prog.cellsOf 254 = 2 := by kernel_rfl
  simp [Instr.index, run_underlying Tryz.underlying255, asIntOf, go_sem, shortTab.cells]
theorem idx5 : (Instr.index 255 (.agg shortTab.cells) (.int .i64 5)).run Tryz.prog w = .ok (.agg #[.int .u8 13, .int .u8 114]) w := by
  have hs : Tryz.prog.cellsOf 254 = 2 := by kernel_rfl
  simp [Instr.index, run_underlying Tryz.underlying255, asIntOf, go_sem, shortTab.cells]
theorem idx6 : (Instr.index 255 (.agg shortTab.cells) (.int .i64 6)).run Tryz.prog w = .ok (.agg #[.int .u8 9, .int .u8 116]) w := by
  have hs : Tryz.prog.cellsOf 254 = 2 := by kernel_rfl
  simp [Instr.index, run_underlying Tryz.underlying255, asIntOf, go_sem, shortTab.cells]
end
set_option maxHeartbeats 2000000 in
theorem app_34 (v : Value) (l : List UInt8) (w : World) (B : Nat) (hown : OwnL w B 5 encB v l) (hB : B ≤ w.heap.size) (hl : l.length ≤ 8000000) (hT : shortTab.Tab w) :
    Calls Tryz.prog 193 #[v, .int .i32 34] w fun e w' => ∃ v', e = .returned v' ∧ OwnL w' B 5 encB v' (l ++ [92, 34]) ∧ w.grownBy w' v.ownBlock := by
  obtain ⟨i0, hi0, hz0, hz1, hz2⟩ := info_parts info5
  obtain ⟨t, fr, hg⟩ := hT.block
  have HT := Lib.hid hg
  clear hT hg
  have x0 := idx0
  go_enter Tryz.func193, Tryz.ntmps193
  go_wp2_with (refine wpList_load_row rfl 255 _ rfl 4 rfl t _ fr _ HT.out Tryz.underlying255 rfl (by kernel_rfl) ?_)
  clear HT
  refine wp_loop_rounds 8 ?_
  repeat any_goals (rw [rounds_succ]; go_wp2_with (first
    | (at_builtin; refine wpList_app (by rfl) _ _ _ (by rfl) B 5 encB i0 _ 1 Tryz.underlying22 hi0 hz0 hz1 hz2 rfl oneB v l (by rfl) ((hown.below (by go_grown)).alloc _) (w.heap.size + 1) 2 2 [92, 34] (by rfl) (by rfl) _ (heap_new_at _ _ _ (by go_size)) (by rfl) (by unfold maxLen; omega) (by omega) (by go_size) ?_; intro v1 w1 hown1 hg1)))
  go_ret
  exact ⟨_, rfl, hown1, grown_after (by go_grown) hg1⟩
set_option maxHeartbeats 2000000 in
theorem app_92 (v : Value) (l : List UInt8) (w : World) (B : Nat) (hown : OwnL w B 5 encB v l) (hB : B ≤ w.heap.size) (hl : l.length ≤ 8000000) (hT : shortTab.Tab w) :
    Calls Tryz.prog 193 #[v, .int .i32 92] w fun e w' => ∃ v', e = .returned v' ∧ OwnL w' B 5 encB v' (l ++ [92, 92]) ∧ w.grownBy w' v.ownBlock := by
  obtain ⟨i0, hi0, hz0, hz1, hz2⟩ := info_parts info5
  obtain ⟨t, fr, hg⟩ := hT.block
  have HT := Lib.hid hg
  clear hT hg
  have x0 := idx0
  have x1 := idx1
  go_enter Tryz.func193, Tryz.ntmps193
  go_wp2_with (refine wpList_load_row rfl 255 _ rfl 4 rfl t _ fr _ HT.out Tryz.underlying255 rfl (by kernel_rfl) ?_)
  clear HT
  refine wp_loop_rounds 8 ?_
  repeat any_goals (rw [rounds_succ]; go_wp2_with (first
    | (at_builtin; refine wpList_app (by rfl) _ _ _ (by rfl) B 5 encB i0 _ 1 Tryz.underlying22 hi0 hz0 hz1 hz2 rfl oneB v l (by rfl) ((hown.below (by go_grown)).alloc _) (w.heap.size + 2) 2 2 [92, 92] (by rfl) (by rfl) _ (heap_new_at _ _ _ (by go_size)) (by rfl) (by unfold maxLen; omega) (by omega) (by go_size) ?_; intro v1 w1 hown1 hg1)))
  go_ret
  exact ⟨_, rfl, hown1, grown_after (by go_grown) hg1⟩
set_option maxHeartbeats 2000000 in
theorem app_8 (v : Value) (l : List UInt8) (w : World) (B : Nat) (hown : OwnL w B 5 encB v l) (hB : B ≤ w.heap.size) (hl : l.length ≤ 8000000) (hT : shortTab.Tab w) :
    Calls Tryz.prog 193 #[v, .int .i32 8] w fun e w' => ∃ v', e = .returned v' ∧ OwnL w' B 5 encB v' (l ++ [92, 98]) ∧ w.grownBy w' v.ownBlock := by
  obtain ⟨i0, hi0, hz0, hz1, hz2⟩ := info_parts info5
  obtain ⟨t, fr, hg⟩ := hT.block
  have HT := Lib.hid hg
  clear hT hg
  have x0 := idx0
  have x1 := idx1
  have x2 := idx2
  go_enter Tryz.func193, Tryz.ntmps193
  go_wp2_with (refine wpList_load_row rfl 255 _ rfl 4 rfl t _ fr _ HT.out Tryz.underlying255 rfl (by kernel_rfl) ?_)
  clear HT
  refine wp_loop_rounds 8 ?_
  repeat any_goals (rw [rounds_succ]; go_wp2_with (first
    | (at_builtin; refine wpList_app (by rfl) _ _ _ (by rfl) B 5 encB i0 _ 1 Tryz.underlying22 hi0 hz0 hz1 hz2 rfl oneB v l (by rfl) ((hown.below (by go_grown)).alloc _) (w.heap.size + 3) 2 2 [92, 98] (by rfl) (by rfl) _ (heap_new_at _ _ _ (by go_size)) (by rfl) (by unfold maxLen; omega) (by omega) (by go_size) ?_; intro v1 w1 hown1 hg1)))
  go_ret
  exact ⟨_, rfl, hown1, grown_after (by go_grown) hg1⟩
set_option maxHeartbeats 2000000 in
theorem app_12 (v : Value) (l : List UInt8) (w : World) (B : Nat) (hown : OwnL w B 5 encB v l) (hB : B ≤ w.heap.size) (hl : l.length ≤ 8000000) (hT : shortTab.Tab w) :
    Calls Tryz.prog 193 #[v, .int .i32 12] w fun e w' => ∃ v', e = .returned v' ∧ OwnL w' B 5 encB v' (l ++ [92, 102]) ∧ w.grownBy w' v.ownBlock := by
  obtain ⟨i0, hi0, hz0, hz1, hz2⟩ := info_parts info5
  obtain ⟨t, fr, hg⟩ := hT.block
  have HT := Lib.hid hg
  clear hT hg
  have x0 := idx0
  have x1 := idx1
  have x2 := idx2
  have x3 := idx3
  go_enter Tryz.func193, Tryz.ntmps193
  go_wp2_with (refine wpList_load_row rfl 255 _ rfl 4 rfl t _ fr _ HT.out Tryz.underlying255 rfl (by kernel_rfl) ?_)
  clear HT
  refine wp_loop_rounds 8 ?_
  repeat any_goals (rw [rounds_succ]; go_wp2_with (first
    | (at_builtin; refine wpList_app (by rfl) _ _ _ (by rfl) B 5 encB i0 _ 1 Tryz.underlying22 hi0 hz0 hz1 hz2 rfl oneB v l (by rfl) ((hown.below (by go_grown)).alloc _) (w.heap.size + 4) 2 2 [92, 102] (by rfl) (by rfl) _ (heap_new_at _ _ _ (by go_size)) (by rfl) (by unfold maxLen; omega) (by omega) (by go_size) ?_; intro v1 w1 hown1 hg1)))
  go_ret
  exact ⟨_, rfl, hown1, grown_after (by go_grown) hg1⟩
set_option maxHeartbeats 2000000 in
theorem app_10 (v : Value) (l : List UInt8) (w : World) (B : Nat) (hown : OwnL w B 5 encB v l) (hB : B ≤ w.heap.size) (hl : l.length ≤ 8000000) (hT : shortTab.Tab w) :
    Calls Tryz.prog 193 #[v, .int .i32 10] w fun e w' => ∃ v', e = .returned v' ∧ OwnL w' B 5 encB v' (l ++ [92, 110]) ∧ w.grownBy w' v.ownBlock := by
  obtain ⟨i0, hi0, hz0, hz1, hz2⟩ := info_parts info5
  obtain ⟨t, fr, hg⟩ := hT.block
  have HT := Lib.hid hg
  clear hT hg
  have x0 := idx0
  have x1 := idx1
  have x2 := idx2
  have x3 := idx3
  have x4 := idx4
  go_enter Tryz.func193, Tryz.ntmps193
  go_wp2_with (refine wpList_load_row rfl 255 _ rfl 4 rfl t _ fr _ HT.out Tryz.underlying255 rfl (by kernel_rfl) ?_)
  clear HT
  refine wp_loop_rounds 8 ?_
  repeat any_goals (rw [rounds_succ]; go_wp2_with (first
    | (at_builtin; refine wpList_app (by rfl) _ _ _ (by rfl) B 5 encB i0 _ 1 Tryz.underlying22 hi0 hz0 hz1 hz2 rfl oneB v l (by rfl) ((hown.below (by go_grown)).alloc _) (w.heap.size + 5) 2 2 [92, 110] (by rfl) (by rfl) _ (heap_new_at _ _ _ (by go_size)) (by rfl) (by unfold maxLen; omega) (by omega) (by go_size) ?_; intro v1 w1 hown1 hg1)))
  go_ret
  exact ⟨_, rfl, hown1, grown_after (by go_grown) hg1⟩
set_option maxHeartbeats 2000000 in
theorem app_13 (v : Value) (l : List UInt8) (w : World) (B : Nat) (hown : OwnL w B 5 encB v l) (hB : B ≤ w.heap.size) (hl : l.length ≤ 8000000) (hT : shortTab.Tab w) :
    Calls Tryz.prog 193 #[v, .int .i32 13] w fun e w' => ∃ v', e = .returned v' ∧ OwnL w' B 5 encB v' (l ++ [92, 114]) ∧ w.grownBy w' v.ownBlock := by
  obtain ⟨i0, hi0, hz0, hz1, hz2⟩ := info_parts info5
  obtain ⟨t, fr, hg⟩ := hT.block
  have HT := Lib.hid hg
  clear hT hg
  have x0 := idx0
  have x1 := idx1
  have x2 := idx2
  have x3 := idx3
  have x4 := idx4
  have x5 := idx5
  go_enter Tryz.func193, Tryz.ntmps193
  go_wp2_with (refine wpList_load_row rfl 255 _ rfl 4 rfl t _ fr _ HT.out Tryz.underlying255 rfl (by kernel_rfl) ?_)
  clear HT
  refine wp_loop_rounds 8 ?_
  repeat any_goals (rw [rounds_succ]; go_wp2_with (first
    | (at_builtin; refine wpList_app (by rfl) _ _ _ (by rfl) B 5 encB i0 _ 1 Tryz.underlying22 hi0 hz0 hz1 hz2 rfl oneB v l (by rfl) ((hown.below (by go_grown)).alloc _) (w.heap.size + 6) 2 2 [92, 114] (by rfl) (by rfl) _ (heap_new_at _ _ _ (by go_size)) (by rfl) (by unfold maxLen; omega) (by omega) (by go_size) ?_; intro v1 w1 hown1 hg1)))
  go_ret
  exact ⟨_, rfl, hown1, grown_after (by go_grown) hg1⟩
set_option maxHeartbeats 2000000 in
theorem app_9 (v : Value) (l : List UInt8) (w : World) (B : Nat) (hown : OwnL w B 5 encB v l) (hB : B ≤ w.heap.size) (hl : l.length ≤ 8000000) (hT : shortTab.Tab w) :
    Calls Tryz.prog 193 #[v, .int .i32 9] w fun e w' => ∃ v', e = .returned v' ∧ OwnL w' B 5 encB v' (l ++ [92, 116]) ∧ w.grownBy w' v.ownBlock := by
  obtain ⟨i0, hi0, hz0, hz1, hz2⟩ := info_parts info5
  obtain ⟨t, fr, hg⟩ := hT.block
  have HT := Lib.hid hg
  clear hT hg
  have x0 := idx0
  have x1 := idx1
  have x2 := idx2
  have x3 := idx3
  have x4 := idx4
  have x5 := idx5
  have x6 := idx6
  go_enter Tryz.func193, Tryz.ntmps193
  go_wp2_with (refine wpList_load_row rfl 255 _ rfl 4 rfl t _ fr _ HT.out Tryz.underlying255 rfl (by kernel_rfl) ?_)
  clear HT
  refine wp_loop_rounds 8 ?_
  repeat any_goals (rw [rounds_succ]; go_wp2_with (first
    | (at_builtin; refine wpList_app (by rfl) _ _ _ (by rfl) B 5 encB i0 _ 1 Tryz.underlying22 hi0 hz0 hz1 hz2 rfl oneB v l (by rfl) ((hown.below (by go_grown)).alloc _) (w.heap.size + 7) 2 2 [92, 116] (by rfl) (by rfl) _ (heap_new_at _ _ _ (by go_size)) (by rfl) (by unfold maxLen; omega) (by omega) (by go_size) ?_; intro v1 w1 hown1 hg1)))
  go_ret
  exact ⟨_, rfl, hown1, grown_after (by go_grown) hg1⟩

theorem and15 (N : Nat) (h : N < 32) : bits .and .i32 (N : Int) 15 = ((N % 16 : Nat) : Int) := by
  have : ∀ m : Fin 32, bits .and .i32 (m.val : Int) 15 = ((m.val % 16 : Nat) : Int) := by decide
  exact this ⟨N, h⟩
set_option maxHeartbeats 4000000 in
theorem app_low (N : Nat) (hN : shortOf N = 0) (h32 : N < 32) (v : Value) (l : List UInt8) (w : World) (B : Nat) (hown : OwnL w B 5 encB v l) (hB : B ≤ w.heap.size) (hl : l.length ≤ 8000000) (hT : shortTab.Tab w) :
    Calls Tryz.prog 193 #[v, .int .i32 N] w fun e w' => ∃ v', e = .returned v' ∧ OwnL w' B 5 encB v' (l ++ [92, 117, 48, 48, hexDig (N / 16), hexDig (N % 16)]) ∧ w.grownBy w' v.ownBlock := by
  obtain ⟨i0, hi0, hz0, hz1, hz2⟩ := info_parts info5
  obtain ⟨t, fr, hg⟩ := hT.block
  have HT := Lib.hid hg
  clear hT hg
  have h0 : ((N : Int) == 34) = false := by
    unfold shortOf at hN; simp; intro e; have : N = 34 := by omega
    simp [this] at hN
  have h1 : ((N : Int) == 92) = false := by
    unfold shortOf at hN; simp; intro e; have : N = 92 := by omega
    simp [this] at hN
  have h2 : ((N : Int) == 8) = false := by
    unfold shortOf at hN; simp; intro e; have : N = 8 := by omega
    simp [this] at hN
  have h3 : ((N : Int) == 12) = false := by
    unfold shortOf at hN; simp; intro e; have : N = 12 := by omega
    simp [this] at hN
  have h4 : ((N : Int) == 10) = false := by
    unfold shortOf at hN; simp; intro e; have : N = 10 := by omega
    simp [this] at hN
  have h5 : ((N : Int) == 13) = false := by
    unfold shortOf at hN; simp; intro e; have : N = 13 := by omega
    simp [this] at hN
  have h6 : ((N : Int) == 9) = false := by
    unfold shortOf at hN; simp; intro e; have : N = 9 := by omega
    simp [this] at hN
  have x0 := idx0
  have x1 := idx1
  have x2 := idx2
  have x3 := idx3
  have x4 := idx4
  have x5 := idx5
  have x6 := idx6
  have hlt : (N : Int) < 32 := by omega
  obtain ⟨q, hq, e1, HQ⟩ : ∃ q : Nat, q < 16 ∧ ((N : Int) / 16) = (q : Int) ∧ Hid (q = N / 16) := ⟨N / 16, by omega, by omega, rfl⟩
  obtain ⟨r, hr, e2, HR⟩ : ∃ q : Nat, q < 16 ∧ bits .and .i32 (N : Int) 15 = (q : Int) ∧ Hid (q = N % 16) := ⟨N % 16, by omega, by rw [and15 N h32], rfl⟩
  have hq1 : (q : Int) < 16 := by omega
  have hr1 : (r : Int) < 16 := by omega
  have hd := putHex.digit_at
  clear hN
  go_enter Tryz.func193, Tryz.ntmps193
  go_wp2_with (refine wpList_load_row rfl 255 _ rfl 4 rfl t _ fr _ HT.out Tryz.underlying255 rfl (by kernel_rfl) ?_)
  clear HT
  refine wp_loop_rounds 8 ?_
  repeat any_goals (rw [rounds_succ]; go_wp2)
  go_region_law
    ((refine step_app (by rfl) _ _ _ (by rfl) B 5 encB i0 _ 1 Tryz.underlying22 hi0 hz0 hz1 hz2 rfl oneB v l (by rfl) (((hown.below (by go_grown)).alloc _).drew) (w.heap.size + 7) 6 6 [92, 117, 48, 48, putHex.hexDig q, putHex.hexDig r] (by rfl) (by rfl) _ (heap_new_at _ _ _ (by go_size)) (by rfl) (by unfold maxLen; omega) (by omega) (by go_size) ?_; intro v1 w1 hown1 hg1))
  all_goals go_wp2
  all_goals
    go_ret
    exact ⟨_, rfl, by rw [← HQ.out, ← HR.out]; exact hown1, grown_after (by go_grown) hg1⟩

theorem rune_cells (r : Int) : Lib.runeCells r = (Lib.encodeRune r).map encB := by
  unfold Lib.runeCells Lib.encodeRune
  rw [List.map_map]
  apply List.map_congr_left
  intro x hx
  have hb := Lib.encodeRuneZ_byte r x hx
  simp [encB]
  omega
set_option maxHeartbeats 4000000 in
theorem app_high (N : Nat) (hN : shortOf N = 0) (h32 : 32 ≤ N) (hm : N ≤ 1114111) (v : Value) (l : List UInt8) (w : World) (B : Nat) (hown : OwnL w B 5 encB v l) (hB : B ≤ w.heap.size) (hl : l.length ≤ 8000000) (hT : shortTab.Tab w) :
    Calls Tryz.prog 193 #[v, .int .i32 N] w fun e w' => ∃ v', e = .returned v' ∧ OwnL w' B 5 encB v' (l ++ Lib.encodeRune N) ∧ w.grownBy w' v.ownBlock := by
  obtain ⟨i0, hi0, hz0, hz1, hz2⟩ := info_parts info5
  obtain ⟨t, fr, hg⟩ := hT.block
  have HT := Lib.hid hg
  clear hT hg
  have h0 : ((N : Int) == 34) = false := by
    unfold shortOf at hN; simp; intro e; have : N = 34 := by omega
    simp [this] at hN
  have h1 : ((N : Int) == 92) = false := by
    unfold shortOf at hN; simp; intro e; have : N = 92 := by omega
    simp [this] at hN
  have h2 : ((N : Int) == 8) = false := by
    unfold shortOf at hN; simp; intro e; have : N = 8 := by omega
    simp [this] at hN
  have h3 : ((N : Int) == 12) = false := by
    unfold shortOf at hN; simp; intro e; have : N = 12 := by omega
    simp [this] at hN
  have h4 : ((N : Int) == 10) = false := by
    unfold shortOf at hN; simp; intro e; have : N = 10 := by omega
    simp [this] at hN
  have h5 : ((N : Int) == 13) = false := by
    unfold shortOf at hN; simp; intro e; have : N = 13 := by omega
    simp [this] at hN
  have h6 : ((N : Int) == 9) = false := by
    unfold shortOf at hN; simp; intro e; have : N = 9 := by omega
    simp [this] at hN
  have x0 := idx0
  have x1 := idx1
  have x2 := idx2
  have x3 := idx3
  have x4 := idx4
  have x5 := idx5
  have x6 := idx6
  have hlt : ¬ (N : Int) < 32 := by omega
  have C := Lib.hid (fun w (hown : OwnL w B 5 encB v l) (hB : B ≤ w.heap.size) => Tryz.utf8_AppendRune_plain B v _ _ N (by omega) (by omega) w hown (by omega) hB)
  clear hN
  go_enter Tryz.func193, Tryz.ntmps193
  go_wp2_with (refine wpList_load_row rfl 255 _ rfl 4 rfl t _ fr _ HT.out Tryz.underlying255 rfl (by kernel_rfl) ?_)
  clear HT
  refine wp_loop_rounds 8 ?_
  repeat any_goals (rw [rounds_succ]; go_wp2_with fail)
  with_reducible refine (C.out _ (hown.below (by go_grown)) (by go_size)).mono ?_
  rintro e w1 ⟨v', rfl, hown1, o, hg⟩
  go_wp2
  go_ret
  refine ⟨_, rfl, ?_, grown_after (by go_grown) hg⟩
  unfold OwnL
  rw [rune_cells, List.length_map] at hown1
  rw [List.length_append, List.map_append]
  exact hown1

theorem app_any (N : Nat) (hm : N ≤ 1114111) (v : Value) (l : List UInt8) (w : World) (B : Nat) (hown : OwnL w B 5 encB v l) (hB : B ≤ w.heap.size) (hl : l.length ≤ 8000000) (hT : shortTab.Tab w) :
    Calls Tryz.prog 193 #[v, .int .i32 N] w fun e w' => ∃ v', e = .returned v' ∧ OwnL w' B 5 encB v' (l ++ quoteR N) ∧ w.grownBy w' v.ownBlock := by
  by_cases hN : shortOf N = 0
  · by_cases h32 : N < 32
    · have e : quoteR N = [92, 117, 48, 48, hexDig (N / 16), hexDig (N % 16)] := by
        unfold quoteR quoteB
        have e1 : (UInt8.ofNat N).toNat = N := by simp; omega
        rw [if_pos (by omega), e1, hN, if_neg (by simp), if_pos h32]
      rw [e]
      exact app_low N hN h32 v l w B hown hB hl hT
    · have e : quoteR N = Lib.encodeRune N := by
        unfold quoteR
        by_cases h : N < 128
        · have e1 : (UInt8.ofNat N).toNat = N := by simp; omega
          rw [if_pos h]
          unfold quoteB
          rw [e1, hN, if_neg (by simp), if_neg h32]
          unfold Lib.encodeRune
          rw [Lib.encodeRuneZ_one (by omega) (by omega)]
          simp
        · rw [if_neg h]
      rw [e]
      exact app_high N hN (by omega) hm v l w B hown hB hl hT
  · have hc : N = 34 ∨ N = 92 ∨ N = 8 ∨ N = 12 ∨ N = 10 ∨ N = 13 ∨ N = 9 := by
      unfold shortOf at hN; (repeat' split at hN) <;> omega
    rcases hc with rfl | rfl | rfl | rfl | rfl | rfl | rfl
    · exact app_34 v l w B hown hB hl hT
    · exact app_92 v l w B hown hB hl hT
    · exact app_8 v l w B hown hB hl hT
    · exact app_12 v l w B hown hB hl hT
    · exact app_10 v l w B hown hB hl hT
    · exact app_13 v l w B hown hB hl hT
    · exact app_9 v l w B hown hB hl hT

structure OkFrom (s : ByteArray) (pos f : Nat) : Prop where
  ok : okFrom s f pos = true
  fuel : s.size ≤ pos + f
theorem OkFrom.good {s : ByteArray} {pos f : Nat} (h : OkFrom s pos f) (hp : pos < s.size) : Utf8.decode s pos ≠ (65533, 1) := by
  obtain ⟨g, rfl⟩ : ∃ g, f = g + 1 := ⟨f - 1, by have := h.fuel; omega⟩
  intro hb
  have := h.ok
  rw [okFrom_bad s g pos hp hb] at this
  cases this
theorem OkFrom.step {s : ByteArray} {pos f : Nat} (h : OkFrom s pos f) (hp : pos < s.size) {N M : Nat} (hd : Utf8.decode s pos = (N, M)) : OkFrom s (pos + M) (f - 1) := by
  have hb := h.good hp
  obtain ⟨g, rfl⟩ : ∃ g, f = g + 1 := ⟨f - 1, by have := h.fuel; omega⟩
  have hw := (decode_bound s pos).2.1
  rw [hd] at hw
  simp only at hw
  refine ⟨?_, ?_⟩
  · rw [← h.ok, okFrom_step s g pos hp hb, hd]; simp
  · have := h.fuel; omega

set_option maxHeartbeats 2000000 in
theorem impl_quote (s : ByteArray) (w : World) (hs : s.size ≤ 1048576) (hU : Lib.Utf8Tabs 6 7 w) (hT : shortTab.Tab w) :
    Calls Tryz.prog 163 #[.string s] w fun e w' => e = .returned (.string (quoteOf s)) ∧ Below w.heap.size w w' := by
  obtain ⟨i0, hi0, hz0, hz1, hz2⟩ := info_parts info5
  have c := signs.impl_text s w hs hU
  have HS : Hid (quoteOf s = if textOk s then ⟨((34 : UInt8) :: (quoteL s.data.toList ++ [34])).toArray⟩ else ⟨#[]⟩) := rfl
  cases hk : textOk s
  · rw [hk] at c HS
    have C := Lib.hid c
    clear c hk hU hT
    go_enter Tryz.func163, Tryz.ntmps163
    go_wp2_with fail
    with_reducible refine C.out.mono ?_
    rintro e w1 ⟨rfl, hb⟩
    clear C
    go_wp2
    go_ret
    exact ⟨by rw [HS.out]; rfl, hb⟩
  · rw [hk] at c HS
    have C := Lib.hid c
    have OK : OkFrom s 0 s.size := ⟨hk, by omega⟩
    clear c hk hU
    go_enter Tryz.func163, Tryz.ntmps163
    go_wp2_with fail
    with_reducible refine C.out.mono ?_
    rintro e w1 ⟨rfl, hb0⟩
    clear C
    have hz := hb0.size
    go_wp2
    have hz' : (w1.alloc (.cells #[.int .u8 34] 5)).heap.size = w1.heap.size + 1 := by simp
    go_loopw [3] (fun v wr => ∃ (pos f : Nat), pos ≤ s.size ∧ OwnL wr w.heap.size 5 encB v ([34] ++ quoteL (s.data.toList.take pos)) ∧ wr.heap[w1.heap.size + 1]? = some (.stringIter s pos) ∧ OkFrom s pos f ∧ Below w.heap.size w wr) (fun _ wr => s.size - wr.iterPos (w1.heap.size + 1))
    case atStart => exact ⟨0, s.size, Nat.zero_le _, by rw [List.take_zero]; exact ((lit_own w1).mono hz).alloc _, by rw [← hz']; exact World.iter_heap _ s 0, OK, (hb0.alloc hz _).alloc (by omega) _⟩
    case round =>
      obtain ⟨pos, f, hp, hown, hit, R, hbr⟩ := hrel
      have hsz : w1.heap.size + 1 < wr.heap.size := (Array.getElem?_eq_some_iff.1 hit).1
      have hl : ([34] ++ quoteL (s.data.toList.take pos)).length ≤ 1 + 6 * 1048576 := by
        have := quoteL_len (s.data.toList.take pos)
        rw [putHex.take_len s pos hp] at this
        simp only [List.length_append, List.length_singleton]; omega
      by_cases hlt : pos < s.size
      · have hnx : ∀ ty, (Instr.next (.pointer (some ⟨w1.heap.size + 1, 0, none⟩)) true ty).run Tryz.prog wr = _ := fun ty => Lib.run_next_any_at wr (w1.heap.size + 1) s pos ty hit hlt
        obtain ⟨hd1, hd2, hd3⟩ := decode_bound s pos
        have hfit := decode_fits s pos hlt
        obtain ⟨N, M, hd⟩ : ∃ N M, Utf8.decode s pos = (N, M) := ⟨_, _, rfl⟩
        have HQ := Lib.hid (quote_step s pos N M hlt hd (R.good hlt))
        rw [hd] at hnx hd1 hd2 hd3 hfit
        have R1 := R.step hlt hd
        simp only at hnx hd1 hd2 hd3 hfit
        have hown1 := hown.iterAt hit (pos + M)
        have hit1 := Lib.iterAt_heap wr (w1.heap.size + 1) s pos (pos + M) hit
        have hb1 := Lib.below_iterAt hbr (k := w1.heap.size + 1) (by omega) s (pos + M)
        have hz1' : (wr.iterAt (w1.heap.size + 1) s (pos + M)).heap.size = wr.heap.size := Lib.iterAt_size _ _ _ _
        have HM : Hid (wr.iterPos (w1.heap.size + 1) = pos) := by unfold Hid World.iterPos; rw [hit]
        obtain ⟨W, HW⟩ : ∃ W, W = wr.iterAt (w1.heap.size + 1) s (pos + M) := ⟨_, rfl⟩
        rw [← HW] at hnx hown1 hit1 hb1 hz1'
        have HI := Lib.hid hit1
        have C := Lib.hid (app_any N (by omega) _ _ W w.heap.size hown1 (by omega) (by omega) (hT.below hb1))
        have hWz : w.heap.size ≤ W.heap.size := by omega
        clear hd hit hit1 HW hown hbr R hz1'
        go_wp2_with fail
        with_reducible refine C.out.mono ?_
        rintro e w2 ⟨v1, rfl, hown2, hg2⟩
        clear C
        have hb2 : Below w.heap.size w w2 := grown_below hb1 hWz hown1 hg2
        have hit2 := iter_grown hg2 hown1 HI.out
        clear hg2 hown1
        go_wp2
        go_roundw
        case rel => exact ⟨pos + M, f - 1, hfit, by rw [HQ.out, ← List.append_assoc]; exact hown2, hit2, R1, hb2⟩
        case measure =>
          rw [HM.out]
          simp only [World.iterPos, hit2]
          omega
      · have hnx : ∀ ty, (Instr.next (.pointer (some ⟨w1.heap.size + 1, 0, none⟩)) true ty).run Tryz.prog wr = _ := fun ty => Lib.run_next_end_at wr (w1.heap.size + 1) s pos ty hit hlt
        have HE := Lib.hid (putHex.take_all s pos (by omega))
        rw [HE.out] at hown hl
        have hsz' : w.heap.size ≤ wr.heap.size := by omega
        clear hit R
        go_wp2_with (first
          | (at_builtin; refine wpList_app (by rfl) _ _ _ (by rfl) w.heap.size 5 encB i0 _ 1 Tryz.underlying22 hi0 hz0 hz1 hz2 rfl oneB u3 ([34] ++ quoteL s.data.toList) (by rfl) (hown.alloc _) wr.heap.size 1 1 [34] (by rfl) (by rfl) _ (heap_alloc_new wr _) (by rfl) (by unfold maxLen; omega) (by omega) (by simp; omega) ?_; intro v1 w4 hown4 hg4
             have hc := run_string_own (P := Tryz.prog) 22 5 9 Tryz.underlying22 Tryz.underlying5 Tryz.underlying9 hown4))
        have hb4 : Below w.heap.size w w4 := grown_below (hbr.alloc (by omega) _) (by simp; omega) (hown.alloc _) hg4
        go_ret
        exact ⟨by rw [HS.out]; simp, hb4⟩

end Go.Proofs.YtnfbjcpoealkoaaGreatDoor.quote
