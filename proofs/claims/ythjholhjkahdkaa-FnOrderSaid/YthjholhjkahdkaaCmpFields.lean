/-
  What cmp.Compare, cmp.Or, impl.compareFields and spec's l02Less, l02Texts return.
-/
import Derived.StillTailTactics
import Derived.Test.YthjholhjkahdkaaValBox
namespace Go.Proofs.Ythjholhjkahdkaa.val
open Go.ChangeShapes Go.WideShapes Go.ChangeAt Go.RowKit
set_option maxRecDepth 100000

def cmpI (a b : Int) : Int := if a < b then -1 else if b < a then 1 else 0
def cmpS (a b : ByteArray) : Int := if Op.bytesLess a.toList b.toList then -1 else if a.toList == b.toList then 0 else 1
theorem cmpI0 {a b : Int} (h1 : ¬ a < b) (h2 : ¬ b < a) : cmpI a b = 0 := by unfold cmpI; rw [if_neg h1, if_neg h2]
/-- The first that is not 0. -/
def firstOf : List Int → Int
  | [] => 0
  | x :: l => if x = 0 then firstOf l else x

theorem nanI (a : Int) (w : World) : Calls Try.prog 35 #[.int .i64 a] w fun e w' => e = .returned (.bool false) ∧ w' = w := by
  go_enter Try.func35, Try.ntmps35
  go_wp2
  go_ret
  exact ⟨by simp, rfl⟩
theorem nanS (a : ByteArray) (w : World) : Calls Try.prog 62 #[.string a] w fun e w' => e = .returned (.bool false) ∧ w' = w := by
  go_enter Try.func62, Try.ntmps62
  go_wp2
  go_ret
  exact ⟨by simp, rfl⟩
theorem compI (a b : Int) (w : World) : Calls Try.prog 19 #[.int .i64 a, .int .i64 b] w fun e w' => e = .returned (.int .i64 (cmpI a b)) ∧ w' = w := by
  have C := Lib.hid (nanI a)
  have D := Lib.hid (nanI b)
  go_enter Try.func19, Try.ntmps19
  go_wp2_with fail
  with_reducible refine (C.out w).mono ?_
  rintro e w1 ⟨rfl, rfl⟩
  go_wp2_with fail
  with_reducible refine (D.out _).mono ?_
  rintro e w2 ⟨rfl, rfl⟩
  by_cases h1 : a < b
  · go_wp2
    go_ret
    exact ⟨by simp [cmpI, h1], rfl⟩
  · by_cases h2 : b < a
    · go_wp2
      go_ret
      exact ⟨by simp [cmpI, h1, h2], rfl⟩
    · go_wp2
      go_ret
      exact ⟨by rw [cmpI0 (by omega) (by omega)]; rfl, rfl⟩
theorem compS (a b : ByteArray) (w : World) : Calls Try.prog 60 #[.string a, .string b] w fun e w' => e = .returned (.int .i64 (cmpS a b)) ∧ w' = w := by
  have C := Lib.hid (nanS a)
  have D := Lib.hid (nanS b)
  go_enter Try.func60, Try.ntmps60
  go_wp2_with fail
  with_reducible refine (C.out w).mono ?_
  rintro e w1 ⟨rfl, rfl⟩
  go_wp2_with fail
  with_reducible refine (D.out _).mono ?_
  rintro e w2 ⟨rfl, rfl⟩
  cases h1 : Op.bytesLess a.toList b.toList
  · cases h2 : a.toList == b.toList
    · go_wp2
      go_ret
      exact ⟨by simp [cmpS, h1, h2], rfl⟩
    · go_wp2
      go_ret
      exact ⟨by simp [cmpS, h1, h2], rfl⟩
  · go_wp2
    go_ret
    exact ⟨by simp [cmpS, h1], rfl⟩
theorem lessS (a b : Int) (w : World) : Calls Try.prog 23 #[.int .i64 a, .int .i64 b] w fun e w' => e = .returned (.int .i64 (cmpI a b)) ∧ w' = w := by
  by_cases h1 : a < b
  · go_enter Try.func23, Try.ntmps23
    go_wp2
    go_ret
    exact ⟨by simp [cmpI, h1], rfl⟩
  · by_cases h2 : b < a
    · go_enter Try.func23, Try.ntmps23
      go_wp2
      go_ret
      exact ⟨by simp [cmpI, h1, h2], rfl⟩
    · go_enter Try.func23, Try.ntmps23
      go_wp2
      go_ret
      exact ⟨by rw [cmpI0 (by omega) (by omega)]; rfl, rfl⟩
theorem textsS (a b : ByteArray) (w : World) : Calls Try.prog 37 #[.string a, .string b] w fun e w' => e = .returned (.int .i64 (cmpS a b)) ∧ w' = w := by
  cases h1 : Op.bytesLess a.toList b.toList
  · cases h2 : a.toList == b.toList
    · go_enter Try.func37, Try.ntmps37
      go_wp2
      go_ret
      exact ⟨by simp [cmpS, h1, h2], rfl⟩
    · go_enter Try.func37, Try.ntmps37
      go_wp2
      go_ret
      exact ⟨by simp [cmpS, h1, h2], rfl⟩
  · go_enter Try.func37, Try.ntmps37
    go_wp2
    go_ret
    exact ⟨by simp [cmpS, h1], rfl⟩

theorem firstOf_drop (l : List Int) : ∀ j (h : j < l.length), firstOf (l.drop j) = if l[j] = 0 then firstOf (l.drop (j + 1)) else l[j] := by
  intro j h
  rw [List.drop_eq_getElem_cons h, firstOf]
set_option maxHeartbeats 1000000 in
theorem or_any (l : List Int) (g cap : Nat) (w : World) (hl : l.length ≤ 100) (hc : ∀ j (h : j < l.length), w.cell? ⟨g, j, none⟩ = some (.int .i64 l[j])) :
    Calls Try.prog 59 #[.slice (some ⟨g, 0, none⟩) l.length cap] w fun e w' => e = .returned (.int .i64 (firstOf l)) ∧ w' = w := by
  have HC := Lib.hid hc
  clear hc
  go_enter Try.func59, Try.ntmps59
  go_wp2
  go_loopw [8] (fun i wr => ∃ j : Nat, i = .int .i64 j ∧ j ≤ l.length ∧ Hid (firstOf l = firstOf (l.drop j)) ∧ Hid (wr = w)) (fun i _ => l.length - (intOf i).toNat)
  case atStart => exact ⟨0, rfl, by omega, rfl, rfl⟩
  case round =>
    obtain ⟨j, rfl, hj, HF, HW⟩ := hrel
    obtain rfl := HW.out
    by_cases hlt : j < l.length
    · have hj0 : (0 : Int) ≤ (j : Int) := by omega
      have hj1 : (j : Int) < (l.length : Int) := by omega
      have hcell := HC.out j hlt
      have HD := Lib.hid (firstOf_drop l j hlt)
      generalize l[j] = x at *
      by_cases h0 : x = 0
      · subst h0
        have HF1 : Hid (firstOf l = firstOf (l.drop (j + 1))) := by have := HD.out; rw [if_pos rfl] at this; unfold Hid; rw [HF.out, this]
        clear HC HD HF
        go_wp2
        go_roundw
        case rel => exact ⟨j + 1, by go_num, by omega, HF1, by unfold Hid; trivial⟩
        case measure => simp [intOf]; omega
      · have HF1 : Hid (firstOf l = x) := by have := HD.out; rw [if_neg h0] at this; unfold Hid; rw [HF.out, this]
        have h0' : (x != 0) = true := by simp [h0]
        clear HC HD HF
        go_wp2
        go_ret
        exact ⟨by rw [HF1.out]; rfl, rfl⟩
    · have hj1 : ¬ (j : Int) < (l.length : Int) := by omega
      have HF1 : Hid (firstOf l = 0) := by unfold Hid; rw [HF.out, List.drop_of_length_le (by omega)]; rfl
      clear HC HF
      go_wp2
      go_ret
      exact ⟨by rw [HF1.out]; rfl, rfl⟩

def cmpF (x y : LT) : Int := firstOf [cmpI x.k y.k, cmpI x.n y.n, cmpI x.e y.e, cmpS x.s y.s, cmpI x.kids.length y.kids.length]
theorem or5 (x0 x1 x2 x3 x4 : Int) (W : World) :
    Calls Try.prog 59 #[.slice (some ⟨W.heap.size, 0, none⟩) 5 5] (W.alloc (.cells #[.int .i64 x0, .int .i64 x1, .int .i64 x2, .int .i64 x3, .int .i64 x4] 3)) fun e w' => e = .returned (.int .i64 (firstOf [x0, x1, x2, x3, x4])) ∧ w' = W.alloc (.cells #[.int .i64 x0, .int .i64 x1, .int .i64 x2, .int .i64 x3, .int .i64 x4] 3) := by
  have hb := heap_alloc_new W (.cells #[.int .i64 x0, .int .i64 x1, .int .i64 x2, .int .i64 x3, .int .i64 x4] 3)
  refine or_any [x0, x1, x2, x3, x4] W.heap.size 5 _ (by simp) fun j h => ?_
  have hj : j = 0 ∨ j = 1 ∨ j = 2 ∨ j = 3 ∨ j = 4 := by simp at h; omega
  rcases hj with rfl | rfl | rfl | rfl | rfl <;> exact cell_of_row _ _ _ _ _ (0, 0) hb

set_option maxHeartbeats 2000000 in
theorem fields_any (x y : LT) (w : World) : Calls Try.prog 54 #[.agg #[.int .i64 x.k, .int .i64 x.n, .int .i64 x.e, .string x.s, x.row], .agg #[.int .i64 y.k, .int .i64 y.n, .int .i64 y.e, .string y.s, y.row]] w fun e w' => e = .returned (.int .i64 (cmpF x y)) ∧ Below w.heap.size w w' := by
  have hrx : x.row = .slice x.a x.kids.length x.cap := rfl
  have hry : y.row = .slice y.a y.kids.length y.cap := rfl
  rw [hrx, hry]
  clear hrx hry
  have HB : Hid (Below w.heap.size w ((w.alloc (.cells #[.int .i64 x.k, .int .i64 x.n, .int .i64 x.e, .string x.s, .slice x.a x.kids.length x.cap] 26)).alloc (.cells #[.int .i64 y.k, .int .i64 y.n, .int .i64 y.e, .string y.s, .slice y.a y.kids.length y.cap] 26))) := ((Below.refl _ _).alloc (Nat.le_refl _) _).alloc (by simp) _
  go_enter Try.func54, Try.ntmps54
  go_wp2_with fail
  refine wp_region_still_tail 27 (by kernel_rfl) (by kernel_rfl) ?_
  obtain ⟨W, hW⟩ : ∃ W, W = ((w.alloc (.cells #[.int .i64 x.k, .int .i64 x.n, .int .i64 x.e, .string x.s, .slice x.a x.kids.length x.cap] 26)).alloc (.cells #[.int .i64 y.k, .int .i64 y.n, .int .i64 y.e, .string y.s, .slice y.a y.kids.length y.cap] 26)).drew := ⟨_, rfl⟩
  have HBW : Hid (Below w.heap.size w W) := by subst hW; exact HB.out.trans ⟨rfl, rfl, rfl, Nat.le_refl _, fun _ _ => rfl⟩
  obtain ⟨p0, p1, p2, p3, p4⟩ : Box W w.heap.size x := by subst hW; exact (Box.new w x 26).of_block (Below.heap_alloc _ _ _ (by simp))
  obtain ⟨q0, q1, q2, q3, q4⟩ : Box W (w.heap.size + 1) y := by subst hW; have := Box.new (w.alloc (.cells #[.int .i64 x.k, .int .i64 x.n, .int .i64 x.e, .string x.s, .slice x.a x.kids.length x.cap] 26)) y 26; simp only [World.size_alloc] at this; exact this.of_block rfl
  have HSZ : Hid (w.heap.size ≤ W.heap.size) := HBW.out.size
  unfold LT.row at p4 q4
  change wpStill _ _ ((w.alloc (.cells #[.int .i64 x.k, .int .i64 x.n, .int .i64 x.e, .string x.s, .slice x.a x.kids.length x.cap] 26)).alloc (.cells #[.int .i64 y.k, .int .i64 y.n, .int .i64 y.e, .string y.s, .slice y.a y.kids.length y.cap] 26)).drew (fun a' => wpList _ _ _ _ a' ((w.alloc (.cells #[.int .i64 x.k, .int .i64 x.n, .int .i64 x.e, .string x.s, .slice x.a x.kids.length x.cap] 26)).alloc (.cells #[.int .i64 y.k, .int .i64 y.n, .int .i64 y.e, .string y.s, .slice y.a y.kids.length y.cap] 26)).drew) _ _
  rw [← hW]
  clear hW HB
  simp only [List.take_succ_cons, List.take_zero, List.drop_succ_cons, List.drop_zero]
  repeat still_step
  still_call (compI _ _ _)
  repeat still_step
  still_call (compI _ _ _)
  repeat still_step
  still_call (compI _ _ _)
  repeat still_step
  still_call (compS _ _ _)
  repeat still_step
  still_call (compI _ _ _)
  refine wpStill_nil ?_
  clear p0 p1 p2 p3 p4 q0 q1 q2 q3 q4
  have CO := Lib.hid (or5 (cmpI x.k y.k) (cmpI x.n y.n) (cmpI x.e y.e) (cmpS x.s y.s) (cmpI x.kids.length y.kids.length) W)
  go_wp2_with fail
  with_reducible refine CO.out.mono ?_
  rintro e w1 ⟨rfl, rfl⟩
  have HBF := Lib.hid (HBW.out.alloc HSZ.out (.cells #[.int .i64 (cmpI x.k y.k), .int .i64 (cmpI x.n y.n), .int .i64 (cmpI x.e y.e), .int .i64 (cmpS x.s y.s), .int .i64 (cmpI x.kids.length y.kids.length)] 3))
  clear CO
  go_wp2
  go_ret
  exact ⟨rfl, HBF.out⟩

end Go.Proofs.Ythjholhjkahdkaa.val
