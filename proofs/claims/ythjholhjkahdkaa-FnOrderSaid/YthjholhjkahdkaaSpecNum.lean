/-
  spec.ValueOk at a number.
-/
import Derived.Test.YthjholhjkahdkaaScaledWalk
import Derived.Test.YthjholhjkahdkaaSpecCmp
import Derived.Deep.CutRange
namespace Go.Proofs.Ythjholhjkahdkaa.num
open Go.ChangeShapes Go.WideShapes Go.ChangeAt Go.RowKit
open Go.Proofs.Ythjholhjkahdkaa.val
set_option maxRecDepth 100000

theorem in_any (n lo hi : Int) (w : World) : Calls Try.prog 25 #[.int .i64 n, .int .i64 lo, .int .i64 hi] w fun r w' => r = .returned (.bool (decide (lo ≤ n ∧ n ≤ hi))) ∧ w = w' := by
  by_cases h : lo ≤ n ∧ n ≤ hi
  · obtain ⟨h1, h2⟩ := h
    rw [decide_eq_true ⟨h1, h2⟩]
    go_enter Try.func25, Try.ntmps25
    go_wp2
    go_ret
    exact ⟨by first | rfl | simp [h1, h2], rfl⟩
  · rw [decide_eq_false h]
    by_cases h1 : lo ≤ n
    · have h2 : ¬ n ≤ hi := fun h2 => h ⟨h1, h2⟩
      clear h
      go_enter Try.func25, Try.ntmps25
      go_wp2
      go_ret
      exact ⟨by first | rfl | simp [h1, h2], rfl⟩
    · clear h
      go_enter Try.func25, Try.ntmps25
      go_wp2
      go_ret
      exact ⟨by first | rfl | simp [h1], rfl⟩

structure OwnAt (w wx : World) (k n e : Int) (s : ByteArray) (r : Value) : Prop where
  low : Below w.heap.size w wx
  c0 : wx.cell? ⟨w.heap.size, 0, none⟩ = some (.int .i64 k)
  c1 : wx.cell? ⟨w.heap.size, 1, none⟩ = some (.int .i64 n)
  c2 : wx.cell? ⟨w.heap.size, 2, none⟩ = some (.int .i64 e)
  c3 : wx.cell? ⟨w.heap.size, 3, none⟩ = some (.string s)
  c4 : wx.cell? ⟨w.heap.size, 4, none⟩ = some r
theorem OwnAt.new (w : World) (k n e : Int) (s : ByteArray) (r : Value) : OwnAt w (w.alloc (.cells #[.int .i64 k, .int .i64 n, .int .i64 e, .string s, r] 26)) k n e s r := by
  have hb := heap_alloc_new w (.cells #[.int .i64 k, .int .i64 n, .int .i64 e, .string s, r] 26)
  exact ⟨(Below.refl _ _).alloc (Nat.le_refl _) _, cell_of_row _ _ 0 _ _ (0, 0) hb, cell_of_row _ _ 1 _ _ (0, 0) hb, cell_of_row _ _ 2 _ _ (0, 0) hb, cell_of_row _ _ 3 _ _ (0, 0) hb, cell_of_row _ _ 4 _ _ (0, 0) hb⟩
theorem OwnAt.drew {w wx : World} {k n e : Int} {s : ByteArray} {r : Value} (h : OwnAt w wx k n e s r) : OwnAt w wx.drew k n e s r := ⟨below_drew h.low, h.c0, h.c1, h.c2, h.c3, h.c4⟩
theorem num_int' (n e : Int) (s : ByteArray) (a : Option Addr) (kids : List LT) (cap : Nat) : numOk (.mk 3 n e s a cap kids) = (decide (s.size = 0 ∧ kids.length = 0) && decide (e = 0)) := rfl
theorem num_dec' (n e : Int) (s : ByteArray) (a : Option Addr) (kids : List LT) (cap : Nat) : numOk (.mk 4 n e s a cap kids) = (decide (s.size = 0 ∧ kids.length = 0) && decOk n e) := rfl
theorem toList_nil (s : ByteArray) : s.toList = [] ↔ s.size = 0 := by
  have hl : s.toList.length = s.size := by rw [Lib.toList_data, Lib.size_eq]
  rw [← hl]
  exact List.length_eq_zero_iff.symm
theorem len_zero (k : Nat) : ((k : Int) == 0) = decide (k = 0) := by
  by_cases h : k = 0
  · subst h; rfl
  · rw [decide_eq_false h, beq_eq_false_iff_ne.2 (by omega)]
set_option maxHeartbeats 1000000 in
theorem own_int (n e : Int) (s : ByteArray) (a : Option Addr) (kids : List LT) (cap : Nat) (w : World) : Calls Try.prog 48 #[.agg #[.int .i64 3, .int .i64 n, .int .i64 e, .string s, .slice a kids.length cap]] w fun r w' => r = .returned (.bool (numOk (.mk 3 n e s a cap kids))) ∧ Below w.heap.size w w' := by
  have HB := Lib.hid ((Below.refl w.heap.size w).alloc (Nat.le_refl _) (.cells #[.int .i64 3, .int .i64 n, .int .i64 e, .string s, .slice a kids.length cap] 26))
  have HX := Lib.hid (OwnAt.new w 3 n e s (.slice a kids.length cap))
  go_enter Try.func48, Try.ntmps48
  go_upto_region 1 with fail
  go_cut [3, 4, 5] from 6 (fun x y z wx => x = .bool (n == 0) ∧ y = .bool (e == 0) ∧ z = .bool s.toList.isEmpty ∧ OwnAt w wx 3 n e s (.slice a kids.length cap))
  case first =>
    obtain ⟨hl, p0, p1, p2, p3, p4⟩ := HX.out
    go_region
    all_goals
      go_wp2_with fail
      go_meet
      case rel => exact ⟨rfl, rfl, rfl, HX.out.drew⟩
  case rest =>
    obtain ⟨rfl, rfl, rfl, hown⟩ := hcut
    clear HB HX
    obtain ⟨hlow, p0, p1, p2, p3, p4⟩ := hown
    have HL := Lib.hid hlow
    clear hlow
    by_cases he : e = 0
    · subst he
      by_cases hs : s.toList = []
      · have HV : Hid (numOk (.mk 3 n 0 s a cap kids) = ((kids.length : Int) == 0)) := by
          unfold Hid
          rw [num_int', len_zero]
          simp [(toList_nil s).1 hs]
        go_wp2
        go_ret
        exact ⟨by rw [HV.out]; rfl, HL.out⟩
      · have HV : Hid (numOk (.mk 3 n 0 s a cap kids) = false) := by
          unfold Hid
          rw [num_int', decide_eq_false (fun h => hs ((toList_nil s).2 h.1))]
          rfl
        go_wp2
        go_ret
        exact ⟨by rw [HV.out]; rfl, HL.out⟩
    · have HV : Hid (numOk (.mk 3 n e s a cap kids) = false) := by
        unfold Hid
        rw [num_int', decide_eq_false he, Bool.and_false]
      go_wp2
      go_ret
      exact ⟨by rw [HV.out]; rfl, HL.out⟩
theorem ret_b {a b : Bool} (h : a = b) : Ending.returned (.bool a) = .returned (.bool b) := by rw [h]
theorem num_no {n e : Int} {s : ByteArray} {a : Option Addr} {kids : List LT} {cap : Nat} (h : ¬ (-20 ≤ e ∧ e ≤ 20 ∧ e ≠ 0 ∧ -999999999999999999 ≤ n ∧ n ≤ 999999999999999999 ∧ n.tmod 10 ≠ 0)) : numOk (.mk 4 n e s a cap kids) = false := by
  rw [num_dec', dec_no h, Bool.and_false]
set_option maxHeartbeats 4000000 in
theorem own_dec (n e : Int) (s : ByteArray) (a : Option Addr) (kids : List LT) (cap : Nat) (w : World) : Calls Try.prog 48 #[.agg #[.int .i64 4, .int .i64 n, .int .i64 e, .string s, .slice a kids.length cap]] w fun r w' => r = .returned (.bool (numOk (.mk 4 n e s a cap kids))) ∧ Below w.heap.size w w' := by
  have HB := Lib.hid ((Below.refl w.heap.size w).alloc (Nat.le_refl _) (.cells #[.int .i64 4, .int .i64 n, .int .i64 e, .string s, .slice a kids.length cap] 26))
  have HX := Lib.hid (OwnAt.new w 4 n e s (.slice a kids.length cap))
  go_enter Try.func48, Try.ntmps48
  go_upto_region 1 with fail
  go_cut [3, 4, 5] from 6 (fun x y z wx => x = .bool (n == 0) ∧ y = .bool (e == 0) ∧ z = .bool s.toList.isEmpty ∧ OwnAt w wx 4 n e s (.slice a kids.length cap))
  case first =>
    obtain ⟨hl, p0, p1, p2, p3, p4⟩ := HX.out
    go_region
    all_goals
      go_wp2_with fail
      go_meet
      case rel => exact ⟨rfl, rfl, rfl, HX.out.drew⟩
  case rest =>
    obtain ⟨rfl, rfl, rfl, hown⟩ := hcut
    clear HB HX
    obtain ⟨hlow, p0, p1, p2, p3, p4⟩ := hown
    have HL := Lib.hid hlow
    clear hlow
    by_cases h1 : n.tmod 10 = 0
    · have HV : Hid (numOk (.mk 4 n e s a cap kids) = false) := num_no (by omega)
      go_wp2
      all_goals first
        | (go_ret; exact ⟨by rw [HV.out]; rfl, HL.out⟩)
        | (exfalso; omega)
    · by_cases h2 : n < -999999999999999999
      · have HV : Hid (numOk (.mk 4 n e s a cap kids) = false) := num_no (by omega)
        go_wp2
        all_goals first
          | (go_ret; exact ⟨by rw [HV.out]; rfl, HL.out⟩)
          | (exfalso; omega)
      · by_cases h3 : 999999999999999999 < n
        · have HV : Hid (numOk (.mk 4 n e s a cap kids) = false) := num_no (by omega)
          go_wp2
          all_goals first
            | (go_ret; exact ⟨by rw [HV.out]; rfl, HL.out⟩)
            | (exfalso; omega)
        · by_cases h4 : e < -20
          · have HV : Hid (numOk (.mk 4 n e s a cap kids) = false) := num_no (by omega)
            go_wp2
            all_goals first
              | (go_ret; exact ⟨by rw [HV.out]; rfl, HL.out⟩)
              | (exfalso; omega)
          · by_cases h5 : 20 < e
            · have HV : Hid (numOk (.mk 4 n e s a cap kids) = false) := num_no (by omega)
              go_wp2
              all_goals first
                | (go_ret; exact ⟨by rw [HV.out]; rfl, HL.out⟩)
                | (exfalso; omega)
            · by_cases h6 : e = 0
              · subst h6
                have HV : Hid (numOk (.mk 4 n 0 s a cap kids) = false) := num_no (by omega)
                go_wp2
                all_goals first
                  | (go_ret; exact ⟨by rw [HV.out]; rfl, HL.out⟩)
                  | (exfalso; omega)
              · by_cases h7 : s.toList = []
                · by_cases h8 : kids.length = 0
                  · have hd : decOk n e = (decide (e < 0) || (scal n e.toNat).isNone) := dec_is (by omega)
                    have hn : numOk (.mk 4 n e s a cap kids) = decOk n e := by
                      rw [num_dec', decide_eq_true ⟨(toList_nil s).1 h7, h8⟩, Bool.true_and]
                    have h8' : (kids.length : Int) = 0 := by omega
                    by_cases h9 : e < 0
                    · have HV : Hid (numOk (.mk 4 n e s a cap kids) = true) := by
                        unfold Hid
                        rw [hn, hd, decide_eq_true h9]
                        rfl
                      have HT : Hid ((n.tmod 10 != 0 && !(e == 0)) = true) := by unfold Hid; rw [bne, beq_eq_false_iff_ne.2 h1, beq_eq_false_iff_ne.2 h6]; rfl
                      have CW := Lib.hid (fun W => whole_neg n e (by omega) W)
                      have C1 := fun W => in_any n (-999999999999999999) 999999999999999999 W
                      have C2 := fun W => in_any e (-20) 20 W
                      rw [decide_eq_true (by omega)] at C1 C2
                      replace C1 := Lib.hid C1
                      replace C2 := Lib.hid C2
                      clear hn hd
                      go_wp2_with (first | (go_at_call 25; with_reducible refine (C1.out _).mono ?_; rintro r w2 ⟨rfl, rfl⟩) | (go_at_call 25; with_reducible refine (C2.out _).mono ?_; rintro r w2 ⟨rfl, rfl⟩) | (go_at_call 56; with_reducible refine (CW.out _).mono ?_; rintro r w2 ⟨rfl, rfl⟩))
                      go_ret
                      exact ⟨by rw [HV.out]; refine ret_b ?_; first | rfl | exact HT.out, HL.out⟩
                    · obtain ⟨k, rfl⟩ : ∃ k : Nat, e = k := ⟨e.toNat, by omega⟩
                      have HV : Hid (numOk (.mk 4 n k s a cap kids) = !(scal n k).isSome) := by
                        unfold Hid
                        rw [hn, hd, decide_eq_false h9, Int.toNat_natCast]
                        cases scal n k <;> rfl
                      have HT : Hid ((n.tmod 10 != 0 && !((k : Int) == 0)) = true) := by unfold Hid; rw [bne, beq_eq_false_iff_ne.2 h1, beq_eq_false_iff_ne.2 h6]; rfl
                      have CW := Lib.hid (fun W => whole_pos n k (by omega) (by omega) W)
                      have C1 := fun W => in_any n (-999999999999999999) 999999999999999999 W
                      have C2 := fun W => in_any k (-20) 20 W
                      rw [decide_eq_true (by omega)] at C1 C2
                      replace C1 := Lib.hid C1
                      replace C2 := Lib.hid C2
                      clear hn hd
                      generalize scal n k = R at *
                      go_wp2_with (first | (go_at_call 25; with_reducible refine (C1.out _).mono ?_; rintro r w2 ⟨rfl, rfl⟩) | (go_at_call 25; with_reducible refine (C2.out _).mono ?_; rintro r w2 ⟨rfl, rfl⟩) | (go_at_call 56; with_reducible refine (CW.out _).mono ?_; rintro r w2 ⟨rfl, rfl⟩))
                      go_ret
                      exact ⟨by rw [HV.out]; refine ret_b ?_; first | rfl | (rw [HT.out]; cases R <;> rfl), HL.out⟩
                  · have h8' : ¬ (kids.length : Int) = 0 := by omega
                    have HV : Hid (numOk (.mk 4 n e s a cap kids) = false) := by
                      unfold Hid
                      rw [num_dec', decide_eq_false (fun h => h8 h.2)]
                      rfl
                    go_wp2
                    all_goals first
                      | (go_ret; exact ⟨by rw [HV.out]; rfl, HL.out⟩)
                      | (exfalso; omega)
                · have HV : Hid (numOk (.mk 4 n e s a cap kids) = false) := by
                    unfold Hid
                    rw [num_dec', decide_eq_false (fun h => h7 ((toList_nil s).2 h.1))]
                    rfl
                  go_wp2
                  all_goals first
                    | (go_ret; exact ⟨by rw [HV.out]; rfl, HL.out⟩)
                    | (exfalso; omega)
theorem own_num (t : LT) (hk : t.k = 3 ∨ t.k = 4) (w : World) : Calls Try.prog 48 #[.agg #[.int .i64 t.k, .int .i64 t.n, .int .i64 t.e, .string t.s, t.row]] w fun r w' => r = .returned (.bool (numOk t)) ∧ Below w.heap.size w w' := by
  obtain ⟨k, n, e, s, a, cap, kids⟩ := t
  rcases hk with hk | hk
  · obtain rfl : k = 3 := hk
    exact own_int n e s a kids cap w
  · obtain rfl : k = 4 := hk
    exact own_dec n e s a kids cap w
end Go.Proofs.Ythjholhjkahdkaa.num
