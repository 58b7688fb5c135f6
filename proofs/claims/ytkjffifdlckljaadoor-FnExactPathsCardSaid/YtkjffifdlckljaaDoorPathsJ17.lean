/-
  spec.l02Own at the kinds 5, 6, 8, 9 and where there is none.
-/
import Derived.Test.YtkjffifdlckljaaDoorPathsJ16
import Derived.Test.YtkjffifdlckljaaDoorPathsJ14
namespace Go.Proofs.YtkjffifdlckljaaDoor.node
open Go.ChangeShapes Go.WideShapes Go.ChangeAt Go.RowKit
open Go.Proofs.YtkjffifdlckljaaDoor.val Go.Proofs.YtkjffifdlckljaaDoor.num
set_option maxRecDepth 100000

set_option maxHeartbeats 1000000 in
theorem own_text (n e : Int) (s : ByteArray) (a : Option Addr) (kids : List LT) (cap : Nat) (w : World) (hs : s.size ≤ 1048576) : Calls Tryd.prog 116 #[.agg #[.int .i64 5, .int .i64 n, .int .i64 e, .string s, .slice a kids.length cap]] w (OwnC (.mk 5 n e s a cap kids) w) := by
  have HV : Hid (OwnP (.mk 5 n e s a cap kids) ↔ (n = 0 ∧ e = 0 ∧ sign.textOk s = true ∧ s.size ≤ 2000 ∧ kids.length = 0)) := Iff.rfl
  unfold OwnC
  generalize OwnP (.mk 5 n e s a cap kids) = V at *
  have CT := Lib.hid (fun W => signs.spec_text s W hs)
  generalize sign.textOk s = T at *
  have HX := Lib.hid (OwnAt.new w 5 n e s (.slice a kids.length cap))
  go_enter Tryd.func116, Tryd.ntmps116
  go_upto_region 1 with fail
  go_cut [3, 4, 5] from 6 (fun x y z wx => x = .bool (n == 0) ∧ y = .bool (e == 0) ∧ z = .bool s.toList.isEmpty ∧ OwnAt w wx 5 n e s (.slice a kids.length cap))
  case first =>
    obtain ⟨hl, p0, p1, p2, p3, p4⟩ := HX.out
    go_region
    all_goals
      go_wp2_with fail
      go_meet
      case rel => exact ⟨rfl, rfl, rfl, HX.out.drew⟩
  case rest =>
    obtain ⟨rfl, rfl, rfl, hown⟩ := hcut
    clear HX
    have HO := Lib.hid hown
    obtain ⟨hlow, p0, p1, p2, p3, p4⟩ := hown
    have HL := Lib.hid hlow
    clear hlow
    by_cases hn : n = 0
    · subst hn
      by_cases he : e = 0
      · subst he
        go_wp2_with fail
        with_reducible refine (CT.out _).mono ?_
        rintro r w2 ⟨rfl, hb2⟩
        have hown2 := own_behind HO.out hb2
        clear hb2 HO HL p0 p1 p2 p3 p4
        obtain ⟨hlow, p0, p1, p2, p3, p4⟩ := hown2
        have HL := Lib.hid hlow
        clear hlow
        cases hT : T with
        | false =>
          subst hT
          have HF : Hid (¬ V) := fun hv => by have h9 := HV.out.1 hv; cases h9.2.2.1
          go_wp2
          go_ret
          exact ⟨false, rfl, ⟨fun h => (by cases h), fun h => (HF.out h).elim⟩, HL.out⟩
        | true =>
          subst hT
          by_cases hz : (s.size : Int) ≤ 2000
          · have HK : Hid (((kids.length : Int) == 0) = true ↔ V) := by
              unfold Hid
              rw [HV.out, len_zero, decide_eq_true_eq]
              exact ⟨fun h => ⟨by first | rfl | trivial, by first | rfl | trivial, by first | rfl | trivial, by omega, h⟩, fun h => h.2.2.2.2⟩
            go_wp2
            go_ret
            exact ⟨_, rfl, HK.out, HL.out⟩
          · have HF : Hid (¬ V) := fun hv => by have h9 := HV.out.1 hv; have := h9.2.2.2.1; omega
            go_wp2
            go_ret
            exact ⟨false, rfl, ⟨fun h => (by cases h), fun h => (HF.out h).elim⟩, HL.out⟩
      · have HF : Hid (¬ V) := fun hv => by have h9 := HV.out.1 hv; exact he h9.2.1
        go_wp2
        go_ret
        exact ⟨false, rfl, ⟨fun h => (by cases h), fun h => (HF.out h).elim⟩, HL.out⟩
    · have HF : Hid (¬ V) := fun hv => by have h9 := HV.out.1 hv; exact hn h9.1
      go_wp2
      go_ret
      exact ⟨false, rfl, ⟨fun h => (by cases h), fun h => (HF.out h).elim⟩, HL.out⟩
set_option maxHeartbeats 1000000 in
theorem own_bytes (n e : Int) (s : ByteArray) (a : Option Addr) (kids : List LT) (cap : Nat) (w : World) : Calls Tryd.prog 116 #[.agg #[.int .i64 6, .int .i64 n, .int .i64 e, .string s, .slice a kids.length cap]] w (OwnC (.mk 6 n e s a cap kids) w) := by
  have HV : Hid (OwnP (.mk 6 n e s a cap kids) ↔ (n = 0 ∧ e = 0 ∧ s.size ≤ 2000 ∧ kids.length = 0)) := Iff.rfl
  unfold OwnC
  generalize OwnP (.mk 6 n e s a cap kids) = V at *
  have HX := Lib.hid (OwnAt.new w 6 n e s (.slice a kids.length cap))
  go_enter Tryd.func116, Tryd.ntmps116
  go_upto_region 1 with fail
  go_cut [3, 4, 5] from 6 (fun x y z wx => x = .bool (n == 0) ∧ y = .bool (e == 0) ∧ z = .bool s.toList.isEmpty ∧ OwnAt w wx 6 n e s (.slice a kids.length cap))
  case first =>
    obtain ⟨hl, p0, p1, p2, p3, p4⟩ := HX.out
    go_region
    all_goals
      go_wp2_with fail
      go_meet
      case rel => exact ⟨rfl, rfl, rfl, HX.out.drew⟩
  case rest =>
    obtain ⟨rfl, rfl, rfl, hown⟩ := hcut
    clear HX
    have HO := Lib.hid hown
    obtain ⟨hlow, p0, p1, p2, p3, p4⟩ := hown
    have HL := Lib.hid hlow
    clear hlow
    by_cases hn : n = 0
    · subst hn
      by_cases he : e = 0
      · subst he
        by_cases hz : (s.size : Int) ≤ 2000
        · have HK : Hid (((kids.length : Int) == 0) = true ↔ V) := by
            unfold Hid
            rw [HV.out, len_zero, decide_eq_true_eq]
            exact ⟨fun h => ⟨rfl, rfl, by omega, h⟩, fun h => h.2.2.2⟩
          go_wp2
          go_ret
          exact ⟨_, rfl, HK.out, HL.out⟩
        · have HF : Hid (¬ V) := fun hv => by have h9 := HV.out.1 hv; have := h9.2.2.1; omega
          go_wp2
          go_ret
          exact ⟨false, rfl, ⟨fun h => (by cases h), fun h => (HF.out h).elim⟩, HL.out⟩
      · have HF : Hid (¬ V) := fun hv => by have h9 := HV.out.1 hv; exact he h9.2.1
        go_wp2
        go_ret
        exact ⟨false, rfl, ⟨fun h => (by cases h), fun h => (HF.out h).elim⟩, HL.out⟩
    · have HF : Hid (¬ V) := fun hv => by have h9 := HV.out.1 hv; exact hn h9.1
      go_wp2
      go_ret
      exact ⟨false, rfl, ⟨fun h => (by cases h), fun h => (HF.out h).elim⟩, HL.out⟩
set_option maxHeartbeats 1000000 in
theorem own_map (n e : Int) (s : ByteArray) (a : Option Addr) (kids : List LT) (cap : Nat) (w : World) (CP : ∀ W, Below w.heap.size w W → Calls Tryd.prog 141 #[.slice a kids.length cap] W (PairsC kids W)) : Calls Tryd.prog 116 #[.agg #[.int .i64 8, .int .i64 n, .int .i64 e, .string s, .slice a kids.length cap]] w (OwnC (.mk 8 n e s a cap kids) w) := by
  have HV : Hid (OwnP (.mk 8 n e s a cap kids) ↔ (n = 0 ∧ e = 0 ∧ s.size = 0 ∧ Pairs kids)) := Iff.rfl
  unfold OwnC
  generalize OwnP (.mk 8 n e s a cap kids) = V at *
  replace CP := Lib.hid CP
  have HX := Lib.hid (OwnAt.new w 8 n e s (.slice a kids.length cap))
  go_enter Tryd.func116, Tryd.ntmps116
  go_upto_region 1 with fail
  go_cut [3, 4, 5] from 6 (fun x y z wx => x = .bool (n == 0) ∧ y = .bool (e == 0) ∧ z = .bool s.toList.isEmpty ∧ OwnAt w wx 8 n e s (.slice a kids.length cap))
  case first =>
    obtain ⟨hl, p0, p1, p2, p3, p4⟩ := HX.out
    go_region
    all_goals
      go_wp2_with fail
      go_meet
      case rel => exact ⟨rfl, rfl, rfl, HX.out.drew⟩
  case rest =>
    obtain ⟨rfl, rfl, rfl, hown⟩ := hcut
    clear HX
    have HO := Lib.hid hown
    obtain ⟨hlow, p0, p1, p2, p3, p4⟩ := hown
    have HL := Lib.hid hlow
    clear hlow
    by_cases hn : n = 0
    · subst hn
      by_cases he : e = 0
      · subst he
        by_cases hs : s.toList = []
        · go_wp2_with fail
          with_reducible refine (CP.out _ HL.out).mono ?_
          rintro r w2 ⟨b, rfl, hb2⟩
          have HK : Hid (b = true ↔ V) := by
            unfold Hid
            rw [HV.out, hb2.iff]
            exact ⟨fun h => ⟨by first | rfl | trivial, by first | rfl | trivial, (toList_nil s).1 hs, h⟩, fun h => h.2.2.2⟩
          have HL2 : Hid (Below w.heap.size w w2) := HL.out.trans (hb2.below.mono HL.out.size)
          clear hb2
          go_wp2
          go_ret
          exact ⟨_, rfl, HK.out, HL2.out⟩
        · have HF : Hid (¬ V) := fun hv => by have h9 := HV.out.1 hv; exact hs ((toList_nil s).2 h9.2.2.1)
          go_wp2
          go_ret
          exact ⟨false, rfl, ⟨fun h => (by cases h), fun h => (HF.out h).elim⟩, HL.out⟩
      · have HF : Hid (¬ V) := fun hv => by have h9 := HV.out.1 hv; exact he h9.2.1
        go_wp2
        go_ret
        exact ⟨false, rfl, ⟨fun h => (by cases h), fun h => (HF.out h).elim⟩, HL.out⟩
    · have HF : Hid (¬ V) := fun hv => by have h9 := HV.out.1 hv; exact hn h9.1
      go_wp2
      go_ret
      exact ⟨false, rfl, ⟨fun h => (by cases h), fun h => (HF.out h).elim⟩, HL.out⟩
set_option maxHeartbeats 1000000 in
theorem own_tag (n e : Int) (s : ByteArray) (a : Option Addr) (kids : List LT) (cap : Nat) (w : World) : Calls Tryd.prog 116 #[.agg #[.int .i64 9, .int .i64 n, .int .i64 e, .string s, .slice a kids.length cap]] w (OwnC (.mk 9 n e s a cap kids) w) := by
  have HV : Hid (OwnP (.mk 9 n e s a cap kids) ↔ ((0 ≤ n ∧ n ≤ 1000000) ∧ e = 0 ∧ s.size = 0 ∧ kids.length = 1)) := Iff.rfl
  unfold OwnC
  generalize OwnP (.mk 9 n e s a cap kids) = V at *
  have CI := fun W => in_any n 0 1000000 W
  have HX := Lib.hid (OwnAt.new w 9 n e s (.slice a kids.length cap))
  go_enter Tryd.func116, Tryd.ntmps116
  go_upto_region 1 with fail
  go_cut [3, 4, 5] from 6 (fun x y z wx => x = .bool (n == 0) ∧ y = .bool (e == 0) ∧ z = .bool s.toList.isEmpty ∧ OwnAt w wx 9 n e s (.slice a kids.length cap))
  case first =>
    obtain ⟨hl, p0, p1, p2, p3, p4⟩ := HX.out
    go_region
    all_goals
      go_wp2_with fail
      go_meet
      case rel => exact ⟨rfl, rfl, rfl, HX.out.drew⟩
  case rest =>
    obtain ⟨rfl, rfl, rfl, hown⟩ := hcut
    clear HX
    have HO := Lib.hid hown
    obtain ⟨hlow, p0, p1, p2, p3, p4⟩ := hown
    have HL := Lib.hid hlow
    clear hlow
    by_cases hn : 0 ≤ n ∧ n ≤ 1000000
    · rw [decide_eq_true hn] at CI
      replace CI := Lib.hid CI
      by_cases he : e = 0
      · subst he
        by_cases hs : s.toList = []
        · have HK : Hid (((kids.length : Int) == 1) = true ↔ V) := by
            unfold Hid
            rw [HV.out, beq_iff_eq]
            exact ⟨fun h => ⟨hn, rfl, (toList_nil s).1 hs, by omega⟩, fun h => by have := h.2.2.2; omega⟩
          clear hn
          go_wp2_with (go_at_call 56; with_reducible refine (CI.out _).mono ?_; rintro r w2 ⟨rfl, rfl⟩)
          go_ret
          exact ⟨_, rfl, HK.out, HL.out⟩
        · have HF : Hid (¬ V) := fun hv => by have h9 := HV.out.1 hv; exact hs ((toList_nil s).2 h9.2.2.1)
          clear hn
          go_wp2_with (go_at_call 56; with_reducible refine (CI.out _).mono ?_; rintro r w2 ⟨rfl, rfl⟩)
          go_ret
          exact ⟨false, rfl, ⟨fun h => (by cases h), fun h => (HF.out h).elim⟩, HL.out⟩
      · have HF : Hid (¬ V) := fun hv => by have h9 := HV.out.1 hv; exact he h9.2.1
        clear hn
        go_wp2_with (go_at_call 56; with_reducible refine (CI.out _).mono ?_; rintro r w2 ⟨rfl, rfl⟩)
        go_ret
        exact ⟨false, rfl, ⟨fun h => (by cases h), fun h => (HF.out h).elim⟩, HL.out⟩
    · rw [decide_eq_false hn] at CI
      replace CI := Lib.hid CI
      have HF : Hid (¬ V) := fun hv => by have h9 := HV.out.1 hv; exact hn h9.1
      clear hn
      go_wp2_with (go_at_call 56; with_reducible refine (CI.out _).mono ?_; rintro r w2 ⟨rfl, rfl⟩)
      go_ret
      exact ⟨false, rfl, ⟨fun h => (by cases h), fun h => (HF.out h).elim⟩, HL.out⟩
set_option maxHeartbeats 1000000 in
theorem own_other (k n e : Int) (s : ByteArray) (a : Option Addr) (kids : List LT) (cap : Nat) (w : World) (h : ¬ (0 ≤ k ∧ k ≤ 9)) : Calls Tryd.prog 116 #[.agg #[.int .i64 k, .int .i64 n, .int .i64 e, .string s, .slice a kids.length cap]] w (OwnC (.mk k n e s a cap kids) w) := by
  have HF : Hid (¬ OwnP (.mk k n e s a cap kids)) := by
    intro hp
    unfold OwnP at hp
    have h0 : ¬ (k = 0 ∨ k = 1 ∨ k = 2) := by omega
    have h1 : ¬ (k = 3 ∨ k = 4) := by omega
    have h5 : ¬ k = 5 := by omega
    have h6 : ¬ k = 6 := by omega
    have h7 : ¬ k = 7 := by omega
    have h8 : ¬ k = 8 := by omega
    have h9 : ¬ k = 9 := by omega
    have hk : (val.LT.mk k n e s a cap kids).k = k := rfl
    simp only [hk, h0, h1, h5, h6, h7, h8, h9, if_false] at hp
  unfold OwnC
  generalize OwnP (.mk k n e s a cap kids) = V at *
  have k0 : (k == 0) = false := by simp; omega
  have k1 : (k == 1) = false := by simp; omega
  have k2 : (k == 2) = false := by simp; omega
  have k3 : (k == 3) = false := by simp; omega
  have k4 : (k == 4) = false := by simp; omega
  have k5 : (k == 5) = false := by simp; omega
  have k6 : (k == 6) = false := by simp; omega
  have k7 : (k == 7) = false := by simp; omega
  have k8 : (k == 8) = false := by simp; omega
  have k9 : (k == 9) = false := by simp; omega
  clear h
  have HX := Lib.hid (OwnAt.new w k n e s (.slice a kids.length cap))
  go_enter Tryd.func116, Tryd.ntmps116
  go_upto_region 1 with fail
  go_cut [3, 4, 5] from 6 (fun x y z wx => x = .bool (n == 0) ∧ y = .bool (e == 0) ∧ z = .bool s.toList.isEmpty ∧ OwnAt w wx k n e s (.slice a kids.length cap))
  case first =>
    obtain ⟨hl, p0, p1, p2, p3, p4⟩ := HX.out
    go_region
    all_goals
      go_wp2_with fail
      go_meet
      case rel => exact ⟨rfl, rfl, rfl, HX.out.drew⟩
  case rest =>
    obtain ⟨rfl, rfl, rfl, hown⟩ := hcut
    clear HX
    obtain ⟨hlow, p0, p1, p2, p3, p4⟩ := hown
    have HL := Lib.hid hlow
    clear hlow
    go_wp2
    go_ret
    exact ⟨false, rfl, ⟨fun h => (by cases h), fun h => (HF.out h).elim⟩, HL.out⟩
end Go.Proofs.YtkjffifdlckljaaDoor.node
/-
  spec.l02Right, spec.Nodes, spec.ValueOk at a number.
-/
namespace Go.Proofs.YtkjffifdlckljaaDoor.num
open Go.ChangeShapes Go.WideShapes Go.ChangeAt Go.RowKit
open Go.Proofs.YtkjffifdlckljaaDoor.val
set_option maxRecDepth 100000

set_option maxHeartbeats 1000000 in
theorem right_num (t : LT) (hk : t.k = 3 ∨ t.k = 4) (w : World) : Calls Tryd.prog 83 #[.agg #[.int .i64 t.k, .int .i64 t.n, .int .i64 t.e, .string t.s, t.row], .int .i64 12] w fun r w' => r = .returned (.bool (numOk t)) ∧ Below w.heap.size w w' := by
  have CO := fun W => own_num t hk W
  have HV : Hid (numOk t = true → t.kids.length = 0) := fun h => by
    unfold numOk at h
    simp only [Bool.and_eq_true, decide_eq_true_eq] at h
    exact h.1.2
  clear hk
  generalize numOk t = V at *
  have hrow : t.row = .slice t.a t.kids.length t.cap := rfl
  simp only [hrow] at CO ⊢
  clear hrow
  have HX : Hid (Box (w.alloc (.cells #[.int .i64 t.k, .int .i64 t.n, .int .i64 t.e, .string t.s, .slice t.a t.kids.length t.cap] 24)) w.heap.size t) := Box.new w t 24
  have HB := Lib.hid ((Below.refl w.heap.size w).alloc (Nat.le_refl _) (.cells #[.int .i64 t.k, .int .i64 t.n, .int .i64 t.e, .string t.s, .slice t.a t.kids.length t.cap] 24))
  replace CO := Lib.hid CO
  go_enter Tryd.func83, Tryd.ntmps83
  go_wp2_with fail
  with_reducible refine (CO.out _).mono ?_
  rintro r w1 ⟨rfl, hb⟩
  replace HX := Lib.hid (HX.out.behind hb)
  replace HB := Lib.hid (below_of2 HB.out hb)
  clear hb CO
  obtain ⟨p0, p1, p2, p3, p4⟩ := HX.out
  unfold LT.row at p4
  cases V with
  | false =>
    go_wp2
    go_ret
    exact ⟨rfl, HB.out⟩
  | true =>
    have h0 := HV.out rfl
    rw [h0]
    rw [h0] at p4
    go_wp2
    go_loop [5] (fun i => i = .int .i64 0) (fun _ => 0)
    case atStart => rfl
    case round =>
      obtain rfl := hrel
      go_wp2
      go_ret
      exact ⟨rfl, HB.out⟩
set_option maxHeartbeats 1000000 in
theorem nodes_leaf (k n e : Int) (s : ByteArray) (a : Option Addr) (cap : Nat) (w : World) : Calls Tryd.prog 84 #[.agg #[.int .i64 k, .int .i64 n, .int .i64 e, .string s, .slice a 0 cap]] w fun r w' => r = .returned (.int .i64 1) ∧ Below w.heap.size w w' := by
  have HX := Lib.hid (OwnAt.new w k n e s (.slice a 0 cap))
  obtain ⟨hl, p0, p1, p2, p3, p4⟩ := HX.out
  have HL := Lib.hid hl
  clear hl
  go_enter Tryd.func84, Tryd.ntmps84
  go_wp2
  go_loop [3, 4] (fun v i => v = .int .i64 1 ∧ i = .int .i64 0) (fun _ _ => 0)
  case atStart => exact ⟨rfl, rfl⟩
  case round =>
    obtain ⟨rfl, rfl⟩ := hrel
    go_wp2
    go_ret
    exact ⟨rfl, HL.out⟩
set_option maxHeartbeats 1000000 in
theorem spec_value_num (t : LT) (hk : t.k = 3 ∨ t.k = 4) (w : World) : Calls Tryd.prog 51 #[.agg #[.int .i64 t.k, .int .i64 t.n, .int .i64 t.e, .string t.s, t.row]] w fun r w' => r = .returned (.bool (numOk t)) ∧ Below w.heap.size w w' := by
  have CR := fun W => right_num t hk W
  have HV : Hid (numOk t = true → t.kids.length = 0) := fun h => by
    unfold numOk at h
    simp only [Bool.and_eq_true, decide_eq_true_eq] at h
    exact h.1.2
  clear hk
  generalize numOk t = V at *
  have hrow : t.row = .slice t.a t.kids.length t.cap := rfl
  have HX : Hid (Box (w.alloc (.cells #[.int .i64 t.k, .int .i64 t.n, .int .i64 t.e, .string t.s, .slice t.a t.kids.length t.cap] 24)) w.heap.size t) := Box.new w t 24
  have HB := Lib.hid ((Below.refl w.heap.size w).alloc (Nat.le_refl _) (.cells #[.int .i64 t.k, .int .i64 t.n, .int .i64 t.e, .string t.s, .slice t.a t.kids.length t.cap] 24))
  simp only [hrow] at CR ⊢
  clear hrow
  replace CR := Lib.hid CR
  go_enter Tryd.func51, Tryd.ntmps51
  go_wp2_with fail
  with_reducible refine (CR.out _).mono ?_
  rintro r w1 ⟨rfl, hb⟩
  replace HX := Lib.hid (HX.out.behind hb)
  replace HB := Lib.hid (below_of2 HB.out hb)
  clear hb CR
  obtain ⟨p0, p1, p2, p3, p4⟩ := HX.out
  unfold LT.row at p4
  cases V with
  | false =>
    go_wp2
    go_ret
    exact ⟨rfl, HB.out⟩
  | true =>
    have h0 := HV.out rfl
    rw [h0]
    rw [h0] at p4
    have CN := Lib.hid (nodes_leaf t.k t.n t.e t.s t.a t.cap)
    go_wp2_with (go_at_call 84; with_reducible refine (CN.out _).mono ?_; rintro r w2 ⟨rfl, hb2⟩; have HB2 := Lib.hid (below_of2 HB.out hb2); clear hb2)
    go_ret
    exact ⟨rfl, HB2.out⟩

end Go.Proofs.YtkjffifdlckljaaDoor.num
