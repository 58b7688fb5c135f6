/-
  spec.l02Own at the kinds 5, 6, 8, 9 and where there is none.
-/
import Derived.Test.YtnfbjcpoealkoaaGreatDoorPutJsonJ12
import Derived.Test.YtnfbjcpoealkoaaGreatDoorPutJsonJ17
namespace Go.Proofs.YtnfbjcpoealkoaaGreatDoor.node
open Go.ChangeShapes Go.WideShapes Go.ChangeAt Go.RowKit
open Go.Proofs.YtnfbjcpoealkoaaGreatDoor.val Go.Proofs.YtnfbjcpoealkoaaGreatDoor.num
set_option maxRecDepth 100000

set_option maxHeartbeats 1000000 in
theorem own_text (n e : Int) (s : ByteArray) (a : Option Addr) (kids : List LT) (cap : Nat) (w : World) (hs : s.size ≤ 1048576) : Calls Tryz.prog 187 #[.agg #[.int .i64 5, .int .i64 n, .int .i64 e, .string s, .slice a kids.length cap]] w (OwnC (.mk 5 n e s a cap kids) w) := by
  have HV : Hid (OwnP (.mk 5 n e s a cap kids) ↔ (n = 0 ∧ e = 0 ∧ sign.textOk s = true ∧ s.size ≤ 2000 ∧ kids.length = 0)) := Iff.rfl
  unfold OwnC
  generalize OwnP (.mk 5 n e s a cap kids) = V at *
  have CT := Lib.hid (fun W => signs.spec_text s W hs)
  generalize sign.textOk s = T at *
  have HX := Lib.hid (OwnAt.new w 5 n e s (.slice a kids.length cap))
  go_enter Tryz.func187, Tryz.ntmps187
  go_upto_region 1 with fail
  go_cut [3, 4, 5] from 6 (fun x y z wx => x = .bool (n == 0) ∧ y = .bool (e == 0) ∧ z = .bool s.toList.isEmpty ∧ OwnAt w wx 5 n e s (.slice a kids.length cap))
  case first =>
    obtain ⟨hl, p0, p1, p2, p3, p4⟩ := HX.out
    go_region
    all_goals
      go_wp2_with fail
      go_meet
      case rel => exact ⟨rfl, rfl, rfl, HX.out.drew⟩
  case rest =>
    obtain ⟨rfl, rfl, rfl, hown⟩ := hcut
    clear HX
    have HO := Lib.hid hown
    obtain ⟨hlow, p0, p1, p2, p3, p4⟩ := hown
    have HL := Lib.hid hlow
    clear hlow
    by_cases hn : n = 0
    · subst hn
      by_cases he : e = 0
      · subst he
        go_wp2_with fail
        with_reducible refine (CT.out _).mono ?_
        rintro r w2 ⟨rfl, hb2⟩
        have hown2 := own_behind HO.out hb2
        clear hb2 HO HL p0 p1 p2 p3 p4
        obtain ⟨hlow, p0, p1, p2, p3, p4⟩ := hown2
        have HL := Lib.hid hlow
        clear hlow
        cases hT : T with
        | false =>
          subst hT
          have HF : Hid (¬ V) := fun hv => by have h9 := HV.out.1 hv; cases h9.2.2.1
          go_wp2
          go_ret
          exact ⟨false, rfl, ⟨fun h => (by cases h), fun h => (HF.out h).elim⟩, HL.out⟩
        | true =>
          subst hT
          by_cases hz : (s.size : Int) ≤ 2000
          · have HK : Hid (((kids.length : Int) == 0) = true ↔ V) := by
              unfold Hid
              rw [HV.out, len_zero, decide_eq_true_eq]
              exact ⟨fun h => ⟨by first | rfl | trivial, by first | rfl | trivial, by first | rfl | trivial, by omega, h⟩, fun h => h.2.2.2.2⟩
            go_wp2
            go_ret
            exact ⟨_, rfl, HK.out, HL.out⟩
          · have HF : Hid (¬ V) := fun hv => by have h9 := HV.out.1 hv; have := h9.2.2.2.1; omega
            go_wp2
            go_ret
            exact ⟨false, rfl, ⟨fun h => (by cases h), fun h => (HF.out h).elim⟩, HL.out⟩
      · have HF : Hid (¬ V) := fun hv => by have h9 := HV.out.1 hv; exact he h9.2.1
        go_wp2
        go_ret
        exact ⟨false, rfl, ⟨fun h => (by cases h), fun h => (HF.out h).elim⟩, HL.out⟩
    · have HF : Hid (¬ V) := fun hv => by have h9 := HV.out.1 hv; exact hn h9.1
      go_wp2
      go_ret
      exact ⟨false, rfl, ⟨fun h => (by cases h), fun h => (HF.out h).elim⟩, HL.out⟩
set_option maxHeartbeats 1000000 in
theorem own_bytes (n e : Int) (s : ByteArray) (a : Option Addr) (kids : List LT) (cap : Nat) (w : World) : Calls Tryz.prog 187 #[.agg #[.int .i64 6, .int .i64 n, .int .i64 e, .string s, .slice a kids.length cap]] w (OwnC (.mk 6 n e s a cap kids) w) := by
  have HV : Hid (OwnP (.mk 6 n e s a cap kids) ↔ (n = 0 ∧ e = 0 ∧ s.size ≤ 2000 ∧ kids.length = 0)) := Iff.rfl
  unfold OwnC
  generalize OwnP (.mk 6 n e s a cap kids) = V at *
  have HX := Lib.hid (OwnAt.new w 6 n e s (.slice a kids.length cap))
  go_enter Tryz.func187, Tryz.ntmps187
  go_upto_region 1 with fail
  go_cut [3, 4, 5] from 6 (fun x y z wx => x = .bool (n == 0) ∧ y = .bool (e == 0) ∧ z = .bool s.toList.isEmpty ∧ OwnAt w wx 6 n e s (.slice a kids.length cap))
  case first =>
    obtain ⟨hl, p0, p1, p2, p3, p4⟩ := HX.out
    go_region
    all_goals
      go_wp2_with fail
      go_meet
      case rel => exact ⟨rfl, rfl, rfl, HX.out.drew⟩
  case rest =>
    obtain ⟨rfl, rfl, rfl, hown⟩ := hcut
    clear HX
    have HO := Lib.hid hown
    obtain ⟨hlow, p0, p1, p2, p3, p4⟩ := hown
    have HL := Lib.hid hlow
    clear hlow
    by_cases hn : n = 0
    · subst hn
      by_cases he : e = 0
      · subst he
        by_cases hz : (s.size : Int) ≤ 2000
        · have HK : Hid (((kids.length : Int) == 0) = true ↔ V) := by
            unfold Hid
            rw [HV.out, len_zero, decide_eq_true_eq]
            exact ⟨fun h => ⟨rfl, rfl, by omega, h⟩, fun h => h.2.2.2⟩
          go_wp2
          go_ret
          exact ⟨_, rfl, HK.out, HL.out⟩
        · have HF : Hid (¬ V) := fun hv => by have h9 := HV.out.1 hv; have := h9.2.2.1; omega
          go_wp2
          go_ret
          exact ⟨false, rfl, ⟨fun h => (by cases h), fun h => (HF.out h).elim⟩, HL.out⟩
      · have HF : Hid (¬ V) := fun hv => by have h9 := HV.out.1 hv; exact he h9.2.1
        go_wp2
        go_ret
        exact ⟨false, rfl, ⟨fun h => (by cases h), fun h => (HF.out h).elim⟩, HL.out⟩
    · have HF : Hid (¬ V) := fun hv => by have h9 := HV.out.1 hv; exact hn h9.1
      go_wp2
      go_ret
      exact ⟨false, rfl, ⟨fun h => (by cases h), fun h => (HF.out h).elim⟩, HL.out⟩
set_option maxHeartbeats 1000000 in
theorem own_map (n e : Int) (s : ByteArray) (a : Option Addr) (kids : List LT) (cap : Nat) (w : World) (CP : ∀ W, Below w.heap.size w W → Calls Tryz.prog 220 #[.slice a kids.length cap] W (PairsC kids W)) : Calls Tryz.prog 187 #[.agg #[.int .i64 8, .int .i64 n, .int .i64 e, .string s, .slice a kids.length cap]] w (OwnC (.mk 8 n e s a cap kids) w) := by
  have HV : Hid (OwnP (.mk 8 n e s a cap kids) ↔ (n = 0 ∧ e = 0 ∧ s.size = 0 ∧ Pairs kids)) := Iff.rfl
  unfold OwnC
  generalize OwnP (.mk 8 n e s a cap kids) = V at *
  replace CP := Lib.hid CP
  have HX := Lib.hid (OwnAt.new w 8 n e s (.slice a kids.length cap))
  go_enter Tryz.func187, Tryz.ntmps187
  go_upto_region 1 with fail
  go_cut [3, 4, 5] from 6 (fun x y z wx => x = .bool (n == 0) ∧ y = .bool (e == 0) ∧ z = .bool s.toList.isEmpty ∧ OwnAt w wx 8 n e s (.slice a kids.length cap))
  case first =>
    obtain ⟨hl, p0, p1, p2, p3, p4⟩ := HX.out
    go_region
    all_goals
      go_wp2_with fail
      go_meet
      case rel => exact ⟨rfl, rfl, rfl, HX.out.drew⟩
  case rest =>
    obtain ⟨rfl, rfl, rfl, hown⟩ := hcut
    clear HX
    have HO := Lib.hid hown
    obtain ⟨hlow, p0, p1, p2, p3, p4⟩ := hown
    have HL := Lib.hid hlow
    clear hlow
    by_cases hn : n = 0
    · subst hn
      by_cases he : e = 0
      · subst he
        by_cases hs : s.toList = []
        · go_wp2_with fail
          with_reducible refine (CP.out _ HL.out).mono ?_
          rintro r w2 ⟨b, rfl, hb2⟩
          have HK : Hid (b = true ↔ V) := by
            unfold Hid
            rw [HV.out, hb2.iff]
            exact ⟨fun h => ⟨by first | rfl | trivial, by first | rfl | trivial, (toList_nil s).1 hs, h⟩, fun h => h.2.2.2⟩
          have HL2 : Hid (Below w.heap.size w w2) := HL.out.trans (hb2.below.mono HL.out.size)
          clear hb2
          go_wp2
          go_ret
          exact ⟨_, rfl, HK.out, HL2.out⟩
        · have HF : Hid (¬ V) := fun hv => by have h9 := HV.out.1 hv; exact hs ((toList_nil s).2 h9.2.2.1)
          go_wp2
          go_ret
          exact ⟨false, rfl, ⟨fun h => (by cases h), fun h => (HF.out h).elim⟩, HL.out⟩
      · have HF : Hid (¬ V) := fun hv => by have h9 := HV.out.1 hv; exact he h9.2.1
        go_wp2
        go_ret
        exact ⟨false, rfl, ⟨fun h => (by cases h), fun h => (HF.out h).elim⟩, HL.out⟩
    · have HF : Hid (¬ V) := fun hv => by have h9 := HV.out.1 hv; exact hn h9.1
      go_wp2
      go_ret
      exact ⟨false, rfl, ⟨fun h => (by cases h), fun h => (HF.out h).elim⟩, HL.out⟩
set_option maxHeartbeats 1000000 in
theorem own_tag (n e : Int) (s : ByteArray) (a : Option Addr) (kids : List LT) (cap : Nat) (w : World) : Calls Tryz.prog 187 #[.agg #[.int .i64 9, .int .i64 n, .int .i64 e, .string s, .slice a kids.length cap]] w (OwnC (.mk 9 n e s a cap kids) w) := by
  have HV : Hid (OwnP (.mk 9 n e s a cap kids) ↔ ((0 ≤ n ∧ n ≤ 1000000) ∧ e = 0 ∧ s.size = 0 ∧ kids.length = 1)) := Iff.rfl
  unfold OwnC
  generalize OwnP (.mk 9 n e s a cap kids) = V at *
  have CI := fun W => in_any n 0 1000000 W
  have HX := Lib.hid (OwnAt.new w 9 n e s (.slice a kids.length cap))
  go_enter Tryz.func187, Tryz.ntmps187
  go_upto_region 1 with fail
  go_cut [3, 4, 5] from 6 (fun x y z wx => x = .bool (n == 0) ∧ y = .bool (e == 0) ∧ z = .bool s.toList.isEmpty ∧ OwnAt w wx 9 n e s (.slice a kids.length cap))
  case first =>
    obtain ⟨hl, p0, p1, p2, p3, p4⟩ := HX.out
    go_region
    all_goals
      go_wp2_with fail
      go_meet
      case rel => exact ⟨rfl, rfl, rfl, HX.out.drew⟩
  case rest =>
    obtain ⟨rfl, rfl, rfl, hown⟩ := hcut
    clear HX
    have HO := Lib.hid hown
    obtain ⟨hlow, p0, p1, p2, p3, p4⟩ := hown
    have HL := Lib.hid hlow
    clear hlow
    by_cases hn : 0 ≤ n ∧ n ≤ 1000000
    · rw [decide_eq_true hn] at CI
      replace CI := Lib.hid CI
      by_cases he : e = 0
      · subst he
        by_cases hs : s.toList = []
        · have HK : Hid (((kids.length : Int) == 1) = true ↔ V) := by
            unfold Hid
            rw [HV.out, beq_iff_eq]
            exact ⟨fun h => ⟨hn, rfl, (toList_nil s).1 hs, by omega⟩, fun h => by have := h.2.2.2; omega⟩
          clear hn
          go_wp2_with (go_at_call 64; with_reducible refine (CI.out _).mono ?_; rintro r w2 ⟨rfl, rfl⟩)
          go_ret
          exact ⟨_, rfl, HK.out, HL.out⟩
        · have HF : Hid (¬ V) := fun hv => by have h9 := HV.out.1 hv; exact hs ((toList_nil s).2 h9.2.2.1)
          clear hn
          go_wp2_with (go_at_call 64; with_reducible refine (CI.out _).mono ?_; rintro r w2 ⟨rfl, rfl⟩)
          go_ret
          exact ⟨false, rfl, ⟨fun h => (by cases h), fun h => (HF.out h).elim⟩, HL.out⟩
      · have HF : Hid (¬ V) := fun hv => by have h9 := HV.out.1 hv; exact he h9.2.1
        clear hn
        go_wp2_with (go_at_call 64; with_reducible refine (CI.out _).mono ?_; rintro r w2 ⟨rfl, rfl⟩)
        go_ret
        exact ⟨false, rfl, ⟨fun h => (by cases h), fun h => (HF.out h).elim⟩, HL.out⟩
    · rw [decide_eq_false hn] at CI
      replace CI := Lib.hid CI
      have HF : Hid (¬ V) := fun hv => by have h9 := HV.out.1 hv; exact hn h9.1
      clear hn
      go_wp2_with (go_at_call 64; with_reducible refine (CI.out _).mono ?_; rintro r w2 ⟨rfl, rfl⟩)
      go_ret
      exact ⟨false, rfl, ⟨fun h => (by cases h), fun h => (HF.out h).elim⟩, HL.out⟩
set_option maxHeartbeats 1000000 in
theorem own_other (k n e : Int) (s : ByteArray) (a : Option Addr) (kids : List LT) (cap : Nat) (w : World) (h : ¬ (0 ≤ k ∧ k ≤ 9)) : Calls Tryz.prog 187 #[.agg #[.int .i64 k, .int .i64 n, .int .i64 e, .string s, .slice a kids.length cap]] w (OwnC (.mk k n e s a cap kids) w) := by
  have HF : Hid (¬ OwnP (.mk k n e s a cap kids)) := by
    intro hp
    unfold OwnP at hp
    have h0 : ¬ (k = 0 ∨ k = 1 ∨ k = 2) := by omega
    have h1 : ¬ (k = 3 ∨ k = 4) := by omega
    have h5 : ¬ k = 5 := by omega
    have h6 : ¬ k = 6 := by omega
    have h7 : ¬ k = 7 := by omega
    have h8 : ¬ k = 8 := by omega
    have h9 : ¬ k = 9 := by omega
    have hk : (val.LT.mk k n e s a cap kids).k = k := rfl
    simp only [hk, h0, h1, h5, h6, h7, h8, h9, if_false] at hp
  unfold OwnC
  generalize OwnP (.mk k n e s a cap kids) = V at *
  have k0 : (k == 0) = false := by simp; omega
  have k1 : (k == 1) = false := by simp; omega
  have k2 : (k == 2) = false := by simp; omega
  have k3 : (k == 3) = false := by simp; omega
  have k4 : (k == 4) = false := by simp; omega
  have k5 : (k == 5) = false := by simp; omega
  have k6 : (k == 6) = false := by simp; omega
  have k7 : (k == 7) = false := by simp; omega
  have k8 : (k == 8) = false := by simp; omega
  have k9 : (k == 9) = false := by simp; omega
  clear h
  have HX := Lib.hid (OwnAt.new w k n e s (.slice a kids.length cap))
  go_enter Tryz.func187, Tryz.ntmps187
  go_upto_region 1 with fail
  go_cut [3, 4, 5] from 6 (fun x y z wx => x = .bool (n == 0) ∧ y = .bool (e == 0) ∧ z = .bool s.toList.isEmpty ∧ OwnAt w wx k n e s (.slice a kids.length cap))
  case first =>
    obtain ⟨hl, p0, p1, p2, p3, p4⟩ := HX.out
    go_region
    all_goals
      go_wp2_with fail
      go_meet
      case rel => exact ⟨rfl, rfl, rfl, HX.out.drew⟩
  case rest =>
    obtain ⟨rfl, rfl, rfl, hown⟩ := hcut
    clear HX
    obtain ⟨hlow, p0, p1, p2, p3, p4⟩ := hown
    have HL := Lib.hid hlow
    clear hlow
    go_wp2
    go_ret
    exact ⟨false, rfl, ⟨fun h => (by cases h), fun h => (HF.out h).elim⟩, HL.out⟩
end Go.Proofs.YtnfbjcpoealkoaaGreatDoor.node
/-
  What impl.Count returns where impl.finite hands its value back: how many nodes of the kind the value has.
-/
namespace Go.Proofs.YtnfbjcpoealkoaaGreatDoor.val
open Go.ChangeShapes Go.WideShapes Go.ChangeAt Go.RowKit
set_option maxRecDepth 100000
attribute [local go_sem] Oper.semAt_some

/-- How many of those met are of the kind. -/
def kindOf (kd : Int) (pre : List (Nat × LT)) : Nat := (pre.filter (fun x => x.2.k == kd)).length
theorem kindOf_yes (kd : Int) (pre : List (Nat × LT)) (x : Nat × LT) (h : x.2.k = kd) : kindOf kd (pre ++ [x]) = kindOf kd pre + 1 := by simp [kindOf, h]
theorem kindOf_no (kd : Int) (pre : List (Nat × LT)) (x : Nat × LT) (h : ¬ x.2.k = kd) : kindOf kd (pre ++ [x]) = kindOf kd pre := by simp [kindOf, h]
theorem kindOf_le (kd : Int) (pre : List (Nat × LT)) : kindOf kd pre ≤ pre.length := List.length_filter_le _ _

structure KindInv (w W : World) (kd : Int) (B : Nat) (m : Nat) : Prop where
  kind : One W (w.heap.size + 1) 3 (.int .i64 kd)
  many : One W (w.heap.size + 1 + 1) 3 (.int .i64 (m : Int))
  below : Below w.heap.size w W
  size : B ≤ W.heap.size
theorem KindInv.kept {w W W' : World} {kd : Int} {B B' m : Nat} (h : KindInv w W kd B m) (hb : Below B' W W') (hB : w.heap.size + 3 ≤ B') : KindInv w W' kd B m := ⟨h.kind.below hb (by omega), h.many.below hb (by omega), h.below.trans (hb.mono (by omega)), Nat.le_trans h.size hb.size⟩
theorem KindInv.more {w W : World} {kd : Int} {B m : Nat} (h : KindInv w W kd B m) (k : Nat) : KindInv w (W.setCell ⟨w.heap.size + 1 + 1, 0, none⟩ (.int .i64 (k : Int))) kd B k :=
  ⟨h.kind.other _ (by omega), h.many.set _, h.below.setCell (p := ⟨w.heap.size + 1 + 1, 0, none⟩) (by show w.heap.size ≤ w.heap.size + 1 + 1; omega) _, by rw [set_size]; exact h.size⟩

end Go.Proofs.YtnfbjcpoealkoaaGreatDoor.val
/-
  What is told of a value: how many nodes it has, how deep it is, how many nodes of a kind it has; by the order in which the walk meets them, and by its parts.
-/
namespace Go.Proofs.YtnfbjcpoealkoaaGreatDoor.val
open Go.ChangeShapes Go.WideShapes Go.ChangeAt Go.RowKit
set_option maxRecDepth 100000

mutual
def VT.nodes : VT → Nat
  | .mk _ _ _ _ kids => 1 + VT.nodesL kids
def VT.nodesL : List VT → Nat
  | [] => 0
  | t :: ts => VT.nodes t + VT.nodesL ts
end
mutual
def VT.deep : VT → Nat
  | .mk _ _ _ _ kids => VT.deepL kids
def VT.deepL : List VT → Nat
  | [] => 0
  | t :: ts => max (VT.deep t + 1) (VT.deepL ts)
end
mutual
def VT.count (kd : Int) : VT → Nat
  | .mk k _ _ _ kids => (if k = kd then 1 else 0) + VT.countL kd kids
def VT.countL (kd : Int) : List VT → Nat
  | [] => 0
  | t :: ts => VT.count kd t + VT.countL kd ts
end
mutual
theorem nodes_er : ∀ t : LT, (er t).nodes = t.nodes
  | .mk k n e s a cap kids => by rw [er, VT.nodes, LT.nodes, nodesL_er kids]
theorem nodesL_er : ∀ l : List LT, VT.nodesL (erL l) = LT.nodesL l
  | [] => by rw [erL, VT.nodesL, LT.nodesL]
  | t :: ts => by rw [erL, VT.nodesL, LT.nodesL, nodes_er t, nodesL_er ts]
end
theorem er_nodes {t u : LT} (h : er t = er u) : t.nodes = u.nodes := by rw [← nodes_er t, ← nodes_er u, h]
theorem topOf_from (l : List (Nat × LT)) : ∀ m, l.foldl (fun m x => max m x.1) m = max m (topOf l) := by
  unfold topOf
  induction l with
  | nil => intro m; simp
  | cons x l ih =>
    intro m
    rw [List.foldl_cons, List.foldl_cons, ih, ih (max 0 x.1)]
    omega
theorem topOf_append (a b : List (Nat × LT)) : topOf (a ++ b) = max (topOf a) (topOf b) := by
  rw [topOf, List.foldl_append, topOf_from]
  rfl
theorem topOf_cons (x : Nat × LT) (l : List (Nat × LT)) : topOf (x :: l) = max x.1 (topOf l) := by
  rw [topOf, List.foldl_cons, topOf_from]
  omega
mutual
theorem top_pre : ∀ (d : Nat) (t : LT), topOf (t.pre d) = d + (er t).deep
  | d, .mk k n e s a cap kids => by rw [LT.pre, topOf_cons, er, VT.deep, top_preL d kids]
theorem top_preL : ∀ (d : Nat) (l : List LT), max d (topOf (preL (d + 1) l)) = d + VT.deepL (erL l)
  | d, [] => by rw [preL, erL, VT.deepL]; simp [topOf]
  | d, t :: ts => by
    have h1 := top_pre (d + 1) t
    have h2 := top_preL d ts
    rw [preL, topOf_append, erL, VT.deepL, h1]
    omega
end
theorem kindOf_append (kd : Int) (a b : List (Nat × LT)) : kindOf kd (a ++ b) = kindOf kd a + kindOf kd b := by simp [kindOf]
theorem kindOf_cons (kd : Int) (x : Nat × LT) (l : List (Nat × LT)) : kindOf kd (x :: l) = (if x.2.k = kd then 1 else 0) + kindOf kd l := by
  unfold kindOf
  by_cases h : x.2.k = kd
  · simp [h]; omega
  · simp [h]
mutual
theorem kind_pre (kd : Int) : ∀ (d : Nat) (t : LT), kindOf kd (t.pre d) = (er t).count kd
  | d, .mk k n e s a cap kids => by rw [LT.pre, kindOf_cons, er, VT.count, kind_preL kd (d + 1) kids]; rfl
theorem kind_preL (kd : Int) : ∀ (d : Nat) (l : List LT), kindOf kd (preL d l) = VT.countL kd (erL l)
  | d, [] => by rw [preL, erL, VT.countL]; rfl
  | d, t :: ts => by rw [preL, kindOf_append, erL, VT.countL, kind_pre kd d t, kind_preL kd d ts]
end
mutual
theorem deep_le : ∀ v : VT, v.deep ≤ v.nodes
  | .mk k n e s kids => by rw [VT.deep, VT.nodes]; have := deepL_le kids; omega
theorem deepL_le : ∀ l : List VT, VT.deepL l ≤ VT.nodesL l + 1
  | [] => by rw [VT.deepL]; omega
  | t :: ts => by rw [VT.deepL, VT.nodesL]; have := deep_le t; have := deepL_le ts; omega
end
mutual
theorem count_le (kd : Int) : ∀ v : VT, v.count kd ≤ v.nodes
  | .mk k n e s kids => by rw [VT.count, VT.nodes]; have := countL_le kd kids; split <;> omega
theorem countL_le (kd : Int) : ∀ l : List VT, VT.countL kd l ≤ VT.nodesL l
  | [] => by rw [VT.countL]; omega
  | t :: ts => by rw [VT.countL, VT.nodesL]; have := count_le kd t; have := countL_le kd ts; omega
end
/-! By the first kids. -/
theorem nodesL_take (l : List VT) : ∀ j (h : j < l.length), VT.nodesL (l.take (j + 1)) = VT.nodesL (l.take j) + l[j].nodes := by
  induction l with
  | nil => intro j h; simp at h
  | cons t ts ih =>
    intro j h
    cases j with
    | zero => simp [VT.nodesL]
    | succ j => have := ih j (by simpa using h); simp only [List.take_succ_cons, VT.nodesL, List.getElem_cons_succ]; omega
theorem nodesL_take_le (l : List VT) (j : Nat) : VT.nodesL (l.take j) ≤ VT.nodesL l := by
  induction l generalizing j with
  | nil => simp
  | cons t ts ih =>
    cases j with
    | zero => simp [VT.nodesL]
    | succ j => have := ih j; simp only [List.take_succ_cons, VT.nodesL]; omega
theorem deepL_take (l : List VT) : ∀ j (h : j < l.length), VT.deepL (l.take (j + 1)) = max (VT.deepL (l.take j)) (l[j].deep + 1) := by
  induction l with
  | nil => intro j h; simp at h
  | cons t ts ih =>
    intro j h
    cases j with
    | zero => simp [VT.deepL]
    | succ j => have := ih j (by simpa using h); simp only [List.take_succ_cons, VT.deepL, List.getElem_cons_succ]; omega
theorem countL_take (kd : Int) (l : List VT) : ∀ j (h : j < l.length), VT.countL kd (l.take (j + 1)) = VT.countL kd (l.take j) + l[j].count kd := by
  induction l with
  | nil => intro j h; simp at h
  | cons t ts ih =>
    intro j h
    cases j with
    | zero => simp [VT.countL]
    | succ j => have := ih j (by simpa using h); simp only [List.take_succ_cons, VT.countL, List.getElem_cons_succ]; omega
theorem kid_nodes (l : List LT) (j : Nat) (h : j < l.length) : l[j].nodes ≤ LT.nodesL l := by
  have h1 := nodesL_take (erL l) j (by rw [erL_map]; simpa using h)
  have h2 := nodesL_take_le (erL l) (j + 1)
  rw [nodesL_er] at h2
  have h3 : (erL l)[j]'(by rw [erL_map]; simpa using h) = er l[j] := by simp [erL_map]
  rw [h3, nodes_er] at h1
  omega
theorem wrap_add (a b : Nat) (h : a + b ≤ 4000000) : wrap64 ((a : Int) + (b : Int)) = ((a + b : Nat) : Int) := by unfold wrap64; omega

end Go.Proofs.YtnfbjcpoealkoaaGreatDoor.val
