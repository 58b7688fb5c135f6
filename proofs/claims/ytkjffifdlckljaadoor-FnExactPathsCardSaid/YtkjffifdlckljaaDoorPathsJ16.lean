/-
  spec.l02Own at every kind: whether what a value has but its kids is right.
-/
import Derived.Test.YtkjffifdlckljaaDoorPathsJ14
import Derived.Test.YtkjffifdlckljaaDoorPathsJ15
import Derived.Test.YtkjffifdlckljaaDoorPathsJ9
namespace Go.Proofs.YtkjffifdlckljaaDoor.node
open Go.ChangeShapes Go.WideShapes Go.ChangeAt Go.RowKit
open Go.Proofs.YtkjffifdlckljaaDoor.val Go.Proofs.YtkjffifdlckljaaDoor.num
set_option maxRecDepth 100000

/-- A value's own fields are right. -/
def OwnP (t : LT) : Prop :=
  if t.k = 0 ∨ t.k = 1 ∨ t.k = 2 then t.n = 0 ∧ t.e = 0 ∧ t.s.size = 0 ∧ t.kids.length = 0 else
  if t.k = 3 ∨ t.k = 4 then numOk t = true else
  if t.k = 5 then t.n = 0 ∧ t.e = 0 ∧ sign.textOk t.s = true ∧ t.s.size ≤ 2000 ∧ t.kids.length = 0 else
  if t.k = 6 then t.n = 0 ∧ t.e = 0 ∧ t.s.size ≤ 2000 ∧ t.kids.length = 0 else
  if t.k = 7 then t.n = 0 ∧ t.e = 0 ∧ t.s.size = 0 else
  if t.k = 8 then t.n = 0 ∧ t.e = 0 ∧ t.s.size = 0 ∧ Pairs t.kids else
  if t.k = 9 then (0 ≤ t.n ∧ t.n ≤ 1000000) ∧ t.e = 0 ∧ t.s.size = 0 ∧ t.kids.length = 1 else False
theorem own_behind {w wx w2 : World} {k n e : Int} {s : ByteArray} {r : Value} (h : OwnAt w wx k n e s r) (hb : Below wx.heap.size wx w2) : OwnAt w w2 k n e s r :=
  ⟨h.low.trans (hb.mono h.low.size), by rw [hb.cell (World.block_lt_of_cell? wx _ h.c0)]; exact h.c0, by rw [hb.cell (World.block_lt_of_cell? wx _ h.c1)]; exact h.c1, by rw [hb.cell (World.block_lt_of_cell? wx _ h.c2)]; exact h.c2, by rw [hb.cell (World.block_lt_of_cell? wx _ h.c3)]; exact h.c3, by rw [hb.cell (World.block_lt_of_cell? wx _ h.c4)]; exact h.c4⟩
/-- A call has told whether V. -/
def OwnR (V : Prop) (w : World) (r : Ending) (w' : World) : Prop := ∃ b : Bool, r = .returned (.bool b) ∧ (b = true ↔ V) ∧ Below w.heap.size w w'
def OwnC (t : LT) (w : World) (r : Ending) (w' : World) : Prop := OwnR (OwnP t) w r w'

set_option maxHeartbeats 1000000 in
theorem own_null (n e : Int) (s : ByteArray) (a : Option Addr) (kids : List LT) (cap : Nat) (w : World) : Calls Tryd.prog 116 #[.agg #[.int .i64 0, .int .i64 n, .int .i64 e, .string s, .slice a kids.length cap]] w (OwnC (.mk 0 n e s a cap kids) w) := by
  have HV : Hid (OwnP (.mk 0 n e s a cap kids) ↔ (n = 0 ∧ e = 0 ∧ s.size = 0 ∧ kids.length = 0)) := Iff.rfl
  unfold OwnC
  generalize OwnP (.mk 0 n e s a cap kids) = V at *
  have HX := Lib.hid (OwnAt.new w 0 n e s (.slice a kids.length cap))
  go_enter Tryd.func116, Tryd.ntmps116
  go_upto_region 1 with fail
  go_cut [3, 4, 5] from 6 (fun x y z wx => x = .bool (n == 0) ∧ y = .bool (e == 0) ∧ z = .bool s.toList.isEmpty ∧ OwnAt w wx 0 n e s (.slice a kids.length cap))
  case first =>
    obtain ⟨hl, p0, p1, p2, p3, p4⟩ := HX.out
    go_region
    all_goals
      go_wp2_with fail
      go_meet
      case rel => exact ⟨rfl, rfl, rfl, HX.out.drew⟩
  case rest =>
    obtain ⟨rfl, rfl, rfl, hown⟩ := hcut
    clear HX
    obtain ⟨hlow, p0, p1, p2, p3, p4⟩ := hown
    have HL := Lib.hid hlow
    clear hlow
    by_cases hn : n = 0
    · subst hn
      by_cases he : e = 0
      · subst he
        by_cases hs : s.toList = []
        · have HK : Hid (((kids.length : Int) == 0) = true ↔ V) := by
            unfold Hid
            rw [HV.out, len_zero, decide_eq_true_eq]
            exact ⟨fun h => ⟨rfl, rfl, (toList_nil s).1 hs, h⟩, fun h => h.2.2.2⟩
          go_wp2
          go_ret
          exact ⟨_, rfl, HK.out, HL.out⟩
        · have HF : Hid (¬ V) := fun hv => by have h9 := HV.out.1 hv; exact hs ((toList_nil s).2 h9.2.2.1)
          go_wp2
          go_ret
          exact ⟨false, rfl, ⟨fun h => (by cases h), fun h => (HF.out h).elim⟩, HL.out⟩
      · have HF : Hid (¬ V) := fun hv => by have h9 := HV.out.1 hv; exact he h9.2.1
        go_wp2
        go_ret
        exact ⟨false, rfl, ⟨fun h => (by cases h), fun h => (HF.out h).elim⟩, HL.out⟩
    · have HF : Hid (¬ V) := fun hv => by have h9 := HV.out.1 hv; exact hn h9.1
      go_wp2
      go_ret
      exact ⟨false, rfl, ⟨fun h => (by cases h), fun h => (HF.out h).elim⟩, HL.out⟩

set_option maxHeartbeats 1000000 in
theorem own_false (n e : Int) (s : ByteArray) (a : Option Addr) (kids : List LT) (cap : Nat) (w : World) : Calls Tryd.prog 116 #[.agg #[.int .i64 1, .int .i64 n, .int .i64 e, .string s, .slice a kids.length cap]] w (OwnC (.mk 1 n e s a cap kids) w) := by
  have HV : Hid (OwnP (.mk 1 n e s a cap kids) ↔ (n = 0 ∧ e = 0 ∧ s.size = 0 ∧ kids.length = 0)) := Iff.rfl
  unfold OwnC
  generalize OwnP (.mk 1 n e s a cap kids) = V at *
  have HX := Lib.hid (OwnAt.new w 1 n e s (.slice a kids.length cap))
  go_enter Tryd.func116, Tryd.ntmps116
  go_upto_region 1 with fail
  go_cut [3, 4, 5] from 6 (fun x y z wx => x = .bool (n == 0) ∧ y = .bool (e == 0) ∧ z = .bool s.toList.isEmpty ∧ OwnAt w wx 1 n e s (.slice a kids.length cap))
  case first =>
    obtain ⟨hl, p0, p1, p2, p3, p4⟩ := HX.out
    go_region
    all_goals
      go_wp2_with fail
      go_meet
      case rel => exact ⟨rfl, rfl, rfl, HX.out.drew⟩
  case rest =>
    obtain ⟨rfl, rfl, rfl, hown⟩ := hcut
    clear HX
    obtain ⟨hlow, p0, p1, p2, p3, p4⟩ := hown
    have HL := Lib.hid hlow
    clear hlow
    by_cases hn : n = 0
    · subst hn
      by_cases he : e = 0
      · subst he
        by_cases hs : s.toList = []
        · have HK : Hid (((kids.length : Int) == 0) = true ↔ V) := by
            unfold Hid
            rw [HV.out, len_zero, decide_eq_true_eq]
            exact ⟨fun h => ⟨rfl, rfl, (toList_nil s).1 hs, h⟩, fun h => h.2.2.2⟩
          go_wp2
          go_ret
          exact ⟨_, rfl, HK.out, HL.out⟩
        · have HF : Hid (¬ V) := fun hv => by have h9 := HV.out.1 hv; exact hs ((toList_nil s).2 h9.2.2.1)
          go_wp2
          go_ret
          exact ⟨false, rfl, ⟨fun h => (by cases h), fun h => (HF.out h).elim⟩, HL.out⟩
      · have HF : Hid (¬ V) := fun hv => by have h9 := HV.out.1 hv; exact he h9.2.1
        go_wp2
        go_ret
        exact ⟨false, rfl, ⟨fun h => (by cases h), fun h => (HF.out h).elim⟩, HL.out⟩
    · have HF : Hid (¬ V) := fun hv => by have h9 := HV.out.1 hv; exact hn h9.1
      go_wp2
      go_ret
      exact ⟨false, rfl, ⟨fun h => (by cases h), fun h => (HF.out h).elim⟩, HL.out⟩

set_option maxHeartbeats 1000000 in
theorem own_true (n e : Int) (s : ByteArray) (a : Option Addr) (kids : List LT) (cap : Nat) (w : World) : Calls Tryd.prog 116 #[.agg #[.int .i64 2, .int .i64 n, .int .i64 e, .string s, .slice a kids.length cap]] w (OwnC (.mk 2 n e s a cap kids) w) := by
  have HV : Hid (OwnP (.mk 2 n e s a cap kids) ↔ (n = 0 ∧ e = 0 ∧ s.size = 0 ∧ kids.length = 0)) := Iff.rfl
  unfold OwnC
  generalize OwnP (.mk 2 n e s a cap kids) = V at *
  have HX := Lib.hid (OwnAt.new w 2 n e s (.slice a kids.length cap))
  go_enter Tryd.func116, Tryd.ntmps116
  go_upto_region 1 with fail
  go_cut [3, 4, 5] from 6 (fun x y z wx => x = .bool (n == 0) ∧ y = .bool (e == 0) ∧ z = .bool s.toList.isEmpty ∧ OwnAt w wx 2 n e s (.slice a kids.length cap))
  case first =>
    obtain ⟨hl, p0, p1, p2, p3, p4⟩ := HX.out
    go_region
    all_goals
      go_wp2_with fail
      go_meet
      case rel => exact ⟨rfl, rfl, rfl, HX.out.drew⟩
  case rest =>
    obtain ⟨rfl, rfl, rfl, hown⟩ := hcut
    clear HX
    obtain ⟨hlow, p0, p1, p2, p3, p4⟩ := hown
    have HL := Lib.hid hlow
    clear hlow
    by_cases hn : n = 0
    · subst hn
      by_cases he : e = 0
      · subst he
        by_cases hs : s.toList = []
        · have HK : Hid (((kids.length : Int) == 0) = true ↔ V) := by
            unfold Hid
            rw [HV.out, len_zero, decide_eq_true_eq]
            exact ⟨fun h => ⟨rfl, rfl, (toList_nil s).1 hs, h⟩, fun h => h.2.2.2⟩
          go_wp2
          go_ret
          exact ⟨_, rfl, HK.out, HL.out⟩
        · have HF : Hid (¬ V) := fun hv => by have h9 := HV.out.1 hv; exact hs ((toList_nil s).2 h9.2.2.1)
          go_wp2
          go_ret
          exact ⟨false, rfl, ⟨fun h => (by cases h), fun h => (HF.out h).elim⟩, HL.out⟩
      · have HF : Hid (¬ V) := fun hv => by have h9 := HV.out.1 hv; exact he h9.2.1
        go_wp2
        go_ret
        exact ⟨false, rfl, ⟨fun h => (by cases h), fun h => (HF.out h).elim⟩, HL.out⟩
    · have HF : Hid (¬ V) := fun hv => by have h9 := HV.out.1 hv; exact hn h9.1
      go_wp2
      go_ret
      exact ⟨false, rfl, ⟨fun h => (by cases h), fun h => (HF.out h).elim⟩, HL.out⟩

set_option maxHeartbeats 1000000 in
theorem own_list (n e : Int) (s : ByteArray) (a : Option Addr) (kids : List LT) (cap : Nat) (w : World) : Calls Tryd.prog 116 #[.agg #[.int .i64 7, .int .i64 n, .int .i64 e, .string s, .slice a kids.length cap]] w (OwnC (.mk 7 n e s a cap kids) w) := by
  have HV : Hid (OwnP (.mk 7 n e s a cap kids) ↔ (n = 0 ∧ e = 0 ∧ s.size = 0)) := Iff.rfl
  unfold OwnC
  generalize OwnP (.mk 7 n e s a cap kids) = V at *
  have HX := Lib.hid (OwnAt.new w 7 n e s (.slice a kids.length cap))
  go_enter Tryd.func116, Tryd.ntmps116
  go_upto_region 1 with fail
  go_cut [3, 4, 5] from 6 (fun x y z wx => x = .bool (n == 0) ∧ y = .bool (e == 0) ∧ z = .bool s.toList.isEmpty ∧ OwnAt w wx 7 n e s (.slice a kids.length cap))
  case first =>
    obtain ⟨hl, p0, p1, p2, p3, p4⟩ := HX.out
    go_region
    all_goals
      go_wp2_with fail
      go_meet
      case rel => exact ⟨rfl, rfl, rfl, HX.out.drew⟩
  case rest =>
    obtain ⟨rfl, rfl, rfl, hown⟩ := hcut
    clear HX
    obtain ⟨hlow, p0, p1, p2, p3, p4⟩ := hown
    have HL := Lib.hid hlow
    clear hlow
    by_cases hn : n = 0
    · subst hn
      by_cases he : e = 0
      · subst he
        have HK : Hid (s.toList.isEmpty = true ↔ V) := by
          unfold Hid
          rw [HV.out, List.isEmpty_iff, toList_nil]
          exact ⟨fun h => ⟨rfl, rfl, h⟩, fun h => h.2.2⟩
        go_wp2
        go_ret
        exact ⟨_, rfl, HK.out, HL.out⟩
      · have HF : Hid (¬ V) := fun hv => by have h9 := HV.out.1 hv; exact he h9.2.1
        go_wp2
        go_ret
        exact ⟨false, rfl, ⟨fun h => (by cases h), fun h => (HF.out h).elim⟩, HL.out⟩
    · have HF : Hid (¬ V) := fun hv => by have h9 := HV.out.1 hv; exact hn h9.1
      go_wp2
      go_ret
      exact ⟨false, rfl, ⟨fun h => (by cases h), fun h => (HF.out h).elim⟩, HL.out⟩
end Go.Proofs.YtkjffifdlckljaaDoor.node
