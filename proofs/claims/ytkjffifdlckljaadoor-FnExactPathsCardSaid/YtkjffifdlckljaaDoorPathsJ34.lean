/-
  The methods fieldsOk of impl's nodes, at every kind.
-/
import Derived.Test.YtkjffifdlckljaaDoorPathsJ30
import Derived.Test.YtkjffifdlckljaaDoorPathsJ33
import Derived.Test.YtkjffifdlckljaaDoorPathsJ26
namespace Go.Proofs.YtkjffifdlckljaaDoor.node
open Go.ChangeShapes Go.WideShapes Go.ChangeAt Go.RowKit
open Go.Proofs.YtkjffifdlckljaaDoor.val Go.Proofs.YtkjffifdlckljaaDoor.num
set_option maxRecDepth 100000

theorem ownR_true {w w' : World} (h : Below w.heap.size w w') : OwnR True w (.returned (.bool true)) w' := ⟨true, rfl, ⟨fun _ => trivial, fun _ => rfl⟩, h⟩
theorem f_null (w : World) : Calls Tryd.prog 203 #[.agg #[]] w (OwnR True w) := by
  go_enter Tryd.func203, Tryd.ntmps203
  go_wp2
  go_ret
  exact ownR_true ((Below.refl _ _).alloc (Nat.le_refl _) _)
theorem f_false (w : World) : Calls Tryd.prog 204 #[.agg #[]] w (OwnR True w) := by
  go_enter Tryd.func204, Tryd.ntmps204
  go_wp2
  go_ret
  exact ownR_true ((Below.refl _ _).alloc (Nat.le_refl _) _)
theorem f_true (w : World) : Calls Tryd.prog 205 #[.agg #[]] w (OwnR True w) := by
  go_enter Tryd.func205, Tryd.ntmps205
  go_wp2
  go_ret
  exact ownR_true ((Below.refl _ _).alloc (Nat.le_refl _) _)
theorem f_int (n : Int) (w : World) : Calls Tryd.prog 206 #[.agg #[.int .i64 n]] w (OwnR True w) :=
  (fields_int n w).mono (by rintro r w' ⟨rfl, hb⟩; exact ownR_true hb)
theorem f_dec (n e : Int) (w : World) : Calls Tryd.prog 207 #[.agg #[.int .i64 n, .int .i64 e]] w (OwnR (decOk n e = true) w) :=
  (fields_dec n e w).mono (by rintro r w' ⟨rfl, hb⟩; exact ⟨_, rfl, Iff.rfl, hb⟩)
theorem f_list (a : Option Addr) (m cap : Nat) (w : World) : Calls Tryd.prog 211 #[.agg #[.slice a m cap]] w (OwnR True w) := by
  go_enter Tryd.func211, Tryd.ntmps211
  go_wp2
  go_ret
  exact ownR_true ((Below.refl _ _).alloc (Nat.le_refl _) _)
theorem f_bytes (s : ByteArray) (w : World) : Calls Tryd.prog 210 #[.agg #[.string s]] w (OwnR (s.size ≤ 2000) w) := by
  have HD : Hid (decide ((s.size : Int) ≤ 2000) = true ↔ s.size ≤ 2000) := by
    unfold Hid
    rw [decide_eq_true_eq]
    omega
  generalize (s.size ≤ 2000) = V at HD ⊢
  go_enter Tryd.func210, Tryd.ntmps210
  go_wp2
  go_ret
  exact ⟨_, rfl, HD.out, (Below.refl _ _).alloc (Nat.le_refl _) _⟩
set_option maxHeartbeats 1000000 in
theorem f_text (s : ByteArray) (w : World) (hs : s.size ≤ 1048576) (hT : signs.Tabs w) : Calls Tryd.prog 44 #[.agg #[.string s]] w (OwnR (s.size ≤ 2000 ∧ sign.textOk s = true) w) := by
  have hb := (Below.refl w.heap.size w).alloc (Nat.le_refl _) (.cells #[.string s] 71)
  have CT := Lib.hid (signs.impl_text s _ hs (signs.tabs_below hT hb))
  have HB := Lib.hid hb
  clear hb hT
  by_cases hz : s.size ≤ 2000
  · have HD : Hid (sign.textOk s = true ↔ s.size ≤ 2000 ∧ sign.textOk s = true) := ⟨fun h => ⟨hz, h⟩, fun h => h.2⟩
    have hz' : (s.size : Int) ≤ 2000 := by omega
    generalize (s.size ≤ 2000 ∧ sign.textOk s = true) = V at HD ⊢
    generalize sign.textOk s = T at *
    clear hs hz
    go_enter Tryd.func44, Tryd.ntmps44
    go_wp2_with fail
    with_reducible refine CT.out.mono ?_
    rintro r w1 ⟨rfl, hb1⟩
    have HB1 := Lib.hid (below_of2 HB.out hb1)
    clear hb1
    go_wp2
    go_ret
    exact ⟨_, rfl, HD.out, HB1.out⟩
  · have HF : Hid (¬ (s.size ≤ 2000 ∧ sign.textOk s = true)) := fun h => hz h.1
    have hz' : ¬ (s.size : Int) ≤ 2000 := by omega
    generalize (s.size ≤ 2000 ∧ sign.textOk s = true) = V at HF ⊢
    clear hs hz CT
    go_enter Tryd.func44, Tryd.ntmps44
    go_wp2
    go_ret
    exact ⟨false, rfl, ⟨fun h => (by cases h), fun h => (HF.out h).elim⟩, HB.out⟩
set_option maxHeartbeats 1000000 in
theorem f_map (w : World) (a : Option Addr) (cap : Nat) (kids : List LT) (hl : kids.length ≤ 1048576)
    (CK : kids.length % 2 = 0 → ∀ W, Below w.heap.size w W → Calls Tryd.prog 213 #[.slice a kids.length cap] W (KeysR (GoodTo kids kids.length) W)) :
    Calls Tryd.prog 212 #[.agg #[.slice a kids.length cap]] w (OwnR (kids.length % 2 = 0 ∧ GoodTo kids kids.length) w) := by
  have HB := Lib.hid ((Below.refl w.heap.size w).alloc (Nat.le_refl _) (.cells #[.slice a kids.length cap] 198))
  by_cases he : kids.length % 2 = 0
  · have CK' := CK he _ HB.out
    have HD : Hid (GoodTo kids kids.length → kids.length % 2 = 0 ∧ GoodTo kids kids.length) := fun h => ⟨he, h⟩
    have HE : Hid (kids.length % 2 = 0 ∧ GoodTo kids kids.length → GoodTo kids kids.length) := fun h => h.2
    generalize (kids.length % 2 = 0 ∧ GoodTo kids kids.length) = V at HD HE ⊢
    generalize GoodTo kids kids.length = G at *
    replace CK' := Lib.hid CK'
    have h2 : ((kids.length : Int)).tmod 2 = 0 := by rw [Int.tmod_eq_emod_of_nonneg (by omega)]; omega
    have h3 : (kids.length : Int) % 2 = 0 := by omega
    clear CK he
    go_enter Tryd.func212, Tryd.ntmps212
    go_wp2_with fail
    with_reducible refine CK'.out.mono ?_
    rintro r w1 ⟨b, rfl, hbi, hb1⟩
    have HB1 := Lib.hid (below_of2 HB.out hb1)
    have HX : Hid (b = true ↔ V) := ⟨fun h => HD.out (hbi.1 h), fun h => hbi.2 (HE.out h)⟩
    clear hb1 hbi
    go_wp2
    go_ret
    exact ⟨_, rfl, HX.out, HB1.out⟩
  · have HF : Hid (¬ (kids.length % 2 = 0 ∧ GoodTo kids kids.length)) := fun h => he h.1
    generalize (kids.length % 2 = 0 ∧ GoodTo kids kids.length) = V at HF ⊢
    have h2 : ¬ ((kids.length : Int)).tmod 2 = 0 := by rw [Int.tmod_eq_emod_of_nonneg (by omega)]; omega
    have h2' : (((kids.length : Int)).tmod 2 == 0) = false := by rw [beq_eq_false_iff_ne]; exact h2
    have h3 : ¬ (kids.length : Int) % 2 = 0 := by omega
    have h3' : ((kids.length : Int) % 2 == 0) = false := by rw [beq_eq_false_iff_ne]; exact h3
    clear CK he
    go_enter Tryd.func212, Tryd.ntmps212
    go_wp2
    go_ret
    exact ⟨false, rfl, ⟨fun h => (by cases h), fun h => (HF.out h).elim⟩, HB.out⟩
set_option maxHeartbeats 1000000 in
theorem f_tag (n : Int) (a : Option Addr) (m cap : Nat) (w : World) : Calls Tryd.prog 214 #[.agg #[.int .i64 n, .slice a m cap]] w (OwnR ((0 ≤ n ∧ n ≤ 1000000) ∧ m = 1) w) := by
  have HB := Lib.hid ((Below.refl w.heap.size w).alloc (Nat.le_refl _) (.cells #[.int .i64 n, .slice a m cap] 200))
  by_cases h0 : 0 ≤ n
  · by_cases h1 : n ≤ 1000000
    · have HD : Hid (((m : Int) == 1) = true ↔ (0 ≤ n ∧ n ≤ 1000000) ∧ m = 1) := by
        unfold Hid
        rw [beq_iff_eq]
        exact ⟨fun h => ⟨⟨h0, h1⟩, by omega⟩, fun h => by omega⟩
      generalize ((0 ≤ n ∧ n ≤ 1000000) ∧ m = 1) = V at HD ⊢
      go_enter Tryd.func214, Tryd.ntmps214
      go_wp2
      go_ret
      exact ⟨_, rfl, HD.out, HB.out⟩
    · have HF : Hid (¬ ((0 ≤ n ∧ n ≤ 1000000) ∧ m = 1)) := fun h => h1 h.1.2
      generalize ((0 ≤ n ∧ n ≤ 1000000) ∧ m = 1) = V at HF ⊢
      go_enter Tryd.func214, Tryd.ntmps214
      go_wp2
      go_ret
      exact ⟨false, rfl, ⟨fun h => (by cases h), fun h => (HF.out h).elim⟩, HB.out⟩
  · have HF : Hid (¬ ((0 ≤ n ∧ n ≤ 1000000) ∧ m = 1)) := fun h => h0 h.1.1
    generalize ((0 ≤ n ∧ n ≤ 1000000) ∧ m = 1) = V at HF ⊢
    go_enter Tryd.func214, Tryd.ntmps214
    go_wp2
    go_ret
    exact ⟨false, rfl, ⟨fun h => (by cases h), fun h => (HF.out h).elim⟩, HB.out⟩
end Go.Proofs.YtkjffifdlckljaaDoor.node
