/-
  The law FnExactPutPath at every list of steps that it does not pass: impl.PutPath is spec.PutPath, it writes into no argument.
-/
import Derived.Test.YtkjffifdlckljaaDoorPathImpl
import Derived.Test.YtkjffifdlckljaaDoorToStrs
import Derived.Test.YtkjffifdlckljaaDoorStrS
namespace Go.Proofs.YtkjffifdlckljaaDoor.path
open Go.ChangeShapes Go.WideShapes Go.ChangeAt Go.RowKit
open Go.Proofs.YtkjffifdlckljaaDoor.strs (encS oneS ReadS ArgS sizes lot leftS)
set_option maxRecDepth 100000

set_option maxHeartbeats 4000000 in
theorem law_put (w : World) (a : Option Addr) (cap : Nat) (l : List ByteArray) (hl : l.length ≤ 9223372036854775807) (h : ArgS w a l) (hT : signs.Tabs w) (m : Int) (hm : MaxCell m w) :
    Calls Tryd.prog 6 #[.slice a l.length cap] w fun e w' => e = .returned (.bool true) ∧ Below w.heap.size w w' := by
  have SZ : Hid (Calls Tryd.prog 18 #[.slice a l.length cap, .int .i64 1048576] w fun e w'' => e = .returned (.int .i64 (leftS 1048576 (lot l))) ∧ Below w.heap.size w w'') := strs.sz_any w a cap l hl h w (Below.refl _ _) 1048576 (Nat.le_refl _)
  have B := Lib.hid (Below.refl w.heap.size w)
  by_cases hz : lot l ≤ 1048576
  · have hl1 : l.length ≤ 1048576 := by unfold lot at hz; omega
    have hsz : ∀ j (h : j < l.length), l[j].size ≤ 1048576 := fun j hj => by have := strs.size_le l j hj; unfold lot at hz; omega
    have TO := Lib.hid (fun w' hb => strs.to_any w a cap l hl1 h w' hb)
    have CS : Hid (∀ v b W, OwnL W b 9 encS v l → Calls Tryd.prog 19 #[v] W fun e w' => e = .returned (.string (putP l)) ∧ Below W.heap.size W w') := fun v b W ho => by
      obtain ⟨a, c, g, r⟩ := strs.readS_of ho
      exact spec_put l v a c g W hl1 hsz r
    have CI : Hid (∀ v b W, Below w.heap.size w W → OwnL W b 9 encS v l → Calls Tryd.prog 21 #[v] W fun e w' => e = .returned (.string (putP l)) ∧ Below W.heap.size W w') := fun v b W hb ho => by
      obtain ⟨a, c, g, r⟩ := strs.readS_of ho
      exact impl_put l v a c g m W hl1 hsz r (signs.tabs_below hT hb) (maxCell_below hm hb)
    have e : leftS 1048576 (lot l) = ((1048576 - lot l : Nat) : Int) := if_pos hz
    have hnn : ¬ ((1048576 - lot l : Nat) : Int) < 0 := by omega
    rw [e] at SZ
    generalize (1048576 - lot l) = L at *
    generalize putP l = R at *
    clear h hT hm hl hz e hsz
    go_enter Tryd.func6, Tryd.ntmps6
    go_wp2_with fail
    with_reducible refine SZ.out.mono ?_
    rintro e w0 ⟨rfl, hb⟩
    replace B := Lib.hid (below_ofP B.out hb)
    clear hb SZ
    -- w0 := spec.PutPath(toStringS(aSteps))
    go_wp2_with fail
    with_reducible refine (TO.out _ B.out).mono ?_
    rintro e w1 ⟨vt, rfl, ot, hb⟩
    have OT := Lib.hid ot
    replace B := Lib.hid (below_ofP B.out hb)
    clear ot hb
    go_wp2_with fail
    with_reducible refine (CS.out _ _ _ OT.out).mono ?_
    rintro e w2 ⟨rfl, hb⟩
    replace B := Lib.hid (below_ofP B.out hb)
    clear hb OT
    -- x0 := toStringS(aSteps)
    go_wp2_with fail
    with_reducible refine (TO.out _ B.out).mono ?_
    rintro e w3 ⟨vx, rfl, ox, hb⟩
    have OX := Lib.hid ox
    replace B := Lib.hid (below_ofP B.out hb)
    clear ox hb
    -- g0 := impl.PutPath(x0)
    go_wp2_with fail
    with_reducible refine (CI.out _ _ _ B.out OX.out).mono ?_
    rintro e w4 ⟨rfl, hb⟩
    replace B := Lib.hid (below_ofP B.out hb)
    replace OX := Lib.hid (OX.out.below hb)
    clear hb
    -- eqStringS(x0, toStringS(aSteps))
    go_wp2_with fail
    with_reducible refine (TO.out _ B.out).mono ?_
    rintro e w5 ⟨vy, rfl, oy, hb⟩
    replace B := Lib.hid (below_ofP B.out hb)
    replace OX := Lib.hid (OX.out.below hb)
    obtain ⟨a1, c1, g1, r1⟩ := strs.readS_of OX.out
    obtain ⟨a0, c0, g0, r0⟩ := strs.readS_of oy
    have CE := Lib.hid (strs.eq_true vx vy l _ a1 a0 c1 c0 g1 g0 r1 r0 (by omega))
    clear r1 r0 hb oy OX
    go_wp2_with fail
    with_reducible refine CE.out.mono ?_
    rintro e w6 ⟨rfl, n6, rfl⟩
    go_wp2
    go_ret
    exact ⟨rfl, belowN B.out n6⟩
  · have e : leftS 1048576 (lot l) = -1 := if_neg hz
    rw [e] at SZ
    clear h hT hm hl hz e
    go_enter Tryd.func6, Tryd.ntmps6
    go_wp2_with fail
    with_reducible refine SZ.out.mono ?_
    rintro e w0 ⟨rfl, hb⟩
    replace B := Lib.hid (below_ofP B.out hb)
    clear hb SZ
    go_wp2
    go_ret
    exact ⟨rfl, B.out⟩
end Go.Proofs.YtkjffifdlckljaaDoor.path
