/-
  spec's walk over heads where nothing is read.
-/
import Derived.Test.YtnaghafmpncdkaaDoorBegState
import Derived.Test.YtnaghafmpncdkaaDoorGetHeadSpec2
namespace Go.Proofs.YtnaghafmpncdkaaDoor.beg
open Go.ChangeShapes Go.WideShapes Go.ChangeAt Go.RowKit
open Go.Proofs.YtnaghafmpncdkaaDoor.head
set_option maxRecDepth 100000

set_option maxHeartbeats 1000000 in
/-- Too many, too deep. -/
theorem walk_end (W : World) (b : Nat) (s : ByteArray) (i left d : Nat) (hl : left ≤ 2000) (hd : d ≤ 100) (h : LC W b left) (hx : left = 0 ∨ 14 < d) :
    Calls Tryd.prog 33 #[.string s, .int .i64 i, .int .i64 d, .pointer (some ⟨b, 0, none⟩)] W fun e w' => WRet W w' b (-1, (left : Int) - 1) e := by
  have c0 := h.c0
  have fr := h.fr 0
  have HS := Lib.hid (h.set ((left : Int) - 1))
  have d0 := HS.out.c0
  have HO := Lib.hid (set_only W b 0 (.int .i64 ((left : Int) - 1)))
  have e0 : -9223372036854775808 ≤ (left : Int) - 1 := by omega
  have e1 : (left : Int) - 1 ≤ 9223372036854775807 := by omega
  by_cases hl0 : left = 0
  · have p0 : (left : Int) - 1 < 0 := by omega
    clear hx hl0 hl h
    go_enter Tryd.func33, Tryd.ntmps33
    go_wp2
    go_ret
    exact ⟨rfl, HS.out, HO.out⟩
  · have p0 : ¬ (left : Int) - 1 < 0 := by omega
    have p1 : (14 : Int) < (d : Int) := by omega
    clear hx hl0 hl h
    go_enter Tryd.func33, Tryd.ntmps33
    go_wp2
    go_ret
    exact ⟨rfl, HS.out, HO.out⟩
set_option maxHeartbeats 1000000 in
/-- At the end. -/
theorem walk_over (W : World) (b : Nat) (s : ByteArray) (i left d : Nat) (hs : s.size ≤ 1048576) (hl0 : 0 < left) (hl : left ≤ 2000) (hd : d ≤ 14) (h : LC W b left) (hx : s.size ≤ i) :
    Calls Tryd.prog 33 #[.string s, .int .i64 i, .int .i64 d, .pointer (some ⟨b, 0, none⟩)] W fun e w' => WRet W w' b (-2, (left : Int) - 1) e := by
  have c0 := h.c0
  have fr := h.fr 0
  have HS := Lib.hid (h.set ((left : Int) - 1))
  have d0 := HS.out.c0
  have HO := Lib.hid (set_only W b 0 (.int .i64 ((left : Int) - 1)))
  have e0 : -9223372036854775808 ≤ (left : Int) - 1 := by omega
  have e1 : (left : Int) - 1 ≤ 9223372036854775807 := by omega
  have p0 : ¬ (left : Int) - 1 < 0 := by omega
  have p1 : ¬ (14 : Int) < (d : Int) := by omega
  have p2 : (s.size : Int) ≤ (i : Int) := by omega
  clear hx hl0 hl hd hs h
  go_enter Tryd.func33, Tryd.ntmps33
  go_wp2
  go_ret
  exact ⟨rfl, HS.out, HO.out⟩
set_option maxHeartbeats 1000000 in
/-- No such head. -/
theorem walk_low (W : World) (b : Nat) (s : ByteArray) (i left d : Nat) (hs : s.size ≤ 1048576) (hl0 : 0 < left) (hl : left ≤ 2000) (hd : d ≤ 14) (h : LC W b left) (hi : i < s.size) (hx : 27 < low s i) :
    Calls Tryd.prog 33 #[.string s, .int .i64 i, .int .i64 d, .pointer (some ⟨b, 0, none⟩)] W fun e w' => WRet W w' b (-1, (left : Int) - 1) e := by
  have c0 := h.c0
  have fr := h.fr 0
  have HS := Lib.hid (h.set ((left : Int) - 1))
  have d0 := HS.out.c0
  have HO := Lib.hid (set_only W b 0 (.int .i64 ((left : Int) - 1)))
  have e0 : -9223372036854775808 ≤ (left : Int) - 1 := by omega
  have e1 : (left : Int) - 1 ≤ 9223372036854775807 := by omega
  have p0 : ¬ (left : Int) - 1 < 0 := by omega
  have p1 : ¬ (14 : Int) < (d : Int) := by omega
  have p2 : ¬ (s.size : Int) ≤ (i : Int) := by omega
  have p3 : (i : Int) < (s.size : Int) := by omega
  have p4 : (0 : Int) ≤ (i : Int) := by omega
  obtain ⟨B, hb, hF, hb256⟩ := first_of s i hi
  have p5 : 27 < B % 32 := by rw [← hF.low]; exact hx
  clear hx hl0 hl hd hs h hF
  go_enter Tryd.func33, Tryd.ntmps33
  go_wp2
  go_ret
  exact ⟨rfl, HS.out, HO.out⟩
end Go.Proofs.YtnaghafmpncdkaaDoor.beg
