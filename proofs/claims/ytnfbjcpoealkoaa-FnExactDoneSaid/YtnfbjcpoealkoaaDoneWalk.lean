/-
  What Done returns at every feed, on both sides.
-/
import Derived.Test.YtnfbjcpoealkoaaFeedWalk
import Derived.Deep.RegionWith
import Derived.Deep.RegionHeld3
namespace Go.Proofs.Ytnfbjcpoealkoaa.feed
open Go.ChangeShapes Go.WideShapes Go.ChangeAt Go.RowKit
set_option maxRecDepth 100000

def doneF (s : ByteArray) (n : Int) (b : Bool) : Bool := okF s n b && (!b && s.toList.isEmpty)
section
variable (s : ByteArray) (n : Int) (b : Bool) (w : World)
set_option maxHeartbeats 1000000 in
theorem spec_done (hn : InI n) : Calls Try.prog 18 #[.agg #[.string s, .int .i64 n, .bool b]] w fun r w' => r = .returned (.bool (doneF s n b)) ∧ Below w.heap.size w w' := by
  have HB := Lib.hid (box 26 s n b w)
  have PB := Lib.hid (FBox.new w 26 s n b)
  have CK := Lib.hid (fun W => spec_ok s n b W hn)
  obtain ⟨R, hR⟩ : ∃ R, R = doneF s n b := ⟨_, rfl⟩
  rw [← hR]
  have HR : Hid (R = (okF s n b && (!b && s.toList.isEmpty))) := hR
  clear hR hn
  generalize okF s n b = K at *
  go_enter Try.func18, Try.ntmps18
  go_wp2_with fail
  obtain ⟨p0, p1, p2, _⟩ := PB.out
  clear p0 p1 p2
  with_reducible refine (CK.out _).mono ?_
  rintro r w1 ⟨rfl, hb⟩
  replace HB := Lib.hid (below_of2 HB.out hb)
  replace PB := Lib.hid (PB.out.behind hb)
  obtain ⟨p0, p1, p2, _⟩ := PB.out
  clear hb CK
  cases K <;> cases b <;>
  · go_wp2
    go_ret
    exact ⟨by rw [HR.out] <;> rfl, HB.out⟩
set_option maxHeartbeats 1000000 in
theorem impl_done (hn : InI n) : Calls Try.prog 19 #[.agg #[.string s, .int .i64 n, .bool b]] w fun r w' => r = .returned (.bool (doneF s n b)) ∧ Below w.heap.size w w' := by
  have HB := Lib.hid (box 26 s n b w)
  have PB := Lib.hid (FBox.new w 26 s n b)
  have CK := Lib.hid (fun W => impl_ok s n b W hn)
  obtain ⟨R, hR⟩ : ∃ R, R = doneF s n b := ⟨_, rfl⟩
  rw [← hR]
  have HR : Hid (R = (okF s n b && (!b && s.toList.isEmpty))) := hR
  clear hR hn
  generalize okF s n b = K at *
  go_enter Try.func19, Try.ntmps19
  go_wp2_with fail
  obtain ⟨p0, p1, p2, _⟩ := PB.out
  clear p0 p1 p2
  with_reducible refine (CK.out _).mono ?_
  rintro r w1 ⟨rfl, hb⟩
  replace HB := Lib.hid (below_of2 HB.out hb)
  replace PB := Lib.hid (PB.out.behind hb)
  obtain ⟨p0, p1, p2, _⟩ := PB.out
  clear hb CK
  cases K <;> cases b <;>
  · go_wp2
    go_ret
    exact ⟨by rw [HR.out] <;> rfl, HB.out⟩
end
end Go.Proofs.Ytnfbjcpoealkoaa.feed
