/-
  The drawing functions of the laws, further: a text bent.
-/
import Derived.Test.YtlnhfgkecifhdaaGreatDoorDrawSome
import Derived.Deep.RegionWith
import Derived.Handy
namespace Go.Proofs.YtlnhfgkecifhdaaGreatDoor.draw
open Go.ChangeShapes Go.WideShapes Go.ChangeAt Go.RowKit
set_option maxRecDepth 100000

theorem bent_list : ∀ k, k < 8 → ∃ s : ByteArray, s.size ≤ 1 ∧ (#[Value.string { data := #[48] }, .string { data := #[32] }, .string { data := #[255] }, .string { data := #[128] }, .string { data := #[34] }, .string { data := #[92] }, .string { data := #[97] }, .string { data := #[44] }] : Array Value)[k]? = some (.string s) := by
  intro k hk
  have h : k = 0 ∨ k = 1 ∨ k = 2 ∨ k = 3 ∨ k = 4 ∨ k = 5 ∨ k = 6 ∨ k = 7 := by omega
  rcases h with rfl | rfl | rfl | rfl | rfl | rfl | rfl | rfl <;> exact ⟨_, by decide, rfl⟩
theorem bent_list5 : ∀ k, k < 5 → ∃ s : ByteArray, s.size ≤ 1 ∧ (#[Value.string { data := #[48] }, .string { data := #[192] }, .string { data := #[0] }, .string { data := #[57] }, .string { data := #[93] }] : Array Value)[k]? = some (.string s) := by
  intro k hk
  have h : k = 0 ∨ k = 1 ∨ k = 2 ∨ k = 3 ∨ k = 4 := by omega
  rcases h with rfl | rfl | rfl | rfl | rfl <;> exact ⟨_, by decide, rfl⟩
theorem ext_size (s : ByteArray) (i j : Nat) : (s.extract i j).size ≤ s.size := by rw [ByteArray.size_extract]; omega

set_option maxHeartbeats 4000000 in
theorem bent_any (w : World) (g : Nat) (a : Option Addr) (len cap : Nat) (s : ByteArray) (hs : s.size ≤ 200) (hd : Draw w g a len cap) :
    Calls Tryz.prog 30 #[.pointer (some ⟨g, 0, none⟩), .string s] w fun e w' => ∃ t : ByteArray, t.size ≤ 500 ∧ e = .returned (.string t) ∧ Draw w' g a len cap ∧ w.grownBy w' (some g) := by
  have C := Lib.hid (below_any w g a len cap ((s.size : Int) + 1) (by omega) (by omega) hd)
  clear hd
  go_enter Tryz.func30, Tryz.ntmps30
  go_wp2_with fail
  with_reducible refine C.out.mono ?_
  rintro e w1 ⟨i, hi, rfl, hd1, hg1⟩
  have C1 := Lib.hid (below_any w1 g a len cap 8 (by omega) (by omega) hd1)
  have HG1 := Lib.hid hg1
  clear hd1 hg1 C
  go_wp2_with fail
  with_reducible refine C1.out.mono ?_
  rintro e w2 ⟨q, hq, rfl, hd2, hg2⟩
  have HD := Lib.hid hd2
  have HG := Lib.hid (HG1.out.trans hg2)
  have hgz := hd2.lt
  clear hd2 hg2 C1 HG1
  have hi0 : (0 : Int) ≤ (i : Int) := by omega
  have hi1 : (i : Int) ≤ (s.size : Int) := by omega
  have x1 := ext_size s 0 i
  have x2 := ext_size s i s.size
  have x3 := ext_size s (i + 1) s.size
  by_cases q0 : q = 0
  · have h0 : ((q : Int) == 0) = true := by rw [q0]; rfl
    clear q0
    go_wp2
    go_ret
    exact ⟨_, by omega, rfl, HD.out, HG.out⟩
  have h0 : ((q : Int) == 0) = false := by simp; omega
  by_cases q1 : q = 1
  · have h1 : ((q : Int) == 1) = true := by rw [q1]; rfl
    clear q0 q1
    go_wp2_with fail
    go_region_with (go_at_call 34; refine (pick_any _ g a len cap w2.heap.size 8 8 1 _ (HD.out.below (by go_grown)) hgz (by omega) (by omega) (heap_alloc_new w2.drew _) bent_list).mono ?_; rintro e w3 ⟨t, ht, rfl, hd3, hg3⟩; have HD3 := Lib.hid hd3; have HG3 := Lib.hid (HG.out.trans (grown_after (by go_grown) hg3)); clear hd3 hg3; have y1 : (s.extract 0 i).size + t.size ≤ 9223372036854775807 := by omega
                    have y2 : (s.extract 0 i ++ t).size + (s.extract i s.size).size ≤ 9223372036854775807 := by rw [ByteArray.size_append]; omega)
    all_goals go_wp2
    all_goals
      go_ret
      exact ⟨_, by rw [ByteArray.size_append, ByteArray.size_append]; omega, rfl, HD3.out, HG3.out⟩
  have h1 : ((q : Int) == 1) = false := by simp; omega
  by_cases q2 : q = 2
  · have h2 : ((q : Int) == 2) = true := by rw [q2]; rfl
    clear q0 q1 q2
    by_cases hil : i < s.size
    · have hil' : (i : Int) < (s.size : Int) := by omega
      have hj0 : (0 : Int) ≤ (i : Int) + 1 := by omega
      have hj1 : (i : Int) + 1 ≤ (s.size : Int) := by omega
      have hjt : ((i : Int) + 1).toNat = i + 1 := by omega
      have hjw : IntKind.i64.wrap ((i : Int) + 1) = (i : Int) + 1 := by rw [IntKind.wrap_i64]; omega
      go_wp2_with fail
      go_region_with (go_at_call 34; refine (pick_any _ g a len cap w2.heap.size 5 5 1 _ (HD.out.below (by go_grown)) hgz (by omega) (by omega) (heap_alloc_new w2.drew _) bent_list5).mono ?_; rintro e w3 ⟨t, ht, rfl, hd3, hg3⟩; have HD3 := Lib.hid hd3; have HG3 := Lib.hid (HG.out.trans (grown_after (by go_grown) hg3)); clear hd3 hg3; have y1 : (s.extract 0 i).size + t.size ≤ 9223372036854775807 := by omega
                      have y2 : (s.extract 0 i ++ t).size + (s.extract (i + 1) s.size).size ≤ 9223372036854775807 := by rw [ByteArray.size_append]; omega)
      all_goals go_wp2
      all_goals
        go_ret
        exact ⟨_, by rw [ByteArray.size_append, ByteArray.size_append]; omega, rfl, HD3.out, HG3.out⟩
    · have hil' : ¬ (i : Int) < (s.size : Int) := by omega
      go_wp2
      go_ret
      exact ⟨_, by omega, rfl, HD.out, HG.out⟩
  · have h2 : ((q : Int) == 2) = false := by simp; omega
    clear q0 q1 q2
    go_wp2
    go_ret
    exact ⟨_, by omega, rfl, HD.out, HG.out⟩

end Go.Proofs.YtlnhfgkecifhdaaGreatDoor.draw
