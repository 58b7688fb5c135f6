/-
  The drawing functions of the laws on signs: what they return is of bounded size; old memory is kept.
-/
import Derived.Test.YtkmpeoimdffipaaDoorDrawBent
namespace Go.Proofs.YtkmpeoimdffipaaDoor.draw
open Go.ChangeShapes Go.WideShapes Go.ChangeAt Go.RowKit
set_option maxRecDepth 100000

theorem below_of {w w1 w2 : World} {g : Nat} (hb : Below w.heap.size w w1) (hg : w1.grownBy w2 (some g)) (hl : w.heap.size ≤ g) : Below w.heap.size w w2 :=
  hb.grown hg hb.size (fun k hk => by have := Option.some.inj hk; omega)
theorem ok_list : ∀ k, k < 8 → ∃ s : ByteArray, s.size ≤ 4 ∧ (#[Value.string { data := #[192, 128] }, .string { data := #[224, 128, 128] }, .string { data := #[237, 160, 128] }, .string { data := #[244, 144, 128, 128] }, .string { data := #[248] }, .string { data := #[128] }, .string { data := #[195] }, .string { data := #[] }] : Array Value)[k]? = some (.string s) := by
  intro k hk
  have h : k = 0 ∨ k = 1 ∨ k = 2 ∨ k = 3 ∨ k = 4 ∨ k = 5 ∨ k = 6 ∨ k = 7 := by omega
  rcases h with rfl | rfl | rfl | rfl | rfl | rfl | rfl | rfl <;> exact ⟨_, by decide, rfl⟩
theorem six_list : ∀ k, k < 6 → ∃ z : Int, True ∧ (#[Value.int .i64 0, .int .i64 1, .int .i64 2, .int .i64 3, .int .i64 (-1), .int .i64 9223372036854775807] : Array Value)[k]? = some (.int .i64 z) := by
  intro k hk
  have h : k = 0 ∨ k = 1 ∨ k = 2 ∨ k = 3 ∨ k = 4 ∨ k = 5 := by omega
  rcases h with rfl | rfl | rfl | rfl | rfl | rfl <;> exact ⟨_, trivial, rfl⟩
theorem sixteen_list (x : Int) : ∀ k, k < 16 → ∃ z : Int, True ∧ (#[Value.int .i64 0, .int .i64 65, .int .i64 127, .int .i64 128, .int .i64 2047, .int .i64 2048, .int .i64 55295, .int .i64 55296, .int .i64 57343, .int .i64 57344, .int .i64 65535, .int .i64 65536, .int .i64 1114111, .int .i64 1114112, .int .i64 (-1), .int .i64 x] : Array Value)[k]? = some (.int .i64 z) := by
  intro k hk
  have h : k = 0 ∨ k = 1 ∨ k = 2 ∨ k = 3 ∨ k = 4 ∨ k = 5 ∨ k = 6 ∨ k = 7 ∨ k = 8 ∨ k = 9 ∨ k = 10 ∨ k = 11 ∨ k = 12 ∨ k = 13 ∨ k = 14 ∨ k = 15 := by omega
  rcases h with rfl | rfl | rfl | rfl | rfl | rfl | rfl | rfl | rfl | rfl | rfl | rfl | rfl | rfl | rfl | rfl <;> exact ⟨_, trivial, rfl⟩

set_option maxHeartbeats 1000000 in
theorem signs_any (w : World) (a : Option Addr) (len cap : Nat) (hc : Code w a len w.heap.size) :
    Calls Tryd.prog 18 #[.slice a len cap] w fun e w' => ∃ s : ByteArray, s.size ≤ 500 ∧ e = .returned (.string s) ∧ Below w.heap.size w w' := by
  have C := Lib.hid (new_any w a len cap hc)
  clear hc
  go_enter Tryd.func18, Tryd.ntmps18
  go_wp2_with fail
  with_reducible refine C.out.mono ?_
  rintro e w1 ⟨rfl, hd1, hb1⟩
  have C1 := Lib.hid (some_any w1 w.heap.size a len cap hd1)
  clear hd1 C
  go_wp2_with fail
  with_reducible refine C1.out.mono ?_
  rintro e w2 ⟨s, hs, rfl, hd2, hg2⟩
  have C2 := Lib.hid (bent_any w2 w.heap.size a len cap s (by omega) hd2)
  have HB2 := Lib.hid (below_of hb1 hg2 (Nat.le_refl _))
  clear hd2 hg2 C1 hb1
  go_wp2_with fail
  with_reducible refine C2.out.mono ?_
  rintro e w3 ⟨t, ht, rfl, hd3, hg3⟩
  have HB3 := Lib.hid (below_of HB2.out hg3 (Nat.le_refl _))
  clear hd3 hg3 C2 HB2
  go_wp2
  go_ret
  exact ⟨t, ht, rfl, HB3.out⟩

set_option maxHeartbeats 1000000 in
theorem textOk_any (w : World) (a : Option Addr) (len cap : Nat) (hc : Code w a len w.heap.size) :
    Calls Tryd.prog 17 #[.slice a len cap] w fun e w' => ∃ s : ByteArray, s.size ≤ 500 ∧ e = .returned (.string s) ∧ Below w.heap.size w w' := by
  have C := Lib.hid (new_any w a len cap hc)
  clear hc
  go_enter Tryd.func17, Tryd.ntmps17
  go_wp2_with fail
  with_reducible refine C.out.mono ?_
  rintro e w1 ⟨rfl, hd1, hb1⟩
  have C1 := Lib.hid (once_any w1 w.heap.size a len cap 3 (by omega) (by omega) hd1)
  clear hd1 C
  go_wp2_with fail
  with_reducible refine C1.out.mono ?_
  rintro e w2 ⟨b, rfl, hd2, hg2⟩
  have HB2 := Lib.hid (below_of hb1 hg2 (Nat.le_refl _))
  have HD2 := Lib.hid hd2
  have hgz := hd2.lt
  clear hd2 hg2 C1 hb1
  cases b
  · have C2 := Lib.hid (some_any w2 w.heap.size a len cap HD2.out)
    go_wp2_with fail
    with_reducible refine C2.out.mono ?_
    rintro e w3 ⟨s, hs, rfl, hd3, hg3⟩
    have C3 := Lib.hid (bent_any w3 w.heap.size a len cap s (by omega) hd3)
    have HB3 := Lib.hid (below_of HB2.out hg3 (Nat.le_refl _))
    clear hd3 hg3 C2 HB2 HD2
    go_wp2_with fail
    with_reducible refine C3.out.mono ?_
    rintro e w4 ⟨t, ht, rfl, hd4, hg4⟩
    have HB4 := Lib.hid (below_of HB3.out hg4 (Nat.le_refl _))
    clear hd4 hg4 C3 HB3
    go_wp2
    go_ret
    exact ⟨t, ht, rfl, HB4.out⟩
  · go_wp2_with fail
    with_reducible refine (pick_any _ w.heap.size a len cap w2.heap.size 8 8 4 _ (HD2.out.below ((Below.refl _ _).alloc (Nat.le_refl _) _)) hgz (by omega) (by omega) (heap_alloc_new w2 _) ok_list).mono ?_
    rintro e w3 ⟨t, ht, rfl, hd3, hg3⟩
    have HB3 := Lib.hid (below_of HB2.out (grown_after ((Below.refl _ _).alloc (Nat.le_refl _) _) hg3) (Nat.le_refl _))
    clear hd3 hg3 HB2 HD2
    go_wp2
    go_ret
    exact ⟨t, by omega, rfl, HB3.out⟩

set_option maxHeartbeats 1000000 in
theorem putSign_any (w : World) (a : Option Addr) (len cap : Nat) (hc : Code w a len w.heap.size) :
    Calls Tryd.prog 12 #[.slice a len cap] w fun e w' => ∃ z : Int, e = .returned (.int .i64 z) ∧ Below w.heap.size w w' := by
  have C := Lib.hid (new_any w a len cap hc)
  clear hc
  go_enter Tryd.func12, Tryd.ntmps12
  go_wp2_with fail
  with_reducible refine C.out.mono ?_
  rintro e w1 ⟨rfl, hd1, hb1⟩
  have C1 := Lib.hid (below_any w1 w.heap.size a len cap 100000 (by omega) (by omega) hd1)
  clear hd1 C
  go_wp2_with fail
  with_reducible refine C1.out.mono ?_
  rintro e w2 ⟨x, hx, rfl, hd2, hg2⟩
  have HB2 := Lib.hid (below_of hb1 hg2 (Nat.le_refl _))
  have HD2 := Lib.hid hd2
  have hgz := hd2.lt
  clear hd2 hg2 C1 hb1
  go_wp2_with fail
  with_reducible refine (pickInt_any _ w.heap.size a len cap w2.heap.size 16 16 _ (HD2.out.below ((Below.refl _ _).alloc (Nat.le_refl _) _)) hgz (by omega) (by omega) (heap_alloc_new w2 _) (fun _ => True) (sixteen_list _)).mono ?_
  rintro e w3 ⟨z, _, rfl, hd3, hg3⟩
  have HB3 := Lib.hid (below_of HB2.out (grown_after ((Below.refl _ _).alloc (Nat.le_refl _) _) hg3) (Nat.le_refl _))
  clear hd3 hg3 HB2 HD2
  go_wp2
  go_ret
  exact ⟨z, rfl, HB3.out⟩

set_option maxHeartbeats 1000000 in
theorem getSign_any (w : World) (a : Option Addr) (len cap : Nat) (hc : Code w a len w.heap.size) :
    Calls Tryd.prog 14 #[.slice a len cap] w fun e w' => ∃ (s : ByteArray) (z : Int), s.size ≤ 600 ∧ e = .returned (.tuple #[.string s, .int .i64 z]) ∧ Below w.heap.size w w' := by
  have C := Lib.hid (new_any w a len cap hc)
  clear hc
  go_enter Tryd.func14, Tryd.ntmps14
  go_wp2_with fail
  with_reducible refine C.out.mono ?_
  rintro e w1 ⟨rfl, hd1, hb1⟩
  have C1 := Lib.hid (some_any w1 w.heap.size a len cap hd1)
  clear hd1 C
  go_wp2_with fail
  with_reducible refine C1.out.mono ?_
  rintro e w2 ⟨s, hs, rfl, hd2, hg2⟩
  have C2 := Lib.hid (bent_any w2 w.heap.size a len cap s (by omega) hd2)
  have HB2 := Lib.hid (below_of hb1 hg2 (Nat.le_refl _))
  clear hd2 hg2 C1 hb1
  go_wp2_with fail
  with_reducible refine C2.out.mono ?_
  rintro e w3 ⟨t, ht, rfl, hd3, hg3⟩
  have HB3 := Lib.hid (below_of HB2.out hg3 (Nat.le_refl _))
  have HD3 := Lib.hid hd3
  have hgz := hd3.lt
  clear hd3 hg3 C2 HB2
  obtain ⟨X, hX, eX⟩ : ∃ X : ByteArray, X.size = 1 ∧ ({ data := #[120] } : ByteArray) = X := ⟨_, rfl, rfl⟩
  obtain ⟨Y, hY, eY⟩ : ∃ X : ByteArray, X.size = 1 ∧ ({ data := #[121] } : ByteArray) = X := ⟨_, rfl, rfl⟩
  have y1 : ({ data := #[120] } : ByteArray).size + t.size ≤ 9223372036854775807 := by rw [eX]; omega
  have y2 : (({ data := #[120] } : ByteArray) ++ t).size + ({ data := #[121] } : ByteArray).size ≤ 9223372036854775807 := by rw [ByteArray.size_append, eX, eY]; omega
  go_wp2_with fail
  with_reducible refine (pickInt_any _ w.heap.size a len cap w3.heap.size 6 6 _ (HD3.out.below ((Below.refl _ _).alloc (Nat.le_refl _) _)) hgz (by omega) (by omega) (heap_alloc_new w3 _) (fun _ => True) six_list).mono ?_
  rintro e w4 ⟨z, _, rfl, hd4, hg4⟩
  have HB4 := Lib.hid (below_of HB3.out (grown_after ((Below.refl _ _).alloc (Nat.le_refl _) _) hg4) (Nat.le_refl _))
  clear hd4 hg4 HB3 HD3
  go_wp2
  go_ret2
  exact ⟨_, z, by rw [ByteArray.size_append, ByteArray.size_append]; omega, rfl, HB4.out⟩

end Go.Proofs.YtkmpeoimdffipaaDoor.draw
