/-
  The drawing functions of the laws on quotes, digits and numbers: what they return is of bounded size; old memory is kept.
-/
import Derived.Test.YtlnhfgkecifhdaaGreatDoorDrawBent
import Derived.Test.YtlnhfgkecifhdaaGreatDoorDrawText
import Derived.Test.YtlnhfgkecifhdaaGreatDoorPutHexWalk
import Derived.Test.YtlnhfgkecifhdaaGreatDoorDecTextWalk
import Derived.Test.YtlnhfgkecifhdaaGreatDoorReadDecPlain
import Derived.Test.YtlnhfgkecifhdaaGreatDoorQuoteWalk
namespace Go.Proofs.YtlnhfgkecifhdaaGreatDoor.draw
open Go.ChangeShapes Go.WideShapes Go.ChangeAt Go.RowKit
set_option maxRecDepth 100000

theorem below_of {w w1 w2 : World} {g : Nat} (hb : Below w.heap.size w w1) (hg : w1.grownBy w2 (some g)) (hl : w.heap.size ≤ g) : Below w.heap.size w w2 :=
  hb.grown hg hb.size (fun k hk => by have := Option.some.inj hk; omega)
theorem below_of2 {w w1 w2 : World} (hb : Below w.heap.size w w1) (hg : Below w1.heap.size w1 w2) : Below w.heap.size w w2 := hb.trans (hg.mono hb.size)

set_option maxHeartbeats 1000000 in
theorem quote_any (w : World) (a : Option Addr) (len cap : Nat) (hc : Code w a len w.heap.size) :
    Calls Tryz.prog 5 #[.slice a len cap] w fun e w' => ∃ s : ByteArray, s.size ≤ 500 ∧ e = .returned (.string s) ∧ Below w.heap.size w w' := by
  have C := Lib.hid (new_any w a len cap hc)
  clear hc
  go_enter Tryz.func5, Tryz.ntmps5
  go_wp2_with fail
  with_reducible refine C.out.mono ?_
  rintro e w1 ⟨rfl, hd1, hb1⟩
  have C1 := Lib.hid (some_any w1 w.heap.size a len cap hd1)
  clear hd1 C
  go_wp2_with fail
  with_reducible refine C1.out.mono ?_
  rintro e w2 ⟨s, hs, rfl, hd2, hg2⟩
  have C2 := Lib.hid (bent_any w2 w.heap.size a len cap s (by omega) hd2)
  have HB2 := Lib.hid (below_of hb1 hg2 (Nat.le_refl _))
  clear hd2 hg2 C1 hb1
  go_wp2_with fail
  with_reducible refine C2.out.mono ?_
  rintro e w3 ⟨t, ht, rfl, hd3, hg3⟩
  have HB3 := Lib.hid (below_of HB2.out hg3 (Nat.le_refl _))
  clear hd3 hg3 C2 HB2
  go_wp2
  go_ret
  exact ⟨t, ht, rfl, HB3.out⟩

set_option maxHeartbeats 1000000 in
theorem putHex_any (w : World) (a : Option Addr) (len cap : Nat) (hc : Code w a len w.heap.size) :
    Calls Tryz.prog 10 #[.slice a len cap] w fun e w' => ∃ s : ByteArray, s.size ≤ 500 ∧ e = .returned (.string s) ∧ Below w.heap.size w w' := by
  have C := Lib.hid (new_any w a len cap hc)
  clear hc
  go_enter Tryz.func10, Tryz.ntmps10
  go_wp2_with fail
  with_reducible refine C.out.mono ?_
  rintro e w1 ⟨rfl, hd1, hb1⟩
  have C1 := Lib.hid (below_any w1 w.heap.size a len cap 12 (by omega) (by omega) hd1)
  clear hd1 C
  go_wp2_with fail
  with_reducible refine C1.out.mono ?_
  rintro e w2 ⟨n, hn, rfl, hd2, hg2⟩
  have C2 := Lib.hid (text_any w2 w.heap.size a len cap n (by omega) hd2)
  have HB2 := Lib.hid (below_of hb1 hg2 (Nat.le_refl _))
  clear hd2 hg2 C1 hb1
  go_wp2_with fail
  with_reducible refine C2.out.mono ?_
  rintro e w3 ⟨t, ht, rfl, hd3, hg3⟩
  have HB3 := Lib.hid (below_of HB2.out hg3 (Nat.le_refl _))
  clear hd3 hg3 C2 HB2
  have ht' : t.size ≤ 500 := by omega
  clear ht
  go_wp2
  go_ret
  exact ⟨t, ht', rfl, HB3.out⟩

set_option maxHeartbeats 1000000 in
theorem getHex_any (w : World) (a : Option Addr) (len cap : Nat) (hc : Code w a len w.heap.size) :
    Calls Tryz.prog 12 #[.slice a len cap] w fun e w' => ∃ s : ByteArray, s.size ≤ 500 ∧ e = .returned (.string s) ∧ Below w.heap.size w w' := by
  have C := Lib.hid (new_any w a len cap hc)
  clear hc
  go_enter Tryz.func12, Tryz.ntmps12
  go_wp2_with fail
  with_reducible refine C.out.mono ?_
  rintro e w1 ⟨rfl, hd1, hb1⟩
  have C1 := Lib.hid (below_any w1 w.heap.size a len cap 12 (by omega) (by omega) hd1)
  clear hd1 C
  go_wp2_with fail
  with_reducible refine C1.out.mono ?_
  rintro e w2 ⟨n, hn, rfl, hd2, hg2⟩
  have C2 := Lib.hid (text_any w2 w.heap.size a len cap n (by omega) hd2)
  have HB2 := Lib.hid (below_of hb1 hg2 (Nat.le_refl _))
  clear hd2 hg2 C1 hb1
  go_wp2_with fail
  with_reducible refine C2.out.mono ?_
  rintro e w3 ⟨t, ht, rfl, hd3, hg3⟩
  have HB3 := Lib.hid (below_of HB2.out hg3 (Nat.le_refl _))
  have HD3 := Lib.hid hd3
  have C3 := Lib.hid (putHex.spec_any t w3 (by omega))
  have hx := putHex.hexOf_length t.data.toList
  have hxs : ({ data := (putHex.hexOf t.data.toList).toArray } : ByteArray).size ≤ 200 := by
    show (putHex.hexOf t.data.toList).toArray.size ≤ 200
    simp only [List.size_toArray]
    have : t.data.toList.length = t.size := by simp
    omega
  generalize ({ data := (putHex.hexOf t.data.toList).toArray } : ByteArray) = X at *
  clear hd3 hg3 C2 HB2 ht hx
  go_wp2_with fail
  with_reducible refine C3.out.mono ?_
  rintro e w4 ⟨rfl, hb4⟩
  have C4 := Lib.hid (bent_any w4 w.heap.size a len cap X hxs (HD3.out.below hb4))
  have HB4 := Lib.hid (below_of2 HB3.out hb4)
  clear C3 hb4 HD3 HB3
  go_wp2_with fail
  with_reducible refine C4.out.mono ?_
  rintro e w5 ⟨u, hu, rfl, hd5, hg5⟩
  have HB5 := Lib.hid (below_of HB4.out hg5 (Nat.le_refl _))
  clear hd5 hg5 C4 HB4
  go_wp2
  go_ret
  exact ⟨u, hu, rfl, HB5.out⟩

def InI (z : Int) : Prop := -9223372036854775808 ≤ z ∧ z ≤ 9223372036854775807
theorem dec_list (x : Nat) (hx : (x : Int) < 100000) : ∀ k, k < 6 → ∃ z : Int, InI z ∧ (#[Value.int .i64 0, .int .i64 (-1), .int .i64 10, .int .i64 9223372036854775807, .int .i64 (-9223372036854775808), .int .i64 x] : Array Value)[k]? = some (.int .i64 z) := by
  intro k hk
  have h : k = 0 ∨ k = 1 ∨ k = 2 ∨ k = 3 ∨ k = 4 ∨ k = 5 := by omega
  rcases h with rfl | rfl | rfl | rfl | rfl | rfl <;> exact ⟨_, by unfold InI; omega, rfl⟩
theorem read_list4 (x : Nat) (hx : (x : Int) < 100000) : ∀ k, k < 4 → ∃ z : Int, InI z ∧ (#[Value.int .i64 0, .int .i64 (-1), .int .i64 10, .int .i64 x] : Array Value)[k]? = some (.int .i64 z) := by
  intro k hk
  have h : k = 0 ∨ k = 1 ∨ k = 2 ∨ k = 3 := by omega
  rcases h with rfl | rfl | rfl | rfl <;> exact ⟨_, by unfold InI; omega, rfl⟩

set_option maxHeartbeats 1000000 in
theorem decText_any (w : World) (a : Option Addr) (len cap : Nat) (hc : Code w a len w.heap.size) :
    Calls Tryz.prog 15 #[.slice a len cap] w fun e w' => ∃ z : Int, InI z ∧ e = .returned (.int .i64 z) ∧ Below w.heap.size w w' := by
  have C := Lib.hid (new_any w a len cap hc)
  clear hc
  go_enter Tryz.func15, Tryz.ntmps15
  go_wp2_with fail
  with_reducible refine C.out.mono ?_
  rintro e w1 ⟨rfl, hd1, hb1⟩
  have C1 := Lib.hid (below_any w1 w.heap.size a len cap 100000 (by omega) (by omega) hd1)
  clear hd1 C
  go_wp2_with fail
  with_reducible refine C1.out.mono ?_
  rintro e w2 ⟨x, hx, rfl, hd2, hg2⟩
  have HB2 := Lib.hid (below_of hb1 hg2 (Nat.le_refl _))
  have HD2 := Lib.hid hd2
  have hgz := hd2.lt
  clear hd2 hg2 C1 hb1
  go_wp2_with fail
  with_reducible refine (pickInt_any _ w.heap.size a len cap w2.heap.size 6 6 _ (HD2.out.below ((Below.refl _ _).alloc (Nat.le_refl _) _)) hgz (by omega) (by omega) (heap_alloc_new w2 _) InI (dec_list x hx)).mono ?_
  rintro e w3 ⟨z, hz, rfl, hd3, hg3⟩
  have HB3 := Lib.hid (below_of HB2.out (grown_after ((Below.refl _ _).alloc (Nat.le_refl _) _) hg3) (Nat.le_refl _))
  have HZ := Lib.hid hz
  clear hd3 hg3 HB2 HD2 hz
  go_wp2
  go_ret
  exact ⟨z, HZ.out, rfl, HB3.out⟩

theorem read_list : ∀ k, k < 11 → ∃ s : ByteArray, s.size ≤ 20 ∧ (#[Value.string { data := #[] }, .string { data := #[45] }, .string { data := #[45, 48] }, .string { data := #[48, 48] }, .string { data := #[57, 50, 50, 51, 51, 55, 50, 48, 51, 54, 56, 53, 52, 55, 55, 53, 56, 48, 55] }, .string { data := #[57, 50, 50, 51, 51, 55, 50, 48, 51, 54, 56, 53, 52, 55, 55, 53, 56, 48, 56] }, .string { data := #[45, 57, 50, 50, 51, 51, 55, 50, 48, 51, 54, 56, 53, 52, 55, 55, 53, 56, 48, 56] }, .string { data := #[45, 57, 50, 50, 51, 51, 55, 50, 48, 51, 54, 56, 53, 52, 55, 55, 53, 56, 48, 57] }, .string { data := #[49, 56, 52, 52, 54, 55, 52, 52, 48, 55, 51, 55, 48, 57, 53, 53, 49, 54, 49, 55] }, .string { data := #[49, 120] }, .string { data := #[43, 49] }] : Array Value)[k]? = some (.string s) := by
  intro k hk
  have h : k = 0 ∨ k = 1 ∨ k = 2 ∨ k = 3 ∨ k = 4 ∨ k = 5 ∨ k = 6 ∨ k = 7 ∨ k = 8 ∨ k = 9 ∨ k = 10 := by omega
  rcases h with rfl | rfl | rfl | rfl | rfl | rfl | rfl | rfl | rfl | rfl | rfl <;> exact ⟨_, by decide, rfl⟩
theorem words_list : ∀ k, k < 5 → ∃ s : ByteArray, s.size ≤ 2 ∧ (#[Value.string { data := #[97] }, .string { data := #[32] }, .string { data := #[98, 99] }, .string { data := #[32] }, .string { data := #[] }] : Array Value)[k]? = some (.string s) := by
  intro k hk
  have h : k = 0 ∨ k = 1 ∨ k = 2 ∨ k = 3 ∨ k = 4 := by omega
  rcases h with rfl | rfl | rfl | rfl | rfl <;> exact ⟨_, by decide, rfl⟩
theorem unq_list : ∀ k, k < 11 → ∃ s : ByteArray, s.size ≤ 12 ∧ (#[Value.string { data := #[92, 117, 48, 48, 52, 49] }, .string { data := #[92, 117, 100, 56, 51, 100, 92, 117, 100, 101, 48, 48] }, .string { data := #[92, 117, 100, 56, 51, 100] }, .string { data := #[92, 117, 100, 101, 48, 48] }, .string { data := #[92, 117, 48, 48, 69, 57] }, .string { data := #[92, 47] }, .string { data := #[92, 120] }, .string { data := #[92, 117, 49, 50] }, .string { data := #[10] }, .string { data := #[92, 117, 100, 56, 51, 100, 92, 117, 48, 48, 52, 49] }, .string { data := #[97, 92] }] : Array Value)[k]? = some (.string s) := by
  intro k hk
  have h : k = 0 ∨ k = 1 ∨ k = 2 ∨ k = 3 ∨ k = 4 ∨ k = 5 ∨ k = 6 ∨ k = 7 ∨ k = 8 ∨ k = 9 ∨ k = 10 := by omega
  rcases h with rfl | rfl | rfl | rfl | rfl | rfl | rfl | rfl | rfl | rfl | rfl <;> exact ⟨_, by decide, rfl⟩
theorem eight_list : ∀ k, k < 8 → ∃ z : Int, True ∧ (#[Value.int .i64 1, .int .i64 1, .int .i64 1, .int .i64 1, .int .i64 0, .int .i64 2, .int .i64 (-1), .int .i64 9223372036854775807] : Array Value)[k]? = some (.int .i64 z) := by
  intro k hk
  have h : k = 0 ∨ k = 1 ∨ k = 2 ∨ k = 3 ∨ k = 4 ∨ k = 5 ∨ k = 6 ∨ k = 7 := by omega
  rcases h with rfl | rfl | rfl | rfl | rfl | rfl | rfl | rfl <;> exact ⟨_, trivial, rfl⟩
theorem itoa_size (z : Int) (h : InI z) : ({ data := (Lib.itoa z).toArray } : ByteArray).size ≤ 500 := by
  show (Lib.itoa z).toArray.size ≤ 500
  simp only [List.size_toArray]
  have h19 := readDec.decDigits_len z.natAbs (by unfold InI at h; omega)
  have h20 := readDec.decDigits_len z.toNat (by unfold InI at h; omega)
  unfold Lib.itoa
  split <;> (first | (simp only [List.length_cons]; omega) | omega)

set_option maxHeartbeats 1000000 in
theorem readDec_any (w : World) (a : Option Addr) (len cap : Nat) (hc : Code w a len w.heap.size) :
    Calls Tryz.prog 16 #[.slice a len cap] w fun e w' => ∃ s : ByteArray, s.size ≤ 500 ∧ e = .returned (.string s) ∧ Below w.heap.size w w' := by
  have C := Lib.hid (new_any w a len cap hc)
  clear hc
  go_enter Tryz.func16, Tryz.ntmps16
  go_wp2_with fail
  with_reducible refine C.out.mono ?_
  rintro e w1 ⟨rfl, hd1, hb1⟩
  have C1 := Lib.hid (once_any w1 w.heap.size a len cap 2 (by omega) (by omega) hd1)
  clear hd1 C
  go_wp2_with fail
  with_reducible refine C1.out.mono ?_
  rintro e w2 ⟨b, rfl, hd2, hg2⟩
  have HB2 := Lib.hid (below_of hb1 hg2 (Nat.le_refl _))
  have HD2 := Lib.hid hd2
  have hgz := hd2.lt
  cases b
  · have C2 := Lib.hid (below_any w2 w.heap.size a len cap 100000 (by omega) (by omega) hd2)
    clear hd2 hg2 C1 hb1 HD2
    go_wp2_with fail
    with_reducible refine C2.out.mono ?_
    rintro e w3 ⟨x, hx, rfl, hd3, hg3⟩
    have HB3 := Lib.hid (below_of HB2.out hg3 (Nat.le_refl _))
    have HD3 := Lib.hid hd3
    have hgz3 := hd3.lt
    clear hd3 hg3 C2 HB2
    go_wp2_with fail
    with_reducible refine (pickInt_any _ w.heap.size a len cap w3.heap.size 4 4 _ (HD3.out.below ((Below.refl _ _).alloc (Nat.le_refl _) _)) hgz3 (by omega) (by omega) (heap_alloc_new w3 _) InI (read_list4 x hx)).mono ?_
    rintro e w4 ⟨z, hz, rfl, hd4, hg4⟩
    have HB4 := Lib.hid (below_of HB3.out (grown_after ((Below.refl _ _).alloc (Nat.le_refl _) _) hg4) (Nat.le_refl _))
    have C4 := Lib.hid (decText.spec_any z hz.1 hz.2 w4)
    have hsz := itoa_size z hz
    clear hd4 hg4 HB3 HD3 hz
    generalize ({ data := (Lib.itoa z).toArray } : ByteArray) = X at *
    go_wp2_with fail
    with_reducible refine C4.out.mono ?_
    rintro e w5 ⟨rfl, rfl⟩
    clear C4
    go_wp2
    go_ret
    exact ⟨X, hsz, rfl, HB4.out⟩
  · clear hd2 hg2 C1 hb1
    go_wp2_with fail
    with_reducible refine (pick_any _ w.heap.size a len cap w2.heap.size 11 11 20 _ (HD2.out.below ((Below.refl _ _).alloc (Nat.le_refl _) _)) hgz (by omega) (by omega) (heap_alloc_new w2 _) read_list).mono ?_
    rintro e w3 ⟨t, ht, rfl, hd3, hg3⟩
    have HB3 := Lib.hid (below_of HB2.out (grown_after ((Below.refl _ _).alloc (Nat.le_refl _) _) hg3) (Nat.le_refl _))
    clear hd3 hg3 HB2 HD2
    go_wp2
    go_ret
    exact ⟨t, by omega, rfl, HB3.out⟩

set_option maxHeartbeats 2000000 in
theorem words_any (w : World) (a : Option Addr) (len cap : Nat) (hc : Code w a len w.heap.size) :
    Calls Tryz.prog 19 #[.slice a len cap] w fun e w' => ∃ s : ByteArray, s.size ≤ 500 ∧ e = .returned (.string s) ∧ Below w.heap.size w w' := by
  have C := Lib.hid (new_any w a len cap hc)
  clear hc
  go_enter Tryz.func19, Tryz.ntmps19
  go_wp2_with fail
  with_reducible refine C.out.mono ?_
  rintro e w1 ⟨rfl, hd1, hb1⟩
  have C1 := Lib.hid (below_any w1 w.heap.size a len cap 6 (by omega) (by omega) hd1)
  clear hd1 C
  go_wp2_with fail
  with_reducible refine C1.out.mono ?_
  rintro e w2 ⟨n, hn, rfl, hd2, hg2⟩
  have HB2 := Lib.hid (below_of hb1 hg2 (Nat.le_refl _))
  have HD2 := Lib.hid hd2
  clear hd2 hg2 C1 hb1
  go_wp2_with fail
  go_loopw [4, 6] (fun v k wr => ∃ (s : ByteArray) (j : Nat), v = .string s ∧ k = .int .i64 (j : Int) ∧ j ≤ n ∧ s.size ≤ 2 * j ∧ Hid (Draw wr w.heap.size a len cap) ∧ Hid (Below w.heap.size w wr)) (fun _ k _ => n - (intOf k).toNat)
  case atStart => exact ⟨_, 0, rfl, rfl, by omega, by decide, HD2, HB2⟩
  case round =>
    clear HD2 HB2
    obtain ⟨s, j, rfl, rfl, hj, hs, HD, HB⟩ := hrel
    by_cases hlt : j < n
    · have hlt' : (j : Int) < (n : Int) := by omega
      have hgz := HD.out.lt
      go_wp2_with fail
      with_reducible refine (pick_any _ w.heap.size a len cap wr.heap.size 5 5 2 _ (HD.out.below ((Below.refl _ _).alloc (Nat.le_refl _) _)) hgz (by omega) (by omega) (heap_alloc_new wr _) words_list).mono ?_
      rintro e w3 ⟨t, ht, rfl, hd3, hg3⟩
      have HD3 := Lib.hid hd3
      have HB3 := Lib.hid (below_of HB.out (grown_after ((Below.refl _ _).alloc (Nat.le_refl _) _) hg3) (Nat.le_refl _))
      have hsum : s.size + t.size ≤ 9223372036854775807 := by omega
      have hcat : (s ++ t).size ≤ 2 * (j + 1) := by rw [ByteArray.size_append]; omega
      clear hd3 hg3 HD HB
      go_wp2
      go_roundw
      case rel => exact ⟨s ++ t, j + 1, rfl, by go_num, by omega, hcat, HD3, HB3⟩
      case measure => simp [intOf]; omega
    · have hlt' : ¬ (j : Int) < (n : Int) := by omega
      go_wp2
      go_ret
      exact ⟨s, by omega, rfl, HB.out⟩

theorem quoteOf_size (s : ByteArray) (h : s.size ≤ 16) : (quote.quoteOf s).size ≤ 200 := by
  unfold quote.quoteOf
  split
  · show (((34 : UInt8) :: (quote.quoteL s.data.toList ++ [34])).toArray).size ≤ 200
    have := quote.quoteL_len s.data.toList
    have hz : s.data.toList.length = s.size := by simp
    simp only [List.size_toArray, List.length_cons, List.length_append, List.length_nil]
    omega
  · decide

set_option maxHeartbeats 2000000 in
theorem unquote_any (w : World) (a : Option Addr) (len cap : Nat) (hc : Code w a len w.heap.size) :
    Calls Tryz.prog 7 #[.slice a len cap] w fun e w' => ∃ (s : ByteArray) (z : Int), s.size ≤ 600 ∧ e = .returned (.tuple #[.string s, .int .i64 z]) ∧ Below w.heap.size w w' := by
  have C := Lib.hid (new_any w a len cap hc)
  clear hc
  go_enter Tryz.func7, Tryz.ntmps7
  go_wp2_with fail
  with_reducible refine C.out.mono ?_
  rintro e w1 ⟨rfl, hd1, hb1⟩
  have C1 := Lib.hid (some_any w1 w.heap.size a len cap hd1)
  clear hd1 C
  go_wp2_with fail
  with_reducible refine C1.out.mono ?_
  rintro e w2 ⟨s, hs, rfl, hd2, hg2⟩
  have HB2 := Lib.hid (below_of hb1 hg2 (Nat.le_refl _))
  have HD2 := Lib.hid hd2
  have C2 := Lib.hid (quote.spec_quote s w2 (by omega))
  have hqs := quoteOf_size s hs
  generalize quote.quoteOf s = q at *
  clear hd2 hg2 C1 hb1
  go_wp2_with fail
  with_reducible refine C2.out.mono ?_
  rintro e w3 ⟨rfl, hb3⟩
  have HB3 := Lib.hid (below_of2 HB2.out hb3)
  have C3 := Lib.hid (once_any w3 w.heap.size a len cap 3 (by omega) (by omega) (HD2.out.below hb3))
  clear C2 hb3 HB2 HD2
  go_wp2_with fail
  with_reducible refine C3.out.mono ?_
  rintro e w4 ⟨b, rfl, hd4, hg4⟩
  have HB4 := Lib.hid (below_of HB3.out hg4 (Nat.le_refl _))
  have HD4 := Lib.hid hd4
  have hgz := hd4.lt
  clear hd4 hg4 C3 HB3
  cases b
  · have C5 := Lib.hid (bent_any w4 w.heap.size a len cap q hqs HD4.out)
    go_wp2_with fail
    with_reducible refine C5.out.mono ?_
    rintro e w5 ⟨t, ht, rfl, hd5, hg5⟩
    have HB5 := Lib.hid (below_of HB4.out hg5 (Nat.le_refl _))
    have HD5 := Lib.hid hd5
    have hgz5 := hd5.lt
    clear hd5 hg5 C5 HB4 HD4
    obtain ⟨X, hX, eX⟩ : ∃ X : ByteArray, X.size = 1 ∧ ({ data := #[120] } : ByteArray) = X := ⟨_, rfl, rfl⟩
    obtain ⟨Y, hY, eY⟩ : ∃ X : ByteArray, X.size = 1 ∧ ({ data := #[121] } : ByteArray) = X := ⟨_, rfl, rfl⟩
    have y1 : ({ data := #[120] } : ByteArray).size + t.size ≤ 9223372036854775807 := by rw [eX]; omega
    have y2 : (({ data := #[120] } : ByteArray) ++ t).size + ({ data := #[121] } : ByteArray).size ≤ 9223372036854775807 := by rw [ByteArray.size_append, eX, eY]; omega
    go_wp2_with fail
    with_reducible refine (pickInt_any _ w.heap.size a len cap w5.heap.size 8 8 _ (HD5.out.below ((Below.refl _ _).alloc (Nat.le_refl _) _)) hgz5 (by omega) (by omega) (heap_alloc_new w5 _) (fun _ => True) eight_list).mono ?_
    rintro e w6 ⟨z, _, rfl, hd6, hg6⟩
    have HB6 := Lib.hid (below_of HB5.out (grown_after ((Below.refl _ _).alloc (Nat.le_refl _) _) hg6) (Nat.le_refl _))
    clear hd6 hg6 HB5 HD5
    go_wp2
    go_ret2
    exact ⟨_, z, by rw [ByteArray.size_append, ByteArray.size_append]; omega, rfl, HB6.out⟩
  · go_wp2_with fail
    with_reducible refine (pick_any _ w.heap.size a len cap w4.heap.size 11 11 12 _ (HD4.out.below ((Below.refl _ _).alloc (Nat.le_refl _) _)) hgz (by omega) (by omega) (heap_alloc_new w4 _) unq_list).mono ?_
    rintro e w5 ⟨t, ht, rfl, hd5, hg5⟩
    have HB5 := Lib.hid (below_of HB4.out (grown_after ((Below.refl _ _).alloc (Nat.le_refl _) _) hg5) (Nat.le_refl _))
    obtain ⟨Q, hQ, eQ⟩ : ∃ X : ByteArray, X.size = 1 ∧ ({ data := #[34] } : ByteArray) = X := ⟨_, rfl, rfl⟩
    have z1 : ({ data := #[34] } : ByteArray).size + t.size ≤ 9223372036854775807 := by rw [eQ]; omega
    have z2 : (({ data := #[34] } : ByteArray) ++ t).size + ({ data := #[34] } : ByteArray).size ≤ 9223372036854775807 := by rw [ByteArray.size_append, eQ]; omega
    have C6 := Lib.hid (bent_any w5 w.heap.size a len cap (({ data := #[34] } : ByteArray) ++ t ++ ({ data := #[34] } : ByteArray)) (by rw [ByteArray.size_append, ByteArray.size_append, eQ]; omega) hd5)
    clear hd5 hg5 HB4 HD4 eQ hQ
    go_wp2_with fail
    with_reducible refine C6.out.mono ?_
    rintro e w6 ⟨u, hu, rfl, hd6, hg6⟩
    have HB6 := Lib.hid (below_of HB5.out hg6 (Nat.le_refl _))
    have HD6 := Lib.hid hd6
    have hgz6 := hd6.lt
    clear hd6 hg6 C6 HB5
    obtain ⟨X, hX, eX⟩ : ∃ X : ByteArray, X.size = 1 ∧ ({ data := #[120] } : ByteArray) = X := ⟨_, rfl, rfl⟩
    obtain ⟨Y, hY, eY⟩ : ∃ X : ByteArray, X.size = 1 ∧ ({ data := #[121] } : ByteArray) = X := ⟨_, rfl, rfl⟩
    have y1 : ({ data := #[120] } : ByteArray).size + u.size ≤ 9223372036854775807 := by rw [eX]; omega
    have y2 : (({ data := #[120] } : ByteArray) ++ u).size + ({ data := #[121] } : ByteArray).size ≤ 9223372036854775807 := by rw [ByteArray.size_append, eX, eY]; omega
    go_wp2_with fail
    with_reducible refine (pickInt_any _ w.heap.size a len cap w6.heap.size 8 8 _ (HD6.out.below ((Below.refl _ _).alloc (Nat.le_refl _) _)) hgz6 (by omega) (by omega) (heap_alloc_new w6 _) (fun _ => True) eight_list).mono ?_
    rintro e w7 ⟨z, _, rfl, hd7, hg7⟩
    have HB7 := Lib.hid (below_of HB6.out (grown_after ((Below.refl _ _).alloc (Nat.le_refl _) _) hg7) (Nat.le_refl _))
    clear hd7 hg7 HB6 HD6
    go_wp2
    go_ret2
    exact ⟨_, z, by rw [ByteArray.size_append, ByteArray.size_append]; omega, rfl, HB7.out⟩

end Go.Proofs.YtlnhfgkecifhdaaGreatDoor.draw
