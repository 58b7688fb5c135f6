/-
  The drawing functions of the laws, further: a cursor, a short text.
-/
import Derived.Test.YthjholhjkahdkaaDrawPick
namespace Go.Proofs.Ythjholhjkahdkaa.draw
open Go.ChangeShapes Go.WideShapes Go.ChangeAt Go.RowKit
set_option maxRecDepth 100000

theorem grown_after {a b c : World} {row : Option Nat} (h : Below a.heap.size a b) (k : b.grownBy c row) : a.grownBy c row :=
  ⟨k.os.trans h.os, k.tape.trans h.tape, k.output.trans h.output, Nat.le_trans h.size k.size, fun i hi hn => (k.block i (Nat.lt_of_lt_of_le hi h.size) hn).trans (h.block i hi)⟩

theorem some_list : ∀ k, k < 13 → ∃ s : ByteArray, s.size ≤ 4 ∧ (#[Value.string { data := #[97] }, .string { data := #[98] }, .string { data := #[110, 97, 109, 101] }, .string { data := #[34] }, .string { data := #[92] }, .string { data := #[10] }, .string { data := #[1] }, .string { data := #[195, 169] }, .string { data := #[226, 130, 172] }, .string { data := #[240, 159, 152, 128] }, .string { data := #[47] }, .string { data := #[48] }, .string { data := #[32] }] : Array Value)[k]? = some (.string s) := by
  intro k hk
  have h : k = 0 ∨ k = 1 ∨ k = 2 ∨ k = 3 ∨ k = 4 ∨ k = 5 ∨ k = 6 ∨ k = 7 ∨ k = 8 ∨ k = 9 ∨ k = 10 ∨ k = 11 ∨ k = 12 := by omega
  rcases h with rfl | rfl | rfl | rfl | rfl | rfl | rfl | rfl | rfl | rfl | rfl | rfl | rfl <;> exact ⟨_, by decide, rfl⟩

set_option maxHeartbeats 2000000 in
theorem some_any (w : World) (g : Nat) (a : Option Addr) (len cap : Nat) (hd : Draw w g a len cap) :
    Calls Try.prog 51 #[.pointer (some ⟨g, 0, none⟩)] w fun e w' => ∃ s : ByteArray, s.size ≤ 16 ∧ e = .returned (.string s) ∧ Draw w' g a len cap ∧ w.grownBy w' (some g) := by
  have C := Lib.hid (below_any w g a len cap 5 (by omega) (by omega) hd)
  clear hd
  go_enter Try.func51, Try.ntmps51
  go_wp2_with fail
  with_reducible refine C.out.mono ?_
  rintro e w1 ⟨n, hn, rfl, hd1, hg1⟩
  have HD := Lib.hid hd1
  have HG := Lib.hid hg1
  clear hd1 hg1 C
  go_wp2
  go_loopw [3, 5] (fun v k wr => ∃ (s : ByteArray) (j : Nat), v = .string s ∧ k = .int .i64 (j : Int) ∧ j ≤ n ∧ s.size ≤ 4 * j ∧ Hid (Draw wr g a len cap) ∧ Hid (w.grownBy wr (some g))) (fun _ k _ => n - (intOf k).toNat)
  case atStart => exact ⟨_, 0, rfl, rfl, by omega, by decide, HD, HG⟩
  case round =>
    clear HD HG
    obtain ⟨s, j, rfl, rfl, hj, hs, HD, HG⟩ := hrel
    by_cases hlt : j < n
    · have hlt' : (j : Int) < (n : Int) := by omega
      have hgz := HD.out.lt
      go_wp2_with fail
      with_reducible refine (pick_any _ g a len cap wr.heap.size 13 13 4 _ (HD.out.below ((Below.refl _ _).alloc (Nat.le_refl _) _)) hgz (by omega) (by omega) (heap_alloc_new wr _) some_list).mono ?_
      rintro e w2 ⟨t, ht, rfl, hd2, hg2⟩
      have HD2 := Lib.hid hd2
      have HG2 := Lib.hid (HG.out.trans (grown_after ((Below.refl _ _).alloc (Nat.le_refl _) _) hg2))
      have hsum : s.size + t.size ≤ 9223372036854775807 := by omega
      have hcat : (s ++ t).size ≤ 4 * (j + 1) := by rw [ByteArray.size_append]; omega
      clear hd2 hg2 HD HG
      go_wp2
      go_roundw
      case rel => exact ⟨s ++ t, j + 1, rfl, by go_num, by omega, hcat, HD2, HG2⟩
      case measure => simp [intOf]; omega
    · have hlt' : ¬ (j : Int) < (n : Int) := by omega
      go_wp2
      go_ret
      exact ⟨s, by omega, rfl, HD.out, HG.out⟩

set_option maxHeartbeats 2000000 in
theorem new_any (w : World) (a : Option Addr) (len cap : Nat) (hc : Code w a len w.heap.size) :
    Calls Try.prog 13 #[.slice a len cap] w fun e w' => e = .returned (.pointer (some ⟨w.heap.size, 0, none⟩)) ∧ Draw w' w.heap.size a len cap ∧ Below w.heap.size w w' := by
  have hl := hc.small
  have HC := Lib.hid hc
  clear hc
  go_enter Try.func13, Try.ntmps13
  go_wp2
  go_loopw [3, 4] (fun v k wr => ∃ (h : Int) (j : Nat), v = .int .i64 h ∧ k = .int .i64 (j : Int) ∧ j ≤ len ∧ w = wr) (fun _ k _ => len - (intOf k).toNat)
  case atStart => exact ⟨_, 0, rfl, rfl, by omega, rfl⟩
  case round =>
    obtain ⟨h, j, rfl, rfl, hj, rfl⟩ := hrel
    have hj0 : (0 : Int) ≤ (j : Int) := by omega
    by_cases hlt : j < len ∧ j < 4000
    · have h1 : (j : Int) < (len : Int) := by omega
      have h2 : (j : Int) < 4000 := by omega
      cases ha : a with
      | none => have := HC.out.none ha; omega
      | some x =>
        subst ha
        obtain ⟨_, b, hb8, hx⟩ := HC.out.cells x rfl j hlt.1
        have hlt1 := hlt.1
        clear hlt
        go_wp2
        go_roundw
        case rel => exact ⟨_, j + 1, rfl, by go_num, by omega, by first | rfl | trivial⟩
        case measure => simp [intOf]; omega
    · by_cases h1 : j < len
      · have h1' : (j : Int) < (len : Int) := by omega
        have h2 : ¬ (j : Int) < 4000 := by omega
        clear hlt
        go_wp2
        go_ret
        exact ⟨rfl, ⟨⟨0, h, by omega, ⟨heap_alloc_new w _⟩⟩, HC.out.kept fun k hk => Go.Deep.blk_alloc_lt w _ k hk⟩, (Below.refl _ _).alloc (Nat.le_refl _) _⟩
      · have h1' : ¬ (j : Int) < (len : Int) := by omega
        clear hlt
        go_wp2
        go_ret
        exact ⟨rfl, ⟨⟨0, h, by omega, ⟨heap_alloc_new w _⟩⟩, HC.out.kept fun k hk => Go.Deep.blk_alloc_lt w _ k hk⟩, (Below.refl _ _).alloc (Nat.le_refl _) _⟩

end Go.Proofs.Ythjholhjkahdkaa.draw
