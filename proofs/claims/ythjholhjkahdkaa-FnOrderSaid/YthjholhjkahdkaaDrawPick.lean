/-
  The drawing functions of the laws, further: numbers below a greater bound, chances, an element of a list.
-/
import Derived.Test.YthjholhjkahdkaaDrawBelow
namespace Go.Proofs.Ythjholhjkahdkaa.draw
open Go.ChangeShapes Go.WideShapes Go.ChangeAt Go.RowKit
set_option maxRecDepth 100000

theorem grown_more {w0 w1 w2 : World} {g : Nat} (h : w0.grownBy w1 (some g)) (k : w1.grownBy w2 (some g)) : w0.grownBy w2 (some g) := h.trans k

set_option maxHeartbeats 1000000 in
theorem below_big (w : World) (g : Nat) (a : Option Addr) (len cap : Nat) (n : Int) (h1 : 257 ≤ n) (h2 : n ≤ 4294967296) (hd : Draw w g a len cap) :
    Calls Try.prog 31 #[.pointer (some ⟨g, 0, none⟩), .int .i64 n] w fun e w' => ∃ x : Nat, (x : Int) < n ∧ e = .returned (.int .i64 x) ∧ Draw w' g a len cap ∧ w.grownBy w' (some g) := by
  have CB := Lib.hid (fun w hd => byte_any w g a len cap hd)
  have C := Lib.hid (CB.out w hd)
  have hn0 : ¬ n ≤ 0 := by omega
  have hn1 : ¬ n ≤ 256 := by omega
  have hnz : (n == 0) = false := by simp; omega
  clear hd
  go_enter Try.func31, Try.ntmps31
  go_wp2_with fail
  with_reducible refine C.out.mono ?_
  rintro e w1 ⟨x1, hx1, rfl, hd1, hg1⟩
  have C1 := Lib.hid (CB.out w1 hd1)
  have HG1 := Lib.hid hg1
  clear hd1 hg1 C
  go_wp2_with fail
  with_reducible refine C1.out.mono ?_
  rintro e w2 ⟨x2, hx2, rfl, hd2, hg2⟩
  have C2 := Lib.hid (CB.out w2 hd2)
  have HG2 := Lib.hid (HG1.out.trans hg2)
  clear hd2 hg2 C1 HG1
  go_wp2_with fail
  with_reducible refine C2.out.mono ?_
  rintro e w3 ⟨x3, hx3, rfl, hd3, hg3⟩
  have C3 := Lib.hid (CB.out w3 hd3)
  have HG3 := Lib.hid (HG2.out.trans hg3)
  clear hd3 hg3 C2 HG2
  go_wp2_with fail
  with_reducible refine C3.out.mono ?_
  rintro e w4 ⟨x4, hx4, rfl, hd4, hg4⟩
  have HD := Lib.hid hd4
  have HG := Lib.hid (HG3.out.trans hg4)
  clear hd4 hg4 C3 HG3 CB
  obtain ⟨r, hr, er⟩ := rem_of (x1 * 16777216 + x2 * 65536 + x3 * 256 + x4) n (by omega)
  have er' : ((x1 : Int) * 16777216 + (x2 : Int) * 65536 + (x3 : Int) * 256 + (x4 : Int)).tmod n = (r : Int) := by rw [← er]; congr 1
  clear er
  go_wp2
  go_ret
  exact ⟨r, hr, rfl, HD.out, HG.out⟩

theorem below_any (w : World) (g : Nat) (a : Option Addr) (len cap : Nat) (n : Int) (h1 : 1 ≤ n) (h2 : n ≤ 4294967296) (hd : Draw w g a len cap) :
    Calls Try.prog 31 #[.pointer (some ⟨g, 0, none⟩), .int .i64 n] w fun e w' => ∃ x : Nat, (x : Int) < n ∧ e = .returned (.int .i64 x) ∧ Draw w' g a len cap ∧ w.grownBy w' (some g) := by
  by_cases h : n ≤ 256
  · exact below_small w g a len cap n h1 h hd
  · exact below_big w g a len cap n (by omega) h2 hd

theorem once_any (w : World) (g : Nat) (a : Option Addr) (len cap : Nat) (n : Int) (h1 : 1 ≤ n) (h2 : n ≤ 4294967296) (hd : Draw w g a len cap) :
    Calls Try.prog 15 #[.pointer (some ⟨g, 0, none⟩), .int .i64 n] w fun e w' => ∃ b : Bool, e = .returned (.bool b) ∧ Draw w' g a len cap ∧ w.grownBy w' (some g) := by
  have C := Lib.hid (below_any w g a len cap n h1 h2 hd)
  clear hd
  go_enter Try.func15, Try.ntmps15
  go_wp2_with fail
  with_reducible refine C.out.mono ?_
  rintro e w1 ⟨x, hx, rfl, hd1, hg1⟩
  have HD := Lib.hid hd1
  have HG := Lib.hid hg1
  clear hd1 hg1 C
  go_wp2
  go_ret
  exact ⟨_, rfl, HD.out, HG.out⟩

/-- One element of a list of texts of at most m bytes. -/
theorem pick_any (w : World) (g : Nat) (a : Option Addr) (len cap : Nat) (l n c m : Nat) (cs : Array Value) (hd : Draw w g a len cap) (hlg : g < l) (hn : 1 ≤ n) (hn2 : n ≤ 1000)
    (hb : w.heap[l]? = some (.cells cs 9 (0, 0))) (hs : ∀ k, k < n → ∃ s : ByteArray, s.size ≤ m ∧ cs[k]? = some (.string s)) :
    Calls Try.prog 50 #[.pointer (some ⟨g, 0, none⟩), .slice (some ⟨l, 0, none⟩) n c] w fun e w' => ∃ s : ByteArray, s.size ≤ m ∧ e = .returned (.string s) ∧ Draw w' g a len cap ∧ w.grownBy w' (some g) := by
  have C := Lib.hid (below_any w g a len cap n (by omega) (by omega) hd)
  have hll : l < w.heap.size := (Array.getElem?_eq_some_iff.1 hb).1
  clear hd
  go_enter Try.func50, Try.ntmps50
  go_wp2_with fail
  with_reducible refine C.out.mono ?_
  rintro e w1 ⟨x, hx, rfl, hd1, hg1⟩
  have HD := Lib.hid hd1
  have HG := Lib.hid hg1
  have hxn : x < n := by omega
  have hx0 : (0 : Int) ≤ (x : Int) := by omega
  obtain ⟨s, hsm, hsx⟩ := hs x hxn
  have hcell : w1.cell? ⟨l, x, none⟩ = some (.string s) := by
    have hb1 : w1.heap[l]? = some (.cells cs 9 (0, 0)) := by rw [hg1.block l hll (by simp; omega)]; exact hb
    rw [cell_of_row w1 l x cs _ (0, 0) hb1]; exact hsx
  clear hd1 hg1 C hs hb hsx
  go_wp2
  go_ret
  exact ⟨s, hsm, rfl, HD.out, HG.out⟩

/-- One element of a list of numbers. -/
theorem pickInt_any (w : World) (g : Nat) (a : Option Addr) (len cap : Nat) (l n c : Nat) (cs : Array Value) (hd : Draw w g a len cap) (hlg : g < l) (hn : 1 ≤ n) (hn2 : n ≤ 1000)
    (hb : w.heap[l]? = some (.cells cs 3 (0, 0))) (P : Int → Prop) (hs : ∀ k, k < n → ∃ z : Int, P z ∧ cs[k]? = some (.int .i64 z)) :
    Calls Try.prog 30 #[.pointer (some ⟨g, 0, none⟩), .slice (some ⟨l, 0, none⟩) n c] w fun e w' => ∃ z : Int, P z ∧ e = .returned (.int .i64 z) ∧ Draw w' g a len cap ∧ w.grownBy w' (some g) := by
  have C := Lib.hid (below_any w g a len cap n (by omega) (by omega) hd)
  have hll : l < w.heap.size := (Array.getElem?_eq_some_iff.1 hb).1
  clear hd
  go_enter Try.func30, Try.ntmps30
  go_wp2_with fail
  with_reducible refine C.out.mono ?_
  rintro e w1 ⟨x, hx, rfl, hd1, hg1⟩
  have HD := Lib.hid hd1
  have HG := Lib.hid hg1
  have hxn : x < n := by omega
  have hx0 : (0 : Int) ≤ (x : Int) := by omega
  obtain ⟨z, hz, hzx⟩ := hs x hxn
  have hcell : w1.cell? ⟨l, x, none⟩ = some (.int .i64 z) := by
    have hb1 : w1.heap[l]? = some (.cells cs 3 (0, 0)) := by rw [hg1.block l hll (by simp; omega)]; exact hb
    rw [cell_of_row w1 l x cs _ (0, 0) hb1]; exact hzx
  clear hd1 hg1 C hs hb hzx
  go_wp2
  go_ret
  exact ⟨z, hz, rfl, HD.out, HG.out⟩

end Go.Proofs.Ythjholhjkahdkaa.draw
