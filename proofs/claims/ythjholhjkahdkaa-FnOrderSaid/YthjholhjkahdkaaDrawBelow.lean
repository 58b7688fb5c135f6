/-
  The drawing functions of the laws, further: numbers below a bound.
-/
import Derived.Test.YthjholhjkahdkaaDraw
namespace Go.Proofs.Ythjholhjkahdkaa.draw
open Go.ChangeShapes Go.WideShapes Go.ChangeAt Go.RowKit
set_option maxRecDepth 100000

/-- The code lies below the cursor's block, and its cells are bytes. -/
structure Code (w : World) (a : Option Addr) (len g : Nat) : Prop where
  small : len ≤ 1048576
  none : a = none → len = 0
  cells : ∀ x, a = some x → ∀ k, k < len → x.block < g ∧ ∃ b : Nat, b < 256 ∧ w.cell? (x.add k) = some (.int .u8 (b : Int))
structure Draw (w : World) (g : Nat) (a : Option Addr) (len cap : Nat) : Prop where
  cur : ∃ (i : Nat) (h : Int), i ≤ len ∧ Cur w g a len cap i h
  code : Code w a len g
theorem add_block (x : Addr) (k : Nat) : (x.add k).block = x.block := by unfold Addr.add; split <;> rfl
theorem Code.kept {w w' : World} {a : Option Addr} {len g : Nat} (h : Code w a len g) (hk : ∀ k, k < g → w'.heap[k]? = w.heap[k]?) : Code w' a len g :=
  ⟨h.small, h.none, fun x hx k hk' => by
    obtain ⟨hg, b, hb, hc⟩ := h.cells x hx k hk'
    exact ⟨hg, b, hb, by rw [World.cell?_of_block (hk _ (by rw [add_block]; exact hg))]; exact hc⟩⟩
theorem Code.later {w : World} {a : Option Addr} {len g g' : Nat} (h : Code w a len g) (hg : g ≤ g') : Code w a len g' :=
  ⟨h.small, h.none, fun x hx k hk' => ⟨by have := (h.cells x hx k hk').1; omega, (h.cells x hx k hk').2⟩⟩
theorem Code.below {w w' : World} {a : Option Addr} {len : Nat} (h : Code w a len w.heap.size) (hb : Below w.heap.size w w') : Code w' a len w'.heap.size :=
  (h.kept fun k hk => hb.block k hk).later hb.size
theorem Draw.lt {w : World} {g : Nat} {a : Option Addr} {len cap : Nat} (h : Draw w g a len cap) : g < w.heap.size := by
  obtain ⟨i, n, _, hc⟩ := h.cur
  exact (Array.getElem?_eq_some_iff.1 hc.block).1
/-- Kept where the blocks up to the cursor's are. -/
theorem Draw.kept {w w' : World} {g : Nat} {a : Option Addr} {len cap : Nat} (h : Draw w g a len cap) (hk : ∀ k, k ≤ g → w'.heap[k]? = w.heap[k]?) : Draw w' g a len cap := by
  obtain ⟨i, n, hi, hc⟩ := h.cur
  exact ⟨⟨i, n, hi, ⟨by rw [hk g (Nat.le_refl _)]; exact hc.block⟩⟩, h.code.kept fun k hk' => hk k (by omega)⟩
theorem Draw.below {w w' : World} {g : Nat} {a : Option Addr} {len cap : Nat} (h : Draw w g a len cap) (hb : Below w.heap.size w w') : Draw w' g a len cap :=
  h.kept fun k hk => hb.block k (by have := h.lt; omega)

/-- The cursor at a known place, with a known number. -/
structure DrawS (w : World) (g : Nat) (a : Option Addr) (len cap i : Nat) (h : Int) : Prop where
  le : i ≤ len
  cur : Cur w g a len cap i h
  code : Code w a len g
theorem DrawS.draw {w : World} {g : Nat} {a : Option Addr} {len cap i : Nat} {h : Int} (d : DrawS w g a len cap i h) : Draw w g a len cap := ⟨⟨i, h, d.le, d.cur⟩, d.code⟩
theorem Draw.state {w : World} {g : Nat} {a : Option Addr} {len cap : Nat} (d : Draw w g a len cap) : ∃ i h, DrawS w g a len cap i h := by
  obtain ⟨i, h, hi, hc⟩ := d.cur
  exact ⟨i, h, hi, hc, d.code⟩
theorem DrawS.lt {w : World} {g : Nat} {a : Option Addr} {len cap i : Nat} {h : Int} (d : DrawS w g a len cap i h) : g < w.heap.size := d.draw.lt
theorem DrawS.kept {w w' : World} {g : Nat} {a : Option Addr} {len cap i : Nat} {h : Int} (d : DrawS w g a len cap i h) (hk : ∀ k, k ≤ g → w'.heap[k]? = w.heap[k]?) : DrawS w' g a len cap i h :=
  ⟨d.le, ⟨by rw [hk g (Nat.le_refl _)]; exact d.cur.block⟩, d.code.kept fun k hk' => hk k (by omega)⟩
theorem DrawS.below {w w' : World} {g : Nat} {a : Option Addr} {len cap i : Nat} {h : Int} (d : DrawS w g a len cap i h) (hb : Below w.heap.size w w') : DrawS w' g a len cap i h :=
  d.kept fun k hk => hb.block k (by have := d.lt; omega)
theorem outB_in (h : Int) : 0 ≤ outB h ∧ outB h < 256 := by unfold outB; omega

/-- One byte: the place and the number go on. -/
theorem byte_step (w : World) (g : Nat) (a : Option Addr) (len cap i : Nat) (h : Int) (hd : DrawS w g a len cap i h) :
    Calls Try.prog 43 #[.pointer (some ⟨g, 0, none⟩)] w fun e w' => ∃ x : Nat, x < 256 ∧ (i = len → (x : Int) = outB (next h)) ∧ e = .returned (.int .i64 x) ∧ DrawS w' g a len cap (min len (i + 1)) (next h) ∧ w.grownBy w' (some g) := by
  have hlt := hd.lt
  have hi := hd.le
  by_cases hil : i < len
  · cases ha : a with
    | none => have := hd.code.none ha; omega
    | some x =>
      subst ha
      obtain ⟨hb, b, hb8, hx⟩ := hd.code.cells x rfl i hil
      refine (byte_in w g x len cap i h b hd.cur hil hd.code.small (by omega) hx hb8).mono ?_
      rintro e w' ⟨y, hy, he, hc', hg⟩
      exact ⟨y, hy, fun e => by omega, he, ⟨by omega, by rw [show min len (i + 1) = i + 1 by omega]; exact hc', hd.code.kept fun k hk => hg.block k (by omega) (by simp; omega)⟩, hg⟩
  · refine (byte_end w g a len cap i h hd.cur hil).mono ?_
    rintro e w' ⟨he, hc', hg⟩
    have ho := outB_in (next h)
    refine ⟨(outB (next h)).toNat, by omega, fun _ => by omega, by rw [he, show ((outB (next h)).toNat : Int) = outB (next h) by omega], ⟨by omega, by rw [show min len (i + 1) = i by omega]; exact hc', hd.code.kept fun k hk => hg.block k (by omega) (by simp; omega)⟩, hg⟩

theorem byte_any (w : World) (g : Nat) (a : Option Addr) (len cap : Nat) (hd : Draw w g a len cap) :
    Calls Try.prog 43 #[.pointer (some ⟨g, 0, none⟩)] w fun e w' => ∃ x : Nat, x < 256 ∧ e = .returned (.int .i64 x) ∧ Draw w' g a len cap ∧ w.grownBy w' (some g) := by
  obtain ⟨i, h, hs⟩ := hd.state
  refine (byte_step w g a len cap i h hs).mono ?_
  rintro e w' ⟨x, hx, _, he, hd', hg⟩
  exact ⟨x, hx, he, hd'.draw, hg⟩

theorem rem_of (x : Nat) (n : Int) (hn : 1 ≤ n) : ∃ r : Nat, (r : Int) < n ∧ ((x : Int)).tmod n = (r : Int) := by
  have h0 : 0 ≤ (x : Int) % n := Int.emod_nonneg _ (by omega)
  have h1 : (x : Int) % n < n := Int.emod_lt_of_pos _ (by omega)
  exact ⟨((x : Int) % n).toNat, by omega, by rw [Int.tmod_eq_emod_of_nonneg (by omega)]; omega⟩

set_option maxHeartbeats 1000000 in
theorem below_step (w : World) (g : Nat) (a : Option Addr) (len cap i : Nat) (h n : Int) (h1 : 1 ≤ n) (h2 : n ≤ 256) (hd : DrawS w g a len cap i h) :
    Calls Try.prog 31 #[.pointer (some ⟨g, 0, none⟩), .int .i64 n] w fun e w' => ∃ x : Nat, (x : Int) < n ∧ (i = len → (x : Int) = outB (next h) % n) ∧ e = .returned (.int .i64 x) ∧ DrawS w' g a len cap (min len (i + 1)) (next h) ∧ w.grownBy w' (some g) := by
  have C := Lib.hid (byte_step w g a len cap i h hd)
  have hn0 : ¬ n ≤ 0 := by omega
  have hnz : (n == 0) = false := by simp; omega
  clear hd
  go_enter Try.func31, Try.ntmps31
  go_wp2_with fail
  with_reducible refine C.out.mono ?_
  rintro e w1 ⟨x, hx, hv, rfl, hd1, hg1⟩
  obtain ⟨r, hr, er⟩ := rem_of x n h1
  have HR : Hid (i = len → (r : Int) = outB (next h) % n) := by
    intro hi
    rw [← hv hi, ← er, Int.tmod_eq_emod_of_nonneg (by omega)]
  have HD := Lib.hid hd1
  have HG := Lib.hid hg1
  clear hd1 hg1 C hv
  go_wp2
  go_ret
  exact ⟨r, hr, HR.out, rfl, HD.out, HG.out⟩

theorem below_small (w : World) (g : Nat) (a : Option Addr) (len cap : Nat) (n : Int) (h1 : 1 ≤ n) (h2 : n ≤ 256) (hd : Draw w g a len cap) :
    Calls Try.prog 31 #[.pointer (some ⟨g, 0, none⟩), .int .i64 n] w fun e w' => ∃ x : Nat, (x : Int) < n ∧ e = .returned (.int .i64 x) ∧ Draw w' g a len cap ∧ w.grownBy w' (some g) := by
  obtain ⟨i, h, hs⟩ := hd.state
  refine (below_step w g a len cap i h n h1 h2 hs).mono ?_
  rintro e w' ⟨x, hx, _, he, hd', hg⟩
  exact ⟨x, hx, he, hd'.draw, hg⟩

end Go.Proofs.Ythjholhjkahdkaa.draw
