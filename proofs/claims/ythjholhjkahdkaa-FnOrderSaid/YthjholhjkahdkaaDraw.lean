/-
  The drawing functions of the laws: what they return is within bounds, and only the cursor's own block is written.
-/
import Derived.Test.YthjholhjkahdkaaRows
import Derived.Test.YthjholhjkahdkaaSignFacts
import Derived.Test.YthjholhjkahdkaaOwn
import Derived.Test.YthjholhjkahdkaaLuck
import Derived.WalkKit
import Derived.ProofKit
import Derived.OpenShut
import Derived.WalkLawsBesides
import Derived.Deep.QuietTactic
import Derived.BigQuiet
import Derived.Lib.Hide
import Derived.Laws.Bits128
import Derived.Deep.Heap
namespace Go.Proofs.Ythjholhjkahdkaa.draw
open Go.ChangeShapes Go.WideShapes Go.ChangeAt Go.RowKit
set_option maxRecDepth 100000

theorem and255 (n : Int) : bits .and .i64 n 255 = n % 256 := by
  have h255 : (BitVec.ofInt 64 255).toNat = 2 ^ 8 - 1 := by decide
  have key : (BitVec.ofInt 64 n &&& BitVec.ofInt 64 255).toNat = (n % ((2 ^ 64 : Nat) : Int)).toNat % 2 ^ 8 := by
    rw [BitVec.toNat_and, BitVec.toNat_ofInt, h255, Nat.and_two_pow_sub_one_eq_mod]
  show IntKind.i64.wrap ((BitVec.ofInt 64 n &&& BitVec.ofInt 64 255).toNat : Nat) = n % 256
  rw [key, IntKind.wrap_i64]
  omega

/-- The cursor's block: the code, the place, the number. -/
structure Cur (w : World) (g : Nat) (a : Option Addr) (len cap i : Nat) (h : Int) : Prop where
  block : w.heap[g]? = some (.cells #[.slice a len cap, .int .i64 (i : Int), .int .i64 h] 50 (0, 0))

theorem Cur.set2 {w : World} {g : Nat} {a : Option Addr} {len cap i : Nat} {h : Int} (hc : Cur w g a len cap i h) (h' : Int) : Cur (w.setCell ⟨g, 2, none⟩ (.int .i64 h')) g a len cap i h' :=
  ⟨by rw [World.setCell, Array.getElem?_modify, if_pos rfl, hc.block]; simp⟩
theorem Cur.set1 {w : World} {g : Nat} {a : Option Addr} {len cap i : Nat} {h : Int} (hc : Cur w g a len cap i h) (n : Int) (j : Nat) (hn : n = (j : Int)) : Cur (w.setCell ⟨g, 1, none⟩ (.int .i64 n)) g a len cap j h :=
  ⟨by rw [hn, World.setCell, Array.getElem?_modify, if_pos rfl, hc.block]; simp⟩
theorem Cur.drewN {w : World} {g : Nat} {a : Option Addr} {len cap i : Nat} {h : Int} (hc : Cur w g a len cap i h) (n : Nat) : Cur (w.drewN n) g a len cap i h := ⟨hc.block⟩
theorem grown_set {w0 w : World} {g o : Nat} {v : Value} (h : w0.grownBy w (some g)) : w0.grownBy (w.setCell ⟨g, o, none⟩ v) (some g) :=
  ⟨h.os, h.tape, h.output, by rw [Go.Deep.nblk_setCell]; exact h.size, fun k hk hn => by rw [Go.Deep.blk_setCell_other _ _ _ _ (fun e => hn (by rw [e]))]; exact h.block k hk hn⟩
theorem grown_drewN {w0 w : World} {g n : Nat} (h : w0.grownBy w (some g)) : w0.grownBy (w.drewN n) (some g) := ⟨h.os, h.tape, h.output, h.size, h.block⟩
theorem byte_ret {x : Int} : ∃ y : Nat, y < 256 ∧ x % 256 = (y : Int) := ⟨(x % 256).toNat, by omega, by omega⟩

set_option maxHeartbeats 1000000 in
theorem byte_end (w : World) (g : Nat) (a : Option Addr) (len cap i : Nat) (h : Int) (hc : Cur w g a len cap i h) (hi : ¬ i < len) :
    Calls Try.prog 43 #[.pointer (some ⟨g, 0, none⟩)] w fun e w' => e = .returned (.int .i64 (outB (next h))) ∧ Cur w' g a len cap i (next h) ∧ w.grownBy w' (some g) := by
  have hb := hc.block
  have c0 : w.cell? ⟨g, 0, none⟩ = some (.slice a len cap) := cell_of_row w g 0 _ _ (0, 0) hb
  have c1 : w.cell? ⟨g, 1, none⟩ = some (.int .i64 (i : Int)) := cell_of_row w g 1 _ _ (0, 0) hb
  have c2 : w.cell? ⟨g, 2, none⟩ = some (.int .i64 h) := cell_of_row w g 2 _ _ (0, 0) hb
  have hi' : ¬ (i : Int) < (len : Int) := by omega
  have f1 : w.frozen? ⟨g, 1, none⟩ = false := frozen_of_row w g 1 _ _ hb
  have f2 : w.frozen? ⟨g, 2, none⟩ = false := frozen_of_row w g 2 _ _ hb
  have h255 := and255
  have HC := Lib.hid hc
  clear hc
  go_enter Try.func43, Try.ntmps43
  go_wp2
  go_quiet (fail)
  go_wp2
  go_quiet (fail)
  go_wp2
  go_ret
  exact ⟨rfl, ((HC.out.set2 _).drewN _).drewN _, grown_drewN (grown_drewN (grown_set (World.grownBy.refl _ _)))⟩

set_option maxHeartbeats 1000000 in
theorem byte_in (w : World) (g : Nat) (x : Addr) (len cap i : Nat) (h : Int) (b : Nat) (hc : Cur w g (some x) len cap i h) (hi : i < len) (hl : len ≤ 1048576) (hne : x.block ≠ g) (hx : w.cell? (x.add i) = some (.int .u8 (b : Int))) (hb8 : b < 256) :
    Calls Try.prog 43 #[.pointer (some ⟨g, 0, none⟩)] w fun e w' => ∃ y : Nat, y < 256 ∧ e = .returned (.int .i64 y) ∧ Cur w' g (some x) len cap (i + 1) (next h) ∧ w.grownBy w' (some g) := by
  have hb := hc.block
  have c0 : w.cell? ⟨g, 0, none⟩ = some (.slice (some x) len cap) := cell_of_row w g 0 _ _ (0, 0) hb
  have c1 : w.cell? ⟨g, 1, none⟩ = some (.int .i64 (i : Int)) := cell_of_row w g 1 _ _ (0, 0) hb
  have c2 : w.cell? ⟨g, 2, none⟩ = some (.int .i64 h) := cell_of_row w g 2 _ _ (0, 0) hb
  have hi0 : (0 : Int) ≤ (i : Int) := by omega
  have hi' : (i : Int) < (len : Int) := by omega
  have f1 : w.frozen? ⟨g, 1, none⟩ = false := frozen_of_row w g 1 _ _ hb
  have f2 : w.frozen? ⟨g, 2, none⟩ = false := frozen_of_row w g 2 _ _ hb
  have h255 := and255
  have hxb : (x.add i).block ≠ g := by unfold Addr.add; split <;> exact hne
  have hx2 : ∀ v, (w.setCell ⟨g, 2, none⟩ v).cell? (x.add i) = some (.int .u8 (b : Int)) := by
    intro v
    rw [World.cell?_of_block (Go.Deep.blk_setCell_other w _ v _ hxb)]
    exact hx
  have HC := Lib.hid hc
  clear hc
  go_enter Try.func43, Try.ntmps43
  go_wp2
  go_quiet (fail)
  go_wp2
  go_quiet (fail)
  go_wp2
  go_quiet (fail)
  go_wp2
  go_ret
  obtain ⟨y, hy, e⟩ := byte_ret (x := bits BinOp.xor IntKind.i64 (wrap64 (wrap64 (h * 6364136223846793005) + 1442695040888963407) / 8589934592) (wrap64 (wrap64 (h * 6364136223846793005) + 1442695040888963407) / 35184372088832) + (b : Int))
  exact ⟨y, hy, congrArg (fun z => Ending.returned (.int .i64 z)) e, ((HC.out.set2 _).drewN _).set1 _ (i + 1) (by omega), grown_set (grown_drewN (grown_set (World.grownBy.refl _ _)))⟩

end Go.Proofs.Ythjholhjkahdkaa.draw
