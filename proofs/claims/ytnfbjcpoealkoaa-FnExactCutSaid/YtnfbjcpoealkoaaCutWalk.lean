/-
  What spec.Cut and impl.Cut return: a text in pieces. For texts of at most 1048576 bytes, at most 1048576 sizes.
-/
import Derived.Test.YtnfbjcpoealkoaaStrRead
import Derived.Test.YtnfbjcpoealkoaaIntS
import Derived.Test.YtnfbjcpoealkoaaCutPlain
import Derived.Test.YtnfbjcpoealkoaaShelfClone
namespace Go.Proofs.Ytnfbjcpoealkoaa.cut
open Go.ChangeShapes Go.WideShapes Go.ChangeAt Go.RowKit
open Go.Proofs.Ytnfbjcpoealkoaa.strs (encS oneS)
open Go.Proofs.Ytnfbjcpoealkoaa.ints (ReadI)
set_option maxRecDepth 100000

theorem infoS : (Try.prog.info? 9).map (fun i => (i.zero, i.size, i.bytes)) = some (some (.string ⟨#[]⟩), 1, 16) := by kernel_rfl
theorem empty_is (s : ByteArray) : s.toList.isEmpty = decide (s.size = 0) := by
  rw [ByteArray.toList_eq, Bool.eq_iff_iff, List.isEmpty_iff_length_eq_zero]
  simp
theorem ReadI.below {w w' : World} {v : Value} {l : List Int} {a : Option Addr} {c g : Nat} (h : ReadI w v l a c g) (hb : Below w.heap.size w w') : ReadI w' v l a c g :=
  ⟨h.val, h.adr, fun j hj => (hb.cell (World.block_lt_of_cell? w _ (h.cell j hj))).trans (h.cell j hj)⟩

set_option maxHeartbeats 2000000 in
theorem spec_any (s : ByteArray) (l : List Int) (v : Value) (a : Option Addr) (c g : Nat) (w : World) (hs : s.size ≤ 1048576) (hl : l.length ≤ 1048576) (hi : ∀ j (h : j < l.length), -9223372036854775808 ≤ l[j] ∧ l[j] ≤ 9223372036854775807) (hr : ReadI w v l a c g) :
    Calls Try.prog 10 #[.string s, v] w fun e w' => ∃ v, e = .returned v ∧ OwnL w' w.heap.size 9 encS v (pieces l s) ∧ Below w.heap.size w w' := by
  obtain ⟨i0, hi0, hz0, hz1, hz2⟩ := info_parts infoS
  obtain ⟨rfl, ha, hc⟩ := hr
  have HA := Lib.hid ha
  have HC := Lib.hid hc
  have HI := Lib.hid hi
  have HS := Lib.hid (Cutting.start l s)
  clear ha hc hi
  generalize hT : pieces l s = T
  have HT := Lib.hid hT
  clear hT
  go_enter Try.func10, Try.ntmps10
  go_wp2
  go_loopw [0, 5, 6] (fun x v i wr => ∃ (k : Nat) (out : List ByteArray) (r : ByteArray), x = .string r ∧ i = .int .i64 k ∧ k ≤ l.length ∧ OwnL wr w.heap.size 9 encS v out ∧ Hid (Cutting l s k out r) ∧ Below w.heap.size w wr) (fun _ _ i _ => l.length - (intOf i).toNat)
  case atStart => exact ⟨0, [], s, rfl, rfl, Nat.zero_le _, OwnL.empty _ _ _ (Nat.le_refl _), HS, (Below.refl _ _).alloc (Nat.le_refl _) _⟩
  case round =>
    clear HS
    obtain ⟨k, out, r, rfl, rfl, hk, hown, HG, hb⟩ := hrel
    have hsz := hb.size
    have hol := HG.out.len
    have hrs := HG.out.size
    by_cases hlt : k < l.length
    · have hk0 : (0 : Int) ≤ (k : Int) := by omega
      have hk1 : (k : Int) < (l.length : Int) := by omega
      by_cases h0 : r.size = 0
      · have he : r.toList.isEmpty = true := by rw [empty_is]; simpa using h0
        have HD : Hid (out = T) := by rw [← HT.out]; exact HG.out.done h0
        clear HG HC HI HA h0
        go_wp2
        go_ret
        exact ⟨_, rfl, by rw [← HD.out]; exact hown, hb⟩
      · have he : r.toList.isEmpty = false := by rw [empty_is]; simpa using h0
        obtain rfl := HA.out (by omega)
        obtain ⟨z, hz, HZ⟩ : ∃ z, w.cell? ⟨g, k, none⟩ = some (.int .i64 z) ∧ Hid (l[k] = z) := ⟨_, HC.out k hlt, rfl⟩
        have hzz := HI.out k hlt
        rw [HZ.out] at hzz
        have hcell : wr.cell? ⟨g, k, none⟩ = some (.int .i64 z) := (hb.cell (World.block_lt_of_cell? w _ hz)).trans hz
        have hr1 : (0 : Int) < (r.size : Int) := by omega
        clear h0
        by_cases z1 : z < 1
        · have z2 : ¬ (r.size : Int) < 1 := by omega
          have HST := Lib.hid (HG.out.step hlt (by omega) (1) (by rw [HZ.out]; unfold many; rw [if_pos z1]))
          clear HG HC HI HA hz HZ
          go_wp2_with (first
            | (at_builtin; refine wpList_app (by rfl) _ _ _ (by rfl) w.heap.size 9 encS i0 _ 16 Try.underlying30 hi0 hz0 hz1 hz2 rfl oneS u5 out (by rfl) (hown.alloc _) wr.heap.size 1 1 [r.extract 0 (1)] (by rfl) (by rfl) _ (heap_alloc_new wr _) (by rfl) (by unfold maxLen; omega) (by omega) (by simp; omega) ?_; intro v1 w1 hown1 hg1))
          have hb1 : Below w.heap.size w w1 := grown_below (hb.alloc hsz _) (by simp; omega) (hown.alloc _) hg1
          go_roundw
          case rel => exact ⟨k + 1, _, _, rfl, by go_num, by omega, hown1, HST, hb1⟩
          case measure => simp [intOf]; omega
        by_cases z2 : (r.size : Int) < z
        · have z3 : ((r.size : Int)).toNat = r.size := by omega
          have hst := (HG.out.step hlt (by omega) (r.size) (by rw [HZ.out]; unfold many; rw [if_neg z1, if_pos z2]))
          rw [show r.extract 0 r.size = r by apply ByteArray.ext; simp, show r.extract r.size r.size = ByteArray.empty by apply ByteArray.ext; simp] at hst
          have HST := Lib.hid hst
          clear hst
          clear HG HC HI HA hz HZ
          go_wp2_with (first
            | (at_builtin; refine wpList_app (by rfl) _ _ _ (by rfl) w.heap.size 9 encS i0 _ 16 Try.underlying30 hi0 hz0 hz1 hz2 rfl oneS u5 out (by rfl) (hown.alloc _) wr.heap.size 1 1 [r] (by rfl) (by rfl) _ (heap_alloc_new wr _) (by rfl) (by unfold maxLen; omega) (by omega) (by simp; omega) ?_; intro v1 w1 hown1 hg1))
          have hb1 : Below w.heap.size w w1 := grown_below (hb.alloc hsz _) (by simp; omega) (hown.alloc _) hg1
          go_roundw
          case rel => exact ⟨k + 1, _, _, rfl, by go_num, by omega, hown1, HST, hb1⟩
          case measure => simp [intOf]; omega
        · have z3 : (0 : Int) ≤ z := by omega
          have z4 : z ≤ (r.size : Int) := by omega
          have HST := Lib.hid (HG.out.step hlt (by omega) (z.toNat) (by rw [HZ.out]; unfold many; rw [if_neg z1, if_neg z2]))
          clear HG HC HI HA hz HZ
          go_wp2_with (first
            | (at_builtin; refine wpList_app (by rfl) _ _ _ (by rfl) w.heap.size 9 encS i0 _ 16 Try.underlying30 hi0 hz0 hz1 hz2 rfl oneS u5 out (by rfl) (hown.alloc _) wr.heap.size 1 1 [r.extract 0 (z.toNat)] (by rfl) (by rfl) _ (heap_alloc_new wr _) (by rfl) (by unfold maxLen; omega) (by omega) (by simp; omega) ?_; intro v1 w1 hown1 hg1))
          have hb1 : Below w.heap.size w w1 := grown_below (hb.alloc hsz _) (by simp; omega) (hown.alloc _) hg1
          go_roundw
          case rel => exact ⟨k + 1, _, _, rfl, by go_num, by omega, hown1, HST, hb1⟩
          case measure => simp [intOf]; omega
    · have hk1 : ¬ (k : Int) < (l.length : Int) := by omega
      by_cases h0 : r.size = 0
      · have he : r.toList.isEmpty = true := by rw [empty_is]; simpa using h0
        have HD : Hid (out = T) := by rw [← HT.out]; exact HG.out.done h0
        clear HG HC HI HA h0
        go_wp2
        go_ret
        exact ⟨_, rfl, by rw [← HD.out]; exact hown, hb⟩
      · have he : r.toList.isEmpty = false := by rw [empty_is]; simpa using h0
        have HD : Hid (out ++ [r] = T) := by rw [← HT.out]; exact HG.out.last (by omega) h0
        clear HG HC HI HA h0
        go_wp2_with (first
          | (at_builtin; refine wpList_app (by rfl) _ _ _ (by rfl) w.heap.size 9 encS i0 _ 16 Try.underlying30 hi0 hz0 hz1 hz2 rfl oneS u5 out (by rfl) (hown.alloc _) wr.heap.size 1 1 [r] (by rfl) (by rfl) _ (heap_alloc_new wr _) (by rfl) (by unfold maxLen; omega) (by omega) (by simp; omega) ?_; intro v1 w1 hown1 hg1))
        have hb1 : Below w.heap.size w w1 := grown_below (hb.alloc hsz _) (by simp; omega) (hown.alloc _) hg1
        go_wp2
        go_ret
        exact ⟨_, rfl, by rw [← HD.out]; exact hown1, hb1⟩
end Go.Proofs.Ytnfbjcpoealkoaa.cut
