/-
  What impl.Cut returns: a text in pieces. For texts of at most 1048576 bytes, at most 1048576 sizes.
-/
import Derived.Test.YtnfbjcpoealkoaaCutWalk
namespace Go.Proofs.Ytnfbjcpoealkoaa.cut
open Go.ChangeShapes Go.WideShapes Go.ChangeAt Go.RowKit
open Go.Proofs.Ytnfbjcpoealkoaa.strs (encS oneS)
open Go.Proofs.Ytnfbjcpoealkoaa.ints (ReadI)
set_option maxRecDepth 100000

theorem clone_any (s : ByteArray) (w : World) (hs : s.size ≤ 281474976710656) :
    Calls Try.prog 21 #[.string s] w fun e w' => e = .returned (.string s) ∧ Below w.heap.size w w' := by
  have C := Lib.hid (Try.stringslite_Clone s w hs)
  go_enter Try.func21, Try.ntmps21
  go_wp2_with fail
  with_reducible refine C.out.mono ?_
  rintro e w1 ⟨rfl, hb⟩
  go_wp2
  go_ret
  exact ⟨rfl, hb⟩
set_option maxHeartbeats 2000000 in
theorem impl_any (s : ByteArray) (l : List Int) (v : Value) (a : Option Addr) (c g : Nat) (w : World) (hs : s.size ≤ 1048576) (hl : l.length ≤ 1048576) (hi : ∀ j (h : j < l.length), -9223372036854775808 ≤ l[j] ∧ l[j] ≤ 9223372036854775807) (hr : ReadI w v l a c g) :
    Calls Try.prog 12 #[.string s, v] w fun e w' => ∃ v, e = .returned v ∧ OwnL w' w.heap.size 9 encS v (pieces l s) ∧ Below w.heap.size w w' := by
  obtain ⟨i0, hi0, hz0, hz1, hz2⟩ := info_parts infoS
  obtain ⟨rfl, ha, hc⟩ := hr
  have HA := Lib.hid ha
  have HC := Lib.hid hc
  have HI := Lib.hid hi
  have HS := Lib.hid (Cutting.start l s)
  clear ha hc hi
  generalize hT : pieces l s = T
  have HT := Lib.hid hT
  clear hT
  go_enter Try.func12, Try.ntmps12
  go_wp2
  go_loopw [0, 5, 11] (fun x v i wr => ∃ (k : Nat) (out : List ByteArray) (r : ByteArray), x = .string r ∧ i = .int .i64 k ∧ k ≤ l.length ∧ OwnL wr w.heap.size 9 encS v out ∧ Hid (Cutting l s k out r) ∧ Below w.heap.size w wr) (fun _ _ i _ => l.length - (intOf i).toNat)
  case atStart => exact ⟨0, [], s, rfl, rfl, Nat.zero_le _, OwnL.empty _ _ _ (Nat.le_refl _), HS, (Below.refl _ _).alloc (Nat.le_refl _) _⟩
  case round =>
    clear HS
    obtain ⟨k, out, r, rfl, rfl, hk, hown, HG, hb⟩ := hrel
    have hsz := hb.size
    have hol := HG.out.len
    have hrs := HG.out.size
    by_cases hlt : k < l.length
    · have hk0 : (0 : Int) ≤ (k : Int) := by omega
      have hk1 : (k : Int) < (l.length : Int) := by omega
      obtain rfl := HA.out (by omega)
      obtain ⟨z, hz, HZ⟩ : ∃ z, w.cell? ⟨g, k, none⟩ = some (.int .i64 z) ∧ Hid (l[k] = z) := ⟨_, HC.out k hlt, rfl⟩
      have hzz := HI.out k hlt
      rw [HZ.out] at hzz
      have hcell : wr.cell? ⟨g, k, none⟩ = some (.int .i64 z) := (hb.cell (World.block_lt_of_cell? w _ hz)).trans hz
      by_cases h0 : r.size = 0
      · have he : r.toList.isEmpty = true := by rw [empty_is]; simpa using h0
        have HD : Hid (out = T) := by rw [← HT.out]; exact HG.out.done h0
        clear HG HC HI HA h0
        go_wp2
        go_ret
        exact ⟨_, rfl, by rw [← HD.out]; exact hown, hb⟩
      · have he : r.toList.isEmpty = false := by rw [empty_is]; simpa using h0
        have hr1 : (0 : Int) < (r.size : Int) := by omega
        have hmm : many z r.size = (min (max z 1) (r.size : Int)).toNat := by unfold many; (repeat' split) <;> omega
        have HST := Lib.hid (HG.out.step hlt h0 _ (by rw [HZ.out, hmm]))
        have hm0 : 0 ≤ min (max z 1) (r.size : Int) := by omega
        have hm1 : min (max z 1) (r.size : Int) ≤ (r.size : Int) := by omega
        have C2 := Lib.hid (clone_any (r.extract 0 (min (max z 1) (r.size : Int)).toNat) wr (by rw [ByteArray.size_extract]; omega))
        clear HG HC HI HA hz HZ hmm h0
        go_wp2_with fail
        with_reducible refine C2.out.mono ?_
        rintro e w2 ⟨rfl, hb2⟩
        have hown2 := hown.below hb2
        have hB2 : Below w.heap.size w w2 := hb.trans (hb2.mono hsz)
        have hsz2 := hB2.size
        clear C2 hb2 hown
        go_wp2_with (first
          | (at_builtin; refine wpList_app (by rfl) _ _ _ (by rfl) w.heap.size 9 encS i0 _ 16 Try.underlying30 hi0 hz0 hz1 hz2 rfl oneS u5 out (by rfl) (hown2.alloc _) w2.heap.size 1 1 [r.extract 0 (min (max z 1) (r.size : Int)).toNat] (by rfl) (by rfl) _ (heap_alloc_new w2 _) (by rfl) (by unfold maxLen; omega) (by omega) (by simp; omega) ?_; intro v1 w1 hown1 hg1))
        have hb1 : Below w.heap.size w w1 := grown_below (hB2.alloc hsz2 _) (by simp; omega) (hown2.alloc _) hg1
        go_roundw
        case rel => exact ⟨k + 1, _, _, rfl, by go_num, by omega, hown1, HST, hb1⟩
        case measure => simp [intOf]; omega
    · have hk1 : ¬ (k : Int) < (l.length : Int) := by omega
      by_cases h0 : r.size = 0
      · have he : r.toList.isEmpty = true := by rw [empty_is]; simpa using h0
        have HD : Hid (out = T) := by rw [← HT.out]; exact HG.out.done h0
        clear HG HC HI HA h0
        go_wp2
        go_ret
        exact ⟨_, rfl, by rw [← HD.out]; exact hown, hb⟩
      · have he : r.toList.isEmpty = false := by rw [empty_is]; simpa using h0
        have HD : Hid (out ++ [r] = T) := by rw [← HT.out]; exact HG.out.last (by omega) h0
        have C2 := Lib.hid (clone_any r wr (by omega))
        clear HG HC HI HA h0
        go_wp2_with fail
        with_reducible refine C2.out.mono ?_
        rintro e w2 ⟨rfl, hb2⟩
        have hown2 := hown.below hb2
        have hB2 : Below w.heap.size w w2 := hb.trans (hb2.mono hsz)
        have hsz2 := hB2.size
        clear C2 hb2 hown
        go_wp2_with (first
          | (at_builtin; refine wpList_app (by rfl) _ _ _ (by rfl) w.heap.size 9 encS i0 _ 16 Try.underlying30 hi0 hz0 hz1 hz2 rfl oneS u5 out (by rfl) (hown2.alloc _) w2.heap.size 1 1 [r] (by rfl) (by rfl) _ (heap_alloc_new w2 _) (by rfl) (by unfold maxLen; omega) (by omega) (by simp; omega) ?_; intro v1 w1 hown1 hg1))
        have hb1 : Below w.heap.size w w1 := grown_below (hB2.alloc hsz2 _) (by simp; omega) (hown2.alloc _) hg1
        go_wp2
        go_ret
        exact ⟨_, rfl, by rw [← HD.out]; exact hown1, hb1⟩
end Go.Proofs.Ytnfbjcpoealkoaa.cut
