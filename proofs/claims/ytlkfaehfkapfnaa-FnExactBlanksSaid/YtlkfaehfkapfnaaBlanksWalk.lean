/-
  What spec.Blanks and impl.Blanks return: the bytes of a text but the blanks outside of its strings. For texts of at most 1048576 bytes.
-/
import Derived.Test.YtlkfaehfkapfnaaRows
import Derived.Test.YtlkfaehfkapfnaaBlanksPlain
import Derived.WalkKit
import Derived.ProofKit
import Derived.OpenShut
import Derived.WalkLawsBesides
import Derived.Deep.LoopGhost
import Derived.Deep.RegionWith
namespace Go.Proofs.Ytlkfaehfkapfnaa.blanks
open Go.ChangeShapes Go.WideShapes Go.ChangeAt Go.RowKit
set_option maxRecDepth 100000

theorem infoU : (Try.prog.info? 5).map (fun i => (i.zero, i.size, i.bytes)) = some (some (.int .u8 0), 1, 1) := by kernel_rfl
theorem b_of {b : UInt8} {m : Nat} (h : b.toNat = m) (hm : m < 256) : b = UInt8.ofNat m := by
  apply UInt8.toNat_inj.1
  rw [h]
  simp
  omega
theorem oneU (x : UInt8) : (encB x).oneCell' = true := rfl

theorem bl_int (n : Nat) : ((n : Int) == 32 || (n : Int) == 10 || (n : Int) == 13 || (n : Int) == 9) = (n == 32 || n == 10 || n == 13 || n == 9) := by
  have h : ∀ m : Nat, ((n : Int) == (m : Int)) = (n == m) := fun m => by
    by_cases e : n = m
    · subst e; simp
    · rw [beq_eq_false_iff_ne.2 e, beq_eq_false_iff_ne.2 (by omega)]
  have h1 := h 32
  have h2 := h 10
  have h3 := h 13
  have h4 := h 9
  simp only [Int.cast_ofNat_Int] at h1 h2 h3 h4
  rw [h1, h2, h3, h4]
theorem spec_blank (b : UInt8) (w : World) : Calls Try.prog 45 #[.int .u8 b.toNat] w fun e w' => e = .returned (.bool (isBl b)) ∧ w = w' := by
  unfold isBl
  rw [← bl_int]
  generalize b.toNat = n
  go_enter Try.func45, Try.ntmps45
  go_wp2
  all_goals
    go_ret
    first
    | exact ⟨rfl, rfl⟩
    | (refine ⟨?_, rfl⟩; simp_all)
theorem impl_blank (b : UInt8) (w : World) : Calls Try.prog 46 #[.int .u8 b.toNat] w fun e w' => e = .returned (.bool (isBl b)) ∧ w = w' := by
  unfold isBl
  rw [← bl_int]
  generalize b.toNat = n
  go_enter Try.func46, Try.ntmps46
  go_wp2
  all_goals
    go_ret
    first
    | exact ⟨rfl, rfl⟩
    | (refine ⟨?_, rfl⟩; simp_all)
set_option maxHeartbeats 8000000 in
theorem spec_any (s : ByteArray) (w : World) (hs : s.size ≤ 1048576) :
    Calls Try.prog 19 #[.string s] w fun e w' => e = .returned (.string ⟨(run false false s.data.toList).toArray⟩) ∧ Below w.heap.size w w' := by
  obtain ⟨i0, hi0, hz0, hz1, hz2⟩ := info_parts infoU
  have CB := Lib.hid spec_blank
  have HS := Lib.hid (St.start s)
  generalize run false false s.data.toList = R at *
  go_enter Try.func19, Try.ntmps19
  go_wp2
  go_loopw [3, 4, 5, 6] (fun v q h i wr => ∃ (k : Nat) (bq bh : Bool) (l : List UInt8), i = .int .i64 k ∧ q = .bool bq ∧ h = .bool bh ∧ (bq = false → bh = false) ∧ St s R k bq bh l ∧ OwnL wr w.heap.size 5 encB v l ∧ Below w.heap.size w wr) (fun _ _ _ i _ => s.size - (intOf i).toNat)
  case atStart => exact ⟨0, false, false, [], rfl, rfl, rfl, fun _ => rfl, HS.out, OwnL.empty _ _ _ (Nat.le_refl _), (Below.refl _ _).alloc (Nat.le_refl _) _⟩
  case round =>
    obtain ⟨k, bq, bh, l, rfl, rfl, rfl, hqh, HT, hown, hb⟩ := hrel
    have hsz := hb.size
    have hl : l.length ≤ 1048576 := Nat.le_trans HT.len (Nat.le_trans HT.le hs)
    by_cases hlt : k < s.size
    · have hk0 : (0 : Int) ≤ (k : Int) := by omega
      have hk1 : (k : Int) < (s.size : Int) := by omega
      cases bq with
      | true =>
        clear hqh
        cases bh with
        | true =>
          go_wp2_with (at_builtin; refine wpList_app (by rfl) _ _ _ (by rfl) w.heap.size 5 encB i0 _ 1 Try.underlying60 hi0 hz0 hz1 hz2 rfl oneU _ l (by rfl) (hown.alloc _) wr.heap.size 1 1 [s[k]] (by rfl) (by rfl) _ (heap_alloc_new wr _) (by rfl) (by unfold maxLen; omega) (by omega) (by simp; omega) ?_; intro v1 w1 hown1 hg1)
          have hb1 : Below w.heap.size w w1 := grown_below (hb.alloc hsz _) (by simp; omega) (hown.alloc _) hg1
          exact ⟨⟨k + 1, true, false, _, by first | rfl | simp, rfl, rfl, by simp, HT.esc hlt, hown1, hb1⟩, by simp [intOf]; omega⟩
        | false =>
          by_cases h34 : s[k].toNat = 34
          · have e34 : (s[k].toNat : Int) = 34 := by omega
            have HN := Lib.hid (HT.shut hlt h34)
            rw [b_of h34 (by omega)] at HN
            go_wp2_with (at_builtin; refine wpList_app (by rfl) _ _ _ (by rfl) w.heap.size 5 encB i0 _ 1 Try.underlying60 hi0 hz0 hz1 hz2 rfl oneU _ l (by rfl) (hown.alloc _) wr.heap.size 1 1 [UInt8.ofNat 34] (by rfl) (by rfl) _ (heap_alloc_new wr _) (by rfl) (by unfold maxLen; omega) (by omega) (by simp; omega) ?_; intro v1 w1 hown1 hg1)
            have hb1 : Below w.heap.size w w1 := grown_below (hb.alloc hsz _) (by simp; omega) (hown.alloc _) hg1
            exact ⟨⟨k + 1, false, false, _, by first | rfl | simp, rfl, rfl, by simp, HN.out, hown1, hb1⟩, by simp [intOf]; omega⟩
          · have e34 : ¬ (s[k].toNat : Int) = 34 := by omega
            by_cases h92 : s[k].toNat = 92
            · have e92 : (s[k].toNat : Int) = 92 := by omega
              have HN := Lib.hid (HT.back hlt h92)
              rw [b_of h92 (by omega)] at HN
              go_wp2_with (at_builtin; refine wpList_app (by rfl) _ _ _ (by rfl) w.heap.size 5 encB i0 _ 1 Try.underlying60 hi0 hz0 hz1 hz2 rfl oneU _ l (by rfl) (hown.alloc _) wr.heap.size 1 1 [UInt8.ofNat 92] (by rfl) (by rfl) _ (heap_alloc_new wr _) (by rfl) (by unfold maxLen; omega) (by omega) (by simp; omega) ?_; intro v1 w1 hown1 hg1)
              have hb1 : Below w.heap.size w w1 := grown_below (hb.alloc hsz _) (by simp; omega) (hown.alloc _) hg1
              exact ⟨⟨k + 1, true, true, _, by first | rfl | simp, rfl, rfl, by simp, HN.out, hown1, hb1⟩, by simp [intOf]; omega⟩
            · have e92 : ¬ (s[k].toNat : Int) = 92 := by omega
              have HN := Lib.hid (HT.inner hlt h34 h92)
              go_wp2_with (at_builtin; refine wpList_app (by rfl) _ _ _ (by rfl) w.heap.size 5 encB i0 _ 1 Try.underlying60 hi0 hz0 hz1 hz2 rfl oneU _ l (by rfl) (hown.alloc _) wr.heap.size 1 1 [s[k]] (by rfl) (by rfl) _ (heap_alloc_new wr _) (by rfl) (by unfold maxLen; omega) (by omega) (by simp; omega) ?_; intro v1 w1 hown1 hg1)
              have hb1 : Below w.heap.size w w1 := grown_below (hb.alloc hsz _) (by simp; omega) (hown.alloc _) hg1
              exact ⟨⟨k + 1, true, false, _, by first | rfl | simp, rfl, rfl, by simp, HN.out, hown1, hb1⟩, by simp [intOf]; omega⟩
      | false =>
        obtain rfl := hqh rfl
        clear hqh
        cases hbl : isBl s[k] with
        | true =>
          have h34 : ¬ (s[k].toNat : Int) = 34 := by
            intro e
            have e' : s[k].toNat = 34 := by omega
            rw [isBl, e'] at hbl
            simp at hbl
          have HN := Lib.hid (HT.skip hlt hbl)
          have CK := fun W => CB.out s[k] W
          rw [hbl] at CK
          replace CK := Lib.hid CK
          clear hbl
          go_wp2_with (go_at_call 45; with_reducible refine (CK.out _).mono ?_; rintro e w2 ⟨rfl, rfl⟩)
          exact ⟨⟨k + 1, false, false, _, by first | rfl | simp, rfl, rfl, by simp, HN.out, hown, hb⟩, by simp [intOf]; omega⟩
        | false =>
          have CK := fun W => CB.out s[k] W
          rw [hbl] at CK
          replace CK := Lib.hid CK
          by_cases h34 : s[k].toNat = 34
          · have e34 : (s[k].toNat : Int) = 34 := by omega
            have HN := Lib.hid (HT.begins hlt h34)
            rw [b_of h34 (by omega)] at HN
            clear hbl
            replace CK : Hid (∀ W : World, Calls Try.prog 45 #[.int .u8 34] W fun e w' => e = .returned (.bool false) ∧ W = w') := fun W => spec_blank 34 W
            go_wp2_with (first
              | (go_at_call 45; with_reducible refine (CK.out _).mono ?_; rintro e w2 ⟨rfl, rfl⟩)
              | (at_builtin; refine wpList_app (by rfl) _ _ _ (by rfl) w.heap.size 5 encB i0 _ 1 Try.underlying60 hi0 hz0 hz1 hz2 rfl oneU _ l (by rfl) (hown.alloc _) wr.heap.size 1 1 [UInt8.ofNat 34] (by rfl) (by rfl) _ (heap_alloc_new wr _) (by rfl) (by unfold maxLen; omega) (by omega) (by simp; omega) ?_; intro v1 w1 hown1 hg1))
            have hb1 : Below w.heap.size w w1 := grown_below (hb.alloc hsz _) (by simp; omega) (hown.alloc _) hg1
            exact ⟨⟨k + 1, true, false, _, by first | rfl | simp, rfl, rfl, by simp, HN.out, hown1, hb1⟩, by simp [intOf]; omega⟩
          · have e34 : ¬ (s[k].toNat : Int) = 34 := by omega
            have HN := Lib.hid (HT.outer hlt hbl h34)
            clear hbl
            go_wp2_with (first
              | (go_at_call 45; with_reducible refine (CK.out _).mono ?_; rintro e w2 ⟨rfl, rfl⟩)
              | (at_builtin; refine wpList_app (by rfl) _ _ _ (by rfl) w.heap.size 5 encB i0 _ 1 Try.underlying60 hi0 hz0 hz1 hz2 rfl oneU _ l (by rfl) (hown.alloc _) wr.heap.size 1 1 [s[k]] (by rfl) (by rfl) _ (heap_alloc_new wr _) (by rfl) (by unfold maxLen; omega) (by omega) (by simp; omega) ?_; intro v1 w1 hown1 hg1))
            have hb1 : Below w.heap.size w w1 := grown_below (hb.alloc hsz _) (by simp; omega) (hown.alloc _) hg1
            exact ⟨⟨k + 1, false, false, _, by first | rfl | simp, rfl, rfl, by simp, HN.out, hown1, hb1⟩, by simp [intOf]; omega⟩
    · have HE := Lib.hid (HT.fin hlt)
      have hc := run_string_own (P := Try.prog) 60 5 9 Try.underlying60 Try.underlying5 Try.underlying9 hown
      go_wp2
      go_ret
      exact ⟨by rw [← HE.out]; rfl, hb⟩

end Go.Proofs.Ytlkfaehfkapfnaa.blanks
