/-
  What impl.Blanks returns: the bytes of a text but the blanks outside of its strings. For texts of at most 1048576 bytes.
-/
import Derived.Test.YtlkfaehfkapfnaaBlanksWalk
namespace Go.Proofs.Ytlkfaehfkapfnaa.blanks
open Go.ChangeShapes Go.WideShapes Go.ChangeAt Go.RowKit
set_option maxRecDepth 100000

set_option maxHeartbeats 4000000 in
theorem impl_any (s : ByteArray) (w : World) (hs : s.size ≤ 1048576) :
    Calls Try.prog 20 #[.string s] w fun e w' => e = .returned (.string ⟨(run false false s.data.toList).toArray⟩) ∧ Below w.heap.size w w' := by
  obtain ⟨i0, hi0, hz0, hz1, hz2⟩ := info_parts infoU
  have CB := Lib.hid impl_blank
  have HS := Lib.hid (St.start s)
  generalize run false false s.data.toList = R at *
  go_enter Try.func20, Try.ntmps20
  go_wp2
  go_step3
  go_wp2
  go_step3
  go_wp2
  go_loopg [3, 4] s.size (fun g v i wr => ∃ (k : Nat) (l : List UInt8), k + g = s.size ∧ i = .int .i64 k ∧ St s R k false false l ∧ OwnL wr w.heap.size 5 encB v l ∧ Below w.heap.size w wr)
  case atStart => exact ⟨0, [], by omega, rfl, HS.out, OwnL.empty _ _ _ (Nat.le_refl _), (Below.refl _ _).alloc (Nat.le_refl _) _⟩
  case round =>
    obtain ⟨k, l, hkg, rfl, HT, hown, hb⟩ := hrel
    have hsz := hb.size
    have hl : l.length ≤ 1048576 := Nat.le_trans HT.len (Nat.le_trans HT.le hs)
    cases gk with
    | zero =>
      have HE := Lib.hid (HT.fin (by omega))
      have hkn : ¬ (k : Int) < (s.size : Int) := by omega
      have hc := run_string_own (P := Try.prog) 60 5 9 Try.underlying60 Try.underlying5 Try.underlying9 hown
      go_wp2
      try rw [Exit.noGoto_ret]
      go_ret
      exact ⟨by rw [← HE.out]; rfl, hb⟩
    | succ g =>
      have hlt : k < s.size := by omega
      have hk0 : (0 : Int) ≤ (k : Int) := by omega
      have hk1 : (k : Int) < (s.size : Int) := by omega
      cases hbl : isBl s[k] with
      | true =>
        have CK := fun W => CB.out s[k] W
        rw [hbl] at CK
        replace CK := Lib.hid CK
        have HN := Lib.hid (HT.skip hlt hbl)
        clear hbl
        go_wp2_with (go_at_call 46; with_reducible refine (CK.out _).mono ?_; rintro e w2 ⟨rfl, rfl⟩)
        go_roundg g
        case measure => omega
        case rel => exact ⟨k + 1, _, by omega, by first | rfl | simp, HN.out, hown, hb⟩
      | false =>
        by_cases h34 : s[k].toNat = 34
        · have e34 : (s[k].toNat : Int) = 34 := by omega
          have CK : Hid (∀ W : World, Calls Try.prog 46 #[.int .u8 34] W fun e w' => e = .returned (.bool false) ∧ W = w') := fun W => impl_blank 34 W
          have HN := Lib.hid (HT.begins hlt h34)
          rw [b_of h34 (by omega)] at HN
          clear hbl
          go_wp2_with (first
            | (go_at_call 46; with_reducible refine (CK.out _).mono ?_; rintro e w2 ⟨rfl, rfl⟩)
            | (at_builtin; refine wpList_app (by rfl) _ _ _ (by rfl) w.heap.size 5 encB i0 _ 1 Try.underlying60 hi0 hz0 hz1 hz2 rfl oneU _ l (by rfl) (hown.alloc _) wr.heap.size 1 1 [UInt8.ofNat 34] (by rfl) (by rfl) _ (heap_alloc_new wr _) (by rfl) (by unfold maxLen; omega) (by omega) (by simp; omega) ?_; intro v1 w1 hown1 hg1))
          have hb1 : Below w.heap.size w w1 := grown_below (hb.alloc hsz _) (by simp; omega) (hown.alloc _) hg1
          have HO := Lib.hid hown1
          have HB := Lib.hid hb1
          clear hown1 hb1 hg1 hown hb hsz hl HT hk0 hk1 hlt h34 e34 CK
          obtain ⟨wo, rfl⟩ : ∃ wo : World, wo = wr := ⟨_, rfl⟩
          go_loopg [3, 4, 6] g (fun g2 v i x wr => ∃ (k : Nat) (l : List UInt8) (bh : Bool), k + g2 = s.size ∧ g2 ≤ g ∧ i = .int .i64 k ∧ x = .bool bh ∧ St s R k true bh l ∧ OwnL wr w.heap.size 5 encB v l ∧ Below w.heap.size w wr)
          case atStart => exact ⟨k + 1, _, false, by omega, Nat.le_refl _, by first | rfl | simp, rfl, HN.out, HO.out, HB.out⟩
          case round =>
            clear HN HO HB hkg
            obtain ⟨k, l, bh, hkg, hgg, rfl, rfl, HT, hown, hb⟩ := hrel
            have hsz := hb.size
            have hl : l.length ≤ 1048576 := Nat.le_trans HT.len (Nat.le_trans HT.le hs)
            cases gk with
            | zero =>
              have HE := Lib.hid (HT.atEnd (by omega) false false)
              have hkn : ¬ (k : Int) < (s.size : Int) := by omega
              go_wp2
              go_roundg 0
              case measure => omega
              case rel => exact ⟨k, _, by omega, rfl, HE.out, hown, hb⟩
            | succ g2 =>
              have hlt : k < s.size := by omega
              have hk0 : (0 : Int) ≤ (k : Int) := by omega
              have hk1 : (k : Int) < (s.size : Int) := by omega
              cases bh with
              | true =>
                have HN := Lib.hid (HT.esc hlt)
                go_wp2_with (at_builtin; refine wpList_app (by rfl) _ _ _ (by rfl) w.heap.size 5 encB i0 _ 1 Try.underlying60 hi0 hz0 hz1 hz2 rfl oneU _ l (by rfl) (hown.alloc _) wr.heap.size 1 1 [s[k]] (by rfl) (by rfl) _ (heap_alloc_new wr _) (by rfl) (by unfold maxLen; omega) (by omega) (by simp; omega) ?_; intro v1 w1 hown1 hg1)
                all_goals
                  have hb1 : Below w.heap.size w w1 := grown_below (hb.alloc hsz _) (by simp; omega) (hown.alloc _) hg1
                  go_roundg g2
                  case measure => omega
                  case rel => exact ⟨k + 1, _, false, by omega, by omega, by first | rfl | simp, by simp, HN.out, hown1, hb1⟩
              | false =>
                by_cases h34 : s[k].toNat = 34
                · have e34 : (s[k].toNat : Int) = 34 := by omega
                  have HN := Lib.hid (HT.shut hlt h34)
                  rw [b_of h34 (by omega)] at HN
                  go_wp2_with (at_builtin; refine wpList_app (by rfl) _ _ _ (by rfl) w.heap.size 5 encB i0 _ 1 Try.underlying60 hi0 hz0 hz1 hz2 rfl oneU _ l (by rfl) (hown.alloc _) wr.heap.size 1 1 [UInt8.ofNat 34] (by rfl) (by rfl) _ (heap_alloc_new wr _) (by rfl) (by unfold maxLen; omega) (by omega) (by simp; omega) ?_; intro v1 w1 hown1 hg1)
                  have hb1 : Below w.heap.size w w1 := grown_below (hb.alloc hsz _) (by simp; omega) (hown.alloc _) hg1
                  go_roundg g2
                  case measure => omega
                  case rel => exact ⟨k + 1, _, by omega, by first | rfl | simp, HN.out, hown1, hb1⟩
                · have e34 : ¬ (s[k].toNat : Int) = 34 := by omega
                  by_cases h92 : s[k].toNat = 92
                  · have e92 : (s[k].toNat : Int) = 92 := by omega
                    have HN := Lib.hid (HT.back hlt h92)
                    rw [b_of h92 (by omega)] at HN
                    go_wp2_with (at_builtin; refine wpList_app (by rfl) _ _ _ (by rfl) w.heap.size 5 encB i0 _ 1 Try.underlying60 hi0 hz0 hz1 hz2 rfl oneU _ l (by rfl) (hown.alloc _) wr.heap.size 1 1 [UInt8.ofNat 92] (by rfl) (by rfl) _ (heap_alloc_new wr _) (by rfl) (by unfold maxLen; omega) (by omega) (by simp; omega) ?_; intro v1 w1 hown1 hg1)
                    have hb1 : Below w.heap.size w w1 := grown_below (hb.alloc hsz _) (by simp; omega) (hown.alloc _) hg1
                    go_roundg g2
                    case measure => omega
                    case rel => exact ⟨k + 1, _, true, by omega, by omega, by first | rfl | simp, by simp, HN.out, hown1, hb1⟩
                  · have e92 : ¬ (s[k].toNat : Int) = 92 := by omega
                    have HN := Lib.hid (HT.inner hlt h34 h92)
                    go_wp2_with (at_builtin; refine wpList_app (by rfl) _ _ _ (by rfl) w.heap.size 5 encB i0 _ 1 Try.underlying60 hi0 hz0 hz1 hz2 rfl oneU _ l (by rfl) (hown.alloc _) wr.heap.size 1 1 [s[k]] (by rfl) (by rfl) _ (heap_alloc_new wr _) (by rfl) (by unfold maxLen; omega) (by omega) (by simp; omega) ?_; intro v1 w1 hown1 hg1)
                    have hb1 : Below w.heap.size w w1 := grown_below (hb.alloc hsz _) (by simp; omega) (hown.alloc _) hg1
                    go_roundg g2
                    case measure => omega
                    case rel => exact ⟨k + 1, _, false, by omega, by omega, by first | rfl | simp, by simp, HN.out, hown1, hb1⟩
        · have e34 : ¬ (s[k].toNat : Int) = 34 := by omega
          have CK := fun W => CB.out s[k] W
          rw [hbl] at CK
          replace CK := Lib.hid CK
          have HN := Lib.hid (HT.outer hlt hbl h34)
          clear hbl
          go_wp2_with (first
            | (go_at_call 46; with_reducible refine (CK.out _).mono ?_; rintro e w2 ⟨rfl, rfl⟩)
            | (at_builtin; refine wpList_app (by rfl) _ _ _ (by rfl) w.heap.size 5 encB i0 _ 1 Try.underlying60 hi0 hz0 hz1 hz2 rfl oneU _ l (by rfl) (hown.alloc _) wr.heap.size 1 1 [s[k]] (by rfl) (by rfl) _ (heap_alloc_new wr _) (by rfl) (by unfold maxLen; omega) (by omega) (by simp; omega) ?_; intro v1 w1 hown1 hg1))
          have hb1 : Below w.heap.size w w1 := grown_below (hb.alloc hsz _) (by simp; omega) (hown.alloc _) hg1
          go_roundg g
          case measure => omega
          case rel => exact ⟨k + 1, _, by omega, by first | rfl | simp, HN.out, hown1, hb1⟩

end Go.Proofs.Ytlkfaehfkapfnaa.blanks
