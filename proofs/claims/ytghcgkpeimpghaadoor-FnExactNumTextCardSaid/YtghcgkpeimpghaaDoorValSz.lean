/-
  What laws.szValue returns: what is left behind a value's letters and elements, or -1.
-/
import Derived.Test.YtghcgkpeimpghaaDoorValT
namespace Go.Proofs.YtghcgkpeimpghaaDoor.val
open Go.ChangeShapes Go.WideShapes Go.ChangeAt Go.RowKit
set_option maxRecDepth 100000

def left (L z : Nat) : Int := if z ≤ L then (L : Int) - z else -1
def SzC (w' : World) (t : LT) : Prop := ∀ L : Nat, L ≤ 1048576 → Calls Tryd.prog 6 #[t.val, .int .i64 L] w' fun e w'' => e = .returned (.int .i64 (left L t.sz)) ∧ Below w'.heap.size w' w''

set_option maxHeartbeats 1000000 in
theorem szS (w : World) (B : Nat) (a : Option Addr) (cap : Nat) (kids : List LT) (hl : kids.length ≤ 9223372036854775807) (hc : ∀ i (h : i < kids.length), ∃ x, a = some x ∧ x.block < B ∧ At5 w (x.add (i * 5)) kids[i])
    (ih : ∀ i (h : i < kids.length), ∀ w', Below B w w' → B ≤ w'.heap.size → SzC w' kids[i]) :
    ∀ w', Below B w w' → B ≤ w'.heap.size → ∀ L : Nat, L ≤ 1048576 → Calls Tryd.prog 17 #[.slice a kids.length cap, .int .i64 L] w' fun e w'' => e = .returned (.int .i64 (left L (LT.szL kids))) ∧ Below w'.heap.size w' w'' := by
  intro w' hb hB L hL
  have HC := Lib.hid hc
  have IH := Lib.hid ih
  have HB := Lib.hid hb
  clear hc ih hb
  have hlen := szL_len kids
  by_cases h0 : kids.length ≤ L
  · have h0' : ¬ (L : Int) - (kids.length : Int) < 0 := by omega
    go_enter Tryd.func17, Tryd.ntmps17
    go_wp2
    go_loopw [1, 5] (fun l i wr => ∃ (j r : Nat), j ≤ kids.length ∧ i = .int .i64 j ∧ l = .int .i64 (r : Int) ∧ r ≤ L ∧ Hid (L + j = r + kids.length + LT.szL (kids.take j)) ∧ Hid (Below w'.heap.size w' wr)) (fun _ i _ => kids.length - (intOf i).toNat)
    case atStart => exact ⟨0, L - kids.length, by omega, rfl, by congr 1; omega, by omega, by simp [Hid, LT.szL]; omega, Below.refl _ _⟩
    case round =>
      obtain ⟨j, r, hj, rfl, rfl, hr, HZ, HW⟩ := hrel
      by_cases hlt : j < kids.length
      · have hj0 : (0 : Int) ≤ (j : Int) := by omega
        have hj1 : (j : Int) < (kids.length : Int) := by omega
        obtain ⟨x, rfl, hx, h5⟩ := HC.out j hlt
        obtain ⟨c0, c1, c2, c3, c4⟩ := h5.below (by rw [add_block]; exact hx) (HB.out.trans (HW.out.mono hB))
        have C := (IH.out j hlt wr (HB.out.trans (HW.out.mono hB)) (Nat.le_trans hB HW.out.size) r (by omega))
        have HT := Lib.hid (szL_take kids j hlt)
        have HLE := Lib.hid (szL_rest kids (j + 1) (by omega))
        clear h5 HC IH
        unfold LT.val at C
        generalize kids[j].sz = z at *
        generalize kids[j] = t at *
        replace C := Lib.hid C
        by_cases hz : z ≤ r
        · have e : left r z = ((r - z : Nat) : Int) := by unfold left; rw [if_pos hz]; omega
          rw [e] at C
          have hnn : ¬ ((r - z : Nat) : Int) < 0 := by omega
          clear e
          go_wp2_with fail
          with_reducible refine C.out.mono ?_
          rintro e w1 ⟨rfl, hb1⟩
          have HW1 := Lib.hid (HW.out.trans (hb1.mono HW.out.size))
          clear C hb1 c0 c1 c2 c3 c4 HW
          go_wp2
          go_roundw
          case rel => exact ⟨j + 1, r - z, by omega, by go_num, rfl, by omega, by have := HZ.out; have := HT.out; unfold Hid; omega, HW1⟩
          case measure => simp [intOf]; omega
        · have e : left r z = -1 := by unfold left; rw [if_neg hz]
          rw [e] at C
          have hr2 : Hid (left L (LT.szL kids) = -1) := by
            have := HZ.out; have := HT.out; have := HLE.out
            unfold left Hid; rw [if_neg (by omega)]
          clear e
          go_wp2_with fail
          with_reducible refine C.out.mono ?_
          rintro e w1 ⟨rfl, hb1⟩
          have HW1 := Lib.hid (HW.out.trans (hb1.mono HW.out.size))
          clear C hb1 c0 c1 c2 c3 c4 HW
          go_wp2
          go_ret
          exact ⟨by rw [hr2.out]; rfl, HW1.out⟩
      · have hj1 : ¬ (j : Int) < (kids.length : Int) := by omega
        have hr2 : Hid (left L (LT.szL kids) = (r : Int)) := by
          have := HZ.out
          rw [List.take_of_length_le (by omega)] at this
          unfold left Hid; rw [if_pos (by omega)]; omega
        go_wp2
        go_ret
        exact ⟨by rw [hr2.out]; rfl, HW.out⟩
  · have h0' : (L : Int) - (kids.length : Int) < 0 := by omega
    have hr : left L (LT.szL kids) = -1 := by unfold left; rw [if_neg (by omega)]
    rw [hr]
    go_enter Tryd.func17, Tryd.ntmps17
    go_wp2
    go_ret
    exact ⟨rfl, Below.refl _ _⟩

set_option maxHeartbeats 1000000 in
theorem sz_any {w : World} {B : Nat} {t : LT} (h : In w B t) : ∀ w', Below B w w' → B ≤ w'.heap.size → SzC w' t := by
  induction h with
  | mk hk hn he hs hl hc hkids ih =>
    rename_i k n e s a cap kids
    intro w' hb hB L hL
    have CS := fun L' hL' => szS w B a cap kids (by omega) hc ih (w'.alloc (.cells #[.int .i64 k, .int .i64 n, .int .i64 e, .string s, .slice a kids.length cap] 24)) (hb.alloc hB _) (by simp; omega) L' hL'
    have HBA : Hid (Below w'.heap.size w' (w'.alloc (.cells #[.int .i64 k, .int .i64 n, .int .i64 e, .string s, .slice a kids.length cap] 24))) := (Below.refl _ _).alloc (Nat.le_refl _) _
    rw [sz_mk]
    unfold LT.val LT.row
    simp only [LT.k, LT.n, LT.e, LT.s, LT.a, LT.cap, LT.kids]
    generalize LT.szL kids = z at *
    clear hc ih hkids
    by_cases h1 : s.size ≤ L
    · have h1' : ¬ (L : Int) - (s.size : Int) < 0 := by omega
      have C := Lib.hid (CS (L - s.size) (by omega))
      rw [show ((L - s.size : Nat) : Int) = (L : Int) - (s.size : Int) by omega] at C
      clear CS
      by_cases h2 : z ≤ L - s.size
      · have e1 : left (L - s.size) z = ((L - s.size - z : Nat) : Int) := by unfold left; rw [if_pos h2]; omega
        have e2 : left L (s.size + z) = ((L - s.size - z : Nat) : Int) := by unfold left; rw [if_pos (by omega)]; omega
        rw [e1] at C
        rw [e2]
        have hnn : ¬ ((L - s.size - z : Nat) : Int) < 0 := by omega
        clear e1 e2
        go_enter Tryd.func6, Tryd.ntmps6
        go_wp2_with fail
        with_reducible refine C.out.mono ?_
        rintro e w1 ⟨rfl, hb1⟩
        have HW1 := Lib.hid (HBA.out.trans (hb1.mono HBA.out.size))
        clear C hb1
        go_wp2
        go_ret
        exact ⟨rfl, HW1.out⟩
      · have e1 : left (L - s.size) z = -1 := by unfold left; rw [if_neg h2]
        have e2 : left L (s.size + z) = -1 := by unfold left; rw [if_neg (by omega)]
        rw [e1] at C
        rw [e2]
        clear e1 e2
        go_enter Tryd.func6, Tryd.ntmps6
        go_wp2_with fail
        with_reducible refine C.out.mono ?_
        rintro e w1 ⟨rfl, hb1⟩
        have HW1 := Lib.hid (HBA.out.trans (hb1.mono HBA.out.size))
        clear C hb1
        go_wp2
        go_ret
        exact ⟨rfl, HW1.out⟩
    · have h1' : (L : Int) - (s.size : Int) < 0 := by omega
      have e2 : left L (s.size + z) = -1 := by unfold left; rw [if_neg (by omega)]
      rw [e2]
      clear e2 CS
      go_enter Tryd.func6, Tryd.ntmps6
      go_wp2
      go_ret
      exact ⟨rfl, HBA.out⟩

end Go.Proofs.YtghcgkpeimpghaaDoor.val
