/-
  laws.eqValue of two values that tell the same: true.
-/
import Derived.Test.YtghcgkpeimpghaaDoorValOwn
namespace Go.Proofs.YtghcgkpeimpghaaDoor.val
open Go.ChangeShapes Go.WideShapes Go.ChangeAt Go.RowKit
set_option maxRecDepth 100000

def EqC (w' : World) (t1 t2 : LT) : Prop := Calls Tryd.prog 10 #[t1.val, t2.val] w' fun e w'' => e = .returned (.bool true) ∧ Below w'.heap.size w' w''
theorem belowN' {B : Nat} {a w : World} (h : Below B a w) : Below B a w.drew := h.drew

set_option maxHeartbeats 2000000 in
theorem eqS (w : World) (B : Nat) (a1 a2 : Option Addr) (cap1 cap2 : Nat) (k1 k2 : List LT) (hl : k1.length ≤ 9223372036854775807) (he : k2.length = k1.length)
    (hc1 : ∀ i (h : i < k1.length), ∃ x, a1 = some x ∧ x.block < B ∧ At5 w (x.add (i * 5)) k1[i]) (hc2 : ∀ i (h : i < k2.length), ∃ x, a2 = some x ∧ x.block < B ∧ At5 w (x.add (i * 5)) k2[i])
    (ih : ∀ i (h : i < k1.length) (h2 : i < k2.length), ∀ w', Below B w w' → B ≤ w'.heap.size → EqC w' k1[i] k2[i]) :
    ∀ w', Below B w w' → B ≤ w'.heap.size → Calls Tryd.prog 26 #[.slice a1 k1.length cap1, .slice a2 k2.length cap2] w' fun e w'' => e = .returned (.bool true) ∧ Below w'.heap.size w' w'' := by
  intro w' hb hB
  have HC1 := Lib.hid hc1
  have HC2 := Lib.hid hc2
  have IH := Lib.hid ih
  have HB := Lib.hid hb
  have HE := Lib.hid he
  rw [he]
  clear hc1 hc2 ih hb he
  go_enter Tryd.func26, Tryd.ntmps26
  go_wp2
  go_loopw [5] (fun i wr => ∃ j : Nat, i = .int .i64 j ∧ j ≤ k1.length ∧ Hid (Below w'.heap.size w' wr)) (fun i _ => k1.length - (intOf i).toNat)
  case atStart => exact ⟨0, rfl, by omega, Below.refl _ _⟩
  case round =>
    obtain ⟨j, rfl, hj, HW⟩ := hrel
    by_cases hlt : j < k1.length
    · have hj0 : (0 : Int) ≤ (j : Int) := by omega
      have hj1 : (j : Int) < (k1.length : Int) := by omega
      have l2 : j < k2.length := by rw [HE.out]; exact hlt
      obtain ⟨x1, rfl, hx1, h51⟩ := HC1.out j hlt
      obtain ⟨x2, rfl, hx2, h52⟩ := HC2.out j l2
      have hbr := HB.out.trans (HW.out.mono hB)
      obtain ⟨c0, c1, c2, c3, c4⟩ := h51.below (by rw [add_block]; exact hx1) hbr
      obtain ⟨e0, e1, e2, e3, e4⟩ := h52.below (by rw [add_block]; exact hx2) hbr
      have C := fun q => IH.out j hlt l2 (wr.drewN q) (belowN hbr q) (by have := HW.out.size; simp; omega)
      unfold EqC LT.val at C
      generalize k1[j] = t1 at *
      generalize k2[j] = t2 at *
      replace C := Lib.hid C
      clear h51 h52 HC1 HC2 IH l2 hbr
      go_wp2
      go_region_with (go_at_call 10; refine (C.out 1).mono ?_; rintro e w1 ⟨rfl, hb1⟩; have HW1 := Lib.hid ((belowN HW.out 1).trans (hb1.mono (by have := HW.out.size; simp; omega))); clear hb1)
      all_goals go_wp2
      all_goals
        go_roundw
        case rel => exact ⟨j + 1, by go_num, by omega, HW1⟩
        case measure => simp [intOf]; omega
    · have hj1 : ¬ (j : Int) < (k1.length : Int) := by omega
      go_wp2
      go_ret
      exact ⟨rfl, HW.out⟩

theorem two_allocs {B : Nat} {w w' : World} (hb : Below B w w') (hB : B ≤ w'.heap.size) (o1 o2 : Obj) : Below B w ((w'.alloc o1).alloc o2) ∧ B ≤ ((w'.alloc o1).alloc o2).heap.size ∧ Below w'.heap.size w' ((w'.alloc o1).alloc o2) :=
  ⟨(hb.alloc hB _).alloc (by simp; omega) _, by simp; omega, ((Below.refl _ _).alloc (Nat.le_refl _) _).alloc (by simp) _⟩

set_option maxHeartbeats 2000000 in
theorem eq_any {w : World} {B : Nat} {t1 : LT} (h : In w B t1) : ∀ t2, In w B t2 → er t1 = er t2 → ∀ w', Below B w w' → B ≤ w'.heap.size → EqC w' t1 t2 := by
  induction h with
  | mk hk hn he hs hl hc hkids ih =>
    rename_i k n e s a cap kids
    intro t2 h2 her w' hb hB
    cases h2 with
    | mk hk2 hn2 he2 hs2 hl2 hc2 hkids2 =>
      rename_i k' n' e' s' a2 cap2 kids2
      simp only [er, erL_map, VT.mk.injEq] at her
      obtain ⟨rfl, rfl, rfl, rfl, hkk⟩ := her
      have hlen : kids2.length = kids.length := by
        have := congrArg List.length hkk
        simpa using this.symm
      have hel : ∀ i (h : i < kids.length) (h2 : i < kids2.length), er kids[i] = er kids2[i] := by
        intro i h h2
        have := congrArg (fun l => l[i]?) hkk
        simpa [h, h2] using this
      have CS := Lib.hid (eqS w B a a2 cap cap2 kids kids2 (by omega) hlen hc hc2 (fun i h h2 w'' hb' hB' => ih i h _ (hkids2 i h2) (hel i h h2) w'' hb' hB'))
      have HT := Lib.hid (two_allocs hb hB (.cells #[.int .i64 k, .int .i64 n, .int .i64 e, .string s, .slice a kids.length cap] 29) (.cells #[.int .i64 k, .int .i64 n, .int .i64 e, .string s, .slice a2 kids2.length cap2] 29))
      unfold EqC LT.val LT.row
      simp only [LT.k, LT.n, LT.e, LT.s, LT.a, LT.cap, LT.kids]
      clear hc ih hkids hb hc2 hkids2 hkk hel hlen
      go_enter Tryd.func10, Tryd.ntmps10
      go_wp2_with fail
      with_reducible refine (CS.out _ HT.out.1 HT.out.2.1).mono ?_
      rintro e1 w1 ⟨rfl, hb1⟩
      have HW1 := Lib.hid (HT.out.2.2.trans (hb1.mono HT.out.2.2.size))
      clear CS hb1
      go_wp2
      go_ret
      exact ⟨rfl, HW1.out⟩

end Go.Proofs.YtghcgkpeimpghaaDoor.val
