/-
  laws.eqValue of two values that tell the same: true.
-/
import Derived.Test.YtnaghafmpncdkaaDoorGetCborJ0
import Derived.Test.YtnaghafmpncdkaaDoorGetCborJ2
namespace Go.Proofs.YtnaghafmpncdkaaDoor.val
open Go.ChangeShapes Go.WideShapes Go.ChangeAt Go.RowKit
set_option maxRecDepth 100000

def EqC (w' : World) (t1 t2 : LT) : Prop := Calls Tryd.prog 9 #[t1.val, t2.val] w' fun e w'' => e = .returned (.bool true) ∧ Below w'.heap.size w' w''
theorem belowN' {B : Nat} {a w : World} (h : Below B a w) : Below B a w.drew := h.drew

set_option maxHeartbeats 2000000 in
theorem eqS (w : World) (B : Nat) (a1 a2 : Option Addr) (cap1 cap2 : Nat) (k1 k2 : List LT) (hl : k1.length ≤ 9223372036854775807) (he : k2.length = k1.length)
    (hc1 : ∀ i (h : i < k1.length), ∃ x, a1 = some x ∧ x.block < B ∧ At5 w (x.add (i * 5)) k1[i]) (hc2 : ∀ i (h : i < k2.length), ∃ x, a2 = some x ∧ x.block < B ∧ At5 w (x.add (i * 5)) k2[i])
    (ih : ∀ i (h : i < k1.length) (h2 : i < k2.length), ∀ w', Below B w w' → B ≤ w'.heap.size → EqC w' k1[i] k2[i]) :
    ∀ w', Below B w w' → B ≤ w'.heap.size → Calls Tryd.prog 29 #[.slice a1 k1.length cap1, .slice a2 k2.length cap2] w' fun e w'' => e = .returned (.bool true) ∧ Below w'.heap.size w' w'' := by
  intro w' hb hB
  have HC1 := Lib.hid hc1
  have HC2 := Lib.hid hc2
  have IH := Lib.hid ih
  have HB := Lib.hid hb
  have HE := Lib.hid he
  rw [he]
  clear hc1 hc2 ih hb he
  go_enter Tryd.func29, Tryd.ntmps29
  go_wp2
  go_loopw [5] (fun i wr => ∃ j : Nat, i = .int .i64 j ∧ j ≤ k1.length ∧ Hid (Below w'.heap.size w' wr)) (fun i _ => k1.length - (intOf i).toNat)
  case atStart => exact ⟨0, rfl, by omega, Below.refl _ _⟩
  case round =>
    obtain ⟨j, rfl, hj, HW⟩ := hrel
    by_cases hlt : j < k1.length
    · have hj0 : (0 : Int) ≤ (j : Int) := by omega
      have hj1 : (j : Int) < (k1.length : Int) := by omega
      have l2 : j < k2.length := by rw [HE.out]; exact hlt
      obtain ⟨x1, rfl, hx1, h51⟩ := HC1.out j hlt
      obtain ⟨x2, rfl, hx2, h52⟩ := HC2.out j l2
      have hbr := HB.out.trans (HW.out.mono hB)
      obtain ⟨c0, c1, c2, c3, c4⟩ := h51.below (by rw [add_block]; exact hx1) hbr
      obtain ⟨e0, e1, e2, e3, e4⟩ := h52.below (by rw [add_block]; exact hx2) hbr
      have C := fun q => IH.out j hlt l2 (wr.drewN q) (belowN hbr q) (by have := HW.out.size; simp; omega)
      unfold EqC LT.val at C
      generalize k1[j] = t1 at *
      generalize k2[j] = t2 at *
      replace C := Lib.hid C
      clear h51 h52 HC1 HC2 IH l2 hbr
      go_wp2
      go_region_with (go_at_call 9; refine (C.out 1).mono ?_; rintro e w1 ⟨rfl, hb1⟩; have HW1 := Lib.hid ((belowN HW.out 1).trans (hb1.mono (by have := HW.out.size; simp; omega))); clear hb1)
      all_goals go_wp2
      all_goals
        go_roundw
        case rel => exact ⟨j + 1, by go_num, by omega, HW1⟩
        case measure => simp [intOf]; omega
    · have hj1 : ¬ (j : Int) < (k1.length : Int) := by omega
      go_wp2
      go_ret
      exact ⟨rfl, HW.out⟩

theorem two_allocs {B : Nat} {w w' : World} (hb : Below B w w') (hB : B ≤ w'.heap.size) (o1 o2 : Obj) : Below B w ((w'.alloc o1).alloc o2) ∧ B ≤ ((w'.alloc o1).alloc o2).heap.size ∧ Below w'.heap.size w' ((w'.alloc o1).alloc o2) :=
  ⟨(hb.alloc hB _).alloc (by simp; omega) _, by simp; omega, ((Below.refl _ _).alloc (Nat.le_refl _) _).alloc (by simp) _⟩

set_option maxHeartbeats 2000000 in
theorem eq_any {w : World} {B : Nat} {t1 : LT} (h : In w B t1) : ∀ t2, In w B t2 → er t1 = er t2 → ∀ w', Below B w w' → B ≤ w'.heap.size → EqC w' t1 t2 := by
  induction h with
  | mk hk hn he hs hl hc hkids ih =>
    rename_i k n e s a cap kids
    intro t2 h2 her w' hb hB
    cases h2 with
    | mk hk2 hn2 he2 hs2 hl2 hc2 hkids2 =>
      rename_i k' n' e' s' a2 cap2 kids2
      simp only [er, erL_map, VT.mk.injEq] at her
      obtain ⟨rfl, rfl, rfl, rfl, hkk⟩ := her
      have hlen : kids2.length = kids.length := by
        have := congrArg List.length hkk
        simpa using this.symm
      have hel : ∀ i (h : i < kids.length) (h2 : i < kids2.length), er kids[i] = er kids2[i] := by
        intro i h h2
        have := congrArg (fun l => l[i]?) hkk
        simpa [h, h2] using this
      have CS := Lib.hid (eqS w B a a2 cap cap2 kids kids2 (by omega) hlen hc hc2 (fun i h h2 w'' hb' hB' => ih i h _ (hkids2 i h2) (hel i h h2) w'' hb' hB'))
      have HT := Lib.hid (two_allocs hb hB (.cells #[.int .i64 k, .int .i64 n, .int .i64 e, .string s, .slice a kids.length cap] 24) (.cells #[.int .i64 k, .int .i64 n, .int .i64 e, .string s, .slice a2 kids2.length cap2] 24))
      unfold EqC LT.val LT.row
      simp only [LT.k, LT.n, LT.e, LT.s, LT.a, LT.cap, LT.kids]
      clear hc ih hkids hb hc2 hkids2 hkk hel hlen
      go_enter Tryd.func9, Tryd.ntmps9
      go_wp2_with fail
      with_reducible refine (CS.out _ HT.out.1 HT.out.2.1).mono ?_
      rintro e1 w1 ⟨rfl, hb1⟩
      have HW1 := Lib.hid (HT.out.2.2.trans (hb1.mono HT.out.2.2.size))
      clear CS hb1
      go_wp2
      go_ret
      exact ⟨rfl, HW1.out⟩

end Go.Proofs.YtnaghafmpncdkaaDoor.val
/-
  What laws.szValue returns: what is left behind a value's letters and elements, or -1.
-/
namespace Go.Proofs.YtnaghafmpncdkaaDoor.val
open Go.ChangeShapes Go.WideShapes Go.ChangeAt Go.RowKit
set_option maxRecDepth 100000

def left (L z : Nat) : Int := if z ≤ L then (L : Int) - z else -1
def SzC (w' : World) (t : LT) : Prop := ∀ L : Nat, L ≤ 1048576 → Calls Tryd.prog 16 #[t.val, .int .i64 L] w' fun e w'' => e = .returned (.int .i64 (left L t.sz)) ∧ Below w'.heap.size w' w''

set_option maxHeartbeats 1000000 in
theorem szS (w : World) (B : Nat) (a : Option Addr) (cap : Nat) (kids : List LT) (hl : kids.length ≤ 9223372036854775807) (hc : ∀ i (h : i < kids.length), ∃ x, a = some x ∧ x.block < B ∧ At5 w (x.add (i * 5)) kids[i])
    (ih : ∀ i (h : i < kids.length), ∀ w', Below B w w' → B ≤ w'.heap.size → SzC w' kids[i]) :
    ∀ w', Below B w w' → B ≤ w'.heap.size → ∀ L : Nat, L ≤ 1048576 → Calls Tryd.prog 36 #[.slice a kids.length cap, .int .i64 L] w' fun e w'' => e = .returned (.int .i64 (left L (LT.szL kids))) ∧ Below w'.heap.size w' w'' := by
  intro w' hb hB L hL
  have HC := Lib.hid hc
  have IH := Lib.hid ih
  have HB := Lib.hid hb
  clear hc ih hb
  have hlen := szL_len kids
  by_cases h0 : kids.length ≤ L
  · have h0' : ¬ (L : Int) - (kids.length : Int) < 0 := by omega
    go_enter Tryd.func36, Tryd.ntmps36
    go_wp2
    go_loopw [1, 5] (fun l i wr => ∃ (j r : Nat), j ≤ kids.length ∧ i = .int .i64 j ∧ l = .int .i64 (r : Int) ∧ r ≤ L ∧ Hid (L + j = r + kids.length + LT.szL (kids.take j)) ∧ Hid (Below w'.heap.size w' wr)) (fun _ i _ => kids.length - (intOf i).toNat)
    case atStart => exact ⟨0, L - kids.length, by omega, rfl, by congr 1; omega, by omega, by simp [Hid, LT.szL]; omega, Below.refl _ _⟩
    case round =>
      obtain ⟨j, r, hj, rfl, rfl, hr, HZ, HW⟩ := hrel
      by_cases hlt : j < kids.length
      · have hj0 : (0 : Int) ≤ (j : Int) := by omega
        have hj1 : (j : Int) < (kids.length : Int) := by omega
        obtain ⟨x, rfl, hx, h5⟩ := HC.out j hlt
        obtain ⟨c0, c1, c2, c3, c4⟩ := h5.below (by rw [add_block]; exact hx) (HB.out.trans (HW.out.mono hB))
        have C := (IH.out j hlt wr (HB.out.trans (HW.out.mono hB)) (Nat.le_trans hB HW.out.size) r (by omega))
        have HT := Lib.hid (szL_take kids j hlt)
        have HLE := Lib.hid (szL_rest kids (j + 1) (by omega))
        clear h5 HC IH
        unfold LT.val at C
        generalize kids[j].sz = z at *
        generalize kids[j] = t at *
        replace C := Lib.hid C
        by_cases hz : z ≤ r
        · have e : left r z = ((r - z : Nat) : Int) := by unfold left; rw [if_pos hz]; omega
          rw [e] at C
          have hnn : ¬ ((r - z : Nat) : Int) < 0 := by omega
          clear e
          go_wp2_with fail
          with_reducible refine C.out.mono ?_
          rintro e w1 ⟨rfl, hb1⟩
          have HW1 := Lib.hid (HW.out.trans (hb1.mono HW.out.size))
          clear C hb1 c0 c1 c2 c3 c4 HW
          go_wp2
          go_roundw
          case rel => exact ⟨j + 1, r - z, by omega, by go_num, rfl, by omega, by have := HZ.out; have := HT.out; unfold Hid; omega, HW1⟩
          case measure => simp [intOf]; omega
        · have e : left r z = -1 := by unfold left; rw [if_neg hz]
          rw [e] at C
          have hr2 : Hid (left L (LT.szL kids) = -1) := by
            have := HZ.out; have := HT.out; have := HLE.out
            unfold left Hid; rw [if_neg (by omega)]
          clear e
          go_wp2_with fail
          with_reducible refine C.out.mono ?_
          rintro e w1 ⟨rfl, hb1⟩
          have HW1 := Lib.hid (HW.out.trans (hb1.mono HW.out.size))
          clear C hb1 c0 c1 c2 c3 c4 HW
          go_wp2
          go_ret
          exact ⟨by rw [hr2.out]; rfl, HW1.out⟩
      · have hj1 : ¬ (j : Int) < (kids.length : Int) := by omega
        have hr2 : Hid (left L (LT.szL kids) = (r : Int)) := by
          have := HZ.out
          rw [List.take_of_length_le (by omega)] at this
          unfold left Hid; rw [if_pos (by omega)]; omega
        go_wp2
        go_ret
        exact ⟨by rw [hr2.out]; rfl, HW.out⟩
  · have h0' : (L : Int) - (kids.length : Int) < 0 := by omega
    have hr : left L (LT.szL kids) = -1 := by unfold left; rw [if_neg (by omega)]
    rw [hr]
    go_enter Tryd.func36, Tryd.ntmps36
    go_wp2
    go_ret
    exact ⟨rfl, Below.refl _ _⟩

set_option maxHeartbeats 1000000 in
theorem sz_any {w : World} {B : Nat} {t : LT} (h : In w B t) : ∀ w', Below B w w' → B ≤ w'.heap.size → SzC w' t := by
  induction h with
  | mk hk hn he hs hl hc hkids ih =>
    rename_i k n e s a cap kids
    intro w' hb hB L hL
    have CS := fun L' hL' => szS w B a cap kids (by omega) hc ih (w'.alloc (.cells #[.int .i64 k, .int .i64 n, .int .i64 e, .string s, .slice a kids.length cap] 35)) (hb.alloc hB _) (by simp; omega) L' hL'
    have HBA : Hid (Below w'.heap.size w' (w'.alloc (.cells #[.int .i64 k, .int .i64 n, .int .i64 e, .string s, .slice a kids.length cap] 35))) := (Below.refl _ _).alloc (Nat.le_refl _) _
    rw [sz_mk]
    unfold LT.val LT.row
    simp only [LT.k, LT.n, LT.e, LT.s, LT.a, LT.cap, LT.kids]
    generalize LT.szL kids = z at *
    clear hc ih hkids
    by_cases h1 : s.size ≤ L
    · have h1' : ¬ (L : Int) - (s.size : Int) < 0 := by omega
      have C := Lib.hid (CS (L - s.size) (by omega))
      rw [show ((L - s.size : Nat) : Int) = (L : Int) - (s.size : Int) by omega] at C
      clear CS
      by_cases h2 : z ≤ L - s.size
      · have e1 : left (L - s.size) z = ((L - s.size - z : Nat) : Int) := by unfold left; rw [if_pos h2]; omega
        have e2 : left L (s.size + z) = ((L - s.size - z : Nat) : Int) := by unfold left; rw [if_pos (by omega)]; omega
        rw [e1] at C
        rw [e2]
        have hnn : ¬ ((L - s.size - z : Nat) : Int) < 0 := by omega
        clear e1 e2
        go_enter Tryd.func16, Tryd.ntmps16
        go_wp2_with fail
        with_reducible refine C.out.mono ?_
        rintro e w1 ⟨rfl, hb1⟩
        have HW1 := Lib.hid (HBA.out.trans (hb1.mono HBA.out.size))
        clear C hb1
        go_wp2
        go_ret
        exact ⟨rfl, HW1.out⟩
      · have e1 : left (L - s.size) z = -1 := by unfold left; rw [if_neg h2]
        have e2 : left L (s.size + z) = -1 := by unfold left; rw [if_neg (by omega)]
        rw [e1] at C
        rw [e2]
        clear e1 e2
        go_enter Tryd.func16, Tryd.ntmps16
        go_wp2_with fail
        with_reducible refine C.out.mono ?_
        rintro e w1 ⟨rfl, hb1⟩
        have HW1 := Lib.hid (HBA.out.trans (hb1.mono HBA.out.size))
        clear C hb1
        go_wp2
        go_ret
        exact ⟨rfl, HW1.out⟩
    · have h1' : (L : Int) - (s.size : Int) < 0 := by omega
      have e2 : left L (s.size + z) = -1 := by unfold left; rw [if_neg (by omega)]
      rw [e2]
      clear e2 CS
      go_enter Tryd.func16, Tryd.ntmps16
      go_wp2
      go_ret
      exact ⟨rfl, HBA.out⟩

end Go.Proofs.YtnaghafmpncdkaaDoor.val
/-
  A value in a box of five cells; what stays where only blocks in between are written. For the laws on values.
-/
namespace Go.Proofs.YtnaghafmpncdkaaDoor.val
open Go.ChangeShapes Go.WideShapes Go.ChangeAt Go.RowKit
set_option maxRecDepth 100000

structure Box (w : World) (N : Nat) (t : LT) : Prop where
  b0 : w.cell? ⟨N, 0, none⟩ = some (.int .i64 t.k)
  b1 : w.cell? ⟨N, 1, none⟩ = some (.int .i64 t.n)
  b2 : w.cell? ⟨N, 2, none⟩ = some (.int .i64 t.e)
  b3 : w.cell? ⟨N, 3, none⟩ = some (.string t.s)
  b4 : w.cell? ⟨N, 4, none⟩ = some t.row
theorem Box.lt {w : World} {N : Nat} {t : LT} (h : Box w N t) : N < w.heap.size := World.block_lt_of_cell? w _ h.b0
theorem Box.of_block {w w' : World} {N : Nat} {t : LT} (h : Box w N t) (hb : w'.heap[N]? = w.heap[N]?) : Box w' N t := by
  have c : ∀ j, w'.cell? ⟨N, j, none⟩ = w.cell? ⟨N, j, none⟩ := fun j => World.cell?_of_block hb
  exact ⟨(c _).trans h.b0, (c _).trans h.b1, (c _).trans h.b2, (c _).trans h.b3, (c _).trans h.b4⟩
theorem Box.behind {w w' : World} {N : Nat} {t : LT} (h : Box w N t) (hb : Below w.heap.size w w') : Box w' N t := h.of_block (hb.block N h.lt)
theorem Box.drewN {w : World} {N : Nat} {t : LT} (h : Box w N t) (n : Nat) : Box (w.drewN n) N t := h.of_block rfl
theorem Box.new (w : World) (t : LT) (T : TypeId) : Box (w.alloc (.cells #[.int .i64 t.k, .int .i64 t.n, .int .i64 t.e, .string t.s, t.row] T)) w.heap.size t := by
  have hb := heap_alloc_new w (.cells #[.int .i64 t.k, .int .i64 t.n, .int .i64 t.e, .string t.s, t.row] T)
  exact ⟨cell_of_row _ _ 0 _ _ (0, 0) hb, cell_of_row _ _ 1 _ _ (0, 0) hb, cell_of_row _ _ 2 _ _ (0, 0) hb, cell_of_row _ _ 3 _ _ (0, 0) hb, cell_of_row _ _ 4 _ _ (0, 0) hb⟩
theorem Box.touched {w w' : World} {lo hi N : Nat} {t : LT} (h : Box w N t) (ht : Touched lo hi w w') (hn : N < lo ∨ hi ≤ N) : Box w' N t := h.of_block (ht.out N h.lt hn)
theorem Box.grown {w w' : World} {N : Nat} {t : LT} {row : Option Nat} (h : Box w N t) (hg : w.grownBy w' row) (hn : some N ≠ row) : Box w' N t := h.of_block (hg.block N h.lt hn)
theorem own_touched {α : Type} {w w' : World} {lo hi base : Nat} {e : TypeId} {enc : α → Value} {v : Value} {l : List α} (h : OwnL w base e enc v l) (ht : Touched lo hi w w') (hn : ∀ k, v.ownBlock = some k → k < lo ∨ hi ≤ k) : OwnL w' base e enc v l := by
  obtain ⟨h1, h2⟩ := h
  refine ⟨h1, ?_⟩
  rcases h2 with h2 | ⟨g, cap, cur, rfl, hb, hg, rest⟩
  · exact .inl h2
  · refine .inr ⟨g, cap, cur, rfl, hb, ?_, rest⟩
    rw [ht.out g (Array.getElem?_eq_some_iff.1 hg).1 (hn g rfl)]
    exact hg
theorem Own.drewN {w : World} {lo hi : Nat} {t : LT} (h : Own w lo hi t) (n : Nat) : Own (w.drewN n) lo hi t := h.kept (Nat.le_refl _) (Nat.le_refl _) fun _ _ _ => rfl
theorem In.mono {w : World} {B B' : Nat} {t : LT} (h : In w B t) (hB : B ≤ B') : In w B' t := by
  induction h with
  | mk k1 k2 k3 k4 k5 hc _ ih => exact .mk k1 k2 k3 k4 k5 (fun i hi => by obtain ⟨x, h1, h2, h3⟩ := hc i hi; exact ⟨x, h1, by omega, h3⟩) ih

/-! The three beginnings of a law, for all worlds behind the first. -/
def ToL (w : World) (t : LT) : Prop := ∀ w', Below w.heap.size w w' → Calls Tryd.prog 19 #[.agg #[.int .i64 t.k, .int .i64 t.n, .int .i64 t.e, .string t.s, t.row]] w' fun e w'' => ∃ t' : LT, e = .returned (.agg #[.int .i64 t'.k, .int .i64 t'.n, .int .i64 t'.e, .string t'.s, t'.row]) ∧ er t' = er t ∧ Own w'' w'.heap.size w''.heap.size t' ∧ Below w'.heap.size w' w''
theorem toL {w : World} {t : LT} (h : In w w.heap.size t) (hz : t.sz ≤ 1048576) : ToL w t := fun w' hb => to_any h hz w' hb hb.size
theorem ToL.run {w : World} {t : LT} (h : ToL w t) (w' : World) (hb : Below w.heap.size w w') : Calls Tryd.prog 19 #[.agg #[.int .i64 t.k, .int .i64 t.n, .int .i64 t.e, .string t.s, t.row]] w' fun e w'' => ∃ t' : LT, e = .returned (.agg #[.int .i64 t'.k, .int .i64 t'.n, .int .i64 t'.e, .string t'.s, t'.row]) ∧ er t' = er t ∧ Own w'' w'.heap.size w''.heap.size t' ∧ Below w'.heap.size w' w'' := h w' hb
theorem szL_any {w w' : World} {t : LT} (h : In w w.heap.size t) (hb : Below w.heap.size w w') (L : Nat) (hL : L ≤ 1048576) :
    Calls Tryd.prog 16 #[.agg #[.int .i64 t.k, .int .i64 t.n, .int .i64 t.e, .string t.s, t.row], .int .i64 L] w' fun e w'' => e = .returned (.int .i64 (left L t.sz)) ∧ Below w'.heap.size w' w'' := sz_any h w' hb hb.size L hL
theorem szYes {w w' : World} {t : LT} (h : In w w.heap.size t) (hb : Below w.heap.size w w') (hz : t.sz ≤ 1048576) :
    Calls Tryd.prog 16 #[.agg #[.int .i64 t.k, .int .i64 t.n, .int .i64 t.e, .string t.s, t.row], .int .i64 1048576] w' fun e w'' => e = .returned (.int .i64 ((1048576 - t.sz : Nat) : Int)) ∧ Below w'.heap.size w' w'' := by
  have h1 := szL_any h hb 1048576 (by omega)
  have e1 : left 1048576 t.sz = ((1048576 - t.sz : Nat) : Int) := by unfold left; rw [if_pos hz]; omega
  rw [e1] at h1
  exact h1
theorem szNo {w w' : World} {t : LT} (h : In w w.heap.size t) (hb : Below w.heap.size w w') (hz : ¬ t.sz ≤ 1048576) :
    Calls Tryd.prog 16 #[.agg #[.int .i64 t.k, .int .i64 t.n, .int .i64 t.e, .string t.s, t.row], .int .i64 1048576] w' fun e w'' => e = .returned (.int .i64 (-1)) ∧ Below w'.heap.size w' w'' := by
  have h1 := szL_any h hb 1048576 (by omega)
  have e1 : left 1048576 t.sz = -1 := by unfold left; rw [if_neg hz]
  rw [e1] at h1
  exact h1
theorem eqL_any {w : World} {t1 t2 : LT} (h1 : In w w.heap.size t1) (h2 : In w w.heap.size t2) (he : er t1 = er t2) :
    Calls Tryd.prog 9 #[.agg #[.int .i64 t1.k, .int .i64 t1.n, .int .i64 t1.e, .string t1.s, t1.row], .agg #[.int .i64 t2.k, .int .i64 t2.n, .int .i64 t2.e, .string t2.s, t2.row]] w fun e w'' => e = .returned (.bool true) ∧ Below w.heap.size w w'' := eq_any h1 t2 h2 he w (Below.refl _ _) (Nat.le_refl _)
theorem markL {w : World} {lo hi : Nat} {t : LT} (h : Own w lo hi t) (hz : t.sz ≤ 1048576) (hh : hi ≤ w.heap.size) :
    Calls Tryd.prog 10 #[.agg #[.int .i64 t.k, .int .i64 t.n, .int .i64 t.e, .string t.s, t.row], .int .i64 1] w fun e w' => ∃ K : Nat, K ≤ 100000000 ∧ e = .returned (.int .i64 (K : Int)) ∧ Touched lo hi w w' := by
  have h1 := nodesL_sz t.kids
  have h2 := sz_mk t
  exact (mark_any (k := 1) (h.shp hz) hh (by omega) (by omega)).mono fun _ _ ⟨he, ht⟩ => ⟨_, by omega, he, ht⟩
theorem below_of2 {w w1 w2 : World} (hb : Below w.heap.size w w1) (hg : Below w1.heap.size w1 w2) : Below w.heap.size w w2 := hb.trans (hg.mono hb.size)

end Go.Proofs.YtnaghafmpncdkaaDoor.val
