/-
  laws.heldValue at a value whose lists bear the marks: it finds them all.
-/
import Derived.Test.YtdbkifndhkmfgaaMarks
import Derived.Deep.RegionHeld3
namespace Go.Proofs.Ytdbkifndhkmfgaa.val
open Go.ChangeShapes Go.WideShapes Go.ChangeAt Go.RowKit
set_option maxRecDepth 100000

def HdX (t : LT) : Prop := ∀ (K : Nat) (w : World), Marked w K t → 0 < K → K + 4 * LT.nodesL t.kids ≤ 100000000 →
  Calls Try.prog 43 #[t.row, .int .i64 K] w fun e w' => e = .returned (.int .i64 ((K + 4 * LT.nodesL t.kids : Nat) : Int)) ∧ Below w.heap.size w w'

set_option maxHeartbeats 4000000 in
theorem heldX {g cap : Nat} {kk n e : Int} {s : ByteArray} {kids : List LT} (ih : ∀ i (h : i < kids.length), HdX kids[i]) : HdX (.mk kk n e s (some ⟨g, 0, none⟩) cap kids) := by
  intro k w hM h0 hk
  have IH := Lib.hid ih
  have HM := Lib.hid hM
  have HL : Hid (kids.length ≤ 1048576) := by
    cases hM with
    | mk cs hl hb hz hm hc hkids => exact hl
  clear ih hM
  unfold LT.row
  simp only [LT.a, LT.cap, LT.kids] at *
  go_enter Try.func43, Try.ntmps43
  go_wp2_with fail
  go_loopw [1, 5] (fun q i wr => ∃ (j : Nat), i = .int .i64 j ∧ j ≤ kids.length ∧ q = .int .i64 ((k + 4 * LT.nodesL (kids.take j) : Nat) : Int) ∧ Hid (Below w.heap.size w wr)) (fun _ i _ => kids.length - (intOf i).toNat)
  case atStart => exact ⟨0, rfl, by omega, by simp [LT.nodesL], Below.refl _ _⟩
  case round =>
    obtain ⟨j, rfl, hj, rfl, HB⟩ := hrel
    have hlen := HL.out
    by_cases hlt : j < kids.length
    · have hj0 : (0 : Int) ≤ (j : Int) := by omega
      have hj1 : (j : Int) < (kids.length : Int) := by omega
      have n1 := nodes_take kids j hlt
      have n2 := nodes_le kids (j + 1)
      have n3 := nodes_mk kids[j]
      have C5 := Lib.hid (IH.out j hlt)
      have hMr : Marked wr k (.mk kk n e s (some ⟨g, 0, none⟩) cap kids) := HM.out.kept fun b hb => HB.out.block b (HM.out.lt b hb)
      obtain ⟨K, hK⟩ : ∃ K, Hid (k + 4 * LT.nodesL (kids.take j) = K) := ⟨_, rfl⟩
      have hKb : K + 4 + 4 * LT.nodesL kids[j].kids ≤ 100000000 := by have := hK.out; omega
      have HK2 : Hid (k + 4 * LT.nodesL (kids.take (j + 1)) = K + 4 + 4 * LT.nodesL kids[j].kids) := by have := hK.out; unfold Hid; omega
      have hK0 : 0 < K := by have := hK.out; omega
      cases hMr with
      | mk cs hl hb hz hm hc hkids =>
        have hmj := hm j hlt
        have hcj := hc j hlt
        have HKJ := Lib.hid (hkids j hlt)
        rw [hK.out] at hmj HKJ ⊢
        clear n1 n2 n3 hc hm hkids IH
        generalize kids[j] = t at *
        have HBK := Lib.hid hb
        have d0 : wr.cell? ⟨g, j * 5, none⟩ = some (.int .i64 (K : Int)) := (cell_of_row wr _ _ _ _ (0, 0) hb).trans hmj.m0
        have d1 : wr.cell? ⟨g, j * 5 + 1, none⟩ = some (.int .i64 ((K : Int) + 1)) := (cell_of_row wr _ _ _ _ (0, 0) hb).trans hmj.m1
        have d2 : wr.cell? ⟨g, j * 5 + 2, none⟩ = some (.int .i64 ((K : Int) + 1 + 1)) := (cell_of_row wr _ _ _ _ (0, 0) hb).trans hmj.m2
        have d3 : wr.cell? ⟨g, j * 5 + 3, none⟩ = some (.string (strs.markB (K + 3))) := (cell_of_row wr _ _ _ _ (0, 0) hb).trans hmj.m3
        have d4 : wr.cell? ⟨g, j * 5 + 4, none⟩ = some t.row := (cell_of_row wr _ _ _ _ (0, 0) hb).trans hcj
        have hgl : g < wr.heap.size := (Array.getElem?_eq_some_iff.1 hb).1
        have CT : Hid (∀ w, Calls Try.prog 39 #[.int .i64 ((K : Int) + 1 + 1 + 1)] w fun e w' => e = .returned (.string (strs.markB (K + 3))) ∧ Below w.heap.size w w') := fun w => by
          have := strs.text_any (K + 3) (by omega) (by omega) w
          rwa [show ((K + 3 : Nat) : Int) = (K : Int) + 1 + 1 + 1 by omega] at this
        clear hb hmj hcj
        generalize strs.markB (K + 3) = M at *
        go_wp2_with fail
        go_region_held3 (fun w' => w'.cell? ⟨g, j * 5 + 3, none⟩ = some (.string M)) (go_keep)
          (first | (go_at_call 39; with_reducible refine (CT.out _).mono ?_; rintro r w1 ⟨rfl, hb1⟩
                    have g1 : w1.cell? ⟨g, j * 5 + 3, none⟩ = some (.string M) := (hb1.cell (p := ⟨g, j * 5 + 3, none⟩) (by simpa using hgl)).trans (by simpa using d3)))
        all_goals
          have HB1 : Hid (Below wr.heap.size wr w1) := (belowN (Below.refl _ _) 1).trans hb1
          have HBW : Hid (Below w.heap.size w w1) := HB.out.trans (HB1.out.mono HB.out.size)
          have d4' : w1.cell? ⟨g, j * 5 + 4, none⟩ = some t.row := (HB1.out.cell (p := ⟨g, j * 5 + 4, none⟩) hgl).trans d4
          have CM := C5.out (K + 4) w1 (HKJ.out.kept fun b hb => HB1.out.block b (HKJ.out.lt b hb)) (by omega) (by omega)
          rw [show ((K + 4 : Nat) : Int) = (K : Int) + 1 + 1 + 1 + 1 by omega] at CM
          replace CM := Lib.hid CM
          clear hb1 d0 d1 d2 d3 d4 CT C5 HKJ HBK HB HB1 g1
          go_wp2_with fail
          with_reducible refine CM.out.mono ?_
          rintro r5 w5 ⟨rfl, hb5⟩
          have HB5 : Hid (Below w.heap.size w w5) := HBW.out.trans (hb5.mono HBW.out.size)
          have hnn : ¬ ((K + 4 + 4 * LT.nodesL t.kids : Nat) : Int) < 0 := by omega
          clear CM hb5 d4'
          go_wp2
          go_roundw
          case rel => exact ⟨j + 1, by go_num, by omega, by rw [HK2.out]; congr 1, HB5⟩
          case measure => simp [intOf]; omega
    · have hj1 : ¬ (j : Int) < (kids.length : Int) := by omega
      have he : kids.take j = kids := List.take_of_length_le (by omega)
      rw [he]
      clear HM IH
      go_wp2
      go_ret
      exact ⟨rfl, HB.out⟩

theorem heldX_nil (k n e : Int) (s : ByteArray) (cap : Nat) : HdX (.mk k n e s none cap []) := by
  intro K w _ h0 hk
  unfold LT.row
  simp only [LT.a, LT.cap, LT.kids, List.length_nil, LT.nodesL, Nat.mul_zero, Nat.add_zero] at *
  go_enter Try.func43, Try.ntmps43
  go_wp2_with fail
  go_loop [1, 5] (fun q i => q = .int .i64 (K : Int) ∧ i = .int .i64 0) (fun _ _ => 0)
  case atStart => exact ⟨rfl, rfl⟩
  case round =>
    obtain ⟨rfl, rfl⟩ := hrel
    go_wp2
    go_ret
    exact ⟨rfl, Below.refl _ _⟩
theorem held_rowX {w : World} {K : Nat} {t : LT} (h : Marked w K t) : HdX t := by
  induction h with
  | nil => exact heldX_nil _ _ _ _ _
  | mk cs hl hb hz hm hc hkids ih => exact heldX ih
set_option maxHeartbeats 1000000 in
/-- laws.heldValue finds the marks. -/
theorem held_full {w : World} {t : LT} (h : Marked w 1 t) (hz : t.sz ≤ 1048576) :
    Calls Try.prog 23 #[.agg #[.int .i64 t.k, .int .i64 t.n, .int .i64 t.e, .string t.s, t.row], .int .i64 1] w fun e w' => e = .returned (.int .i64 ((1 + 4 * LT.nodesL t.kids : Nat) : Int)) ∧ Below w.heap.size w w' := by
  have h1 := nodesL_sz t.kids
  have h2 := sz_mk t
  have hb1 : Below w.heap.size w (w.alloc (.cells #[.int .i64 t.k, .int .i64 t.n, .int .i64 t.e, .string t.s, t.row] 36)) := (Below.refl _ _).alloc (Nat.le_refl _) _
  have C0 := held_rowX h 1 _ (h.kept fun b hb => hb1.block b (h.lt b hb)) (by omega) (by omega)
  rw [show ((1 : Nat) : Int) = 1 from rfl] at C0
  have C := Lib.hid C0
  have HB := Lib.hid hb1
  have hnn : ¬ ((1 + 4 * LT.nodesL t.kids : Nat) : Int) < 0 := by omega
  clear h hb1 h1 h2 hz C0
  generalize 1 + 4 * LT.nodesL t.kids = K at *
  unfold LT.row at *
  go_enter Try.func23, Try.ntmps23
  go_wp2_with fail
  with_reducible refine C.out.mono ?_
  rintro e w1 ⟨rfl, b1⟩
  have B2 := Lib.hid (HB.out.trans (b1.mono HB.out.size))
  clear C b1
  go_wp2
  go_ret
  exact ⟨rfl, B2.out⟩

end Go.Proofs.Ytdbkifndhkmfgaa.val
