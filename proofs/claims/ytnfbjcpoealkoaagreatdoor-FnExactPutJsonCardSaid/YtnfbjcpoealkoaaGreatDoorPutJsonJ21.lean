/-
  What spec.Nodes, spec.Deep and spec.Count return.
-/
import Derived.Test.YtnfbjcpoealkoaaGreatDoorPutJsonJ20
namespace Go.Proofs.YtnfbjcpoealkoaaGreatDoor.val
open Go.ChangeShapes Go.WideShapes Go.ChangeAt Go.RowKit
set_option maxRecDepth 100000

/-- A function of one value and perhaps a number returns the number F of every value. -/
def TellC (w : World) (B : Nat) (t : LT) (fn : FuncId) (more : Array Value) (F : VT → Nat) : Prop := t.nodes ≤ 2000000 → ∀ w', Below B w w' → B ≤ w'.heap.size → Calls Tryz.prog fn (#[.agg #[.int .i64 t.k, .int .i64 t.n, .int .i64 t.e, .string t.s, t.row]] ++ more) w' fun e w'' => e = .returned (.int .i64 (F (er t) : Int)) ∧ Below w'.heap.size w' w''

theorem wrap_one (a : Nat) (h : a ≤ 2000000) : wrap64 ((a : Int) + 1) = ((a + 1 : Nat) : Int) := by unfold wrap64; omega
theorem deep_wrap (t : LT) (l : List LT) (h : t.nodes ≤ LT.nodesL l) (h2 : LT.nodesL l ≤ 2000000) : wrap64 (((er t).deep : Int) + 1) = (((er t).deep + 1 : Nat) : Int) := by
  have h1 := deep_le (er t)
  rw [nodes_er] at h1
  generalize (er t).deep = d at *
  exact wrap_one d (by omega)
structure Held4 (wr : World) (N : Nat) (k : Int) (row : Value) : Prop where
  c0 : wr.cell? ⟨N, 0, none⟩ = some (.int .i64 k)
  c4 : wr.cell? ⟨N, 4, none⟩ = some row
theorem held4_of {w' wr : World} {k n e : Int} {s : ByteArray} {row : Value} {T : TypeId} (h : Below (w'.heap.size + 1) (w'.alloc (.cells #[.int .i64 k, .int .i64 n, .int .i64 e, .string s, row] T)) wr) : Held4 wr w'.heap.size k row := by
  have hb := heap_alloc_new w' (.cells #[.int .i64 k, .int .i64 n, .int .i64 e, .string s, row] T)
  have hb2 := (h.block w'.heap.size (by omega)).trans hb
  exact ⟨cell_of_row wr _ 0 _ _ (0, 0) hb2, cell_of_row wr _ 4 _ _ (0, 0) hb2⟩

set_option maxHeartbeats 1000000 in
theorem spec_nodes {w : World} {B : Nat} {t : LT} (h : In w B t) : TellC w B t 155 #[] VT.nodes := by
  induction h with
  | mk hk hn he hs hl hc hkids ih =>
    rename_i k n e s a cap kids
    intro hz w' hb hB
    have HC := Lib.hid hc
    have IH := Lib.hid ih
    have HB := Lib.hid hb
    have hml : (kids.map er).length = kids.length := by simp
    have HZK : Hid (LT.nodesL kids ≤ 2000000) := by rw [LT.nodes] at hz; unfold Hid; omega
    have HBA : Hid (Below (w'.heap.size + 1) (w'.alloc (.cells #[.int .i64 k, .int .i64 n, .int .i64 e, .string s, .slice a kids.length cap] 46)) (w'.alloc (.cells #[.int .i64 k, .int .i64 n, .int .i64 e, .string s, .slice a kids.length cap] 46))) := Below.refl _ _
    have HA : Hid (Below w'.heap.size w' (w'.alloc (.cells #[.int .i64 k, .int .i64 n, .int .i64 e, .string s, .slice a kids.length cap] 46))) := (Below.refl _ _).alloc (Nat.le_refl _) _
    have HR : Hid ((er (.mk k n e s a cap kids)).nodes = 1 + VT.nodesL ((kids.map er).take kids.length)) := by
      unfold Hid; rw [er, VT.nodes, erL_map, List.take_of_length_le (by omega)]
    have hkl : kids.length ≤ 9223372036854775807 := by omega
    unfold LT.row
    simp only [LT.k, LT.n, LT.e, LT.s, LT.a, LT.cap, LT.kids, Array.append_empty]
    generalize (er (.mk k n e s a cap kids)).nodes = R at *
    clear hc ih hkids hb hz
    go_enter Tryz.func155, Tryz.ntmps155
    go_wp2_with fail
    go_loopw [3, 4] (fun v i wr => ∃ (j m : Nat), i = .int .i64 j ∧ j ≤ kids.length ∧ v = .int .i64 (m : Int) ∧ Hid (m = 1 + VT.nodesL ((kids.map er).take j)) ∧ w'.heap.size + 1 ≤ wr.heap.size ∧ Hid (Below (w'.heap.size + 1) (w'.alloc (.cells #[.int .i64 k, .int .i64 n, .int .i64 e, .string s, .slice a kids.length cap] 46)) wr)) (fun _ i _ => kids.length - (intOf i).toNat)
    case atStart => exact ⟨0, 1, rfl, by omega, rfl, by simp [Hid, VT.nodesL], by simp, HBA⟩
    case round =>
      clear HBA
      obtain ⟨j, m, rfl, hj, rfl, HM, hwz, HW⟩ := hrel
      obtain ⟨x0, x4⟩ := held4_of HW.out
      by_cases hlt : j < kids.length
      · have hj0 : (0 : Int) ≤ (j : Int) := by omega
        have hj1 : (j : Int) < (kids.length : Int) := by omega
        obtain ⟨x, rfl, hx, h5⟩ := HC.out j hlt
        have hbr := HB.out.trans ((HA.out.trans (HW.out.mono (by omega))).mono hB)
        obtain ⟨c0, c1, c2, c3, c4⟩ := h5.below (by rw [add_block]; exact hx) hbr
        have hkn := kid_nodes kids j hlt
        have C := IH.out j hlt (by have := HZK.out; omega) wr hbr (by omega)
        have HT := nodesL_take (kids.map er) j (by omega)
        have HTL := nodesL_take_le (kids.map er) (j + 1)
        rw [← erL_map, nodesL_er, erL_map] at HTL
        rw [List.getElem_map] at HT
        have hwrap : wrap64 ((m : Int) + ((er kids[j]).nodes : Int)) = ((m + (er kids[j]).nodes : Nat) : Int) := wrap_add _ _ (by have := HM.out; have := HZK.out; omega)
        have HM1 : Hid (m + (er kids[j]).nodes = 1 + VT.nodesL ((kids.map er).take (j + 1))) := by have := HM.out; unfold Hid; omega
        simp only [Array.append_empty] at C
        generalize (er kids[j]).nodes = z at *
        generalize kids[j] = t at *
        have hrow : t.row = .slice t.a t.kids.length t.cap := rfl
        rw [hrow] at C c4
        replace C := Lib.hid C
        clear h5 hbr HT HTL hkn HC IH HB hrow
        go_wp2_with fail
        with_reducible refine C.out.mono ?_
        rintro e w1 ⟨rfl, hb1⟩
        have HW1 := Lib.hid (HW.out.trans (hb1.mono (by omega)))
        have hz1 := Nat.le_trans hwz hb1.size
        clear C hb1 c0 c1 c2 c3 c4 HW x0 x4
        go_wp2
        go_roundw
        case rel => exact ⟨j + 1, m + z, by go_num, by omega, by rw [hwrap], HM1, hz1, HW1⟩
        case measure => simp [intOf]; omega
      · have hj1 : ¬ (j : Int) < (kids.length : Int) := by omega
        have he : j = kids.length := by omega
        subst he
        have HF : Hid (m = R) := by have := HM.out; have := HR.out; unfold Hid; omega
        have HBF := Lib.hid (HA.out.trans (HW.out.mono (by omega)))
        clear HC IH HB
        go_wp2
        go_ret
        exact ⟨by rw [HF.out]; rfl, HBF.out⟩

set_option maxHeartbeats 1000000 in
theorem spec_count (kd : Int) {w : World} {B : Nat} {t : LT} (h : In w B t) : TellC w B t 108 #[.int .i64 kd] (VT.count kd) := by
  induction h with
  | mk hk hn he hs hl hc hkids ih =>
    rename_i k n e s a cap kids
    intro hz w' hb hB
    have HC := Lib.hid hc
    have IH := Lib.hid ih
    have HB := Lib.hid hb
    have hml : (kids.map er).length = kids.length := by simp
    have HZK : Hid (LT.nodesL kids ≤ 2000000) := by rw [LT.nodes] at hz; unfold Hid; omega
    have HBA : Hid (Below (w'.heap.size + 1) (w'.alloc (.cells #[.int .i64 k, .int .i64 n, .int .i64 e, .string s, .slice a kids.length cap] 46)) (w'.alloc (.cells #[.int .i64 k, .int .i64 n, .int .i64 e, .string s, .slice a kids.length cap] 46))) := Below.refl _ _
    have HA : Hid (Below w'.heap.size w' (w'.alloc (.cells #[.int .i64 k, .int .i64 n, .int .i64 e, .string s, .slice a kids.length cap] 46))) := (Below.refl _ _).alloc (Nat.le_refl _) _
    have HR : Hid ((er (.mk k n e s a cap kids)).count kd = (if k = kd then 1 else 0) + VT.countL kd ((kids.map er).take kids.length)) := by
      unfold Hid; rw [er, VT.count, erL_map, List.take_of_length_le (by omega)]
    have hkl : kids.length ≤ 9223372036854775807 := by omega
    unfold LT.row
    simp only [LT.k, LT.n, LT.e, LT.s, LT.a, LT.cap, LT.kids, List.append_toArray, List.cons_append, List.nil_append]
    generalize (er (.mk k n e s a cap kids)).count kd = R at *
    clear hc ih hkids hb hz
    by_cases hkd : k = kd
    · subst hkd
      have hK1 : (if k = k then 1 else 0 : Nat) = 1 := if_pos rfl
      rw [hK1] at HR
      have hK2 : (1 : Nat) ≤ 1 := Nat.le_refl _
      go_enter Tryz.func108, Tryz.ntmps108
      go_wp2_with fail
      go_loopw [5, 6] (fun v i wr => ∃ (j m : Nat), i = .int .i64 j ∧ j ≤ kids.length ∧ v = .int .i64 (m : Int) ∧ Hid (m = 1 + VT.countL k ((kids.map er).take j)) ∧ w'.heap.size + 1 ≤ wr.heap.size ∧ Hid (Below (w'.heap.size + 1) (w'.alloc (.cells #[.int .i64 k, .int .i64 n, .int .i64 e, .string s, .slice a kids.length cap] 46)) wr)) (fun _ i _ => kids.length - (intOf i).toNat)
      case atStart => exact ⟨0, 1, rfl, by omega, rfl, by simp [Hid, VT.countL], by simp, HBA⟩
      case round =>
        clear HBA
        obtain ⟨j, m, rfl, hj, rfl, HM, hwz, HW⟩ := hrel
        obtain ⟨x0, x4⟩ := held4_of HW.out
        by_cases hlt : j < kids.length
        · have hj0 : (0 : Int) ≤ (j : Int) := by omega
          have hj1 : (j : Int) < (kids.length : Int) := by omega
          obtain ⟨x, rfl, hx, h5⟩ := HC.out j hlt
          have hbr := HB.out.trans ((HA.out.trans (HW.out.mono (by omega))).mono hB)
          obtain ⟨c0, c1, c2, c3, c4⟩ := h5.below (by rw [add_block]; exact hx) hbr
          have hkn := kid_nodes kids j hlt
          have C := IH.out j hlt (by have := HZK.out; omega) wr hbr (by omega)
          have HT := countL_take k (kids.map er) j (by omega)
          have HCL := countL_le k ((kids.map er).take (j + 1))
          have HTL := nodesL_take_le (kids.map er) (j + 1)
          rw [← erL_map, nodesL_er, erL_map] at HTL
          rw [List.getElem_map] at HT
          have hwrap : wrap64 ((m : Int) + ((er kids[j]).count k : Int)) = ((m + (er kids[j]).count k : Nat) : Int) := wrap_add _ _ (by have := HM.out; have := HZK.out; omega)
          have HM1 : Hid (m + (er kids[j]).count k = 1 + VT.countL k ((kids.map er).take (j + 1))) := by have := HM.out; unfold Hid; omega
          simp only [List.append_toArray, List.cons_append, List.nil_append] at C
          generalize (er kids[j]).count k = z at *
          generalize kids[j] = t at *
          have hrow : t.row = .slice t.a t.kids.length t.cap := rfl
          rw [hrow] at C c4
          replace C := Lib.hid C
          clear h5 hbr HT HTL HCL hkn HC IH HB hrow
          go_wp2_with fail
          with_reducible refine C.out.mono ?_
          rintro e w1 ⟨rfl, hb1⟩
          have HW1 := Lib.hid (HW.out.trans (hb1.mono (by omega)))
          have hz1 := Nat.le_trans hwz hb1.size
          clear C hb1 c0 c1 c2 c3 c4 HW x0 x4
          go_wp2
          go_roundw
          case rel => exact ⟨j + 1, m + z, by go_num, by omega, by rw [hwrap], HM1, hz1, HW1⟩
          case measure => simp [intOf]; omega
        · have hj1 : ¬ (j : Int) < (kids.length : Int) := by omega
          have he : j = kids.length := by omega
          subst he
          have HF : Hid (m = R) := by have := HM.out; have := HR.out; unfold Hid; omega
          have HBF := Lib.hid (HA.out.trans (HW.out.mono (by omega)))
          clear HC IH HB
          go_wp2
          go_ret
          exact ⟨by rw [HF.out]; rfl, HBF.out⟩
    · have hK1 : (if k = kd then 1 else 0 : Nat) = 0 := if_neg hkd
      rw [hK1] at HR
      have hkd' : (k == kd) = false := by simp [hkd]
      go_enter Tryz.func108, Tryz.ntmps108
      go_wp2_with fail
      go_loopw [5, 6] (fun v i wr => ∃ (j m : Nat), i = .int .i64 j ∧ j ≤ kids.length ∧ v = .int .i64 (m : Int) ∧ Hid (m = 0 + VT.countL kd ((kids.map er).take j)) ∧ w'.heap.size + 1 ≤ wr.heap.size ∧ Hid (Below (w'.heap.size + 1) (w'.alloc (.cells #[.int .i64 k, .int .i64 n, .int .i64 e, .string s, .slice a kids.length cap] 46)) wr)) (fun _ i _ => kids.length - (intOf i).toNat)
      case atStart => exact ⟨0, 0, rfl, by omega, rfl, by simp [Hid, VT.countL], by simp, HBA⟩
      case round =>
        clear HBA
        obtain ⟨j, m, rfl, hj, rfl, HM, hwz, HW⟩ := hrel
        obtain ⟨x0, x4⟩ := held4_of HW.out
        by_cases hlt : j < kids.length
        · have hj0 : (0 : Int) ≤ (j : Int) := by omega
          have hj1 : (j : Int) < (kids.length : Int) := by omega
          obtain ⟨x, rfl, hx, h5⟩ := HC.out j hlt
          have hbr := HB.out.trans ((HA.out.trans (HW.out.mono (by omega))).mono hB)
          obtain ⟨c0, c1, c2, c3, c4⟩ := h5.below (by rw [add_block]; exact hx) hbr
          have hkn := kid_nodes kids j hlt
          have C := IH.out j hlt (by have := HZK.out; omega) wr hbr (by omega)
          have HT := countL_take kd (kids.map er) j (by omega)
          have HCL := countL_le kd ((kids.map er).take (j + 1))
          have HTL := nodesL_take_le (kids.map er) (j + 1)
          rw [← erL_map, nodesL_er, erL_map] at HTL
          rw [List.getElem_map] at HT
          have hwrap : wrap64 ((m : Int) + ((er kids[j]).count kd : Int)) = ((m + (er kids[j]).count kd : Nat) : Int) := wrap_add _ _ (by have := HM.out; have := HZK.out; omega)
          have HM1 : Hid (m + (er kids[j]).count kd = 0 + VT.countL kd ((kids.map er).take (j + 1))) := by have := HM.out; unfold Hid; omega
          simp only [List.append_toArray, List.cons_append, List.nil_append] at C
          generalize (er kids[j]).count kd = z at *
          generalize kids[j] = t at *
          have hrow : t.row = .slice t.a t.kids.length t.cap := rfl
          rw [hrow] at C c4
          replace C := Lib.hid C
          clear h5 hbr HT HTL HCL hkn HC IH HB hrow
          go_wp2_with fail
          with_reducible refine C.out.mono ?_
          rintro e w1 ⟨rfl, hb1⟩
          have HW1 := Lib.hid (HW.out.trans (hb1.mono (by omega)))
          have hz1 := Nat.le_trans hwz hb1.size
          clear C hb1 c0 c1 c2 c3 c4 HW x0 x4
          go_wp2
          go_roundw
          case rel => exact ⟨j + 1, m + z, by go_num, by omega, by rw [hwrap], HM1, hz1, HW1⟩
          case measure => simp [intOf]; omega
        · have hj1 : ¬ (j : Int) < (kids.length : Int) := by omega
          have he : j = kids.length := by omega
          subst he
          have HF : Hid (m = R) := by have := HM.out; have := HR.out; unfold Hid; omega
          have HBF := Lib.hid (HA.out.trans (HW.out.mono (by omega)))
          clear HC IH HB
          go_wp2
          go_ret
          exact ⟨by rw [HF.out]; rfl, HBF.out⟩

end Go.Proofs.YtnfbjcpoealkoaaGreatDoor.val
