/-
  What spec.Nodes, spec.Deep and spec.Count return.
-/
import Derived.Test.YtkjffifdlckljaaDoorPathsJ21
import Derived.Test.YtkjffifdlckljaaDoorPathsJ17
namespace Go.Proofs.YtkjffifdlckljaaDoor.val
open Go.ChangeShapes Go.WideShapes Go.ChangeAt Go.RowKit
set_option maxRecDepth 100000

/-- A function of one value and perhaps a number returns the number F of every value. -/
def TellC (w : World) (B : Nat) (t : LT) (fn : FuncId) (more : Array Value) (F : VT → Nat) : Prop := t.nodes ≤ 2000000 → ∀ w', Below B w w' → B ≤ w'.heap.size → Calls Tryd.prog fn (#[.agg #[.int .i64 t.k, .int .i64 t.n, .int .i64 t.e, .string t.s, t.row]] ++ more) w' fun e w'' => e = .returned (.int .i64 (F (er t) : Int)) ∧ Below w'.heap.size w' w''

theorem wrap_one (a : Nat) (h : a ≤ 2000000) : wrap64 ((a : Int) + 1) = ((a + 1 : Nat) : Int) := by unfold wrap64; omega
theorem deep_wrap (t : LT) (l : List LT) (h : t.nodes ≤ LT.nodesL l) (h2 : LT.nodesL l ≤ 2000000) : wrap64 (((er t).deep : Int) + 1) = (((er t).deep + 1 : Nat) : Int) := by
  have h1 := deep_le (er t)
  rw [nodes_er] at h1
  generalize (er t).deep = d at *
  exact wrap_one d (by omega)
structure Held4 (wr : World) (N : Nat) (k : Int) (row : Value) : Prop where
  c0 : wr.cell? ⟨N, 0, none⟩ = some (.int .i64 k)
  c4 : wr.cell? ⟨N, 4, none⟩ = some row
theorem held4_of {w' wr : World} {k n e : Int} {s : ByteArray} {row : Value} {T : TypeId} (h : Below (w'.heap.size + 1) (w'.alloc (.cells #[.int .i64 k, .int .i64 n, .int .i64 e, .string s, row] T)) wr) : Held4 wr w'.heap.size k row := by
  have hb := heap_alloc_new w' (.cells #[.int .i64 k, .int .i64 n, .int .i64 e, .string s, row] T)
  have hb2 := (h.block w'.heap.size (by omega)).trans hb
  exact ⟨cell_of_row wr _ 0 _ _ (0, 0) hb2, cell_of_row wr _ 4 _ _ (0, 0) hb2⟩

set_option maxHeartbeats 1000000 in
theorem spec_nodes {w : World} {B : Nat} {t : LT} (h : In w B t) : TellC w B t 84 #[] VT.nodes := by
  induction h with
  | mk hk hn he hs hl hc hkids ih =>
    rename_i k n e s a cap kids
    intro hz w' hb hB
    have HC := Lib.hid hc
    have IH := Lib.hid ih
    have HB := Lib.hid hb
    have hml : (kids.map er).length = kids.length := by simp
    have HZK : Hid (LT.nodesL kids ≤ 2000000) := by rw [LT.nodes] at hz; unfold Hid; omega
    have HBA : Hid (Below (w'.heap.size + 1) (w'.alloc (.cells #[.int .i64 k, .int .i64 n, .int .i64 e, .string s, .slice a kids.length cap] 24)) (w'.alloc (.cells #[.int .i64 k, .int .i64 n, .int .i64 e, .string s, .slice a kids.length cap] 24))) := Below.refl _ _
    have HA : Hid (Below w'.heap.size w' (w'.alloc (.cells #[.int .i64 k, .int .i64 n, .int .i64 e, .string s, .slice a kids.length cap] 24))) := (Below.refl _ _).alloc (Nat.le_refl _) _
    have HR : Hid ((er (.mk k n e s a cap kids)).nodes = 1 + VT.nodesL ((kids.map er).take kids.length)) := by
      unfold Hid; rw [er, VT.nodes, erL_map, List.take_of_length_le (by omega)]
    have hkl : kids.length ≤ 9223372036854775807 := by omega
    unfold LT.row
    simp only [LT.k, LT.n, LT.e, LT.s, LT.a, LT.cap, LT.kids, Array.append_empty]
    generalize (er (.mk k n e s a cap kids)).nodes = R at *
    clear hc ih hkids hb hz
    go_enter Tryd.func84, Tryd.ntmps84
    go_wp2_with fail
    go_loopw [3, 4] (fun v i wr => ∃ (j m : Nat), i = .int .i64 j ∧ j ≤ kids.length ∧ v = .int .i64 (m : Int) ∧ Hid (m = 1 + VT.nodesL ((kids.map er).take j)) ∧ w'.heap.size + 1 ≤ wr.heap.size ∧ Hid (Below (w'.heap.size + 1) (w'.alloc (.cells #[.int .i64 k, .int .i64 n, .int .i64 e, .string s, .slice a kids.length cap] 24)) wr)) (fun _ i _ => kids.length - (intOf i).toNat)
    case atStart => exact ⟨0, 1, rfl, by omega, rfl, by simp [Hid, VT.nodesL], by simp, HBA⟩
    case round =>
      clear HBA
      obtain ⟨j, m, rfl, hj, rfl, HM, hwz, HW⟩ := hrel
      obtain ⟨x0, x4⟩ := held4_of HW.out
      by_cases hlt : j < kids.length
      · have hj0 : (0 : Int) ≤ (j : Int) := by omega
        have hj1 : (j : Int) < (kids.length : Int) := by omega
        obtain ⟨x, rfl, hx, h5⟩ := HC.out j hlt
        have hbr := HB.out.trans ((HA.out.trans (HW.out.mono (by omega))).mono hB)
        obtain ⟨c0, c1, c2, c3, c4⟩ := h5.below (by rw [add_block]; exact hx) hbr
        have hkn := kid_nodes kids j hlt
        have C := IH.out j hlt (by have := HZK.out; omega) wr hbr (by omega)
        have HT := nodesL_take (kids.map er) j (by omega)
        have HTL := nodesL_take_le (kids.map er) (j + 1)
        rw [← erL_map, nodesL_er, erL_map] at HTL
        rw [List.getElem_map] at HT
        have hwrap : wrap64 ((m : Int) + ((er kids[j]).nodes : Int)) = ((m + (er kids[j]).nodes : Nat) : Int) := wrap_add _ _ (by have := HM.out; have := HZK.out; omega)
        have HM1 : Hid (m + (er kids[j]).nodes = 1 + VT.nodesL ((kids.map er).take (j + 1))) := by have := HM.out; unfold Hid; omega
        simp only [Array.append_empty] at C
        generalize (er kids[j]).nodes = z at *
        generalize kids[j] = t at *
        have hrow : t.row = .slice t.a t.kids.length t.cap := rfl
        rw [hrow] at C c4
        replace C := Lib.hid C
        clear h5 hbr HT HTL hkn HC IH HB hrow
        go_wp2_with fail
        with_reducible refine C.out.mono ?_
        rintro e w1 ⟨rfl, hb1⟩
        have HW1 := Lib.hid (HW.out.trans (hb1.mono (by omega)))
        have hz1 := Nat.le_trans hwz hb1.size
        clear C hb1 c0 c1 c2 c3 c4 HW x0 x4
        go_wp2
        go_roundw
        case rel => exact ⟨j + 1, m + z, by go_num, by omega, by rw [hwrap], HM1, hz1, HW1⟩
        case measure => simp [intOf]; omega
      · have hj1 : ¬ (j : Int) < (kids.length : Int) := by omega
        have he : j = kids.length := by omega
        subst he
        have HF : Hid (m = R) := by have := HM.out; have := HR.out; unfold Hid; omega
        have HBF := Lib.hid (HA.out.trans (HW.out.mono (by omega)))
        clear HC IH HB
        go_wp2
        go_ret
        exact ⟨by rw [HF.out]; rfl, HBF.out⟩

end Go.Proofs.YtkjffifdlckljaaDoor.val
/-
  spec.l02Right and spec.ValueOk at every value.
-/
namespace Go.Proofs.YtkjffifdlckljaaDoor.node
open Go.ChangeShapes Go.WideShapes Go.ChangeAt Go.RowKit
open Go.Proofs.YtkjffifdlckljaaDoor.val Go.Proofs.YtkjffifdlckljaaDoor.num
set_option maxRecDepth 100000

mutual
/-- A value is right, at most d kids deep. -/
def RightT : LT → Int → Prop
  | .mk k n e s a cap kids, d => 0 ≤ d ∧ OwnP (.mk k n e s a cap kids) ∧ RightL kids (d - 1)
def RightL : List LT → Int → Prop
  | [], _ => True
  | t :: ts, d => RightT t d ∧ RightL ts d
end
theorem rightL_take (l : List LT) (d : Int) : ∀ j (h : j < l.length), RightL (l.take (j + 1)) d ↔ RightL (l.take j) d ∧ RightT l[j] d := by
  induction l with
  | nil => intro j h; simp at h
  | cons x l ih =>
    intro j h
    cases j with
    | zero => simp [RightL]
    | succ j =>
      have h' : j < l.length := by simpa using h
      rw [List.take_succ_cons, List.take_succ_cons, RightL, RightL, ih j h', List.getElem_cons_succ]
      constructor
      · rintro ⟨a, b, c⟩; exact ⟨⟨a, b⟩, c⟩
      · rintro ⟨⟨a, b⟩, c⟩; exact ⟨a, b, c⟩
theorem rightL_mem {l : List LT} {d : Int} (h : RightL l d) : ∀ j (hj : j < l.length), RightT l[j] d := by
  induction l with
  | nil => intro j h; simp at h
  | cons x l ih =>
    intro j hj
    rw [RightL] at h
    cases j with
    | zero => exact h.1
    | succ j => exact ih h.2 j (by simpa using hj)
theorem kid_sz (l : List LT) (j : Nat) (h : j < l.length) : l[j].sz ≤ LT.szL l ∧ l.length ≤ LT.szL l := by
  have h2 : l.length ≤ LT.szL l := by
    clear h
    induction l with
    | nil => simp [LT.szL]
    | cons x l ih => rw [LT.szL, List.length_cons]; omega
  refine ⟨?_, h2⟩
  clear h2
  induction l generalizing j with
  | nil => simp at h
  | cons x l ih =>
    rw [LT.szL]
    cases j with
    | zero => simp only [List.getElem_cons_zero]; omega
    | succ j =>
      have := ih j (by simpa using h)
      simp only [List.getElem_cons_succ]
      omega
theorem len_sz (l : List LT) : l.length ≤ LT.szL l := by
  induction l with
  | nil => simp [LT.szL]
  | cons x l ih => rw [LT.szL, List.length_cons]; omega
/-- What spec.l02Own tells, of any value in memory. -/
theorem own_any {w : World} {B : Nat} {t : LT} (h : In w B t) (hz : t.sz ≤ 1048576) (w' : World) (hb : Below B w w') (hB : B ≤ w'.heap.size) :
    Calls Tryd.prog 116 #[.agg #[.int .i64 t.k, .int .i64 t.n, .int .i64 t.e, .string t.s, t.row]] w' (OwnC t w') := by
  cases h with
  | mk hk hn he hs hl hc hkids =>
    rename_i k n e s a cap kids
    have hz' : s.size + LT.szL kids ≤ 1048576 := by rw [LT.sz] at hz; exact hz
    have hkl := len_sz kids
    have num : (k = 3 ∨ k = 4) → Calls Tryd.prog 116 #[.agg #[.int .i64 k, .int .i64 n, .int .i64 e, .string s, .slice a kids.length cap]] w' (OwnC (.mk k n e s a cap kids) w') := fun hk => by
      refine (own_num (.mk k n e s a cap kids) hk w').mono ?_
      rintro r w'' ⟨rfl, hb⟩
      refine ⟨_, rfl, ?_, hb⟩
      rcases hk with rfl | rfl
      · exact Iff.rfl
      · exact Iff.rfl
    show Calls Tryd.prog 116 #[.agg #[.int .i64 k, .int .i64 n, .int .i64 e, .string s, .slice a kids.length cap]] w' (OwnC (.mk k n e s a cap kids) w')
    by_cases hr : 0 ≤ k ∧ k ≤ 9
    · rcases (show k = 0 ∨ k = 1 ∨ k = 2 ∨ k = 3 ∨ k = 4 ∨ k = 5 ∨ k = 6 ∨ k = 7 ∨ k = 8 ∨ k = 9 by omega) with rfl | rfl | rfl | rfl | rfl | rfl | rfl | rfl | rfl | rfl
      · exact own_null n e s a kids cap w'
      · exact own_false n e s a kids cap w'
      · exact own_true n e s a kids cap w'
      · exact num (.inl rfl)
      · exact num (.inr rfl)
      · exact own_text n e s a kids cap w' (by omega)
      · exact own_bytes n e s a kids cap w'
      · exact own_list n e s a kids cap w'
      · exact own_map n e s a kids cap w' (fun W hW => pairs_any w B a cap kids (by omega) hc W (hb.trans (hW.mono hB)) (Nat.le_trans hB hW.size))
      · exact own_tag n e s a kids cap w'
    · exact own_other k n e s a kids cap w' hr
def RightC (w : World) (B : Nat) (t : LT) : Prop := t.sz ≤ 1048576 → ∀ (d : Int), -1000 ≤ d → d ≤ 1000 → ∀ w', Below B w w' → B ≤ w'.heap.size →
  Calls Tryd.prog 83 #[.agg #[.int .i64 t.k, .int .i64 t.n, .int .i64 t.e, .string t.s, t.row], .int .i64 d] w' (OwnR (RightT t d) w')
set_option maxHeartbeats 2000000 in
theorem right_any {w : World} {B : Nat} {t : LT} (h : In w B t) : RightC w B t := by
  induction h with
  | mk hk hn he hs hl hc hkids ih =>
    rename_i k n e s a cap kids
    intro hz d hd0 hd1 w' hb hB
    have hIn : In w B (.mk k n e s a cap kids) := .mk hk hn he hs hl hc hkids
    have CO : Hid (∀ W, Below w'.heap.size w' W → Calls Tryd.prog 116 #[.agg #[.int .i64 k, .int .i64 n, .int .i64 e, .string s, .slice a kids.length cap]] W (OwnR (OwnP (.mk k n e s a cap kids)) W)) := fun W hW => own_any hIn hz W (hb.trans (hW.mono hB)) (Nat.le_trans hB hW.size)
    have HC := Lib.hid hc
    have IH := Lib.hid ih
    have HB := Lib.hid hb
    have HZK : Hid (LT.szL kids ≤ 1048576) := by rw [LT.sz] at hz; unfold Hid; omega
    have hkl : kids.length ≤ 1048576 := Nat.le_trans (len_sz kids) HZK.out
    have HA : Hid (Below w'.heap.size w' (w'.alloc (.cells #[.int .i64 k, .int .i64 n, .int .i64 e, .string s, .slice a kids.length cap] 24))) := (Below.refl _ _).alloc (Nat.le_refl _) _
    have HR : Hid (RightT (.mk k n e s a cap kids) d ↔ 0 ≤ d ∧ OwnP (.mk k n e s a cap kids) ∧ RightL kids (d - 1)) := by unfold Hid; rw [RightT]
    unfold LT.row
    simp only [LT.k, LT.n, LT.e, LT.s, LT.a, LT.cap, LT.kids]
    generalize RightT (.mk k n e s a cap kids) d = R at *
    generalize OwnP (.mk k n e s a cap kids) = P at *
    clear hc ih hkids hb hz hIn hl hs hk hn he
    by_cases hdn : d < 0
    · have HF : Hid (¬ R) := fun hr => by have := (HR.out.1 hr).1; omega
      go_enter Tryd.func83, Tryd.ntmps83
      go_wp2
      go_ret
      exact ⟨false, rfl, ⟨fun h => (by cases h), fun h => (HF.out h).elim⟩, HA.out⟩
    · go_enter Tryd.func83, Tryd.ntmps83
      go_wp2_with fail
      with_reducible refine (CO.out _ HA.out).mono ?_
      rintro r w1 ⟨b, rfl, hbi, hb1⟩
      have HW1 : Hid (Below (w'.heap.size + 1) (w'.alloc (.cells #[.int .i64 k, .int .i64 n, .int .i64 e, .string s, .slice a kids.length cap] 24)) w1) := hb1.mono (by simp)
      have hz1 : w'.heap.size + 1 ≤ w1.heap.size := by have := hb1.size; simp at this; exact this
      obtain ⟨x0, x4⟩ := held4_of HW1.out
      clear hb1 CO
      cases b with
      | false =>
        have HF : Hid (¬ R) := fun hr => by have := hbi.2 (HR.out.1 hr).2.1; cases this
        have HBF := Lib.hid (HA.out.trans (HW1.out.mono (by omega)))
        clear hbi
        go_wp2
        go_ret
        exact ⟨false, rfl, ⟨fun h => (by cases h), fun h => (HF.out h).elim⟩, HBF.out⟩
      | true =>
        have HP : Hid P := hbi.1 rfl
        clear hbi
        go_wp2
        go_loopw [5] (fun i wr => ∃ j : Nat, i = .int .i64 j ∧ j ≤ kids.length ∧ Hid (RightL (kids.take j) (d - 1)) ∧ w'.heap.size + 1 ≤ wr.heap.size ∧ Hid (Below (w'.heap.size + 1) (w'.alloc (.cells #[.int .i64 k, .int .i64 n, .int .i64 e, .string s, .slice a kids.length cap] 24)) wr)) (fun i _ => kids.length - (intOf i).toNat)
        case atStart => exact ⟨0, rfl, by omega, by simp [Hid, RightL], hz1, HW1⟩
        case round =>
          clear HW1 hz1 x0 x4
          obtain ⟨j, rfl, hj, HL, hwz, HW⟩ := hrel
          obtain ⟨x0, x4⟩ := held4_of HW.out
          by_cases hlt : j < kids.length
          · have hj0 : (0 : Int) ≤ (j : Int) := by omega
            have hj1 : (j : Int) < (kids.length : Int) := by omega
            obtain ⟨x, rfl, hx, h5⟩ := HC.out j hlt
            have hbr := HB.out.trans ((HA.out.trans (HW.out.mono (by omega))).mono hB)
            obtain ⟨c0, c1, c2, c3, c4⟩ := h5.below (by rw [add_block]; exact hx) hbr
            have C := IH.out j hlt (by have := (kid_sz kids j hlt).1; have := HZK.out; omega) (d - 1) (by omega) (by omega) wr hbr (by omega)
            have HNX : Hid (RightT kids[j] (d - 1) → RightL (kids.take (j + 1)) (d - 1)) := fun h => (rightL_take kids (d - 1) j hlt).2 ⟨HL.out, h⟩
            have HNO : Hid (¬ RightT kids[j] (d - 1) → ¬ R) := fun h hr => h (rightL_mem (HR.out.1 hr).2.2 j hlt)
            generalize RightT kids[j] (d - 1) = Q at *
            generalize kids[j] = t at *
            have hrow : t.row = .slice t.a t.kids.length t.cap := rfl
            rw [hrow] at C c4
            replace C := Lib.hid C
            clear h5 hbr HC IH HB hrow
            go_wp2_with fail
            with_reducible refine C.out.mono ?_
            rintro e w1 ⟨b, rfl, hbi, hb1⟩
            have HW1 := Lib.hid (HW.out.trans (hb1.mono (by omega)))
            have hz1 := Nat.le_trans hwz hb1.size
            clear C hb1 c0 c1 c2 c3 c4 HW x0 x4
            cases b with
            | false =>
              have HF : Hid (¬ R) := HNO.out fun h => by have := hbi.2 h; cases this
              have HBF := Lib.hid (HA.out.trans (HW1.out.mono (by omega)))
              clear hbi
              go_wp2
              go_ret
              exact ⟨false, rfl, ⟨fun h => (by cases h), fun h => (HF.out h).elim⟩, HBF.out⟩
            | true =>
              have HN := Lib.hid (HNX.out (hbi.1 rfl))
              clear hbi
              go_wp2
              go_roundw
              case rel => exact ⟨j + 1, by go_num, by omega, HN, hz1, HW1⟩
              case measure => simp [intOf]; omega
          · have hj1 : ¬ (j : Int) < (kids.length : Int) := by omega
            have he : j = kids.length := by omega
            subst he
            have HF : Hid R := HR.out.2 ⟨by omega, HP.out, by have := HL.out; rwa [List.take_length] at this⟩
            have HBF := Lib.hid (HA.out.trans (HW.out.mono (by omega)))
            clear HC IH HB
            go_wp2
            go_ret
            exact ⟨true, rfl, ⟨fun _ => HF.out, fun _ => rfl⟩, HBF.out⟩
/-- A value is valid. -/
def ValidT (t : LT) : Prop := RightT t 12 ∧ t.nodes ≤ 300
set_option maxHeartbeats 1000000 in
theorem spec_value {w : World} {B : Nat} {t : LT} (h : In w B t) (hz : t.sz ≤ 1048576) (hn : t.nodes ≤ 2000000) (w' : World) (hb : Below B w w') (hB : B ≤ w'.heap.size) :
    Calls Tryd.prog 51 #[.agg #[.int .i64 t.k, .int .i64 t.n, .int .i64 t.e, .string t.s, t.row]] w' (OwnR (ValidT t) w') := by
  have hrow : t.row = .slice t.a t.kids.length t.cap := rfl
  have HA : Hid (Below w'.heap.size w' (w'.alloc (.cells #[.int .i64 t.k, .int .i64 t.n, .int .i64 t.e, .string t.s, .slice t.a t.kids.length t.cap] 24))) := (Below.refl _ _).alloc (Nat.le_refl _) _
  have HX : Hid (Box (w'.alloc (.cells #[.int .i64 t.k, .int .i64 t.n, .int .i64 t.e, .string t.s, .slice t.a t.kids.length t.cap] 24)) w'.heap.size t) := Box.new w' t 24
  have CR : Hid (∀ W, Below w'.heap.size w' W → Calls Tryd.prog 83 #[.agg #[.int .i64 t.k, .int .i64 t.n, .int .i64 t.e, .string t.s, t.row], .int .i64 12] W (OwnR (RightT t 12) W)) := fun W hW => right_any h hz 12 (by omega) (by omega) W (hb.trans (hW.mono hB)) (Nat.le_trans hB hW.size)
  have CN : Hid (∀ W, Below w'.heap.size w' W → Calls Tryd.prog 84 #[.agg #[.int .i64 t.k, .int .i64 t.n, .int .i64 t.e, .string t.s, t.row]] W fun r w'' => r = .returned (.int .i64 ((er t).nodes : Int)) ∧ Below W.heap.size W w'') := fun W hW => by
    have := spec_nodes h hn W (hb.trans (hW.mono hB)) (Nat.le_trans hB hW.size)
    simpa using this
  have HV : Hid (ValidT t ↔ RightT t 12 ∧ (er t).nodes ≤ 300) := by unfold Hid ValidT; rw [nodes_er]
  simp only [hrow] at CR CN ⊢
  generalize ValidT t = V at *
  generalize RightT t 12 = R at *
  generalize (er t).nodes = N at *
  clear h hz hn hb hB hrow
  go_enter Tryd.func51, Tryd.ntmps51
  go_wp2_with fail
  with_reducible refine (CR.out _ HA.out).mono ?_
  rintro r w1 ⟨b, rfl, hbi, hb1⟩
  replace HX := Lib.hid (HX.out.behind hb1)
  replace HA := Lib.hid (below_of2 HA.out hb1)
  clear hb1 CR
  obtain ⟨p0, p1, p2, p3, p4⟩ := HX.out
  unfold LT.row at p4
  cases b with
  | false =>
    have HF : Hid (¬ V) := fun hv => by have := hbi.2 (HV.out.1 hv).1; cases this
    clear hbi
    go_wp2
    go_ret
    exact ⟨false, rfl, ⟨fun h => (by cases h), fun h => (HF.out h).elim⟩, HA.out⟩
  | true =>
    have HP : Hid R := hbi.1 rfl
    have HD : Hid (decide ((N : Int) ≤ 300) = true ↔ V) := by
      unfold Hid
      rw [HV.out, decide_eq_true_eq]
      exact ⟨fun h => ⟨HP.out, by omega⟩, fun h => by have := h.2; omega⟩
    clear hbi
    go_wp2_with fail
    with_reducible refine (CN.out _ HA.out).mono ?_
    rintro r w2 ⟨rfl, hb2⟩
    replace HA := Lib.hid (below_of2 HA.out hb2)
    clear hb2 CN
    go_wp2
    go_ret
    exact ⟨_, rfl, HD.out, HA.out⟩
end Go.Proofs.YtkjffifdlckljaaDoor.node
