/-
  spec.l02Right and spec.ValueOk at every value.
-/
import Derived.Test.YtnfbjcpoealkoaaGreatDoorPrettyJ20
import Derived.Test.YtnfbjcpoealkoaaGreatDoorPrettyJ19
import Derived.Test.YtnfbjcpoealkoaaGreatDoorPrettyJ21
namespace Go.Proofs.YtnfbjcpoealkoaaGreatDoor.node
open Go.ChangeShapes Go.WideShapes Go.ChangeAt Go.RowKit
open Go.Proofs.YtnfbjcpoealkoaaGreatDoor.val Go.Proofs.YtnfbjcpoealkoaaGreatDoor.num
set_option maxRecDepth 100000

mutual
/-- A value is right, at most d kids deep. -/
def RightT : LT → Int → Prop
  | .mk k n e s a cap kids, d => 0 ≤ d ∧ OwnP (.mk k n e s a cap kids) ∧ RightL kids (d - 1)
def RightL : List LT → Int → Prop
  | [], _ => True
  | t :: ts, d => RightT t d ∧ RightL ts d
end
theorem rightL_take (l : List LT) (d : Int) : ∀ j (h : j < l.length), RightL (l.take (j + 1)) d ↔ RightL (l.take j) d ∧ RightT l[j] d := by
  induction l with
  | nil => intro j h; simp at h
  | cons x l ih =>
    intro j h
    cases j with
    | zero => simp [RightL]
    | succ j =>
      have h' : j < l.length := by simpa using h
      rw [List.take_succ_cons, List.take_succ_cons, RightL, RightL, ih j h', List.getElem_cons_succ]
      constructor
      · rintro ⟨a, b, c⟩; exact ⟨⟨a, b⟩, c⟩
      · rintro ⟨⟨a, b⟩, c⟩; exact ⟨a, b, c⟩
theorem rightL_mem {l : List LT} {d : Int} (h : RightL l d) : ∀ j (hj : j < l.length), RightT l[j] d := by
  induction l with
  | nil => intro j h; simp at h
  | cons x l ih =>
    intro j hj
    rw [RightL] at h
    cases j with
    | zero => exact h.1
    | succ j => exact ih h.2 j (by simpa using hj)
theorem kid_sz (l : List LT) (j : Nat) (h : j < l.length) : l[j].sz ≤ LT.szL l ∧ l.length ≤ LT.szL l := by
  have h2 : l.length ≤ LT.szL l := by
    clear h
    induction l with
    | nil => simp [LT.szL]
    | cons x l ih => rw [LT.szL, List.length_cons]; omega
  refine ⟨?_, h2⟩
  clear h2
  induction l generalizing j with
  | nil => simp at h
  | cons x l ih =>
    rw [LT.szL]
    cases j with
    | zero => simp only [List.getElem_cons_zero]; omega
    | succ j =>
      have := ih j (by simpa using h)
      simp only [List.getElem_cons_succ]
      omega
theorem len_sz (l : List LT) : l.length ≤ LT.szL l := by
  induction l with
  | nil => simp [LT.szL]
  | cons x l ih => rw [LT.szL, List.length_cons]; omega
/-- What spec.l02Own tells, of any value in memory. -/
theorem own_any {w : World} {B : Nat} {t : LT} (h : In w B t) (hz : t.sz ≤ 1048576) (w' : World) (hb : Below B w w') (hB : B ≤ w'.heap.size) :
    Calls Tryz.prog 187 #[.agg #[.int .i64 t.k, .int .i64 t.n, .int .i64 t.e, .string t.s, t.row]] w' (OwnC t w') := by
  cases h with
  | mk hk hn he hs hl hc hkids =>
    rename_i k n e s a cap kids
    have hz' : s.size + LT.szL kids ≤ 1048576 := by rw [LT.sz] at hz; exact hz
    have hkl := len_sz kids
    have num : (k = 3 ∨ k = 4) → Calls Tryz.prog 187 #[.agg #[.int .i64 k, .int .i64 n, .int .i64 e, .string s, .slice a kids.length cap]] w' (OwnC (.mk k n e s a cap kids) w') := fun hk => by
      refine (own_num (.mk k n e s a cap kids) hk w').mono ?_
      rintro r w'' ⟨rfl, hb⟩
      refine ⟨_, rfl, ?_, hb⟩
      rcases hk with rfl | rfl
      · exact Iff.rfl
      · exact Iff.rfl
    show Calls Tryz.prog 187 #[.agg #[.int .i64 k, .int .i64 n, .int .i64 e, .string s, .slice a kids.length cap]] w' (OwnC (.mk k n e s a cap kids) w')
    by_cases hr : 0 ≤ k ∧ k ≤ 9
    · rcases (show k = 0 ∨ k = 1 ∨ k = 2 ∨ k = 3 ∨ k = 4 ∨ k = 5 ∨ k = 6 ∨ k = 7 ∨ k = 8 ∨ k = 9 by omega) with rfl | rfl | rfl | rfl | rfl | rfl | rfl | rfl | rfl | rfl
      · exact own_null n e s a kids cap w'
      · exact own_false n e s a kids cap w'
      · exact own_true n e s a kids cap w'
      · exact num (.inl rfl)
      · exact num (.inr rfl)
      · exact own_text n e s a kids cap w' (by omega)
      · exact own_bytes n e s a kids cap w'
      · exact own_list n e s a kids cap w'
      · exact own_map n e s a kids cap w' (fun W hW => pairs_any w B a cap kids (by omega) hc W (hb.trans (hW.mono hB)) (Nat.le_trans hB hW.size))
      · exact own_tag n e s a kids cap w'
    · exact own_other k n e s a kids cap w' hr
def RightC (w : World) (B : Nat) (t : LT) : Prop := t.sz ≤ 1048576 → ∀ (d : Int), -1000 ≤ d → d ≤ 1000 → ∀ w', Below B w w' → B ≤ w'.heap.size →
  Calls Tryz.prog 154 #[.agg #[.int .i64 t.k, .int .i64 t.n, .int .i64 t.e, .string t.s, t.row], .int .i64 d] w' (OwnR (RightT t d) w')
set_option maxHeartbeats 2000000 in
theorem right_any {w : World} {B : Nat} {t : LT} (h : In w B t) : RightC w B t := by
  induction h with
  | mk hk hn he hs hl hc hkids ih =>
    rename_i k n e s a cap kids
    intro hz d hd0 hd1 w' hb hB
    have hIn : In w B (.mk k n e s a cap kids) := .mk hk hn he hs hl hc hkids
    have CO : Hid (∀ W, Below w'.heap.size w' W → Calls Tryz.prog 187 #[.agg #[.int .i64 k, .int .i64 n, .int .i64 e, .string s, .slice a kids.length cap]] W (OwnR (OwnP (.mk k n e s a cap kids)) W)) := fun W hW => own_any hIn hz W (hb.trans (hW.mono hB)) (Nat.le_trans hB hW.size)
    have HC := Lib.hid hc
    have IH := Lib.hid ih
    have HB := Lib.hid hb
    have HZK : Hid (LT.szL kids ≤ 1048576) := by rw [LT.sz] at hz; unfold Hid; omega
    have hkl : kids.length ≤ 1048576 := Nat.le_trans (len_sz kids) HZK.out
    have HA : Hid (Below w'.heap.size w' (w'.alloc (.cells #[.int .i64 k, .int .i64 n, .int .i64 e, .string s, .slice a kids.length cap] 46))) := (Below.refl _ _).alloc (Nat.le_refl _) _
    have HR : Hid (RightT (.mk k n e s a cap kids) d ↔ 0 ≤ d ∧ OwnP (.mk k n e s a cap kids) ∧ RightL kids (d - 1)) := by unfold Hid; rw [RightT]
    unfold LT.row
    simp only [LT.k, LT.n, LT.e, LT.s, LT.a, LT.cap, LT.kids]
    generalize RightT (.mk k n e s a cap kids) d = R at *
    generalize OwnP (.mk k n e s a cap kids) = P at *
    clear hc ih hkids hb hz hIn hl hs hk hn he
    by_cases hdn : d < 0
    · have HF : Hid (¬ R) := fun hr => by have := (HR.out.1 hr).1; omega
      go_enter Tryz.func154, Tryz.ntmps154
      go_wp2
      go_ret
      exact ⟨false, rfl, ⟨fun h => (by cases h), fun h => (HF.out h).elim⟩, HA.out⟩
    · go_enter Tryz.func154, Tryz.ntmps154
      go_wp2_with fail
      with_reducible refine (CO.out _ HA.out).mono ?_
      rintro r w1 ⟨b, rfl, hbi, hb1⟩
      have HW1 : Hid (Below (w'.heap.size + 1) (w'.alloc (.cells #[.int .i64 k, .int .i64 n, .int .i64 e, .string s, .slice a kids.length cap] 46)) w1) := hb1.mono (by simp)
      have hz1 : w'.heap.size + 1 ≤ w1.heap.size := by have := hb1.size; simp at this; exact this
      obtain ⟨x0, x4⟩ := held4_of HW1.out
      clear hb1 CO
      cases b with
      | false =>
        have HF : Hid (¬ R) := fun hr => by have := hbi.2 (HR.out.1 hr).2.1; cases this
        have HBF := Lib.hid (HA.out.trans (HW1.out.mono (by omega)))
        clear hbi
        go_wp2
        go_ret
        exact ⟨false, rfl, ⟨fun h => (by cases h), fun h => (HF.out h).elim⟩, HBF.out⟩
      | true =>
        have HP : Hid P := hbi.1 rfl
        clear hbi
        go_wp2
        go_loopw [5] (fun i wr => ∃ j : Nat, i = .int .i64 j ∧ j ≤ kids.length ∧ Hid (RightL (kids.take j) (d - 1)) ∧ w'.heap.size + 1 ≤ wr.heap.size ∧ Hid (Below (w'.heap.size + 1) (w'.alloc (.cells #[.int .i64 k, .int .i64 n, .int .i64 e, .string s, .slice a kids.length cap] 46)) wr)) (fun i _ => kids.length - (intOf i).toNat)
        case atStart => exact ⟨0, rfl, by omega, by simp [Hid, RightL], hz1, HW1⟩
        case round =>
          clear HW1 hz1 x0 x4
          obtain ⟨j, rfl, hj, HL, hwz, HW⟩ := hrel
          obtain ⟨x0, x4⟩ := held4_of HW.out
          by_cases hlt : j < kids.length
          · have hj0 : (0 : Int) ≤ (j : Int) := by omega
            have hj1 : (j : Int) < (kids.length : Int) := by omega
            obtain ⟨x, rfl, hx, h5⟩ := HC.out j hlt
            have hbr := HB.out.trans ((HA.out.trans (HW.out.mono (by omega))).mono hB)
            obtain ⟨c0, c1, c2, c3, c4⟩ := h5.below (by rw [add_block]; exact hx) hbr
            have C := IH.out j hlt (by have := (kid_sz kids j hlt).1; have := HZK.out; omega) (d - 1) (by omega) (by omega) wr hbr (by omega)
            have HNX : Hid (RightT kids[j] (d - 1) → RightL (kids.take (j + 1)) (d - 1)) := fun h => (rightL_take kids (d - 1) j hlt).2 ⟨HL.out, h⟩
            have HNO : Hid (¬ RightT kids[j] (d - 1) → ¬ R) := fun h hr => h (rightL_mem (HR.out.1 hr).2.2 j hlt)
            generalize RightT kids[j] (d - 1) = Q at *
            generalize kids[j] = t at *
            have hrow : t.row = .slice t.a t.kids.length t.cap := rfl
            rw [hrow] at C c4
            replace C := Lib.hid C
            clear h5 hbr HC IH HB hrow
            go_wp2_with fail
            with_reducible refine C.out.mono ?_
            rintro e w1 ⟨b, rfl, hbi, hb1⟩
            have HW1 := Lib.hid (HW.out.trans (hb1.mono (by omega)))
            have hz1 := Nat.le_trans hwz hb1.size
            clear C hb1 c0 c1 c2 c3 c4 HW x0 x4
            cases b with
            | false =>
              have HF : Hid (¬ R) := HNO.out fun h => by have := hbi.2 h; cases this
              have HBF := Lib.hid (HA.out.trans (HW1.out.mono (by omega)))
              clear hbi
              go_wp2
              go_ret
              exact ⟨false, rfl, ⟨fun h => (by cases h), fun h => (HF.out h).elim⟩, HBF.out⟩
            | true =>
              have HN := Lib.hid (HNX.out (hbi.1 rfl))
              clear hbi
              go_wp2
              go_roundw
              case rel => exact ⟨j + 1, by go_num, by omega, HN, hz1, HW1⟩
              case measure => simp [intOf]; omega
          · have hj1 : ¬ (j : Int) < (kids.length : Int) := by omega
            have he : j = kids.length := by omega
            subst he
            have HF : Hid R := HR.out.2 ⟨by omega, HP.out, by have := HL.out; rwa [List.take_length] at this⟩
            have HBF := Lib.hid (HA.out.trans (HW.out.mono (by omega)))
            clear HC IH HB
            go_wp2
            go_ret
            exact ⟨true, rfl, ⟨fun _ => HF.out, fun _ => rfl⟩, HBF.out⟩
/-- A value is valid. -/
def ValidT (t : LT) : Prop := RightT t 12 ∧ t.nodes ≤ 300
set_option maxHeartbeats 1000000 in
theorem spec_value {w : World} {B : Nat} {t : LT} (h : In w B t) (hz : t.sz ≤ 1048576) (hn : t.nodes ≤ 2000000) (w' : World) (hb : Below B w w') (hB : B ≤ w'.heap.size) :
    Calls Tryz.prog 107 #[.agg #[.int .i64 t.k, .int .i64 t.n, .int .i64 t.e, .string t.s, t.row]] w' (OwnR (ValidT t) w') := by
  have hrow : t.row = .slice t.a t.kids.length t.cap := rfl
  have HA : Hid (Below w'.heap.size w' (w'.alloc (.cells #[.int .i64 t.k, .int .i64 t.n, .int .i64 t.e, .string t.s, .slice t.a t.kids.length t.cap] 46))) := (Below.refl _ _).alloc (Nat.le_refl _) _
  have HX : Hid (Box (w'.alloc (.cells #[.int .i64 t.k, .int .i64 t.n, .int .i64 t.e, .string t.s, .slice t.a t.kids.length t.cap] 46)) w'.heap.size t) := Box.new w' t 46
  have CR : Hid (∀ W, Below w'.heap.size w' W → Calls Tryz.prog 154 #[.agg #[.int .i64 t.k, .int .i64 t.n, .int .i64 t.e, .string t.s, t.row], .int .i64 12] W (OwnR (RightT t 12) W)) := fun W hW => right_any h hz 12 (by omega) (by omega) W (hb.trans (hW.mono hB)) (Nat.le_trans hB hW.size)
  have CN : Hid (∀ W, Below w'.heap.size w' W → Calls Tryz.prog 155 #[.agg #[.int .i64 t.k, .int .i64 t.n, .int .i64 t.e, .string t.s, t.row]] W fun r w'' => r = .returned (.int .i64 ((er t).nodes : Int)) ∧ Below W.heap.size W w'') := fun W hW => by
    have := spec_nodes h hn W (hb.trans (hW.mono hB)) (Nat.le_trans hB hW.size)
    simpa using this
  have HV : Hid (ValidT t ↔ RightT t 12 ∧ (er t).nodes ≤ 300) := by unfold Hid ValidT; rw [nodes_er]
  simp only [hrow] at CR CN ⊢
  generalize ValidT t = V at *
  generalize RightT t 12 = R at *
  generalize (er t).nodes = N at *
  clear h hz hn hb hB hrow
  go_enter Tryz.func107, Tryz.ntmps107
  go_wp2_with fail
  with_reducible refine (CR.out _ HA.out).mono ?_
  rintro r w1 ⟨b, rfl, hbi, hb1⟩
  replace HX := Lib.hid (HX.out.behind hb1)
  replace HA := Lib.hid (below_of2 HA.out hb1)
  clear hb1 CR
  obtain ⟨p0, p1, p2, p3, p4⟩ := HX.out
  unfold LT.row at p4
  cases b with
  | false =>
    have HF : Hid (¬ V) := fun hv => by have := hbi.2 (HV.out.1 hv).1; cases this
    clear hbi
    go_wp2
    go_ret
    exact ⟨false, rfl, ⟨fun h => (by cases h), fun h => (HF.out h).elim⟩, HA.out⟩
  | true =>
    have HP : Hid R := hbi.1 rfl
    have HD : Hid (decide ((N : Int) ≤ 300) = true ↔ V) := by
      unfold Hid
      rw [HV.out, decide_eq_true_eq]
      exact ⟨fun h => ⟨HP.out, by omega⟩, fun h => by have := h.2; omega⟩
    clear hbi
    go_wp2_with fail
    with_reducible refine (CN.out _ HA.out).mono ?_
    rintro r w2 ⟨rfl, hb2⟩
    replace HA := Lib.hid (below_of2 HA.out hb2)
    clear hb2 CN
    go_wp2
    go_ret
    exact ⟨_, rfl, HD.out, HA.out⟩
end Go.Proofs.YtnfbjcpoealkoaaGreatDoor.node
/-
  What spec.NumText returns: the notation of a valid number.
-/
namespace Go.Proofs.YtnfbjcpoealkoaaGreatDoor.numtext
open Go.ChangeShapes Go.WideShapes Go.ChangeAt Go.RowKit
open Go.Proofs.YtnfbjcpoealkoaaGreatDoor.val Go.Proofs.YtnfbjcpoealkoaaGreatDoor.num Go.Proofs.YtnfbjcpoealkoaaGreatDoor.node
set_option maxRecDepth 100000

set_option maxHeartbeats 1000000 in
theorem spec_other {w : World} {B : Nat} {t : LT} (h : In w B t) (hz : t.sz ≤ 1048576) (hn : t.nodes ≤ 2000000) (h3 : ¬ t.k = 3) (h4 : ¬ t.k = 4) (w' : World) (hb : Below B w w') (hB : B ≤ w'.heap.size) :
    Calls Tryz.prog 110 #[.agg #[.int .i64 t.k, .int .i64 t.n, .int .i64 t.e, .string t.s, t.row]] w' fun r w'' => r = .returned (.string (numText t)) ∧ Below w'.heap.size w' w'' := by
  rw [numText_no (isNum_kind h3 h4)]
  have hrow : t.row = .slice t.a t.kids.length t.cap := rfl
  have HA : Hid (Below w'.heap.size w' (w'.alloc (.cells #[.int .i64 t.k, .int .i64 t.n, .int .i64 t.e, .string t.s, .slice t.a t.kids.length t.cap] 46))) := (Below.refl _ _).alloc (Nat.le_refl _) _
  have HX : Hid (Box (w'.alloc (.cells #[.int .i64 t.k, .int .i64 t.n, .int .i64 t.e, .string t.s, .slice t.a t.kids.length t.cap] 46)) w'.heap.size t) := Box.new w' t 46
  have CV : Hid (∀ W, Below w'.heap.size w' W → Calls Tryz.prog 107 #[.agg #[.int .i64 t.k, .int .i64 t.n, .int .i64 t.e, .string t.s, t.row]] W (OwnR (ValidT t) W)) := fun W hW => spec_value h hz hn W (hb.trans (hW.mono hB)) (Nat.le_trans hB hW.size)
  simp only [hrow] at CV ⊢
  generalize ValidT t = V at *
  clear h hz hn hb hB hrow
  go_enter Tryz.func110, Tryz.ntmps110
  go_wp2_with fail
  with_reducible refine (CV.out _ HA.out).mono ?_
  rintro r w1 ⟨b, rfl, hbi, hb1⟩
  clear hbi
  replace HX := Lib.hid (HX.out.behind hb1)
  replace HA := Lib.hid (below_of2 HA.out hb1)
  clear hb1 CV
  obtain ⟨p0, p1, p2, p3, p4⟩ := HX.out
  unfold LT.row at p4
  have e3 : (t.k == 3) = false := by simp [h3]
  have e4 : (t.k == 4) = false := by simp [h4]
  have e4' : (t.k != 4) = true := by simp [h4]
  cases b with
  | false =>
    go_wp2
    go_ret
    exact ⟨rfl, HA.out⟩
  | true =>
    go_wp2
    go_ret
    exact ⟨rfl, HA.out⟩
/-- A valid decimal's fields. -/
theorem dec_fields {n e : Int} {s : ByteArray} {a : Option Addr} {cap : Nat} {kids : List LT} (h : numOk (.mk 4 n e s a cap kids) = true) : -20 ≤ e ∧ e ≤ 20 ∧ e ≠ 0 := by
  rw [num_dec', Bool.and_eq_true] at h
  by_cases hc : -20 ≤ e ∧ e ≤ 20 ∧ e ≠ 0
  · exact hc
  · have := dec_no (n := n) (e := e) (fun h' => hc ⟨h'.1, h'.2.1, h'.2.2.1⟩)
    rw [this] at h
    cases h.2
theorem int_fields {n e : Int} {s : ByteArray} {a : Option Addr} {cap : Nat} {kids : List LT} (h : numOk (.mk 3 n e s a cap kids) = true) : e = 0 := by
  rw [num_int', Bool.and_eq_true] at h
  exact of_decide_eq_true h.2
theorem text_high {n e : Int} (h : 0 < e) : textL n e = Lib.itoa n ++ 101 :: Lib.itoa e := if_pos h
theorem text_int (n : Int) : textL n 0 = Lib.itoa n := rfl
theorem text_low {n : Int} {K : Nat} (h : 1 ≤ K) : textL n (-(K : Int)) = (if n < 0 then [45] else []) ++ pointL (Lib.decDigits n.natAbs) K := by
  unfold textL
  rw [if_neg (by omega), if_neg (by omega)]
  congr 2
  omega
theorem numText_yes {t : LT} (hk : t.k = 3 ∨ t.k = 4) (h : numOk t = true) : numText t = ⟨(textL t.n t.e).toArray⟩ := by
  have hi : isNum t = true := by unfold isNum; rcases hk with hk | hk <;> simp [hk, h]
  unfold numText
  rw [if_pos hi]
theorem spec_numtext {w : World} {B : Nat} {t : LT} (h : In w B t) (hz : t.sz ≤ 1048576) (hn : t.nodes ≤ 2000000) (w' : World) (hb : Below B w w') (hB : B ≤ w'.heap.size) :
    Calls Tryz.prog 110 #[.agg #[.int .i64 t.k, .int .i64 t.n, .int .i64 t.e, .string t.s, t.row]] w' fun r w'' => r = .returned (.string (numText t)) ∧ Below w'.heap.size w' w'' := by
  by_cases hk : t.k = 3 ∨ t.k = 4
  · cases hv : numOk t with
    | false => exact spec_bad hk hv w'
    | true =>
      have hR := numText_yes hk hv
      have CV := fun W => spec_value_num t hk W
      rw [hv] at CV
      generalize numText t = R at *
      have hIn : InI t.n ∧ InI t.e := by cases h; exact ⟨by assumption, by assumption⟩
      obtain ⟨k, n, e, s, a, cap, kids⟩ := t
      obtain ⟨hn', he'⟩ := hIn
      rcases hk with hk | hk
      · obtain rfl : k = 3 := hk
        obtain rfl := int_fields hv
        exact spec_int hn' hR w' CV
      · obtain rfl : k = 4 := hk
        obtain ⟨e1, e2, e3⟩ := dec_fields hv
        by_cases hp : 0 < e
        · exact spec_high hn' he' hp (by rw [hR]; exact congrArg (fun l => ByteArray.mk (List.toArray l)) (text_high hp)) w' CV
        · obtain ⟨K, rfl⟩ : ∃ K : Nat, e = -(K : Int) := ⟨(-e).toNat, by omega⟩
          have ht := text_low (n := n) (K := K) (by omega)
          by_cases hneg : n < 0
          · rw [if_pos hneg] at ht
            exact spec_low_neg hn' (by omega) (by omega) hneg (by rw [hR]; exact congrArg (fun l => ByteArray.mk (List.toArray l)) ht) w' CV
          · rw [if_neg hneg] at ht
            exact spec_low_pos hn' (by omega) (by omega) hneg (by rw [hR]; exact congrArg (fun l => ByteArray.mk (List.toArray l)) ht) w' CV
  · exact spec_other h hz hn (fun e => hk (.inl e)) (fun e => hk (.inr e)) w' hb hB
end Go.Proofs.YtnfbjcpoealkoaaGreatDoor.numtext
