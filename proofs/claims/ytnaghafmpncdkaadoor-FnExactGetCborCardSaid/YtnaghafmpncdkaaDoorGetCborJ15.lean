/-
  spec.l02Right and spec.ValueOk at every value.
-/
import Derived.Test.YtnaghafmpncdkaaDoorGetCborJ10
import Derived.Test.YtnaghafmpncdkaaDoorGetCborJ11
import Derived.Test.YtnaghafmpncdkaaDoorGetCborJ14
import Derived.Test.YtnaghafmpncdkaaDoorGetCborJ6
import Derived.Test.YtnaghafmpncdkaaDoorGetCborJ0
import Derived.Test.YtnaghafmpncdkaaDoorGetCborJ13
namespace Go.Proofs.YtnaghafmpncdkaaDoor.node
open Go.ChangeShapes Go.WideShapes Go.ChangeAt Go.RowKit
open Go.Proofs.YtnaghafmpncdkaaDoor.val Go.Proofs.YtnaghafmpncdkaaDoor.num
set_option maxRecDepth 100000

mutual
/-- A value is right, at most d kids deep. -/
def RightT : LT → Int → Prop
  | .mk k n e s a cap kids, d => 0 ≤ d ∧ OwnP (.mk k n e s a cap kids) ∧ RightL kids (d - 1)
def RightL : List LT → Int → Prop
  | [], _ => True
  | t :: ts, d => RightT t d ∧ RightL ts d
end
theorem rightL_take (l : List LT) (d : Int) : ∀ j (h : j < l.length), RightL (l.take (j + 1)) d ↔ RightL (l.take j) d ∧ RightT l[j] d := by
  induction l with
  | nil => intro j h; simp at h
  | cons x l ih =>
    intro j h
    cases j with
    | zero => simp [RightL]
    | succ j =>
      have h' : j < l.length := by simpa using h
      rw [List.take_succ_cons, List.take_succ_cons, RightL, RightL, ih j h', List.getElem_cons_succ]
      constructor
      · rintro ⟨a, b, c⟩; exact ⟨⟨a, b⟩, c⟩
      · rintro ⟨⟨a, b⟩, c⟩; exact ⟨a, b, c⟩
theorem rightL_mem {l : List LT} {d : Int} (h : RightL l d) : ∀ j (hj : j < l.length), RightT l[j] d := by
  induction l with
  | nil => intro j h; simp at h
  | cons x l ih =>
    intro j hj
    rw [RightL] at h
    cases j with
    | zero => exact h.1
    | succ j => exact ih h.2 j (by simpa using hj)
theorem kid_sz (l : List LT) (j : Nat) (h : j < l.length) : l[j].sz ≤ LT.szL l ∧ l.length ≤ LT.szL l := by
  have h2 : l.length ≤ LT.szL l := by
    clear h
    induction l with
    | nil => simp [LT.szL]
    | cons x l ih => rw [LT.szL, List.length_cons]; omega
  refine ⟨?_, h2⟩
  clear h2
  induction l generalizing j with
  | nil => simp at h
  | cons x l ih =>
    rw [LT.szL]
    cases j with
    | zero => simp only [List.getElem_cons_zero]; omega
    | succ j =>
      have := ih j (by simpa using h)
      simp only [List.getElem_cons_succ]
      omega
theorem len_sz (l : List LT) : l.length ≤ LT.szL l := by
  induction l with
  | nil => simp [LT.szL]
  | cons x l ih => rw [LT.szL, List.length_cons]; omega
/-- What spec.l02Own tells, of any value in memory. -/
theorem own_any {w : World} {B : Nat} {t : LT} (h : In w B t) (hz : t.sz ≤ 1048576) (w' : World) (hb : Below B w w') (hB : B ≤ w'.heap.size) :
    Calls Tryd.prog 111 #[.agg #[.int .i64 t.k, .int .i64 t.n, .int .i64 t.e, .string t.s, t.row]] w' (OwnC t w') := by
  cases h with
  | mk hk hn he hs hl hc hkids =>
    rename_i k n e s a cap kids
    have hz' : s.size + LT.szL kids ≤ 1048576 := by rw [LT.sz] at hz; exact hz
    have hkl := len_sz kids
    have num : (k = 3 ∨ k = 4) → Calls Tryd.prog 111 #[.agg #[.int .i64 k, .int .i64 n, .int .i64 e, .string s, .slice a kids.length cap]] w' (OwnC (.mk k n e s a cap kids) w') := fun hk => by
      refine (own_num (.mk k n e s a cap kids) hk w').mono ?_
      rintro r w'' ⟨rfl, hb⟩
      refine ⟨_, rfl, ?_, hb⟩
      rcases hk with rfl | rfl
      · exact Iff.rfl
      · exact Iff.rfl
    show Calls Tryd.prog 111 #[.agg #[.int .i64 k, .int .i64 n, .int .i64 e, .string s, .slice a kids.length cap]] w' (OwnC (.mk k n e s a cap kids) w')
    by_cases hr : 0 ≤ k ∧ k ≤ 9
    · rcases (show k = 0 ∨ k = 1 ∨ k = 2 ∨ k = 3 ∨ k = 4 ∨ k = 5 ∨ k = 6 ∨ k = 7 ∨ k = 8 ∨ k = 9 by omega) with rfl | rfl | rfl | rfl | rfl | rfl | rfl | rfl | rfl | rfl
      · exact own_null n e s a kids cap w'
      · exact own_false n e s a kids cap w'
      · exact own_true n e s a kids cap w'
      · exact num (.inl rfl)
      · exact num (.inr rfl)
      · exact own_text n e s a kids cap w' (by omega)
      · exact own_bytes n e s a kids cap w'
      · exact own_list n e s a kids cap w'
      · exact own_map n e s a kids cap w' (fun W hW => pairs_any w B a cap kids (by omega) hc W (hb.trans (hW.mono hB)) (Nat.le_trans hB hW.size))
      · exact own_tag n e s a kids cap w'
    · exact own_other k n e s a kids cap w' hr
def RightC (w : World) (B : Nat) (t : LT) : Prop := t.sz ≤ 1048576 → ∀ (d : Int), -1000 ≤ d → d ≤ 1000 → ∀ w', Below B w w' → B ≤ w'.heap.size →
  Calls Tryd.prog 87 #[.agg #[.int .i64 t.k, .int .i64 t.n, .int .i64 t.e, .string t.s, t.row], .int .i64 d] w' (OwnR (RightT t d) w')
set_option maxHeartbeats 2000000 in
theorem right_any {w : World} {B : Nat} {t : LT} (h : In w B t) : RightC w B t := by
  induction h with
  | mk hk hn he hs hl hc hkids ih =>
    rename_i k n e s a cap kids
    intro hz d hd0 hd1 w' hb hB
    have hIn : In w B (.mk k n e s a cap kids) := .mk hk hn he hs hl hc hkids
    have CO : Hid (∀ W, Below w'.heap.size w' W → Calls Tryd.prog 111 #[.agg #[.int .i64 k, .int .i64 n, .int .i64 e, .string s, .slice a kids.length cap]] W (OwnR (OwnP (.mk k n e s a cap kids)) W)) := fun W hW => own_any hIn hz W (hb.trans (hW.mono hB)) (Nat.le_trans hB hW.size)
    have HC := Lib.hid hc
    have IH := Lib.hid ih
    have HB := Lib.hid hb
    have HZK : Hid (LT.szL kids ≤ 1048576) := by rw [LT.sz] at hz; unfold Hid; omega
    have hkl : kids.length ≤ 1048576 := Nat.le_trans (len_sz kids) HZK.out
    have HA : Hid (Below w'.heap.size w' (w'.alloc (.cells #[.int .i64 k, .int .i64 n, .int .i64 e, .string s, .slice a kids.length cap] 24))) := (Below.refl _ _).alloc (Nat.le_refl _) _
    have HR : Hid (RightT (.mk k n e s a cap kids) d ↔ 0 ≤ d ∧ OwnP (.mk k n e s a cap kids) ∧ RightL kids (d - 1)) := by unfold Hid; rw [RightT]
    unfold LT.row
    simp only [LT.k, LT.n, LT.e, LT.s, LT.a, LT.cap, LT.kids]
    generalize RightT (.mk k n e s a cap kids) d = R at *
    generalize OwnP (.mk k n e s a cap kids) = P at *
    clear hc ih hkids hb hz hIn hl hs hk hn he
    by_cases hdn : d < 0
    · have HF : Hid (¬ R) := fun hr => by have := (HR.out.1 hr).1; omega
      go_enter Tryd.func87, Tryd.ntmps87
      go_wp2
      go_ret
      exact ⟨false, rfl, ⟨fun h => (by cases h), fun h => (HF.out h).elim⟩, HA.out⟩
    · go_enter Tryd.func87, Tryd.ntmps87
      go_wp2_with fail
      with_reducible refine (CO.out _ HA.out).mono ?_
      rintro r w1 ⟨b, rfl, hbi, hb1⟩
      have HW1 : Hid (Below (w'.heap.size + 1) (w'.alloc (.cells #[.int .i64 k, .int .i64 n, .int .i64 e, .string s, .slice a kids.length cap] 24)) w1) := hb1.mono (by simp)
      have hz1 : w'.heap.size + 1 ≤ w1.heap.size := by have := hb1.size; simp at this; exact this
      obtain ⟨x0, x4⟩ := held4_of HW1.out
      clear hb1 CO
      cases b with
      | false =>
        have HF : Hid (¬ R) := fun hr => by have := hbi.2 (HR.out.1 hr).2.1; cases this
        have HBF := Lib.hid (HA.out.trans (HW1.out.mono (by omega)))
        clear hbi
        go_wp2
        go_ret
        exact ⟨false, rfl, ⟨fun h => (by cases h), fun h => (HF.out h).elim⟩, HBF.out⟩
      | true =>
        have HP : Hid P := hbi.1 rfl
        clear hbi
        go_wp2
        go_loopw [5] (fun i wr => ∃ j : Nat, i = .int .i64 j ∧ j ≤ kids.length ∧ Hid (RightL (kids.take j) (d - 1)) ∧ w'.heap.size + 1 ≤ wr.heap.size ∧ Hid (Below (w'.heap.size + 1) (w'.alloc (.cells #[.int .i64 k, .int .i64 n, .int .i64 e, .string s, .slice a kids.length cap] 24)) wr)) (fun i _ => kids.length - (intOf i).toNat)
        case atStart => exact ⟨0, rfl, by omega, by simp [Hid, RightL], hz1, HW1⟩
        case round =>
          clear HW1 hz1 x0 x4
          obtain ⟨j, rfl, hj, HL, hwz, HW⟩ := hrel
          obtain ⟨x0, x4⟩ := held4_of HW.out
          by_cases hlt : j < kids.length
          · have hj0 : (0 : Int) ≤ (j : Int) := by omega
            have hj1 : (j : Int) < (kids.length : Int) := by omega
            obtain ⟨x, rfl, hx, h5⟩ := HC.out j hlt
            have hbr := HB.out.trans ((HA.out.trans (HW.out.mono (by omega))).mono hB)
            obtain ⟨c0, c1, c2, c3, c4⟩ := h5.below (by rw [add_block]; exact hx) hbr
            have C := IH.out j hlt (by have := (kid_sz kids j hlt).1; have := HZK.out; omega) (d - 1) (by omega) (by omega) wr hbr (by omega)
            have HNX : Hid (RightT kids[j] (d - 1) → RightL (kids.take (j + 1)) (d - 1)) := fun h => (rightL_take kids (d - 1) j hlt).2 ⟨HL.out, h⟩
            have HNO : Hid (¬ RightT kids[j] (d - 1) → ¬ R) := fun h hr => h (rightL_mem (HR.out.1 hr).2.2 j hlt)
            generalize RightT kids[j] (d - 1) = Q at *
            generalize kids[j] = t at *
            have hrow : t.row = .slice t.a t.kids.length t.cap := rfl
            rw [hrow] at C c4
            replace C := Lib.hid C
            clear h5 hbr HC IH HB hrow
            go_wp2_with fail
            with_reducible refine C.out.mono ?_
            rintro e w1 ⟨b, rfl, hbi, hb1⟩
            have HW1 := Lib.hid (HW.out.trans (hb1.mono (by omega)))
            have hz1 := Nat.le_trans hwz hb1.size
            clear C hb1 c0 c1 c2 c3 c4 HW x0 x4
            cases b with
            | false =>
              have HF : Hid (¬ R) := HNO.out fun h => by have := hbi.2 h; cases this
              have HBF := Lib.hid (HA.out.trans (HW1.out.mono (by omega)))
              clear hbi
              go_wp2
              go_ret
              exact ⟨false, rfl, ⟨fun h => (by cases h), fun h => (HF.out h).elim⟩, HBF.out⟩
            | true =>
              have HN := Lib.hid (HNX.out (hbi.1 rfl))
              clear hbi
              go_wp2
              go_roundw
              case rel => exact ⟨j + 1, by go_num, by omega, HN, hz1, HW1⟩
              case measure => simp [intOf]; omega
          · have hj1 : ¬ (j : Int) < (kids.length : Int) := by omega
            have he : j = kids.length := by omega
            subst he
            have HF : Hid R := HR.out.2 ⟨by omega, HP.out, by have := HL.out; rwa [List.take_length] at this⟩
            have HBF := Lib.hid (HA.out.trans (HW.out.mono (by omega)))
            clear HC IH HB
            go_wp2
            go_ret
            exact ⟨true, rfl, ⟨fun _ => HF.out, fun _ => rfl⟩, HBF.out⟩
/-- A value is valid. -/
def ValidT (t : LT) : Prop := RightT t 12 ∧ t.nodes ≤ 300
set_option maxHeartbeats 1000000 in
theorem spec_value {w : World} {B : Nat} {t : LT} (h : In w B t) (hz : t.sz ≤ 1048576) (hn : t.nodes ≤ 2000000) (w' : World) (hb : Below B w w') (hB : B ≤ w'.heap.size) :
    Calls Tryd.prog 63 #[.agg #[.int .i64 t.k, .int .i64 t.n, .int .i64 t.e, .string t.s, t.row]] w' (OwnR (ValidT t) w') := by
  have hrow : t.row = .slice t.a t.kids.length t.cap := rfl
  have HA : Hid (Below w'.heap.size w' (w'.alloc (.cells #[.int .i64 t.k, .int .i64 t.n, .int .i64 t.e, .string t.s, .slice t.a t.kids.length t.cap] 24))) := (Below.refl _ _).alloc (Nat.le_refl _) _
  have HX : Hid (Box (w'.alloc (.cells #[.int .i64 t.k, .int .i64 t.n, .int .i64 t.e, .string t.s, .slice t.a t.kids.length t.cap] 24)) w'.heap.size t) := Box.new w' t 24
  have CR : Hid (∀ W, Below w'.heap.size w' W → Calls Tryd.prog 87 #[.agg #[.int .i64 t.k, .int .i64 t.n, .int .i64 t.e, .string t.s, t.row], .int .i64 12] W (OwnR (RightT t 12) W)) := fun W hW => right_any h hz 12 (by omega) (by omega) W (hb.trans (hW.mono hB)) (Nat.le_trans hB hW.size)
  have CN : Hid (∀ W, Below w'.heap.size w' W → Calls Tryd.prog 88 #[.agg #[.int .i64 t.k, .int .i64 t.n, .int .i64 t.e, .string t.s, t.row]] W fun r w'' => r = .returned (.int .i64 ((er t).nodes : Int)) ∧ Below W.heap.size W w'') := fun W hW => by
    have := spec_nodes h hn W (hb.trans (hW.mono hB)) (Nat.le_trans hB hW.size)
    simpa using this
  have HV : Hid (ValidT t ↔ RightT t 12 ∧ (er t).nodes ≤ 300) := by unfold Hid ValidT; rw [nodes_er]
  simp only [hrow] at CR CN ⊢
  generalize ValidT t = V at *
  generalize RightT t 12 = R at *
  generalize (er t).nodes = N at *
  clear h hz hn hb hB hrow
  go_enter Tryd.func63, Tryd.ntmps63
  go_wp2_with fail
  with_reducible refine (CR.out _ HA.out).mono ?_
  rintro r w1 ⟨b, rfl, hbi, hb1⟩
  replace HX := Lib.hid (HX.out.behind hb1)
  replace HA := Lib.hid (below_of2 HA.out hb1)
  clear hb1 CR
  obtain ⟨p0, p1, p2, p3, p4⟩ := HX.out
  unfold LT.row at p4
  cases b with
  | false =>
    have HF : Hid (¬ V) := fun hv => by have := hbi.2 (HV.out.1 hv).1; cases this
    clear hbi
    go_wp2
    go_ret
    exact ⟨false, rfl, ⟨fun h => (by cases h), fun h => (HF.out h).elim⟩, HA.out⟩
  | true =>
    have HP : Hid R := hbi.1 rfl
    have HD : Hid (decide ((N : Int) ≤ 300) = true ↔ V) := by
      unfold Hid
      rw [HV.out, decide_eq_true_eq]
      exact ⟨fun h => ⟨HP.out, by omega⟩, fun h => by have := h.2; omega⟩
    clear hbi
    go_wp2_with fail
    with_reducible refine (CN.out _ HA.out).mono ?_
    rintro r w2 ⟨rfl, hb2⟩
    replace HA := Lib.hid (below_of2 HA.out hb2)
    clear hb2 CN
    go_wp2
    go_ret
    exact ⟨_, rfl, HD.out, HA.out⟩
end Go.Proofs.YtnaghafmpncdkaaDoor.node
/-
  What spec.l05Put returns at every value of which CBOR has one form: its bytes.
-/
namespace Go.Proofs.YtnaghafmpncdkaaDoor.cbor
open Go.ChangeShapes Go.WideShapes Go.ChangeAt Go.RowKit
open Go.Proofs.YtnaghafmpncdkaaDoor.val Go.Proofs.YtnaghafmpncdkaaDoor.head
set_option maxRecDepth 100000

def PutS (F : FuncId) (args : Array Value) (L : List UInt8) (W : World) : Prop := Calls Tryd.prog F args W fun r w' => r = .returned (.string ⟨L.toArray⟩) ∧ Below W.heap.size W w'
set_option maxHeartbeats 1000000 in
theorem num_any (n : Int) (hn : InI n) (w : World) : PutS 78 #[.int .i64 n] (intL n) w := by
  unfold InI at hn
  by_cases h : n < 0
  · have C : Hid (∀ W, PutS 77 #[.int .i64 1, .int .u64 (-1 - n)] (intL n) W) := fun W => by
      have := head.spec_nat 1 (-1 - n).toNat (by omega) (by omega) W
      rw [show (((-1 - n).toNat : Nat) : Int) = -1 - n by omega] at this
      unfold intL
      rw [if_pos h]
      exact this
    have h0 : ¬ 0 ≤ n := by omega
    have h1 : -9223372036854775808 ≤ -1 - n := by omega
    have h2 : -1 - n ≤ 9223372036854775807 := by omega
    have h3 : 0 ≤ -1 - n := by omega
    generalize intL n = L at *
    unfold PutS at C ⊢
    go_enter Tryd.func78, Tryd.ntmps78
    go_wp2_with fail
    with_reducible refine (C.out _).mono ?_
    rintro r w1 ⟨rfl, hb⟩
    go_wp2
    go_ret
    exact ⟨rfl, hb⟩
  · have C : Hid (∀ W, PutS 77 #[.int .i64 0, .int .u64 n] (intL n) W) := fun W => by
      have := head.spec_nat 0 n.toNat (by omega) (by omega) W
      rw [show ((n.toNat : Nat) : Int) = n by omega] at this
      unfold intL
      rw [if_neg h]
      exact this
    have h0 : 0 ≤ n := by omega
    have h2 : n ≤ 9223372036854775807 := by omega
    generalize intL n = L at *
    unfold PutS at C ⊢
    go_enter Tryd.func78, Tryd.ntmps78
    go_wp2_with fail
    with_reducible refine (C.out _).mono ?_
    rintro r w1 ⟨rfl, hb⟩
    go_wp2
    go_ret
    exact ⟨rfl, hb⟩
section
variable {n e : Int} {s : ByteArray} {a : Option Addr} {m cap : Nat} (w : World)
theorem box (k n e : Int) (s : ByteArray) (v : Value) (w : World) : Below w.heap.size w (w.alloc (.cells #[.int .i64 k, .int .i64 n, .int .i64 e, .string s, v] 24)) := (Below.refl _ _).alloc (Nat.le_refl _) _
set_option maxHeartbeats 1000000 in
theorem put_word (k : Int) (N : Nat) (hk : (k = 0 ∧ N = 22) ∨ (k = 1 ∧ N = 20) ∨ (k = 2 ∧ N = 21)) : PutS 51 #[.agg #[.int .i64 k, .int .i64 n, .int .i64 e, .string s, .slice a m cap]] (headL 7 N) w := by
  have HA := Lib.hid (box k n e s (.slice a m cap) w)
  rcases hk with ⟨rfl, rfl⟩ | ⟨rfl, rfl⟩ | ⟨rfl, rfl⟩
  · have C : Hid (∀ W, PutS 77 #[.int .i64 7, .int .u64 22] (headL 7 22) W) := fun W => head.spec_nat 7 22 (by omega) (by omega) W
    generalize headL 7 22 = L at *
    unfold PutS at C ⊢
    go_enter Tryd.func51, Tryd.ntmps51
    go_wp2_with fail
    with_reducible refine (C.out _).mono ?_
    rintro r w1 ⟨rfl, hb⟩
    have HB := Lib.hid (below_of2 HA.out hb)
    clear hb
    go_wp2
    go_ret
    exact ⟨rfl, HB.out⟩
  · have C : Hid (∀ W, PutS 77 #[.int .i64 7, .int .u64 20] (headL 7 20) W) := fun W => head.spec_nat 7 20 (by omega) (by omega) W
    generalize headL 7 20 = L at *
    unfold PutS at C ⊢
    go_enter Tryd.func51, Tryd.ntmps51
    go_wp2_with fail
    with_reducible refine (C.out _).mono ?_
    rintro r w1 ⟨rfl, hb⟩
    have HB := Lib.hid (below_of2 HA.out hb)
    clear hb
    go_wp2
    go_ret
    exact ⟨rfl, HB.out⟩
  · have C : Hid (∀ W, PutS 77 #[.int .i64 7, .int .u64 21] (headL 7 21) W) := fun W => head.spec_nat 7 21 (by omega) (by omega) W
    generalize headL 7 21 = L at *
    unfold PutS at C ⊢
    go_enter Tryd.func51, Tryd.ntmps51
    go_wp2_with fail
    with_reducible refine (C.out _).mono ?_
    rintro r w1 ⟨rfl, hb⟩
    have HB := Lib.hid (below_of2 HA.out hb)
    clear hb
    go_wp2
    go_ret
    exact ⟨rfl, HB.out⟩
set_option maxHeartbeats 1000000 in
theorem put_int (hn : InI n) : PutS 51 #[.agg #[.int .i64 3, .int .i64 n, .int .i64 e, .string s, .slice a m cap]] (intL n) w := by
  have HA := Lib.hid (box 3 n e s (.slice a m cap) w)
  have C := Lib.hid (fun W => num_any n hn W)
  generalize intL n = L at *
  unfold PutS at C ⊢
  go_enter Tryd.func51, Tryd.ntmps51
  go_wp2_with fail
  with_reducible refine (C.out _).mono ?_
  rintro r w1 ⟨rfl, hb⟩
  have HB := Lib.hid (below_of2 HA.out hb)
  clear hb
  go_wp2
  go_ret
  exact ⟨rfl, HB.out⟩
end
end Go.Proofs.YtnaghafmpncdkaaDoor.cbor
/-
  impl.nodeOf at every kind.
-/
namespace Go.Proofs.YtnaghafmpncdkaaDoor.node
open Go.ChangeShapes Go.WideShapes Go.ChangeAt Go.RowKit
open Go.Proofs.YtnaghafmpncdkaaDoor.val
set_option maxRecDepth 100000

/-- The node of a value, as an interface. -/
def nodeV (k n e : Int) (s : ByteArray) (row : Value) : Option Value :=
  if k = 0 then some (.iface 169 (.agg #[])) else
  if k = 1 then some (.iface 170 (.agg #[])) else
  if k = 2 then some (.iface 171 (.agg #[])) else
  if k = 3 then some (.iface 173 (.agg #[.int .i64 n])) else
  if k = 4 then some (.iface 175 (.agg #[.int .i64 n, .int .i64 e])) else
  if k = 5 then some (.iface 177 (.agg #[.string s])) else
  if k = 6 then some (.iface 178 (.agg #[.string s])) else
  if k = 7 then some (.iface 180 (.agg #[row])) else
  if k = 8 then some (.iface 181 (.agg #[row])) else
  if k = 9 then some (.iface 183 (.agg #[.int .i64 n, row])) else none
set_option maxHeartbeats 2000000 in
theorem nodeOf_any (k n e : Int) (s : ByteArray) (a : Option Addr) (m cap : Nat) (v : Value) (hv : nodeV k n e s (.slice a m cap) = some v) (w : World) : Calls Tryd.prog 108 #[.agg #[.int .i64 k, .int .i64 n, .int .i64 e, .string s, .slice a m cap]] w fun r w' => r = .returned v ∧ Below w.heap.size w w' := by
  have HB := Lib.hid ((Below.refl w.heap.size w).alloc (Nat.le_refl _) (.cells #[.int .i64 k, .int .i64 n, .int .i64 e, .string s, .slice a m cap] 24))
  unfold nodeV at hv
  repeat' split at hv
  all_goals cases hv
  all_goals
    subst_vars
    go_enter Tryd.func108, Tryd.ntmps108
    go_wp2
    go_ret
    exact ⟨rfl, HB.out⟩
set_option maxHeartbeats 2000000 in
theorem nodeOf_none (k n e : Int) (s : ByteArray) (a : Option Addr) (m cap : Nat) (hv : nodeV k n e s (.slice a m cap) = none) (w : World) : Calls Tryd.prog 108 #[.agg #[.int .i64 k, .int .i64 n, .int .i64 e, .string s, .slice a m cap]] w fun r w' => r = .returned .nilIface ∧ Below w.heap.size w w' := by
  have HB := Lib.hid ((Below.refl w.heap.size w).alloc (Nat.le_refl _) (.cells #[.int .i64 k, .int .i64 n, .int .i64 e, .string s, .slice a m cap] 24))
  unfold nodeV at hv
  repeat' split at hv
  all_goals try cases hv
  all_goals
    rename_i h0 h1 h2 h3 h4 h5 h6 h7 h8 h9
    have k0 : (k == 0) = false := by simp [h0]
    have k1 : (k == 1) = false := by simp [h1]
    have k2 : (k == 2) = false := by simp [h2]
    have k3 : (k == 3) = false := by simp [h3]
    have k4 : (k == 4) = false := by simp [h4]
    have k5 : (k == 5) = false := by simp [h5]
    have k6 : (k == 6) = false := by simp [h6]
    have k7 : (k == 7) = false := by simp [h7]
    have k8 : (k == 8) = false := by simp [h8]
    have k9 : (k == 9) = false := by simp [h9]
    clear h0 h1 h2 h3 h4 h5 h6 h7 h8 h9
    go_enter Tryd.func108, Tryd.ntmps108
    go_wp2
    go_ret
    exact ⟨rfl, HB.out⟩
end Go.Proofs.YtnaghafmpncdkaaDoor.node
/-
  impl.finite hands its value back where impl.endless answers false.
-/
namespace Go.Proofs.YtnaghafmpncdkaaDoor.val
open Go.ChangeShapes Go.WideShapes Go.ChangeAt Go.RowKit
set_option maxRecDepth 100000
attribute [local go_sem] Oper.semAt_some

/-- impl.endless answers false. -/
def EndC : Prop := ∀ (w : World) (t : LT), Mine w t → t.nodes ≤ 2000000 → Calls Tryd.prog 99 #[.agg #[.int .i64 t.k, .int .i64 t.n, .int .i64 t.e, .string t.s, t.row]] w fun e w' => e = .returned (.bool false) ∧ Below w.heap.size w w'
theorem EndC.run (h : EndC) {w w' : World} {t : LT} (hI : Mine w t) (hz : t.nodes ≤ 2000000) (hb : Below w.heap.size w w') : Calls Tryd.prog 99 #[.agg #[.int .i64 t.k, .int .i64 t.n, .int .i64 t.e, .string t.s, t.row]] w' fun e w'' => e = .returned (.bool false) ∧ Below w'.heap.size w' w'' :=
  h w' t (hI.behind hb) hz
theorem size_run {w w' : World} {t : LT} (hI : In w w.heap.size t) (hz : t.nodes ≤ 2000000) (hb : Below w.heap.size w w') : Calls Tryd.prog 84 #[.agg #[.int .i64 t.k, .int .i64 t.n, .int .i64 t.e, .string t.s, t.row]] w' fun e w'' => ∃ b : Bool, e = .returned (.bool b) ∧ Below w'.heap.size w' w'' :=
  size_any w' t ((hI.behind hb).mono hb.size) hz

/-- Five cells that may be written. -/
structure Res5 (W : World) (N : Nat) : Prop where
  f0 : W.frozen? ⟨N, 0, none⟩ = false
  f1 : W.frozen? ⟨N, 1, none⟩ = false
  f2 : W.frozen? ⟨N, 2, none⟩ = false
  f3 : W.frozen? ⟨N, 3, none⟩ = false
  f4 : W.frozen? ⟨N, 4, none⟩ = false
  c0 : W.cell? ⟨N, 0, none⟩ = some (.int .i64 0)
  c1 : W.cell? ⟨N, 1, none⟩ = some (.int .i64 0)
  c2 : W.cell? ⟨N, 2, none⟩ = some (.int .i64 0)
  c3 : W.cell? ⟨N, 3, none⟩ = some (.string { data := #[] })
  c4 : W.cell? ⟨N, 4, none⟩ = some (.slice none 0 0)
  row : Hid (W.heap[N]? = some (.cells #[.int .i64 0, .int .i64 0, .int .i64 0, .string { data := #[] }, .slice none 0 0] 24 (0, 0)))
theorem Res5.of {W : World} {N : Nat} (h : W.heap[N]? = some (.cells #[.int .i64 0, .int .i64 0, .int .i64 0, .string { data := #[] }, .slice none 0 0] 24 (0, 0))) : Res5 W N :=
  ⟨frozen_of_row W N 0 _ _ h, frozen_of_row W N 1 _ _ h, frozen_of_row W N 2 _ _ h, frozen_of_row W N 3 _ _ h, frozen_of_row W N 4 _ _ h, cell_of_row W N 0 _ _ (0, 0) h, cell_of_row W N 1 _ _ (0, 0) h, cell_of_row W N 2 _ _ (0, 0) h, cell_of_row W N 3 _ _ (0, 0) h, cell_of_row W N 4 _ _ (0, 0) h, h⟩

theorem put_box {W : World} {N : Nat} {t : LT} (h : W.heap[N]? = some (.cells #[.int .i64 0, .int .i64 0, .int .i64 0, .string { data := #[] }, .slice none 0 0] 24 (0, 0))) : Box (put5 W N 0 t) N t := by
  have h1 := blk_set (o := 4) (blk_set (o := 3) (blk_set (o := 2) (blk_set (o := 1) (blk_set (o := 0) h (.int .i64 t.k)) (.int .i64 t.n)) (.int .i64 t.e)) (.string t.s)) t.row
  have h2 : (put5 W N 0 t).heap[N]? = some (.cells #[.int .i64 t.k, .int .i64 t.n, .int .i64 t.e, .string t.s, t.row] 24 (0, 0)) := by simpa [put5] using h1
  exact ⟨cell_of_row _ N 0 _ _ (0, 0) h2, cell_of_row _ N 1 _ _ (0, 0) h2, cell_of_row _ N 2 _ _ (0, 0) h2, cell_of_row _ N 3 _ _ (0, 0) h2, cell_of_row _ N 4 _ _ (0, 0) h2⟩
theorem put_below {w W : World} {B N : Nat} {t : LT} (h : Below B w W) (hN : B ≤ N) : Below B w (put5 W N 0 t) :=
  ((((h.setCell (p := ⟨N, 0, none⟩) hN _).setCell (p := ⟨N, 1, none⟩) hN _).setCell (p := ⟨N, 2, none⟩) hN _).setCell (p := ⟨N, 3, none⟩) hN _).setCell (p := ⟨N, 4, none⟩) hN _

set_option maxHeartbeats 2000000 in
theorem finite_any (HE : EndC) : FinC := by
  intro w t h hz
  have HIn := Lib.hid h.isIn
  have HMI := Lib.hid h
  have HEE := Lib.hid HE
  have HZ := Lib.hid hz
  have hb0 : Below w.heap.size w ((w.alloc (.cells #[.int .i64 t.k, .int .i64 t.n, .int .i64 t.e, .string t.s, t.row] 24)).alloc (.cells #[.int .i64 0, .int .i64 0, .int .i64 0, .string { data := #[] }, .slice none 0 0] 24)) := ((Below.refl _ _).alloc (Nat.le_refl _) _).alloc (by simp) _
  have HB0 := Lib.hid hb0
  have HX : Hid (∀ w1, Below ((w.alloc (.cells #[.int .i64 t.k, .int .i64 t.n, .int .i64 t.e, .string t.s, t.row] 24)).alloc (.cells #[.int .i64 0, .int .i64 0, .int .i64 0, .string { data := #[] }, .slice none 0 0] 24)).heap.size ((w.alloc (.cells #[.int .i64 t.k, .int .i64 t.n, .int .i64 t.e, .string t.s, t.row] 24)).alloc (.cells #[.int .i64 0, .int .i64 0, .int .i64 0, .string { data := #[] }, .slice none 0 0] 24)) w1 → Box w1 w.heap.size t) := fun w1 hb =>
    (Box.new w t 24).of_block ((hb.block _ (by simp; omega)).trans (Below.heap_alloc _ _ _ (by simp)))
  have HR : Hid (∀ w1, Below ((w.alloc (.cells #[.int .i64 t.k, .int .i64 t.n, .int .i64 t.e, .string t.s, t.row] 24)).alloc (.cells #[.int .i64 0, .int .i64 0, .int .i64 0, .string { data := #[] }, .slice none 0 0] 24)).heap.size ((w.alloc (.cells #[.int .i64 t.k, .int .i64 t.n, .int .i64 t.e, .string t.s, t.row] 24)).alloc (.cells #[.int .i64 0, .int .i64 0, .int .i64 0, .string { data := #[] }, .slice none 0 0] 24)) w1 → Res5 w1 (w.heap.size + 1)) := fun w1 hb => by
    have h1 := heap_alloc_new (w.alloc (.cells #[.int .i64 t.k, .int .i64 t.n, .int .i64 t.e, .string t.s, t.row] 24)) (.cells #[.int .i64 0, .int .i64 0, .int .i64 0, .string { data := #[] }, .slice none 0 0] 24)
    have h2 : w1.heap[w.heap.size + 1]? = some (.cells #[.int .i64 0, .int .i64 0, .int .i64 0, .string { data := #[] }, .slice none 0 0] 24 (0, 0)) := by
      rw [hb.block _ (by simp)]
      simpa using h1
    exact Res5.of h2
  clear h HE hz hb0
  refine (callsIn_wide (n := 4)).1 ?_
  refine callsIn_of_wp_marks Tryd.func72 rfl trivial ?_ rfl
  simp only [Tryd.ntmps72, List.size_toArray, List.length_cons, List.length_nil, Nat.reduceAdd, Nat.reduceSub, Array.replicate_succ, Array.replicate_zero, List.push_toArray, List.append_toArray, List.nil_append, List.cons_append]
  have hrow : t.row = .slice t.a t.kids.length t.cap := rfl
  simp only [hrow]
  clear hrow
  gi_wp2_with (refine ⟨trivial, ?_⟩; gi_at_call 84; refine (callsIn_wide.2 (size_run HIn.out HZ.out HB0.out)).mono ?_; rintro e w1 ⟨b, rfl, hb1⟩; cases b; all_goals (have HBB := Lib.hid hb1; obtain ⟨g0, g1, g2, g3, g4⟩ := HX.out _ hb1; replace g4 : _ = some (Value.slice t.a t.kids.length t.cap) := g4; obtain ⟨z0, z1, z2, z3, z4, y0, y1, y2, y3, y4, z5⟩ := HR.out _ hb1; clear hb1))
  · gi_wp2_with (refine ⟨trivial, ?_⟩; gi_at_call 99; refine (callsIn_wide.2 (HEE.out.run HMI.out HZ.out (HB0.out.trans (HBB.out.mono (by simp; omega))))).mono ?_; rintro e w2 ⟨rfl, hb2⟩; clear g0 g1 g2 g3 g4 z0 z1 z2 z3 z4 y0 y1 y2 y3 y4 z5; have HBC := Lib.hid (HBB.out.trans (hb2.mono HBB.out.size)); obtain ⟨g0, g1, g2, g3, g4⟩ := HX.out _ HBC.out; replace g4 : _ = some (Value.slice t.a t.kids.length t.cap) := g4; obtain ⟨z0, z1, z2, z3, z4, y0, y1, y2, y3, y4, z5⟩ := HR.out _ HBC.out; clear hb2 HBB)
    obtain ⟨k0, k1, k2, k3, k4⟩ := z5.out |> put_box (t := t)
    have hrow : t.row = .slice t.a t.kids.length t.cap := rfl
    have HBL : Hid (Below w.heap.size w w2) := HB0.out.trans (HBC.out.mono (by simp; omega))
    have HPB := Lib.hid (put_below (t := t) HBL.out (N := w.heap.size + 1) (by omega))
    simp only [put5, Nat.zero_add, hrow] at k0 k1 k2 k3 k4
    exact ⟨.agg #[.int .i64 t.k, .int .i64 t.n, .int .i64 t.e, .string t.s, .slice t.a t.kids.length t.cap], by simp [results, Tryd.results72, go_sem, k0, k1, k2, k3, k4], rfl, HPB.out⟩
  · refine ⟨trivial, ?_⟩
    gi_wp2
    obtain ⟨k0, k1, k2, k3, k4⟩ := z5.out |> put_box (t := t)
    have hrow : t.row = .slice t.a t.kids.length t.cap := rfl
    have HBL : Hid (Below w.heap.size w w1) := HB0.out.trans (HBB.out.mono (by simp; omega))
    have HPB := Lib.hid (put_below (t := t) HBL.out (N := w.heap.size + 1) (by omega))
    simp only [put5, Nat.zero_add, hrow] at k0 k1 k2 k3 k4
    exact ⟨.agg #[.int .i64 t.k, .int .i64 t.n, .int .i64 t.e, .string t.s, .slice t.a t.kids.length t.cap], by simp [results, Tryd.results72, go_sem, k0, k1, k2, k3, k4], rfl, HPB.out⟩

end Go.Proofs.YtnaghafmpncdkaaDoor.val
