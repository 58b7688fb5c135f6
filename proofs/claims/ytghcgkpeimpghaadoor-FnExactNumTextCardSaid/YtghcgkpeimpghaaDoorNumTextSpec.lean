/-
  What spec.NumText returns: the notation of a valid number.
-/
import Derived.Test.YtghcgkpeimpghaaDoorNumTextNum
import Derived.Test.YtghcgkpeimpghaaDoorSpecRight
namespace Go.Proofs.YtghcgkpeimpghaaDoor.numtext
open Go.ChangeShapes Go.WideShapes Go.ChangeAt Go.RowKit
open Go.Proofs.YtghcgkpeimpghaaDoor.val Go.Proofs.YtghcgkpeimpghaaDoor.num Go.Proofs.YtghcgkpeimpghaaDoor.node
set_option maxRecDepth 100000

set_option maxHeartbeats 1000000 in
theorem spec_other {w : World} {B : Nat} {t : LT} (h : In w B t) (hz : t.sz ≤ 1048576) (hn : t.nodes ≤ 2000000) (h3 : ¬ t.k = 3) (h4 : ¬ t.k = 4) (w' : World) (hb : Below B w w') (hB : B ≤ w'.heap.size) :
    Calls Tryd.prog 7 #[.agg #[.int .i64 t.k, .int .i64 t.n, .int .i64 t.e, .string t.s, t.row]] w' fun r w'' => r = .returned (.string (numText t)) ∧ Below w'.heap.size w' w'' := by
  rw [numText_no (isNum_kind h3 h4)]
  have hrow : t.row = .slice t.a t.kids.length t.cap := rfl
  have HA : Hid (Below w'.heap.size w' (w'.alloc (.cells #[.int .i64 t.k, .int .i64 t.n, .int .i64 t.e, .string t.s, .slice t.a t.kids.length t.cap] 29))) := (Below.refl _ _).alloc (Nat.le_refl _) _
  have HX : Hid (Box (w'.alloc (.cells #[.int .i64 t.k, .int .i64 t.n, .int .i64 t.e, .string t.s, .slice t.a t.kids.length t.cap] 29)) w'.heap.size t) := Box.new w' t 29
  have CV : Hid (∀ W, Below w'.heap.size w' W → Calls Tryd.prog 18 #[.agg #[.int .i64 t.k, .int .i64 t.n, .int .i64 t.e, .string t.s, t.row]] W (OwnR (ValidT t) W)) := fun W hW => spec_value h hz hn W (hb.trans (hW.mono hB)) (Nat.le_trans hB hW.size)
  simp only [hrow] at CV ⊢
  generalize ValidT t = V at *
  clear h hz hn hb hB hrow
  go_enter Tryd.func7, Tryd.ntmps7
  go_wp2_with fail
  with_reducible refine (CV.out _ HA.out).mono ?_
  rintro r w1 ⟨b, rfl, hbi, hb1⟩
  clear hbi
  replace HX := Lib.hid (HX.out.behind hb1)
  replace HA := Lib.hid (below_of2 HA.out hb1)
  clear hb1 CV
  obtain ⟨p0, p1, p2, p3, p4⟩ := HX.out
  unfold LT.row at p4
  have e3 : (t.k == 3) = false := by simp [h3]
  have e4 : (t.k == 4) = false := by simp [h4]
  have e4' : (t.k != 4) = true := by simp [h4]
  cases b with
  | false =>
    go_wp2
    go_ret
    exact ⟨rfl, HA.out⟩
  | true =>
    go_wp2
    go_ret
    exact ⟨rfl, HA.out⟩
/-- A valid decimal's fields. -/
theorem dec_fields {n e : Int} {s : ByteArray} {a : Option Addr} {cap : Nat} {kids : List LT} (h : numOk (.mk 4 n e s a cap kids) = true) : -20 ≤ e ∧ e ≤ 20 ∧ e ≠ 0 := by
  rw [num_dec', Bool.and_eq_true] at h
  by_cases hc : -20 ≤ e ∧ e ≤ 20 ∧ e ≠ 0
  · exact hc
  · have := dec_no (n := n) (e := e) (fun h' => hc ⟨h'.1, h'.2.1, h'.2.2.1⟩)
    rw [this] at h
    cases h.2
theorem int_fields {n e : Int} {s : ByteArray} {a : Option Addr} {cap : Nat} {kids : List LT} (h : numOk (.mk 3 n e s a cap kids) = true) : e = 0 := by
  rw [num_int', Bool.and_eq_true] at h
  exact of_decide_eq_true h.2
theorem text_high {n e : Int} (h : 0 < e) : textL n e = Lib.itoa n ++ 101 :: Lib.itoa e := if_pos h
theorem text_int (n : Int) : textL n 0 = Lib.itoa n := rfl
theorem text_low {n : Int} {K : Nat} (h : 1 ≤ K) : textL n (-(K : Int)) = (if n < 0 then [45] else []) ++ pointL (Lib.decDigits n.natAbs) K := by
  unfold textL
  rw [if_neg (by omega), if_neg (by omega)]
  congr 2
  omega
theorem numText_yes {t : LT} (hk : t.k = 3 ∨ t.k = 4) (h : numOk t = true) : numText t = ⟨(textL t.n t.e).toArray⟩ := by
  have hi : isNum t = true := by unfold isNum; rcases hk with hk | hk <;> simp [hk, h]
  unfold numText
  rw [if_pos hi]
theorem spec_numtext {w : World} {B : Nat} {t : LT} (h : In w B t) (hz : t.sz ≤ 1048576) (hn : t.nodes ≤ 2000000) (w' : World) (hb : Below B w w') (hB : B ≤ w'.heap.size) :
    Calls Tryd.prog 7 #[.agg #[.int .i64 t.k, .int .i64 t.n, .int .i64 t.e, .string t.s, t.row]] w' fun r w'' => r = .returned (.string (numText t)) ∧ Below w'.heap.size w' w'' := by
  by_cases hk : t.k = 3 ∨ t.k = 4
  · cases hv : numOk t with
    | false => exact spec_bad hk hv w'
    | true =>
      have hR := numText_yes hk hv
      have CV := fun W => spec_value_num t hk W
      rw [hv] at CV
      generalize numText t = R at *
      have hIn : InI t.n ∧ InI t.e := by cases h; exact ⟨by assumption, by assumption⟩
      obtain ⟨k, n, e, s, a, cap, kids⟩ := t
      obtain ⟨hn', he'⟩ := hIn
      rcases hk with hk | hk
      · obtain rfl : k = 3 := hk
        obtain rfl := int_fields hv
        exact spec_int hn' hR w' CV
      · obtain rfl : k = 4 := hk
        obtain ⟨e1, e2, e3⟩ := dec_fields hv
        by_cases hp : 0 < e
        · exact spec_high hn' he' hp (by rw [hR]; exact congrArg (fun l => ByteArray.mk (List.toArray l)) (text_high hp)) w' CV
        · obtain ⟨K, rfl⟩ : ∃ K : Nat, e = -(K : Int) := ⟨(-e).toNat, by omega⟩
          have ht := text_low (n := n) (K := K) (by omega)
          by_cases hneg : n < 0
          · rw [if_pos hneg] at ht
            exact spec_low_neg hn' (by omega) (by omega) hneg (by rw [hR]; exact congrArg (fun l => ByteArray.mk (List.toArray l)) ht) w' CV
          · rw [if_neg hneg] at ht
            exact spec_low_pos hn' (by omega) (by omega) hneg (by rw [hR]; exact congrArg (fun l => ByteArray.mk (List.toArray l)) ht) w' CV
  · exact spec_other h hz hn (fun e => hk (.inl e)) (fun e => hk (.inr e)) w' hb hB
end Go.Proofs.YtghcgkpeimpghaaDoor.numtext
