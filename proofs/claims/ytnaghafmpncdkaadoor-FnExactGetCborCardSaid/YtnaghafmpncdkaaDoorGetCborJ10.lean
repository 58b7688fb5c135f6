/-
  What spec.Signs and spec.TextOk return: the code points of a text, or none; whether a text is valid. For texts of at most 1048576 bytes.
-/
import Derived.Test.YtnaghafmpncdkaaDoorGetCborJ9
import Derived.Test.YtnaghafmpncdkaaDoorGetCborJ0
import Derived.Test.YtnaghafmpncdkaaDoorGetCborJ8
namespace Go.Proofs.YtnaghafmpncdkaaDoor.signs
open Go.ChangeShapes Go.WideShapes Go.ChangeAt Go.RowKit
open Go.Proofs.YtnaghafmpncdkaaDoor.sign
set_option maxRecDepth 100000

theorem info3 : (Tryd.prog.info? 3).map (fun i => (i.zero, i.size, i.bytes)) = some (some (.int .i64 0), 1, 8) := by kernel_rfl

structure SpecRel (s : ByteArray) (pos f : Nat) (acc : List Int) : Prop where
  runes : acc ++ runesFrom s f pos = runesOf s
  ok : okFrom s f pos = textOk s
  fuel : s.size ≤ pos + f
  len : acc.length ≤ pos

theorem SpecRel.bad {s : ByteArray} {pos f : Nat} {acc : List Int} (h : SpecRel s pos f acc) (hp : pos < s.size) (hb : Utf8.decode s pos = (65533, 1)) : signsOf s = [] := by
  obtain ⟨g, rfl⟩ : ∃ g, f = g + 1 := ⟨f - 1, by have := h.fuel; omega⟩
  unfold signsOf
  rw [← h.ok, okFrom_bad s g pos hp hb]
  rfl
theorem SpecRel.step {s : ByteArray} {pos f : Nat} {acc : List Int} (h : SpecRel s pos f acc) (hp : pos < s.size) {N M : Nat} (hd : Utf8.decode s pos = (N, M)) (hb : Utf8.decode s pos ≠ (65533, 1)) : SpecRel s (pos + M) (f - 1) (acc ++ [(N : Int)]) := by
  obtain ⟨g, rfl⟩ : ∃ g, f = g + 1 := ⟨f - 1, by have := h.fuel; omega⟩
  have hw := (decode_bound s pos).2.1
  rw [hd] at hw
  simp only at hw
  refine ⟨?_, ?_, ?_, ?_⟩
  · rw [← h.runes, runesFrom_step s g pos hp, hd]; simp
  · rw [← h.ok, okFrom_step s g pos hp hb, hd]; simp
  · have := h.fuel; omega
  · have := h.len; simp; omega
theorem SpecRel.done {s : ByteArray} {pos f : Nat} {acc : List Int} (h : SpecRel s pos f acc) (hp : ¬ pos < s.size) : signsOf s = acc := by
  unfold signsOf
  have h1 := h.ok
  have h2 := h.runes
  rw [okFrom_end s f pos hp] at h1
  rw [runesFrom_end s f pos hp, List.append_nil] at h2
  rw [← h1, ← h2]
  rfl

theorem sign_cases (s : ByteArray) (pos : Nat) : (Utf8.decode s pos = (65533, 1) ∧ getSign.signV s pos = .tuple #[.int .i64 (-1), .int .i64 (-1)]) ∨
    ∃ N M : Nat, Utf8.decode s pos = (N, M) ∧ Utf8.decode s pos ≠ (65533, 1) ∧ N ≤ 1114111 ∧ 1 ≤ M ∧ M ≤ 4 ∧ getSign.signV s pos = .tuple #[.int .i64 N, .int .i64 (pos + M)] := by
  obtain ⟨h1, h2, h3⟩ := decode_bound s pos
  by_cases hb : Utf8.decode s pos = (65533, 1)
  · exact .inl ⟨hb, getSign.signV_bad hb⟩
  · refine .inr ⟨_, _, rfl, hb, h1, h2, h3, getSign.signV_ok rfl ?_⟩
    intro e
    exact hb (Prod.ext e.1 e.2)

set_option maxHeartbeats 1000000 in
theorem spec_signs (s : ByteArray) (w : World) (hs : s.size ≤ 1048576) :
    Calls Tryd.prog 120 #[.string s] w fun e w' => ∃ v, e = .returned v ∧ OwnL w' w.heap.size 3 encI v (signsOf s) ∧ Below w.heap.size w w' := by
  obtain ⟨i0, hi0, hz0, hz1, hz2⟩ := info_parts info3
  go_enter Tryd.func120, Tryd.ntmps120
  go_wp2
  go_loopw [3, 4] (fun v i wr => ∃ (pos f : Nat) (acc : List Int), pos ≤ s.size ∧ i = .int .i64 pos ∧ OwnL wr w.heap.size 3 encI v acc ∧ SpecRel s pos f acc ∧ Below w.heap.size w wr) (fun _ i _ => s.size - (intOf i).toNat)
  case atStart => exact ⟨0, s.size, [], Nat.zero_le _, rfl, OwnL.empty _ _ _ (Nat.le_refl _), ⟨rfl, rfl, by omega, by simp⟩, (Below.refl _ _).alloc (Nat.le_refl _) _⟩
  case round =>
    obtain ⟨pos, f, acc, hp, rfl, hown, R, hb⟩ := hrel
    have hsz := hb.size
    have hl := R.len
    by_cases hlt : pos < s.size
    · have hp0 : (0 : Int) ≤ (pos : Int) := by omega
      have hp1 : (pos : Int) < (s.size : Int) := by omega
      have C := getSign.spec_in s pos wr hs hlt
      have hfit := decode_fits s pos hlt
      rcases sign_cases s pos with ⟨hbad, e⟩ | ⟨N, M, hd, hok, hN, hM1, hM4, e⟩
      · rw [e] at C
        have C1 := Lib.hid C
        have HB := Lib.hid (R.bad hlt hbad)
        clear C e hbad R hfit
        go_wp2_with fail
        with_reducible refine C1.out.mono ?_
        rintro e w1 ⟨rfl, hb1⟩
        clear C1
        go_wp2
        go_ret
        have hz1 := hb1.size
        exact ⟨_, rfl, by rw [HB.out]; exact OwnL.empty _ _ _ (by omega), (hb.trans (hb1.mono hsz)).alloc (by omega) _⟩
      · rw [e] at C
        have C1 := Lib.hid C
        have R1 := R.step hlt hd hok
        rw [hd] at hfit
        simp only at hfit
        clear C e hok hd R
        have hNM : (0 : Int) ≤ (pos : Int) + (M : Int) := by omega
        go_wp2_with fail
        with_reducible refine C1.out.mono ?_
        rintro e w1 ⟨rfl, hb1⟩
        clear C1
        have hz1' := hb1.size
        have hown1 := hown.below hb1
        have hbb := hb.trans (hb1.mono hsz)
        go_wp2_with (first
          | (at_builtin; refine wpList_app (by rfl) _ _ _ (by rfl) w.heap.size 3 encI i0 _ 8 Tryd.underlying80 hi0 hz0 hz1 hz2 rfl oneI u3 acc (by rfl) (hown1.alloc _) w1.heap.size 1 1 [(N : Int)] (by rfl) (by rfl) _ (heap_alloc_new w1 _) (by rfl) (by unfold maxLen; omega) (by omega) (by simp; omega) ?_; intro v1 w2 hown2 hg2))
        have hb2 : Below w.heap.size w w2 := grown_below (hbb.alloc (by omega) _) (by simp; omega) (hown1.alloc _) hg2
        go_roundw
        case rel => exact ⟨pos + M, f - 1, acc ++ [(N : Int)], hfit, by go_num, hown2, R1, hb2⟩
        case measure => simp [intOf]; omega
    · have HD := Lib.hid (R.done hlt)
      go_wp2
      go_ret
      exact ⟨_, rfl, by rw [HD.out]; exact hown, hb⟩

theorem len_of {w : World} {base : Nat} {e : TypeId} {v : Value} {l : List Int} (h : OwnL w base e encI v l) : ∃ a c, v = .slice a l.length c := by
  obtain ⟨a, c, e, _⟩ := h.shape
  exact ⟨a, c, e⟩

theorem len_toList (s : ByteArray) : s.toList.length = s.size := by rw [Lib.toList_data, Lib.size_eq]
theorem isEmpty_of {s : ByteArray} (h : s.size = 0) : s.toList = [] := List.eq_nil_of_length_eq_zero (by rw [len_toList, h])
theorem notEmpty_of {s : ByteArray} (h : s.size ≠ 0) : s.toList.isEmpty = false := by
  cases hh : s.toList with
  | nil => exact absurd (by rw [← len_toList, hh]; rfl) h
  | cons a b => rfl
theorem spec_text (s : ByteArray) (w : World) (hs : s.size ≤ 1048576) :
    Calls Tryd.prog 101 #[.string s] w fun e w' => e = .returned (.bool (textOk s)) ∧ Below w.heap.size w w' := by
  have C := Lib.hid (fun w => spec_signs s w hs)
  have hl := signsOf_length s
  rw [textOk_iff]
  by_cases h0 : s.size = 0
  · have e' : s.toList = [] := isEmpty_of h0
    have e : s.toList.isEmpty = true := by rw [e']; rfl
    simp only [h0, decide_true, Bool.true_or]
    clear h0 hl
    go_enter Tryd.func101, Tryd.ntmps101
    go_wp2
    go_ret
    exact ⟨rfl, Below.refl _ _⟩
  · have e : s.toList.isEmpty = false := notEmpty_of h0
    have e' : (!s.toList.isEmpty) = true := by rw [e]; rfl
    simp only [h0, decide_false, Bool.false_or]
    generalize signsOf s = l at *
    clear h0
    go_enter Tryd.func101, Tryd.ntmps101
    go_wp2_with fail
    with_reducible refine (C.out _).mono ?_
    rintro e w1 ⟨v, rfl, hown, hb⟩
    obtain ⟨a, c, rfl⟩ := len_of hown
    clear hown
    go_wp2
    go_ret
    exact ⟨by simp, hb⟩

end Go.Proofs.YtnaghafmpncdkaaDoor.signs
/-
  spec.l02Own at every kind: whether what a value has but its kids is right.
-/
namespace Go.Proofs.YtnaghafmpncdkaaDoor.node
open Go.ChangeShapes Go.WideShapes Go.ChangeAt Go.RowKit
open Go.Proofs.YtnaghafmpncdkaaDoor.val Go.Proofs.YtnaghafmpncdkaaDoor.num
set_option maxRecDepth 100000

/-- A value's own fields are right. -/
def OwnP (t : LT) : Prop :=
  if t.k = 0 ∨ t.k = 1 ∨ t.k = 2 then t.n = 0 ∧ t.e = 0 ∧ t.s.size = 0 ∧ t.kids.length = 0 else
  if t.k = 3 ∨ t.k = 4 then numOk t = true else
  if t.k = 5 then t.n = 0 ∧ t.e = 0 ∧ sign.textOk t.s = true ∧ t.s.size ≤ 2000 ∧ t.kids.length = 0 else
  if t.k = 6 then t.n = 0 ∧ t.e = 0 ∧ t.s.size ≤ 2000 ∧ t.kids.length = 0 else
  if t.k = 7 then t.n = 0 ∧ t.e = 0 ∧ t.s.size = 0 else
  if t.k = 8 then t.n = 0 ∧ t.e = 0 ∧ t.s.size = 0 ∧ Pairs t.kids else
  if t.k = 9 then (0 ≤ t.n ∧ t.n ≤ 1000000) ∧ t.e = 0 ∧ t.s.size = 0 ∧ t.kids.length = 1 else False
theorem own_behind {w wx w2 : World} {k n e : Int} {s : ByteArray} {r : Value} (h : OwnAt w wx k n e s r) (hb : Below wx.heap.size wx w2) : OwnAt w w2 k n e s r :=
  ⟨h.low.trans (hb.mono h.low.size), by rw [hb.cell (World.block_lt_of_cell? wx _ h.c0)]; exact h.c0, by rw [hb.cell (World.block_lt_of_cell? wx _ h.c1)]; exact h.c1, by rw [hb.cell (World.block_lt_of_cell? wx _ h.c2)]; exact h.c2, by rw [hb.cell (World.block_lt_of_cell? wx _ h.c3)]; exact h.c3, by rw [hb.cell (World.block_lt_of_cell? wx _ h.c4)]; exact h.c4⟩
/-- A call has told whether V. -/
def OwnR (V : Prop) (w : World) (r : Ending) (w' : World) : Prop := ∃ b : Bool, r = .returned (.bool b) ∧ (b = true ↔ V) ∧ Below w.heap.size w w'
def OwnC (t : LT) (w : World) (r : Ending) (w' : World) : Prop := OwnR (OwnP t) w r w'

set_option maxHeartbeats 1000000 in
theorem own_null (n e : Int) (s : ByteArray) (a : Option Addr) (kids : List LT) (cap : Nat) (w : World) : Calls Tryd.prog 111 #[.agg #[.int .i64 0, .int .i64 n, .int .i64 e, .string s, .slice a kids.length cap]] w (OwnC (.mk 0 n e s a cap kids) w) := by
  have HV : Hid (OwnP (.mk 0 n e s a cap kids) ↔ (n = 0 ∧ e = 0 ∧ s.size = 0 ∧ kids.length = 0)) := Iff.rfl
  unfold OwnC
  generalize OwnP (.mk 0 n e s a cap kids) = V at *
  have HX := Lib.hid (OwnAt.new w 0 n e s (.slice a kids.length cap))
  go_enter Tryd.func111, Tryd.ntmps111
  go_upto_region 1 with fail
  go_cut [3, 4, 5] from 6 (fun x y z wx => x = .bool (n == 0) ∧ y = .bool (e == 0) ∧ z = .bool s.toList.isEmpty ∧ OwnAt w wx 0 n e s (.slice a kids.length cap))
  case first =>
    obtain ⟨hl, p0, p1, p2, p3, p4⟩ := HX.out
    go_region
    all_goals
      go_wp2_with fail
      go_meet
      case rel => exact ⟨rfl, rfl, rfl, HX.out.drew⟩
  case rest =>
    obtain ⟨rfl, rfl, rfl, hown⟩ := hcut
    clear HX
    obtain ⟨hlow, p0, p1, p2, p3, p4⟩ := hown
    have HL := Lib.hid hlow
    clear hlow
    by_cases hn : n = 0
    · subst hn
      by_cases he : e = 0
      · subst he
        by_cases hs : s.toList = []
        · have HK : Hid (((kids.length : Int) == 0) = true ↔ V) := by
            unfold Hid
            rw [HV.out, len_zero, decide_eq_true_eq]
            exact ⟨fun h => ⟨rfl, rfl, (toList_nil s).1 hs, h⟩, fun h => h.2.2.2⟩
          go_wp2
          go_ret
          exact ⟨_, rfl, HK.out, HL.out⟩
        · have HF : Hid (¬ V) := fun hv => by have h9 := HV.out.1 hv; exact hs ((toList_nil s).2 h9.2.2.1)
          go_wp2
          go_ret
          exact ⟨false, rfl, ⟨fun h => (by cases h), fun h => (HF.out h).elim⟩, HL.out⟩
      · have HF : Hid (¬ V) := fun hv => by have h9 := HV.out.1 hv; exact he h9.2.1
        go_wp2
        go_ret
        exact ⟨false, rfl, ⟨fun h => (by cases h), fun h => (HF.out h).elim⟩, HL.out⟩
    · have HF : Hid (¬ V) := fun hv => by have h9 := HV.out.1 hv; exact hn h9.1
      go_wp2
      go_ret
      exact ⟨false, rfl, ⟨fun h => (by cases h), fun h => (HF.out h).elim⟩, HL.out⟩

set_option maxHeartbeats 1000000 in
theorem own_false (n e : Int) (s : ByteArray) (a : Option Addr) (kids : List LT) (cap : Nat) (w : World) : Calls Tryd.prog 111 #[.agg #[.int .i64 1, .int .i64 n, .int .i64 e, .string s, .slice a kids.length cap]] w (OwnC (.mk 1 n e s a cap kids) w) := by
  have HV : Hid (OwnP (.mk 1 n e s a cap kids) ↔ (n = 0 ∧ e = 0 ∧ s.size = 0 ∧ kids.length = 0)) := Iff.rfl
  unfold OwnC
  generalize OwnP (.mk 1 n e s a cap kids) = V at *
  have HX := Lib.hid (OwnAt.new w 1 n e s (.slice a kids.length cap))
  go_enter Tryd.func111, Tryd.ntmps111
  go_upto_region 1 with fail
  go_cut [3, 4, 5] from 6 (fun x y z wx => x = .bool (n == 0) ∧ y = .bool (e == 0) ∧ z = .bool s.toList.isEmpty ∧ OwnAt w wx 1 n e s (.slice a kids.length cap))
  case first =>
    obtain ⟨hl, p0, p1, p2, p3, p4⟩ := HX.out
    go_region
    all_goals
      go_wp2_with fail
      go_meet
      case rel => exact ⟨rfl, rfl, rfl, HX.out.drew⟩
  case rest =>
    obtain ⟨rfl, rfl, rfl, hown⟩ := hcut
    clear HX
    obtain ⟨hlow, p0, p1, p2, p3, p4⟩ := hown
    have HL := Lib.hid hlow
    clear hlow
    by_cases hn : n = 0
    · subst hn
      by_cases he : e = 0
      · subst he
        by_cases hs : s.toList = []
        · have HK : Hid (((kids.length : Int) == 0) = true ↔ V) := by
            unfold Hid
            rw [HV.out, len_zero, decide_eq_true_eq]
            exact ⟨fun h => ⟨rfl, rfl, (toList_nil s).1 hs, h⟩, fun h => h.2.2.2⟩
          go_wp2
          go_ret
          exact ⟨_, rfl, HK.out, HL.out⟩
        · have HF : Hid (¬ V) := fun hv => by have h9 := HV.out.1 hv; exact hs ((toList_nil s).2 h9.2.2.1)
          go_wp2
          go_ret
          exact ⟨false, rfl, ⟨fun h => (by cases h), fun h => (HF.out h).elim⟩, HL.out⟩
      · have HF : Hid (¬ V) := fun hv => by have h9 := HV.out.1 hv; exact he h9.2.1
        go_wp2
        go_ret
        exact ⟨false, rfl, ⟨fun h => (by cases h), fun h => (HF.out h).elim⟩, HL.out⟩
    · have HF : Hid (¬ V) := fun hv => by have h9 := HV.out.1 hv; exact hn h9.1
      go_wp2
      go_ret
      exact ⟨false, rfl, ⟨fun h => (by cases h), fun h => (HF.out h).elim⟩, HL.out⟩

set_option maxHeartbeats 1000000 in
theorem own_true (n e : Int) (s : ByteArray) (a : Option Addr) (kids : List LT) (cap : Nat) (w : World) : Calls Tryd.prog 111 #[.agg #[.int .i64 2, .int .i64 n, .int .i64 e, .string s, .slice a kids.length cap]] w (OwnC (.mk 2 n e s a cap kids) w) := by
  have HV : Hid (OwnP (.mk 2 n e s a cap kids) ↔ (n = 0 ∧ e = 0 ∧ s.size = 0 ∧ kids.length = 0)) := Iff.rfl
  unfold OwnC
  generalize OwnP (.mk 2 n e s a cap kids) = V at *
  have HX := Lib.hid (OwnAt.new w 2 n e s (.slice a kids.length cap))
  go_enter Tryd.func111, Tryd.ntmps111
  go_upto_region 1 with fail
  go_cut [3, 4, 5] from 6 (fun x y z wx => x = .bool (n == 0) ∧ y = .bool (e == 0) ∧ z = .bool s.toList.isEmpty ∧ OwnAt w wx 2 n e s (.slice a kids.length cap))
  case first =>
    obtain ⟨hl, p0, p1, p2, p3, p4⟩ := HX.out
    go_region
    all_goals
      go_wp2_with fail
      go_meet
      case rel => exact ⟨rfl, rfl, rfl, HX.out.drew⟩
  case rest =>
    obtain ⟨rfl, rfl, rfl, hown⟩ := hcut
    clear HX
    obtain ⟨hlow, p0, p1, p2, p3, p4⟩ := hown
    have HL := Lib.hid hlow
    clear hlow
    by_cases hn : n = 0
    · subst hn
      by_cases he : e = 0
      · subst he
        by_cases hs : s.toList = []
        · have HK : Hid (((kids.length : Int) == 0) = true ↔ V) := by
            unfold Hid
            rw [HV.out, len_zero, decide_eq_true_eq]
            exact ⟨fun h => ⟨rfl, rfl, (toList_nil s).1 hs, h⟩, fun h => h.2.2.2⟩
          go_wp2
          go_ret
          exact ⟨_, rfl, HK.out, HL.out⟩
        · have HF : Hid (¬ V) := fun hv => by have h9 := HV.out.1 hv; exact hs ((toList_nil s).2 h9.2.2.1)
          go_wp2
          go_ret
          exact ⟨false, rfl, ⟨fun h => (by cases h), fun h => (HF.out h).elim⟩, HL.out⟩
      · have HF : Hid (¬ V) := fun hv => by have h9 := HV.out.1 hv; exact he h9.2.1
        go_wp2
        go_ret
        exact ⟨false, rfl, ⟨fun h => (by cases h), fun h => (HF.out h).elim⟩, HL.out⟩
    · have HF : Hid (¬ V) := fun hv => by have h9 := HV.out.1 hv; exact hn h9.1
      go_wp2
      go_ret
      exact ⟨false, rfl, ⟨fun h => (by cases h), fun h => (HF.out h).elim⟩, HL.out⟩

set_option maxHeartbeats 1000000 in
theorem own_list (n e : Int) (s : ByteArray) (a : Option Addr) (kids : List LT) (cap : Nat) (w : World) : Calls Tryd.prog 111 #[.agg #[.int .i64 7, .int .i64 n, .int .i64 e, .string s, .slice a kids.length cap]] w (OwnC (.mk 7 n e s a cap kids) w) := by
  have HV : Hid (OwnP (.mk 7 n e s a cap kids) ↔ (n = 0 ∧ e = 0 ∧ s.size = 0)) := Iff.rfl
  unfold OwnC
  generalize OwnP (.mk 7 n e s a cap kids) = V at *
  have HX := Lib.hid (OwnAt.new w 7 n e s (.slice a kids.length cap))
  go_enter Tryd.func111, Tryd.ntmps111
  go_upto_region 1 with fail
  go_cut [3, 4, 5] from 6 (fun x y z wx => x = .bool (n == 0) ∧ y = .bool (e == 0) ∧ z = .bool s.toList.isEmpty ∧ OwnAt w wx 7 n e s (.slice a kids.length cap))
  case first =>
    obtain ⟨hl, p0, p1, p2, p3, p4⟩ := HX.out
    go_region
    all_goals
      go_wp2_with fail
      go_meet
      case rel => exact ⟨rfl, rfl, rfl, HX.out.drew⟩
  case rest =>
    obtain ⟨rfl, rfl, rfl, hown⟩ := hcut
    clear HX
    obtain ⟨hlow, p0, p1, p2, p3, p4⟩ := hown
    have HL := Lib.hid hlow
    clear hlow
    by_cases hn : n = 0
    · subst hn
      by_cases he : e = 0
      · subst he
        have HK : Hid (s.toList.isEmpty = true ↔ V) := by
          unfold Hid
          rw [HV.out, List.isEmpty_iff, toList_nil]
          exact ⟨fun h => ⟨rfl, rfl, h⟩, fun h => h.2.2⟩
        go_wp2
        go_ret
        exact ⟨_, rfl, HK.out, HL.out⟩
      · have HF : Hid (¬ V) := fun hv => by have h9 := HV.out.1 hv; exact he h9.2.1
        go_wp2
        go_ret
        exact ⟨false, rfl, ⟨fun h => (by cases h), fun h => (HF.out h).elim⟩, HL.out⟩
    · have HF : Hid (¬ V) := fun hv => by have h9 := HV.out.1 hv; exact hn h9.1
      go_wp2
      go_ret
      exact ⟨false, rfl, ⟨fun h => (by cases h), fun h => (HF.out h).elim⟩, HL.out⟩
end Go.Proofs.YtnaghafmpncdkaaDoor.node
/-
  spec.l02Own at the kinds 5, 6, 8, 9 and where there is none.
-/
namespace Go.Proofs.YtnaghafmpncdkaaDoor.node
open Go.ChangeShapes Go.WideShapes Go.ChangeAt Go.RowKit
open Go.Proofs.YtnaghafmpncdkaaDoor.val Go.Proofs.YtnaghafmpncdkaaDoor.num
set_option maxRecDepth 100000

set_option maxHeartbeats 1000000 in
theorem own_text (n e : Int) (s : ByteArray) (a : Option Addr) (kids : List LT) (cap : Nat) (w : World) (hs : s.size ≤ 1048576) : Calls Tryd.prog 111 #[.agg #[.int .i64 5, .int .i64 n, .int .i64 e, .string s, .slice a kids.length cap]] w (OwnC (.mk 5 n e s a cap kids) w) := by
  have HV : Hid (OwnP (.mk 5 n e s a cap kids) ↔ (n = 0 ∧ e = 0 ∧ sign.textOk s = true ∧ s.size ≤ 2000 ∧ kids.length = 0)) := Iff.rfl
  unfold OwnC
  generalize OwnP (.mk 5 n e s a cap kids) = V at *
  have CT := Lib.hid (fun W => signs.spec_text s W hs)
  generalize sign.textOk s = T at *
  have HX := Lib.hid (OwnAt.new w 5 n e s (.slice a kids.length cap))
  go_enter Tryd.func111, Tryd.ntmps111
  go_upto_region 1 with fail
  go_cut [3, 4, 5] from 6 (fun x y z wx => x = .bool (n == 0) ∧ y = .bool (e == 0) ∧ z = .bool s.toList.isEmpty ∧ OwnAt w wx 5 n e s (.slice a kids.length cap))
  case first =>
    obtain ⟨hl, p0, p1, p2, p3, p4⟩ := HX.out
    go_region
    all_goals
      go_wp2_with fail
      go_meet
      case rel => exact ⟨rfl, rfl, rfl, HX.out.drew⟩
  case rest =>
    obtain ⟨rfl, rfl, rfl, hown⟩ := hcut
    clear HX
    have HO := Lib.hid hown
    obtain ⟨hlow, p0, p1, p2, p3, p4⟩ := hown
    have HL := Lib.hid hlow
    clear hlow
    by_cases hn : n = 0
    · subst hn
      by_cases he : e = 0
      · subst he
        go_wp2_with fail
        with_reducible refine (CT.out _).mono ?_
        rintro r w2 ⟨rfl, hb2⟩
        have hown2 := own_behind HO.out hb2
        clear hb2 HO HL p0 p1 p2 p3 p4
        obtain ⟨hlow, p0, p1, p2, p3, p4⟩ := hown2
        have HL := Lib.hid hlow
        clear hlow
        cases hT : T with
        | false =>
          subst hT
          have HF : Hid (¬ V) := fun hv => by have h9 := HV.out.1 hv; cases h9.2.2.1
          go_wp2
          go_ret
          exact ⟨false, rfl, ⟨fun h => (by cases h), fun h => (HF.out h).elim⟩, HL.out⟩
        | true =>
          subst hT
          by_cases hz : (s.size : Int) ≤ 2000
          · have HK : Hid (((kids.length : Int) == 0) = true ↔ V) := by
              unfold Hid
              rw [HV.out, len_zero, decide_eq_true_eq]
              exact ⟨fun h => ⟨by first | rfl | trivial, by first | rfl | trivial, by first | rfl | trivial, by omega, h⟩, fun h => h.2.2.2.2⟩
            go_wp2
            go_ret
            exact ⟨_, rfl, HK.out, HL.out⟩
          · have HF : Hid (¬ V) := fun hv => by have h9 := HV.out.1 hv; have := h9.2.2.2.1; omega
            go_wp2
            go_ret
            exact ⟨false, rfl, ⟨fun h => (by cases h), fun h => (HF.out h).elim⟩, HL.out⟩
      · have HF : Hid (¬ V) := fun hv => by have h9 := HV.out.1 hv; exact he h9.2.1
        go_wp2
        go_ret
        exact ⟨false, rfl, ⟨fun h => (by cases h), fun h => (HF.out h).elim⟩, HL.out⟩
    · have HF : Hid (¬ V) := fun hv => by have h9 := HV.out.1 hv; exact hn h9.1
      go_wp2
      go_ret
      exact ⟨false, rfl, ⟨fun h => (by cases h), fun h => (HF.out h).elim⟩, HL.out⟩
set_option maxHeartbeats 1000000 in
theorem own_bytes (n e : Int) (s : ByteArray) (a : Option Addr) (kids : List LT) (cap : Nat) (w : World) : Calls Tryd.prog 111 #[.agg #[.int .i64 6, .int .i64 n, .int .i64 e, .string s, .slice a kids.length cap]] w (OwnC (.mk 6 n e s a cap kids) w) := by
  have HV : Hid (OwnP (.mk 6 n e s a cap kids) ↔ (n = 0 ∧ e = 0 ∧ s.size ≤ 2000 ∧ kids.length = 0)) := Iff.rfl
  unfold OwnC
  generalize OwnP (.mk 6 n e s a cap kids) = V at *
  have HX := Lib.hid (OwnAt.new w 6 n e s (.slice a kids.length cap))
  go_enter Tryd.func111, Tryd.ntmps111
  go_upto_region 1 with fail
  go_cut [3, 4, 5] from 6 (fun x y z wx => x = .bool (n == 0) ∧ y = .bool (e == 0) ∧ z = .bool s.toList.isEmpty ∧ OwnAt w wx 6 n e s (.slice a kids.length cap))
  case first =>
    obtain ⟨hl, p0, p1, p2, p3, p4⟩ := HX.out
    go_region
    all_goals
      go_wp2_with fail
      go_meet
      case rel => exact ⟨rfl, rfl, rfl, HX.out.drew⟩
  case rest =>
    obtain ⟨rfl, rfl, rfl, hown⟩ := hcut
    clear HX
    have HO := Lib.hid hown
    obtain ⟨hlow, p0, p1, p2, p3, p4⟩ := hown
    have HL := Lib.hid hlow
    clear hlow
    by_cases hn : n = 0
    · subst hn
      by_cases he : e = 0
      · subst he
        by_cases hz : (s.size : Int) ≤ 2000
        · have HK : Hid (((kids.length : Int) == 0) = true ↔ V) := by
            unfold Hid
            rw [HV.out, len_zero, decide_eq_true_eq]
            exact ⟨fun h => ⟨rfl, rfl, by omega, h⟩, fun h => h.2.2.2⟩
          go_wp2
          go_ret
          exact ⟨_, rfl, HK.out, HL.out⟩
        · have HF : Hid (¬ V) := fun hv => by have h9 := HV.out.1 hv; have := h9.2.2.1; omega
          go_wp2
          go_ret
          exact ⟨false, rfl, ⟨fun h => (by cases h), fun h => (HF.out h).elim⟩, HL.out⟩
      · have HF : Hid (¬ V) := fun hv => by have h9 := HV.out.1 hv; exact he h9.2.1
        go_wp2
        go_ret
        exact ⟨false, rfl, ⟨fun h => (by cases h), fun h => (HF.out h).elim⟩, HL.out⟩
    · have HF : Hid (¬ V) := fun hv => by have h9 := HV.out.1 hv; exact hn h9.1
      go_wp2
      go_ret
      exact ⟨false, rfl, ⟨fun h => (by cases h), fun h => (HF.out h).elim⟩, HL.out⟩
set_option maxHeartbeats 1000000 in
theorem own_map (n e : Int) (s : ByteArray) (a : Option Addr) (kids : List LT) (cap : Nat) (w : World) (CP : ∀ W, Below w.heap.size w W → Calls Tryd.prog 127 #[.slice a kids.length cap] W (PairsC kids W)) : Calls Tryd.prog 111 #[.agg #[.int .i64 8, .int .i64 n, .int .i64 e, .string s, .slice a kids.length cap]] w (OwnC (.mk 8 n e s a cap kids) w) := by
  have HV : Hid (OwnP (.mk 8 n e s a cap kids) ↔ (n = 0 ∧ e = 0 ∧ s.size = 0 ∧ Pairs kids)) := Iff.rfl
  unfold OwnC
  generalize OwnP (.mk 8 n e s a cap kids) = V at *
  replace CP := Lib.hid CP
  have HX := Lib.hid (OwnAt.new w 8 n e s (.slice a kids.length cap))
  go_enter Tryd.func111, Tryd.ntmps111
  go_upto_region 1 with fail
  go_cut [3, 4, 5] from 6 (fun x y z wx => x = .bool (n == 0) ∧ y = .bool (e == 0) ∧ z = .bool s.toList.isEmpty ∧ OwnAt w wx 8 n e s (.slice a kids.length cap))
  case first =>
    obtain ⟨hl, p0, p1, p2, p3, p4⟩ := HX.out
    go_region
    all_goals
      go_wp2_with fail
      go_meet
      case rel => exact ⟨rfl, rfl, rfl, HX.out.drew⟩
  case rest =>
    obtain ⟨rfl, rfl, rfl, hown⟩ := hcut
    clear HX
    have HO := Lib.hid hown
    obtain ⟨hlow, p0, p1, p2, p3, p4⟩ := hown
    have HL := Lib.hid hlow
    clear hlow
    by_cases hn : n = 0
    · subst hn
      by_cases he : e = 0
      · subst he
        by_cases hs : s.toList = []
        · go_wp2_with fail
          with_reducible refine (CP.out _ HL.out).mono ?_
          rintro r w2 ⟨b, rfl, hb2⟩
          have HK : Hid (b = true ↔ V) := by
            unfold Hid
            rw [HV.out, hb2.iff]
            exact ⟨fun h => ⟨by first | rfl | trivial, by first | rfl | trivial, (toList_nil s).1 hs, h⟩, fun h => h.2.2.2⟩
          have HL2 : Hid (Below w.heap.size w w2) := HL.out.trans (hb2.below.mono HL.out.size)
          clear hb2
          go_wp2
          go_ret
          exact ⟨_, rfl, HK.out, HL2.out⟩
        · have HF : Hid (¬ V) := fun hv => by have h9 := HV.out.1 hv; exact hs ((toList_nil s).2 h9.2.2.1)
          go_wp2
          go_ret
          exact ⟨false, rfl, ⟨fun h => (by cases h), fun h => (HF.out h).elim⟩, HL.out⟩
      · have HF : Hid (¬ V) := fun hv => by have h9 := HV.out.1 hv; exact he h9.2.1
        go_wp2
        go_ret
        exact ⟨false, rfl, ⟨fun h => (by cases h), fun h => (HF.out h).elim⟩, HL.out⟩
    · have HF : Hid (¬ V) := fun hv => by have h9 := HV.out.1 hv; exact hn h9.1
      go_wp2
      go_ret
      exact ⟨false, rfl, ⟨fun h => (by cases h), fun h => (HF.out h).elim⟩, HL.out⟩
set_option maxHeartbeats 1000000 in
theorem own_tag (n e : Int) (s : ByteArray) (a : Option Addr) (kids : List LT) (cap : Nat) (w : World) : Calls Tryd.prog 111 #[.agg #[.int .i64 9, .int .i64 n, .int .i64 e, .string s, .slice a kids.length cap]] w (OwnC (.mk 9 n e s a cap kids) w) := by
  have HV : Hid (OwnP (.mk 9 n e s a cap kids) ↔ ((0 ≤ n ∧ n ≤ 1000000) ∧ e = 0 ∧ s.size = 0 ∧ kids.length = 1)) := Iff.rfl
  unfold OwnC
  generalize OwnP (.mk 9 n e s a cap kids) = V at *
  have CI := fun W => in_any n 0 1000000 W
  have HX := Lib.hid (OwnAt.new w 9 n e s (.slice a kids.length cap))
  go_enter Tryd.func111, Tryd.ntmps111
  go_upto_region 1 with fail
  go_cut [3, 4, 5] from 6 (fun x y z wx => x = .bool (n == 0) ∧ y = .bool (e == 0) ∧ z = .bool s.toList.isEmpty ∧ OwnAt w wx 9 n e s (.slice a kids.length cap))
  case first =>
    obtain ⟨hl, p0, p1, p2, p3, p4⟩ := HX.out
    go_region
    all_goals
      go_wp2_with fail
      go_meet
      case rel => exact ⟨rfl, rfl, rfl, HX.out.drew⟩
  case rest =>
    obtain ⟨rfl, rfl, rfl, hown⟩ := hcut
    clear HX
    have HO := Lib.hid hown
    obtain ⟨hlow, p0, p1, p2, p3, p4⟩ := hown
    have HL := Lib.hid hlow
    clear hlow
    by_cases hn : 0 ≤ n ∧ n ≤ 1000000
    · rw [decide_eq_true hn] at CI
      replace CI := Lib.hid CI
      by_cases he : e = 0
      · subst he
        by_cases hs : s.toList = []
        · have HK : Hid (((kids.length : Int) == 1) = true ↔ V) := by
            unfold Hid
            rw [HV.out, beq_iff_eq]
            exact ⟨fun h => ⟨hn, rfl, (toList_nil s).1 hs, by omega⟩, fun h => by have := h.2.2.2; omega⟩
          clear hn
          go_wp2_with (go_at_call 44; with_reducible refine (CI.out _).mono ?_; rintro r w2 ⟨rfl, rfl⟩)
          go_ret
          exact ⟨_, rfl, HK.out, HL.out⟩
        · have HF : Hid (¬ V) := fun hv => by have h9 := HV.out.1 hv; exact hs ((toList_nil s).2 h9.2.2.1)
          clear hn
          go_wp2_with (go_at_call 44; with_reducible refine (CI.out _).mono ?_; rintro r w2 ⟨rfl, rfl⟩)
          go_ret
          exact ⟨false, rfl, ⟨fun h => (by cases h), fun h => (HF.out h).elim⟩, HL.out⟩
      · have HF : Hid (¬ V) := fun hv => by have h9 := HV.out.1 hv; exact he h9.2.1
        clear hn
        go_wp2_with (go_at_call 44; with_reducible refine (CI.out _).mono ?_; rintro r w2 ⟨rfl, rfl⟩)
        go_ret
        exact ⟨false, rfl, ⟨fun h => (by cases h), fun h => (HF.out h).elim⟩, HL.out⟩
    · rw [decide_eq_false hn] at CI
      replace CI := Lib.hid CI
      have HF : Hid (¬ V) := fun hv => by have h9 := HV.out.1 hv; exact hn h9.1
      clear hn
      go_wp2_with (go_at_call 44; with_reducible refine (CI.out _).mono ?_; rintro r w2 ⟨rfl, rfl⟩)
      go_ret
      exact ⟨false, rfl, ⟨fun h => (by cases h), fun h => (HF.out h).elim⟩, HL.out⟩
set_option maxHeartbeats 1000000 in
theorem own_other (k n e : Int) (s : ByteArray) (a : Option Addr) (kids : List LT) (cap : Nat) (w : World) (h : ¬ (0 ≤ k ∧ k ≤ 9)) : Calls Tryd.prog 111 #[.agg #[.int .i64 k, .int .i64 n, .int .i64 e, .string s, .slice a kids.length cap]] w (OwnC (.mk k n e s a cap kids) w) := by
  have HF : Hid (¬ OwnP (.mk k n e s a cap kids)) := by
    intro hp
    unfold OwnP at hp
    have h0 : ¬ (k = 0 ∨ k = 1 ∨ k = 2) := by omega
    have h1 : ¬ (k = 3 ∨ k = 4) := by omega
    have h5 : ¬ k = 5 := by omega
    have h6 : ¬ k = 6 := by omega
    have h7 : ¬ k = 7 := by omega
    have h8 : ¬ k = 8 := by omega
    have h9 : ¬ k = 9 := by omega
    have hk : (val.LT.mk k n e s a cap kids).k = k := rfl
    simp only [hk, h0, h1, h5, h6, h7, h8, h9, if_false] at hp
  unfold OwnC
  generalize OwnP (.mk k n e s a cap kids) = V at *
  have k0 : (k == 0) = false := by simp; omega
  have k1 : (k == 1) = false := by simp; omega
  have k2 : (k == 2) = false := by simp; omega
  have k3 : (k == 3) = false := by simp; omega
  have k4 : (k == 4) = false := by simp; omega
  have k5 : (k == 5) = false := by simp; omega
  have k6 : (k == 6) = false := by simp; omega
  have k7 : (k == 7) = false := by simp; omega
  have k8 : (k == 8) = false := by simp; omega
  have k9 : (k == 9) = false := by simp; omega
  clear h
  have HX := Lib.hid (OwnAt.new w k n e s (.slice a kids.length cap))
  go_enter Tryd.func111, Tryd.ntmps111
  go_upto_region 1 with fail
  go_cut [3, 4, 5] from 6 (fun x y z wx => x = .bool (n == 0) ∧ y = .bool (e == 0) ∧ z = .bool s.toList.isEmpty ∧ OwnAt w wx k n e s (.slice a kids.length cap))
  case first =>
    obtain ⟨hl, p0, p1, p2, p3, p4⟩ := HX.out
    go_region
    all_goals
      go_wp2_with fail
      go_meet
      case rel => exact ⟨rfl, rfl, rfl, HX.out.drew⟩
  case rest =>
    obtain ⟨rfl, rfl, rfl, hown⟩ := hcut
    clear HX
    obtain ⟨hlow, p0, p1, p2, p3, p4⟩ := hown
    have HL := Lib.hid hlow
    clear hlow
    go_wp2
    go_ret
    exact ⟨false, rfl, ⟨fun h => (by cases h), fun h => (HF.out h).elim⟩, HL.out⟩
end Go.Proofs.YtnaghafmpncdkaaDoor.node
