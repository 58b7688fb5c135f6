/-
  spec.l04Text and spec.JsonFits at every value.
-/
import Derived.Test.YtnfbjcpoealkoaaGreatDoorPutJsonJ37
import Derived.Test.YtnfbjcpoealkoaaGreatDoorPutJsonJ41
namespace Go.Proofs.YtnfbjcpoealkoaaGreatDoor.node
open Go.ChangeShapes Go.WideShapes Go.ChangeAt Go.RowKit
open Go.Proofs.YtnfbjcpoealkoaaGreatDoor.val Go.Proofs.YtnfbjcpoealkoaaGreatDoor.num
set_option maxRecDepth 100000

def TextC (w : World) (B : Nat) (t : LT) : Prop := t.sz ≤ 1048576 → ∀ w', Below B w w' → B ≤ w'.heap.size →
  Calls Tryz.prog 109 #[.agg #[.int .i64 t.k, .int .i64 t.n, .int .i64 t.e, .string t.s, t.row]] w' (OwnR (TextT t) w')
set_option maxHeartbeats 4000000 in
theorem text_any {w : World} {B : Nat} {t : LT} (h : In w B t) : TextC w B t := by
  induction h with
  | mk hk hn he hs hl hc hkids ih =>
    rename_i k n e s a cap kids
    intro hz w' hb hB
    have HC := Lib.hid hc
    have IH := Lib.hid ih
    have HB := Lib.hid hb
    have HZK : Hid (LT.szL kids ≤ 1048576) := by rw [LT.sz] at hz; unfold Hid; omega
    have hkl : kids.length ≤ 1048576 := Nat.le_trans (len_sz kids) HZK.out
    have HA : Hid (Below w'.heap.size w' (w'.alloc (.cells #[.int .i64 k, .int .i64 n, .int .i64 e, .string s, .slice a kids.length cap] 46))) := (Below.refl _ _).alloc (Nat.le_refl _) _
    have HBA : Hid (Below (w'.heap.size + 1) (w'.alloc (.cells #[.int .i64 k, .int .i64 n, .int .i64 e, .string s, .slice a kids.length cap] 46)) (w'.alloc (.cells #[.int .i64 k, .int .i64 n, .int .i64 e, .string s, .slice a kids.length cap] 46))) := Below.refl _ _
    have HR : Hid (TextT (.mk k n e s a cap kids) ↔ (k = 8 → TextKeys kids) ∧ TextTL kids) := by unfold Hid; rw [TextT]
    unfold LT.row
    simp only [LT.k, LT.n, LT.e, LT.s, LT.a, LT.cap, LT.kids]
    generalize TextT (.mk k n e s a cap kids) = R at *
    clear hc ih hkids hb hz hl hs hk hn he
    go_enter Tryz.func109, Tryz.ntmps109
    go_wp2_with fail
    go_loopw [3] (fun i wr => ∃ j : Nat, i = .int .i64 j ∧ j ≤ kids.length ∧ Hid (∀ i (h : i < kids.length), i < j → TextT kids[i] ∧ (k = 8 → i % 2 = 0 → kids[i].k = 5)) ∧ w'.heap.size + 1 ≤ wr.heap.size ∧ Hid (Below (w'.heap.size + 1) (w'.alloc (.cells #[.int .i64 k, .int .i64 n, .int .i64 e, .string s, .slice a kids.length cap] 46)) wr)) (fun i _ => kids.length - (intOf i).toNat)
    case atStart => exact ⟨0, rfl, by omega, fun i h h0 => by omega, by simp, HBA⟩
    case round =>
      clear HBA
      obtain ⟨j, rfl, hj, HL, hwz, HW⟩ := hrel
      obtain ⟨x0, x4⟩ := held4_of HW.out
      by_cases hlt : j < kids.length
      · have hj0 : (0 : Int) ≤ (j : Int) := by omega
        have hj1 : (j : Int) < (kids.length : Int) := by omega
        have hmod : ((j : Int)).tmod 2 = ((j % 2 : Nat) : Int) := by rw [Int.tmod_eq_emod_of_nonneg (by omega)]; omega
        obtain ⟨x, rfl, hx, h5⟩ := HC.out j hlt
        have hbr := HB.out.trans ((HA.out.trans (HW.out.mono (by omega))).mono hB)
        obtain ⟨c0, c1, c2, c3, c4⟩ := h5.below (by rw [add_block]; exact hx) hbr
        by_cases hbad : k = 8 ∧ j % 2 = 0 ∧ kids[j].k ≠ 5
        · obtain ⟨rfl, hj2, hk5⟩ := hbad
          have HF : Hid (¬ R) := fun hr => hk5 ((HR.out.1 hr).1 rfl j hlt hj2)
          have HBF := Lib.hid (HA.out.trans (HW.out.mono (by omega)))
          have e5 : (kids[j].k == 5) = false := by simp [hk5]
          have e5' : (kids[j].k != 5) = true := by simp [hk5]
          have hm0 : ((j : Int)).tmod 2 = 0 := by rw [hmod]; omega
          have hm1 : (j : Int) % 2 = 0 := by omega
          clear h5 hbr HC IH HB HL hmod
          generalize kids[j].k = K at *
          go_wp2
          go_ret
          exact ⟨false, rfl, ⟨fun h => (by cases h), fun h => (HF.out h).elim⟩, HBF.out⟩
        · have hcase : (¬ k = 8) ∨ (k = 8 ∧ j % 2 = 1) ∨ (k = 8 ∧ j % 2 = 0 ∧ kids[j].k = 5) := by
            by_cases h8 : k = 8
            · by_cases h2 : j % 2 = 0
              · exact .inr (.inr ⟨h8, h2, Classical.not_not.1 fun h => hbad ⟨h8, h2, h⟩⟩)
              · exact .inr (.inl ⟨h8, by omega⟩)
            · exact .inl h8
          have C := IH.out j hlt (by have := (kid_sz kids j hlt).1; have := HZK.out; omega) wr hbr (by omega)
          have HNX : Hid (TextT kids[j] → ∀ i (h : i < kids.length), i < j + 1 → TextT kids[i] ∧ (k = 8 → i % 2 = 0 → kids[i].k = 5)) := fun ht i h hi => by
            by_cases hij : i < j
            · exact HL.out i h hij
            · have e : i = j := by omega
              subst e
              exact ⟨ht, fun h8 h2 => Classical.not_not.1 fun h => hbad ⟨h8, h2, h⟩⟩
          have HNO : Hid (¬ TextT kids[j] → ¬ R) := fun h hr => h (textTL_mem (HR.out.1 hr).2 j hlt)
          generalize TextT kids[j] = Q at *
          generalize kids[j] = t at *
          have hrow : t.row = .slice t.a t.kids.length t.cap := rfl
          rw [hrow] at C c4
          replace C := Lib.hid C
          clear h5 hbr HC IH HB hrow hbad HL
          generalize t.k = K at *
          rcases hcase with h8 | ⟨h8, h2⟩ | ⟨h8, h2, h5⟩
          all_goals
            try (have e8 : (k == 8) = false := by simp [h8])
            try subst h8
            try (have hm0 : ¬ ((j : Int)).tmod 2 = 0 := by rw [hmod]; omega)
            try (have hm1 : ((j : Int)).tmod 2 = 0 := by rw [hmod]; omega)
            try (have hm2 : ((j : Int).tmod 2 == 0) = false := by rw [beq_eq_false_iff_ne]; exact hm0)
            try (have hm3 : ¬ (j : Int) % 2 = 0 := by omega)
            try (have hm4 : (j : Int) % 2 = 0 := by omega)
            try subst h5
            clear hmod
            go_wp2_with fail
            with_reducible refine C.out.mono ?_
            rintro e w1 ⟨b, rfl, hbi, hb1⟩
            have HW1 := Lib.hid (HW.out.trans (hb1.mono (by omega)))
            have hz1 := Nat.le_trans hwz hb1.size
            clear C hb1 c0 c1 c2 c3 c4 HW x0 x4
            cases b with
            | false =>
              have HF : Hid (¬ R) := HNO.out fun h => by have := hbi.2 h; cases this
              have HBF := Lib.hid (HA.out.trans (HW1.out.mono (by omega)))
              clear hbi
              go_wp2
              go_ret
              exact ⟨false, rfl, ⟨fun h => (by cases h), fun h => (HF.out h).elim⟩, HBF.out⟩
            | true =>
              have HN := Lib.hid (HNX.out (hbi.1 rfl))
              clear hbi
              go_wp2
              go_roundw
              case rel => exact ⟨j + 1, by go_num, by omega, HN, hz1, HW1⟩
              case measure => simp [intOf]; omega
      · have hj1 : ¬ (j : Int) < (kids.length : Int) := by omega
        have HF : Hid R := HR.out.2 ⟨fun h8 i hi he => (HL.out i hi (by omega)).2 h8 he, textTL_of fun i hi => (HL.out i hi (by omega)).1⟩
        have HBF := Lib.hid (HA.out.trans (HW.out.mono (by omega)))
        clear HC IH HB HL
        go_wp2
        go_ret
        exact ⟨true, rfl, ⟨fun _ => HF.out, fun _ => rfl⟩, HBF.out⟩
set_option maxHeartbeats 1000000 in
theorem spec_json {w : World} {B : Nat} {t : LT} (h : In w B t) (hz : t.sz ≤ 1048576) (w' : World) (hb : Below B w w') (hB : B ≤ w'.heap.size) :
    Calls Tryz.prog 76 #[.agg #[.int .i64 t.k, .int .i64 t.n, .int .i64 t.e, .string t.s, t.row]] w' (OwnR (FitsJ t) w') := by
  have hrow : t.row = .slice t.a t.kids.length t.cap := rfl
  have HA : Hid (Below w'.heap.size w' (w'.alloc (.cells #[.int .i64 t.k, .int .i64 t.n, .int .i64 t.e, .string t.s, .slice t.a t.kids.length t.cap] 46))) := (Below.refl _ _).alloc (Nat.le_refl _) _
  have HX : Hid (Box (w'.alloc (.cells #[.int .i64 t.k, .int .i64 t.n, .int .i64 t.e, .string t.s, .slice t.a t.kids.length t.cap] 46)) w'.heap.size t) := Box.new w' t 46
  have CV : Hid (∀ W, Below w'.heap.size w' W → Calls Tryz.prog 107 #[.agg #[.int .i64 t.k, .int .i64 t.n, .int .i64 t.e, .string t.s, t.row]] W (OwnR (ValidT t) W)) := fun W hW => spec_value h hz (nodes_small t hz) W (hb.trans (hW.mono hB)) (Nat.le_trans hB hW.size)
  have CC : Hid (∀ (kd : Int) W, Below w'.heap.size w' W → Calls Tryz.prog 108 #[.agg #[.int .i64 t.k, .int .i64 t.n, .int .i64 t.e, .string t.s, t.row], .int .i64 kd] W fun r w'' => r = .returned (.int .i64 ((er t).count kd : Int)) ∧ Below W.heap.size W w'') := fun kd W hW => by
    have := spec_count kd h (nodes_small t hz) W (hb.trans (hW.mono hB)) (Nat.le_trans hB hW.size)
    simpa using this
  have CF : Hid (∀ W, Below w'.heap.size w' W → Calls Tryz.prog 109 #[.agg #[.int .i64 t.k, .int .i64 t.n, .int .i64 t.e, .string t.s, t.row]] W (OwnR (TextT t) W)) := fun W hW => text_any h hz W (hb.trans (hW.mono hB)) (Nat.le_trans hB hW.size)
  have HV : Hid (FitsJ t ↔ ValidT t ∧ (er t).count 6 = 0 ∧ (er t).count 9 = 0 ∧ TextT t) := json_iff t
  simp only [hrow] at CV CF CC ⊢
  generalize FitsJ t = V at *
  generalize ValidT t = R at *
  generalize TextT t = Q at *
  have C6 := Lib.hid (CC.out 6)
  have C9 := Lib.hid (CC.out 9)
  generalize (er t).count 6 = N6 at *
  generalize (er t).count 9 = N9 at *
  clear h hz hb hB hrow CC
  go_enter Tryz.func76, Tryz.ntmps76
  go_wp2_with fail
  with_reducible refine (CV.out _ HA.out).mono ?_
  rintro r w1 ⟨b, rfl, hbi, hb1⟩
  replace HX := Lib.hid (HX.out.behind hb1)
  replace HA := Lib.hid (below_of2 HA.out hb1)
  clear hb1 CV
  obtain ⟨p0, p1, p2, p3, p4⟩ := HX.out
  unfold LT.row at p4
  cases b with
  | false =>
    have HF : Hid (¬ V) := fun hv => by have := hbi.2 (HV.out.1 hv).1; cases this
    clear hbi
    go_wp2
    go_ret
    exact ⟨false, rfl, ⟨fun h => (by cases h), fun h => (HF.out h).elim⟩, HA.out⟩
  | true =>
    have HP : Hid R := hbi.1 rfl
    clear hbi
    go_wp2_with fail
    with_reducible refine (C6.out _ HA.out).mono ?_
    rintro r w2 ⟨rfl, hb2⟩
    replace HX := Lib.hid (HX.out.behind hb2)
    replace HA := Lib.hid (below_of2 HA.out hb2)
    clear hb2 C6 p0 p1 p2 p3 p4
    obtain ⟨p0, p1, p2, p3, p4⟩ := HX.out
    unfold LT.row at p4
    by_cases h6 : N6 = 0
    · subst h6
      go_wp2_with fail
      with_reducible refine (C9.out _ HA.out).mono ?_
      rintro r w3 ⟨rfl, hb2⟩
      replace HX := Lib.hid (HX.out.behind hb2)
      replace HA := Lib.hid (below_of2 HA.out hb2)
      clear hb2 C9 p0 p1 p2 p3 p4
      obtain ⟨p0, p1, p2, p3, p4⟩ := HX.out
      unfold LT.row at p4
      by_cases h9 : N9 = 0
      · subst h9
        go_wp2_with fail
        with_reducible refine (CF.out _ HA.out).mono ?_
        rintro r w4 ⟨b, rfl, hbi, hb2⟩
        have HD : Hid (b = true ↔ V) := by
          unfold Hid
          rw [HV.out, hbi]
          exact ⟨fun h => ⟨HP.out, by first | rfl | trivial, by first | rfl | trivial, h⟩, fun h => h.2.2.2⟩
        replace HA := Lib.hid (below_of2 HA.out hb2)
        clear hb2 CF hbi
        go_wp2
        go_ret
        exact ⟨_, rfl, HD.out, HA.out⟩
      · have HF : Hid (¬ V) := fun hv => h9 (HV.out.1 hv).2.2.1
        have e9 : ((N9 : Int) == 0) = false := by rw [beq_eq_false_iff_ne]; omega
        go_wp2
        go_ret
        exact ⟨false, rfl, ⟨fun h => (by cases h), fun h => (HF.out h).elim⟩, HA.out⟩
    · have HF : Hid (¬ V) := fun hv => h6 (HV.out.1 hv).2.1
      have e6 : ((N6 : Int) == 0) = false := by rw [beq_eq_false_iff_ne]; omega
      go_wp2
      go_ret
      exact ⟨false, rfl, ⟨fun h => (by cases h), fun h => (HF.out h).elim⟩, HA.out⟩
end Go.Proofs.YtnfbjcpoealkoaaGreatDoor.node
/-
  What spec.PutJson returns at every value.
-/
namespace Go.Proofs.YtnfbjcpoealkoaaGreatDoor.json
open Go.ChangeShapes Go.WideShapes Go.ChangeAt Go.RowKit
open Go.Proofs.YtnfbjcpoealkoaaGreatDoor.val Go.Proofs.YtnfbjcpoealkoaaGreatDoor.num Go.Proofs.YtnfbjcpoealkoaaGreatDoor.node
set_option maxRecDepth 100000

open Classical in
/-- A value in JSON, or nothing if it does not fit. -/
noncomputable def jsonOf (p : Bool) (t : LT) : ByteArray := if FitsJ t then ⟨(jsonT p 0 t).toArray⟩ else ⟨#[]⟩
theorem in_n {w : World} {B : Nat} {t : LT} (h : In w B t) : InI t.n := by cases h; assumption
/-- The text of a value that fits is not long. -/
theorem fits_len {w : World} {B : Nat} {t : LT} (h : In w B t) (p : Bool) (hf : FitsJ t) : (jsonT p 0 t).length ≤ 5100000 := by
  have hn : t.nodes ≤ 300 := ((valid_iff t).1 hf.1).2
  have := json_len p t 0 0 (fun y hy => ⟨fits_kinds hf y hy, in_n (pre_in h 0 y hy).1⟩) (by omega)
  omega
set_option maxHeartbeats 1000000 in
theorem spec_putjson {w : World} {B : Nat} {t : LT} (h : In w B t) (hz : t.sz ≤ 1048576) (w' : World) (hb : Below B w w') (hB : B ≤ w'.heap.size) :
    Calls Tryz.prog 36 #[.agg #[.int .i64 t.k, .int .i64 t.n, .int .i64 t.e, .string t.s, t.row]] w' fun r w'' => r = .returned (.string (jsonOf false t)) ∧ Below w'.heap.size w' w'' := by
  have hrow : t.row = .slice t.a t.kids.length t.cap := rfl
  have HA : Hid (Below w'.heap.size w' (w'.alloc (.cells #[.int .i64 t.k, .int .i64 t.n, .int .i64 t.e, .string t.s, .slice t.a t.kids.length t.cap] 46))) := (Below.refl _ _).alloc (Nat.le_refl _) _
  have HX : Hid (Box (w'.alloc (.cells #[.int .i64 t.k, .int .i64 t.n, .int .i64 t.e, .string t.s, .slice t.a t.kids.length t.cap] 46)) w'.heap.size t) := Box.new w' t 46
  have CJ : Hid (∀ W, Below w'.heap.size w' W → Calls Tryz.prog 76 #[.agg #[.int .i64 t.k, .int .i64 t.n, .int .i64 t.e, .string t.s, t.row]] W (OwnR (FitsJ t) W)) := fun W hW => spec_json h hz W (hb.trans (hW.mono hB)) (Nat.le_trans hB hW.size)
  have CP : Hid (FitsJ t → ∀ W, Below w'.heap.size w' W → Calls Tryz.prog 77 #[.agg #[.int .i64 t.k, .int .i64 t.n, .int .i64 t.e, .string t.s, t.row], .int .i64 (-1)] W fun r w'' => r = .returned (.string ⟨(jsonT false 0 t).toArray⟩) ∧ Below W.heap.size W w'') := fun hf W hW => put_any h (fits_good hf) hz false 0 (by have := ((valid_iff t).1 hf.1).2; omega) (by have := fits_len h false hf; omega) W (hb.trans (hW.mono hB)) (Nat.le_trans hB hW.size)
  have HY : Hid (FitsJ t → jsonOf false t = ⟨(jsonT false 0 t).toArray⟩) := fun hf => if_pos hf
  have HN : Hid (¬ FitsJ t → jsonOf false t = ⟨#[]⟩) := fun hf => if_neg hf
  simp only [hrow] at CJ CP ⊢
  generalize jsonOf false t = R at *
  generalize jsonT false 0 t = T at *
  generalize FitsJ t = V at *
  clear h hz hb hB hrow
  go_enter Tryz.func36, Tryz.ntmps36
  go_wp2_with fail
  with_reducible refine (CJ.out _ HA.out).mono ?_
  rintro r w1 ⟨b, rfl, hbi, hb1⟩
  replace HX := Lib.hid (HX.out.behind hb1)
  replace HA := Lib.hid (below_of2 HA.out hb1)
  clear hb1 CJ
  obtain ⟨p0, p1, p2, p3, p4⟩ := HX.out
  unfold LT.row at p4
  cases b with
  | false =>
    have HF : Hid (R = ⟨#[]⟩) := HN.out fun hv => by have := hbi.2 hv; cases this
    clear hbi HY HN CP
    go_wp2
    go_ret
    exact ⟨by rw [HF.out]; rfl, HA.out⟩
  | true =>
    have HF : Hid (R = ⟨T.toArray⟩) := HY.out (hbi.1 rfl)
    have CP2 := Lib.hid (CP.out (hbi.1 rfl))
    clear hbi HY HN CP
    go_wp2_with fail
    with_reducible refine (CP2.out _ HA.out).mono ?_
    rintro r w2 ⟨rfl, hb2⟩
    replace HA := Lib.hid (below_of2 HA.out hb2)
    clear hb2 CP2
    go_wp2
    go_ret
    exact ⟨by rw [HF.out]; rfl, HA.out⟩
end Go.Proofs.YtnfbjcpoealkoaaGreatDoor.json
