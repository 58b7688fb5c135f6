/-
  Contracts of Go's library at this seat's program: each a theorem that the kit proves over any program, laid here at this one.
-/
import Derived.Shelf.LaysM
import Derived.Shelf.Unicode.ValidAny
import Derived.Test.YtkjffifdlckljaaDoorProg
import Derived.Test.YtkjffifdlckljaaDoorPathsJ9
import Derived.Test.YtkjffifdlckljaaDoorPathsJ10
import Derived.Test.YtkjffifdlckljaaDoorPathsJ11
import Derived.Test.YtkjffifdlckljaaDoorPathsJ1
import Derived.Lib.LaidU8
import Derived.Lib.AppendIntMem
namespace Go.Proofs
open Go.Shelf
def Tryd.lays196_ren : Go.Shelf.Ren := ⟨fun | 196 => 108 | 259 => 133 | n => n, fun | 9 => 9 | 4 => 4 | 3 => 3 | 5 => 5 | 12 => 12 | 119 => 180 | 0 => 0 | 46 => 161 | 139 => 183 | 138 => 182 | 53 => 82 | n => n, fun | 3 => 4 | 4 => 5 | n => n⟩
theorem Tryd.lays196 : Go.Proofs.Lays.n196 Tryd.prog Tryd.lays196_ren := {
  mixed := by kernel_rfl
  f196 := Tryd.func108.trans (congrArg some (by kernel_rfl))
  f259 := Tryd.func133.trans (congrArg some (by kernel_rfl))
  t0 := Tryd.underlying0
  a0 := Tryd.isAgg0
  z0 := Tryd.sizeOf0
  v0 := Tryd.zeroValue0
  t3 := Tryd.underlying3
  a3 := Tryd.isAgg3
  z3 := Tryd.sizeOf3
  v3 := Tryd.zeroValue3
  t4 := Tryd.underlying4
  a4 := Tryd.isAgg4
  z4 := Tryd.sizeOf4
  v4 := Tryd.zeroValue4
  t5 := Tryd.underlying5
  a5 := Tryd.isAgg5
  z5 := Tryd.sizeOf5
  v5 := Tryd.zeroValue5
  t9 := Tryd.underlying9
  a9 := Tryd.isAgg9
  z9 := Tryd.sizeOf9
  v9 := Tryd.zeroValue9
  t12 := Tryd.underlying12
  a12 := Tryd.isAgg12
  z12 := Tryd.sizeOf12
  v12 := Tryd.zeroValue12
  t46 := Tryd.underlying161
  a46 := Tryd.isAgg161
  z46 := Tryd.sizeOf161
  v46 := Tryd.zeroValue161
  t53 := Tryd.underlying82
  a53 := Tryd.isAgg82
  z53 := Tryd.sizeOf82
  v53 := Tryd.zeroValue82
  t119 := Tryd.underlying180
  a119 := Tryd.isAgg180
  z119 := Tryd.sizeOf180
  t138 := Tryd.underlying182
  a138 := Tryd.isAgg182
  z138 := Tryd.sizeOf182
  v138 := Tryd.zeroValue182
  t139 := Tryd.underlying183
  a139 := Tryd.isAgg183
  z139 := Tryd.sizeOf183
  v139 := Tryd.zeroValue183
  g3 := by kernel_rfl
  g4 := by kernel_rfl }
open Go.RowKit Go.Lib in
theorem Tryd.utf8_ValidString (s : ByteArray) (w : World) (hs : s.size ≤ 9223372036854775807) (hT : Lib.Utf8Tabs 4 5 w) :
    Calls Tryd.prog 108 #[.string s] w fun e w' => e = .returned (.bool (Lib.validD s.data.toList)) ∧ Below w.heap.size w w' := Any.utf8_ValidString Tryd.lays196 s w hs hT
end Go.Proofs
/-
  What impl.TextOk returns: whether a text is valid. For texts of at most 1048576 bytes. The tables of unicode/utf8 are as the library lays them.
-/
namespace Go.Proofs.YtkjffifdlckljaaDoor.signs
open Go.ChangeShapes Go.WideShapes Go.ChangeAt Go.RowKit
open Go.Proofs.YtkjffifdlckljaaDoor.sign
set_option maxRecDepth 100000

abbrev Tabs (w : World) : Prop := Lib.Utf8Tabs 4 5 w
theorem tabs_below {w w' : World} (h : Tabs w) (hb : Below w.heap.size w w') : Tabs w' := by
  refine ⟨fun c hc => ?_, fun i hi => ⟨?_, ?_⟩⟩
  · have := h.1 c hc
    rw [hb.cell (World.block_lt_of_cell? w _ this)]; exact this
  · have := (h.2 i hi).1
    rw [hb.cell (World.block_lt_of_cell? w _ this)]; exact this
  · have := (h.2 i hi).2
    rw [hb.cell (World.block_lt_of_cell? w _ this)]; exact this
theorem impl_text (s : ByteArray) (w : World) (hs : s.size ≤ 1048576) (hT : Lib.Utf8Tabs 4 5 w) :
    Calls Tryd.prog 79 #[.string s] w fun e w' => e = .returned (.bool (textOk s)) ∧ Below w.heap.size w w' := by
  have c := Tryd.utf8_ValidString s w (by omega) hT
  rw [valid_eq] at c
  have C := Lib.hid c
  clear c hT
  generalize textOk s = r at *
  go_enter Tryd.func79, Tryd.ntmps79
  go_wp2_with fail
  with_reducible refine C.out.mono ?_
  rintro e w1 ⟨rfl, hb⟩
  go_wp2
  go_ret
  exact ⟨rfl, hb⟩

end Go.Proofs.YtkjffifdlckljaaDoor.signs
/-
  What impl.stepPath and impl.PutPath return: a pointer's text of its steps. For at most 1048576 steps, each of at most 1048576 bytes.
-/
namespace Go.Proofs.YtkjffifdlckljaaDoor.path
open Go.ChangeShapes Go.WideShapes Go.ChangeAt Go.RowKit
open Go.Proofs.YtkjffifdlckljaaDoor.strs (encS oneS ReadS)
open Go.Proofs.YtkjffifdlckljaaDoor.sign (textOk)
open Go.Lib (replaceAll)
set_option maxRecDepth 100000

theorem below_ofP {w w1 w2 : World} (h : Below w.heap.size w w1) (h2 : Below w1.heap.size w1 w2) : Below w.heap.size w w2 := h.trans (h2.mono h.size)
/-- The cell of the library's number that a count of bytes is compared with. -/
abbrev MaxCell (m : Int) (w : World) : Prop := w.cell? ⟨6, 0, none⟩ = some (.int .i64 m)
theorem maxCell_below {m : Int} {w w' : World} (h : MaxCell m w) (hb : Below w.heap.size w w') : MaxCell m w' := (hb.cell (p := ⟨6, 0, none⟩) (World.block_lt_of_cell? w _ h)).trans h
theorem count_le' (s : ByteArray) (c : UInt8) : Lib.countB s ⟨#[c]⟩ ≤ s.size := Lib.countB_le ⟨#[c]⟩ (Nat.le_refl 1) s.size s (Nat.le_refl _)
theorem count_le2 (s old : ByteArray) (h : 1 ≤ old.size) : Lib.countB s old ≤ s.size := Lib.countB_le old h s.size s (Nat.le_refl _)
theorem mk_app (a b : List UInt8) : (⟨a.toArray⟩ : ByteArray) ++ (⟨b.toArray⟩ : ByteArray) = ⟨(a ++ b).toArray⟩ := by
  apply ByteArray.ext
  apply Array.toList_inj.1
  rw [ByteArray.data_append]
  simp
theorem mk_size (a : List UInt8) : (⟨a.toArray⟩ : ByteArray).size = a.length := by simp [ByteArray.size]
theorem stepOk_iff (s : ByteArray) : (s.size ≤ 2000 ∧ textOk s = true) ↔ stepOk s = true := by
  unfold stepOk
  rw [Bool.and_eq_true_iff, decide_eq_true_eq]
  exact and_comm
set_option maxHeartbeats 1000000 in
theorem step_path (s : ByteArray) (m : Int) (w : World) (hs : s.size ≤ 1048576) (hm : MaxCell m w) :
    Calls Tryd.prog 45 #[.string s] w fun e w' => e = .returned (.string ⟨(47 :: esc s.data.toList).toArray⟩) ∧ Below w.heap.size w w' := by
  have c1 := Tryd.strings_ReplaceAll s ⟨#[126]⟩ ⟨#[126, 48]⟩ m w (by omega) hm (by decide) (by have := count_le' s 126; show s.size + Lib.countB s ⟨#[126]⟩ * 2 ≤ _; omega)
  have hl1 : (replaceAll s.data.toList [126] [126, 48]).length ≤ 2097152 := by
    rw [rep_one _ _ _ (by decide)]
    have := one_len s.data.toList
    have : s.data.toList.length = s.size := by simp
    omega
  have c2 : ∀ w', Below w.heap.size w w' → Calls Tryd.prog 47 #[.string ⟨(replaceAll s.data.toList [126] [126, 48]).toArray⟩, .string ⟨#[47]⟩, .string ⟨#[126, 49]⟩] w' fun e w'' => e = .returned (.string ⟨(esc s.data.toList).toArray⟩) ∧ Below w'.heap.size w' w'' := fun w' hb => by
    have := Tryd.strings_ReplaceAll ⟨(replaceAll s.data.toList [126] [126, 48]).toArray⟩ ⟨#[47]⟩ ⟨#[126, 49]⟩ m w' (by rw [mk_size]; omega) (maxCell_below hm hb) (by decide) (by have := count_le' ⟨(replaceAll s.data.toList [126] [126, 48]).toArray⟩ 47; rw [mk_size] at this ⊢; show _ + Lib.countB _ ⟨#[47]⟩ * 2 ≤ _; omega)
    have e : replaceAll (replaceAll s.data.toList [126] [126, 48]) [47] [126, 49] = esc s.data.toList := esc_two _
    simpa [e] using this
  have hl2 : (esc s.data.toList).length ≤ 2097152 := by
    have := esc_len s.data.toList
    have : s.data.toList.length = s.size := by simp
    omega
  have C1 : Hid (Calls Tryd.prog 47 #[.string s, .string ⟨#[126]⟩, .string ⟨#[126, 48]⟩] w fun e w' => e = .returned (.string ⟨(replaceAll s.data.toList [126] [126, 48]).toArray⟩) ∧ Below w.heap.size w w') := c1
  have C2 := Lib.hid c2
  have HE : Hid ((⟨#[47]⟩ : ByteArray) ++ (⟨(esc s.data.toList).toArray⟩ : ByteArray) = ⟨(47 :: esc s.data.toList).toArray⟩) := mk_app [47] _
  clear c1 c2 hm
  generalize replaceAll s.data.toList [126] [126, 48] = r1 at *
  generalize esc s.data.toList = r2 at *
  have hz2 := mk_size r2
  go_enter Tryd.func45, Tryd.ntmps45
  go_wp2_with fail
  with_reducible refine C1.out.mono ?_
  rintro e w1 ⟨rfl, hb1⟩
  have HB := Lib.hid hb1
  clear hb1 C1
  go_wp2_with fail
  with_reducible refine (C2.out _ HB.out).mono ?_
  rintro e w2 ⟨rfl, hb2⟩
  replace HB := Lib.hid (below_ofP HB.out hb2)
  clear hb2 C2
  go_wp2
  go_ret
  exact ⟨by rw [← HE.out]; rfl, HB.out⟩
/-- Whether a step is one. -/
def StepR (s : ByteArray) (w : World) (e : Ending) (w' : World) : Prop := e = .returned (.bool (stepOk s)) ∧ Below w.heap.size w w'
set_option maxHeartbeats 1000000 in
theorem step_ok (s : ByteArray) (w : World) (hs : s.size ≤ 1048576) (hT : signs.Tabs w) : Calls Tryd.prog 44 #[.agg #[.string s]] w fun e w' => e = .returned (.bool (stepOk s)) ∧ Below w.heap.size w w' := by
  have hb := (Below.refl w.heap.size w).alloc (Nat.le_refl _) (.cells #[.string s] 71)
  have CT := Lib.hid (signs.impl_text s _ hs (signs.tabs_below hT hb))
  have HB := Lib.hid hb
  clear hb hT
  by_cases hz : s.size ≤ 2000
  · have HD : Hid (stepOk s = textOk s) := by unfold stepOk; rw [decide_eq_true hz, Bool.and_true]; rfl
    have hz' : (s.size : Int) ≤ 2000 := by omega
    generalize stepOk s = V at HD ⊢
    generalize textOk s = T at *
    clear hs hz
    go_enter Tryd.func44, Tryd.ntmps44
    go_wp2_with fail
    with_reducible refine CT.out.mono ?_
    rintro r w1 ⟨rfl, hb1⟩
    have HB1 := Lib.hid (below_ofP HB.out hb1)
    clear hb1
    go_wp2
    go_ret
    exact ⟨by rw [HD.out]; rfl, HB1.out⟩
  · have HF : Hid (stepOk s = false) := by unfold stepOk; rw [decide_eq_false hz, Bool.and_false]; rfl
    have hz' : ¬ (s.size : Int) ≤ 2000 := by omega
    generalize stepOk s = V at HF ⊢
    clear hs hz CT
    go_enter Tryd.func44, Tryd.ntmps44
    go_wp2
    go_ret
    exact ⟨by rw [HF.out]; rfl, HB.out⟩
set_option maxHeartbeats 2000000 in
theorem impl_put (l : List ByteArray) (v : Value) (a : Option Addr) (c g : Nat) (m : Int) (w : World) (hl : l.length ≤ 1048576) (hs : ∀ j (h : j < l.length), l[j].size ≤ 1048576) (hr : ReadS w v l a c g) (hT : signs.Tabs w) (hm : MaxCell m w) :
    Calls Tryd.prog 21 #[v] w fun e w' => e = .returned (.string (putP l)) ∧ Below w.heap.size w w' := by
  obtain ⟨rfl, ha, hc⟩ := hr
  have HA := Lib.hid ha
  have HC := Lib.hid hc
  have HS := Lib.hid hs
  have HT := Lib.hid hT
  have HM := Lib.hid hm
  clear ha hc hs hT hm
  generalize hR : putP l = R
  have HR := Lib.hid hR
  clear hR
  by_cases h12 : 12 < l.length
  · have h12' : (12 : Int) < (l.length : Int) := by omega
    have HE : Hid (R = ⟨#[]⟩) := by rw [← HR.out, putP_no (bad_many h12)]; rfl
    clear HR HC HS HA HT HM
    go_enter Tryd.func21, Tryd.ntmps21
    go_wp2
    go_ret
    exact ⟨by rw [HE.out]; rfl, Below.refl _ _⟩
  have h12' : ¬ (12 : Int) < (l.length : Int) := by omega
  go_enter Tryd.func21, Tryd.ntmps21
  go_wp2
  go_loopw [3, 11] (fun p i wr => ∃ (j : Nat) (q : ByteArray), j ≤ l.length ∧ i = .int .i64 j ∧ p = .string q ∧ Hid (q = ⟨(encP (l.take j)).toArray⟩) ∧ Hid (Good l j) ∧ Below w.heap.size w wr) (fun _ i _ => l.length - (intOf i).toNat)
  case atStart => exact ⟨0, ⟨#[]⟩, Nat.zero_le _, rfl, rfl, rfl, Good.start l, Below.refl _ _⟩
  case round =>
    obtain ⟨j, q, hj, rfl, rfl, HQ, HG, hb⟩ := hrel
    have hsz := hb.size
    have hlen := HG.out.len hj
    by_cases hlt : j < l.length
    · have hj0 : (0 : Int) ≤ (j : Int) := by omega
      have hj1 : (j : Int) < (l.length : Int) := by omega
      obtain rfl := HA.out (by omega)
      have hsj := HS.out j hlt
      obtain ⟨s, hz, HZ⟩ : ∃ s, w.cell? ⟨g, j, none⟩ = some (.string s) ∧ Hid (l[j] = s) := ⟨_, HC.out j hlt, rfl⟩
      rw [HZ.out] at hsj
      have hcell : wr.cell? ⟨g, j, none⟩ = some (.string s) := (hb.cell (World.block_lt_of_cell? w _ hz)).trans hz
      have CT := Lib.hid (step_ok s wr hsj (signs.tabs_below HT.out hb))
      have HB : Hid (stepOk s = false → R = ⟨#[]⟩) := fun h => by rw [← HR.out, putP_no (bad_step hlt (by rw [HZ.out]; exact h))]
      have HST : Hid (stepOk s = true → Good l (j + 1)) := fun h => HG.out.step hlt (by omega) (by rw [HZ.out]; exact h)
      have HENC : Hid (q ++ (⟨(47 :: esc s.data.toList).toArray⟩ : ByteArray) = ⟨(encP (l.take (j + 1))).toArray⟩) := by
        have := encP_take hlt
        rw [HZ.out] at this
        unfold Hid
        rw [HQ.out, this, mk_app]
      have CP : Hid (∀ W, Below w.heap.size w W → Calls Tryd.prog 45 #[.string s] W fun e w' => e = .returned (.string ⟨(47 :: esc s.data.toList).toArray⟩) ∧ Below W.heap.size W w') := fun W hW => step_path s m W hsj (maxCell_below HM.out hW)
      have hq : q.size ≤ 48012 := by rw [HQ.out, mk_size]; exact hlen
      have hr : (⟨(47 :: esc s.data.toList).toArray⟩ : ByteArray).size ≤ 2097153 := by
        rw [mk_size, List.length_cons]
        have := esc_len s.data.toList
        have : s.data.toList.length = s.size := by simp
        omega
      generalize (⟨(47 :: esc s.data.toList).toArray⟩ : ByteArray) = T at *
      cases hk : stepOk s with
      | false =>
        have HE := Lib.hid (HB.out hk)
        rw [hk] at CT
        clear HR HG HC HS HA HB HST HENC hk HT HM CP HQ hq hr hz hlen HZ hsj
        go_wp2_with fail
        with_reducible refine CT.out.mono ?_
        rintro e w1 ⟨rfl, hb1⟩
        have HB1 := Lib.hid (hb.trans (hb1.mono hsz))
        clear hb1 CT hcell
        go_wp2
        go_ret
        exact ⟨by rw [HE.out]; rfl, HB1.out⟩
      | true =>
        have HGG := Lib.hid (HST.out hk)
        rw [hk] at CT
        clear HR HG HC HS HA HB HST hk HT HM HQ hz hlen HZ hsj
        go_wp2_with fail
        with_reducible refine CT.out.mono ?_
        rintro e w1 ⟨rfl, hb1⟩
        have HB1 := Lib.hid (hb.trans (hb1.mono hsz))
        clear hb1 CT hcell
        go_wp2_with fail
        with_reducible refine (CP.out _ HB1.out).mono ?_
        rintro e w2 ⟨rfl, hb2⟩
        have hB2 := HB1.out.trans (hb2.mono HB1.out.size)
        clear hb2 CP
        go_wp2
        go_roundw
        case rel => exact ⟨j + 1, _, by omega, by go_num, rfl, HENC, HGG, hB2⟩
        case measure => simp [intOf]; omega
    · have hj1 : ¬ (j : Int) < (l.length : Int) := by omega
      have e : j = l.length := by omega
      subst e
      have HE : Hid (R = q) := by
        have := HQ.out
        rw [List.take_length] at this
        rw [← HR.out, putP_ok HG.out.done, this]; rfl
      clear HR HG HC HS HA HT HM HQ
      go_wp2
      go_ret
      exact ⟨by rw [HE.out]; rfl, hb⟩
end Go.Proofs.YtkjffifdlckljaaDoor.path
/-
  The table of powers of ten of internal/strconv as a row of this seat lists it; what impl.DecText returns.
-/
namespace Go.Proofs.YtkjffifdlckljaaDoor.decText
open Go.ChangeShapes Go.WideShapes Go.ChangeAt Go.RowKit Go.Lib
set_option maxRecDepth 100000

theorem pow10_eq : Rows.laid_internal_strconv_uint64pow10 = Lib.tabData (H := Unit) .u64 Lib.pow10Tab := by kernel_rfl
theorem pow10 {l : List (String × DataW Unit)} {w : World} (hL : laidMet Tryd.prog l w) (h1 : ("internal/strconv.uint64pow10", Rows.laid_internal_strconv_uint64pow10) ∈ l) : Lib.TabIs Tryd.prog w "internal/strconv.uint64pow10" .u64 Lib.pow10Tab := by
  obtain ⟨g, t, cs, fuel, p, hg, hty, hvar, hd⟩ := Lib.laidMet.reads hL h1
  obtain rfl := Option.some.inj ((show Tryd.prog.globalNamed "internal/strconv.uint64pow10" = some 7 by kernel_rfl).symm.trans hg)
  obtain rfl := Option.some.inj ((show (Tryd.prog.globals[7]?).map (·.type) = some 221 by kernel_rfl).symm.trans hty)
  rw [pow10_eq] at hd
  unfold Lib.TabIs
  rw [hvar, ← Lib.cells_of_tab Tryd.underlying221 Tryd.underlying82 (by kernel_rfl) (by kernel_rfl) hd]
theorem pow10_below {w w' : World} (h : Lib.TabIs Tryd.prog w "internal/strconv.uint64pow10" .u64 Lib.pow10Tab) (hb : Below w.heap.size w w') : Lib.TabIs Tryd.prog w' "internal/strconv.uint64pow10" .u64 Lib.pow10Tab := by
  have hc := Lib.TabIs.cell (g := 7) (show Lib.TabIs Tryd.prog w "internal/strconv.uint64pow10" .u64 Lib.pow10Tab from h) (by kernel_rfl) 0 (by rw [Lib.pow10Tab_length]; omega)
  have hlt := World.block_lt_of_cell? w _ hc
  exact var?_below hb (show Tryd.prog.globalNamed "internal/strconv.uint64pow10" = some 7 by kernel_rfl) hlt h

theorem impl_any (n : Int) (h0 : -9223372036854775808 ≤ n) (h1 : n ≤ 9223372036854775807) (w : World) (hT : Lib.TabIs Tryd.prog w "internal/strconv.uint64pow10" .u64 Lib.pow10Tab) :
    Calls Tryd.prog 120 #[.int .i64 n] w fun e w' => e = .returned (.string ⟨(Lib.itoa n).toArray⟩) ∧ Below w.heap.size w w' := by
  have C := Lib.hid (Tryd.strconv_Itoa n h0 h1 w hT)
  clear hT
  generalize Lib.itoa n = l at *
  go_enter Tryd.func120, Tryd.ntmps120
  go_wp2_with fail
  with_reducible refine C.out.mono ?_
  rintro e w1 ⟨rfl, k, os, rfl⟩
  clear C
  go_wp2
  go_ret
  exact ⟨rfl, below_grow _ _ (Nat.le_refl _) _ _⟩
end Go.Proofs.YtkjffifdlckljaaDoor.decText
