/-
  What spec.PutPath returns: a pointer's text of its steps. For at most 1048576 steps, each of at most 1048576 bytes.
-/
import Derived.Test.YtkjffifdlckljaaDoorPathsJ7
import Derived.Test.YtkjffifdlckljaaDoorPathsJ9
import Derived.Test.YtkjffifdlckljaaDoorPathsJ1
import Derived.Deep.LoopGhost
namespace Go.Proofs.YtkjffifdlckljaaDoor.path
open Go.ChangeShapes Go.WideShapes Go.ChangeAt Go.RowKit
open Go.Proofs.YtkjffifdlckljaaDoor.strs (encS oneS ReadS)
open Go.Proofs.YtkjffifdlckljaaDoor.sign (textOk)
set_option maxRecDepth 100000

/-- What is known behind j steps. -/
structure Good (l : List ByteArray) (j : Nat) : Prop where
  few : 0 < j → l.length ≤ 12
  ok : ∀ s ∈ l.take j, stepOk s = true
theorem Good.start (l : List ByteArray) : Good l 0 := ⟨fun h => by omega, fun s h => by simp at h⟩
theorem Good.step {l : List ByteArray} {j : Nat} (h : Good l j) (hj : j < l.length) (hf : l.length ≤ 12) (hk : stepOk l[j] = true) : Good l (j + 1) :=
  ⟨fun _ => hf, fun s hs => by
    rw [List.take_succ_eq_append_getElem hj, List.mem_append, List.mem_singleton] at hs
    rcases hs with hs | rfl
    · exact h.ok s hs
    · exact hk⟩
theorem Good.done {l : List ByteArray} (h : Good l l.length) : stepsOk l := by
  refine ⟨?_, fun s hs => h.ok s (by rwa [List.take_length])⟩
  rcases Nat.eq_zero_or_pos l.length with h0 | h0
  · omega
  · exact h.few h0
theorem bad_step {l : List ByteArray} {j : Nat} (hj : j < l.length) (hk : stepOk l[j] = false) : ¬ stepsOk l := fun h => by
  have := h.2 l[j] (List.getElem_mem hj)
  rw [hk] at this
  cases this
theorem bad_many {l : List ByteArray} (h : 12 < l.length) : ¬ stepsOk l := fun k => by have := k.1; omega
theorem encP_bound (l : List ByteArray) (h : ∀ s ∈ l, stepOk s = true) : (encP l).length ≤ 4001 * l.length := by
  induction l with
  | nil => simp [encP]
  | cons s l ih =>
    rw [encP_cons, List.length_cons, List.length_cons, List.length_append]
    have h1 := esc_len s.data.toList
    have h2 := h s (List.mem_cons_self ..)
    unfold stepOk at h2
    have h3 : s.size ≤ 2000 := by simpa using (Bool.and_eq_true_iff.1 h2).2
    have h4 : s.data.toList.length = s.size := by simp
    have h5 := ih fun s hs => h s (List.mem_cons_of_mem _ hs)
    omega
theorem Good.len {l : List ByteArray} {j : Nat} (h : Good l j) (hj : j ≤ l.length) : (encP (l.take j)).length ≤ 48012 := by
  have h1 := encP_bound _ h.ok
  rw [List.length_take, Nat.min_eq_left hj] at h1
  rcases Nat.eq_zero_or_pos j with h0 | h0
  · omega
  · have := h.few h0; omega
theorem encP_take {l : List ByteArray} {j : Nat} (hj : j < l.length) : encP (l.take (j + 1)) = encP (l.take j) ++ (47 :: esc l[j].data.toList) := by
  rw [List.take_succ_eq_append_getElem hj, encP_append, encP_cons, show encP [] = [] from rfl, List.append_nil]
theorem esc_snoc (s : ByteArray) (k : Nat) (h : k < s.size) : esc (s.data.toList.take (k + 1)) = esc (s.data.toList.take k) ++ escB s[k] := by
  rw [List.take_succ_eq_append_getElem (by simpa using h), esc_append]
  simp [esc]
  rfl
theorem glue3 (a b c : List UInt8) : a ++ 47 :: (b ++ c) = (a ++ 47 :: b) ++ c := by simp
theorem info5 : (Tryd.prog.info? 5).map (fun i => (i.zero, i.size, i.bytes)) = some (some (.int .u8 0), 1, 1) := by kernel_rfl
theorem oneB (x : UInt8) : (encB x).oneCell' = true := rfl
theorem byte_eq {x : UInt8} {n : Nat} (hn : n < 256) : ((x.toNat : Int) == (n : Int)) = decide (x = UInt8.ofNat n) := by
  rw [Bool.eq_iff_iff, beq_iff_eq, decide_eq_true_eq]
  constructor
  · intro h
    apply UInt8.toNat_inj.1
    rw [UInt8.toNat_ofNat']
    omega
  · rintro rfl
    rw [UInt8.toNat_ofNat']
    omega

set_option maxHeartbeats 2000000 in
theorem spec_put (l : List ByteArray) (v : Value) (a : Option Addr) (c g : Nat) (w : World) (hl : l.length ≤ 1048576) (hs : ∀ j (h : j < l.length), l[j].size ≤ 1048576) (hr : ReadS w v l a c g) :
    Calls Tryd.prog 19 #[v] w fun e w' => e = .returned (.string (putP l)) ∧ Below w.heap.size w w' := by
  obtain ⟨i0, hi0, hz0, hz1, hz2⟩ := info_parts info5
  obtain ⟨rfl, ha, hc⟩ := hr
  have HA := Lib.hid ha
  have HC := Lib.hid hc
  have HS := Lib.hid hs
  clear ha hc hs
  generalize hR : putP l = R
  have HR := Lib.hid hR
  clear hR
  go_enter Tryd.func19, Tryd.ntmps19
  go_wp2
  go_loopg [3, 4] l.length (fun gk v i wr => ∃ j : Nat, j + gk = l.length ∧ i = .int .i64 j ∧ OwnL wr w.heap.size 5 encB v (encP (l.take j)) ∧ Hid (Good l j) ∧ Below w.heap.size w wr)
  case atStart => exact ⟨0, by omega, rfl, OwnL.empty _ _ _ (Nat.le_refl _), Good.start l, (Below.refl _ _).alloc (Nat.le_refl _) _⟩
  case round =>
    obtain ⟨j, hjg, rfl, hown, HG, hb⟩ := hrel
    have hsz := hb.size
    have hlen := HG.out.len (by omega)
    cases gk with
    | zero =>
      have hn : ¬ (j : Int) < (l.length : Int) := by omega
      have e : j = l.length := by omega
      subst e
      have HE : Hid (R = ⟨(encP l).toArray⟩) := by rw [← HR.out, putP_ok HG.out.done]; rfl
      rw [List.take_length] at hown
      have hc := run_string_own (P := Tryd.prog) 69 5 9 Tryd.underlying69 Tryd.underlying5 Tryd.underlying9 hown
      clear HR HG HC HS HA
      go_wp2
      go_ret
      exact ⟨by rw [HE.out]; rfl, hb⟩
    | succ gk =>
      have hlt : j < l.length := by omega
      have hj0 : (0 : Int) ≤ (j : Int) := by omega
      have hj1 : (j : Int) < (l.length : Int) := by omega
      obtain rfl := HA.out (by omega)
      have hsj := HS.out j hlt
      obtain ⟨s, hz, HZ⟩ : ∃ s, w.cell? ⟨g, j, none⟩ = some (.string s) ∧ Hid (l[j] = s) := ⟨_, HC.out j hlt, rfl⟩
      rw [HZ.out] at hsj
      have hcell : wr.cell? ⟨g, j, none⟩ = some (.string s) := (hb.cell (World.block_lt_of_cell? w _ hz)).trans hz
      by_cases h12 : 12 < l.length
      · have h12' : (12 : Int) < (l.length : Int) := by omega
        have HE : Hid (R = ⟨#[]⟩) := by rw [← HR.out, putP_no (bad_many h12)]; rfl
        clear HR HG HC HS HA
        go_wp2
        go_ret
        exact ⟨by rw [HE.out]; rfl, hb⟩
      · have h12' : ¬ (12 : Int) < (l.length : Int) := by omega
        have CT := Lib.hid (signs.spec_text s wr hsj)
        have HB : Hid (stepOk s = false → R = ⟨#[]⟩) := fun h => by rw [← HR.out, putP_no (bad_step hlt (by rw [HZ.out]; exact h))]
        have HOK : Hid (stepOk s = (textOk s && decide (s.size ≤ 2000))) := rfl
        have HST : Hid (stepOk s = true → Good l (j + 1)) := fun h => HG.out.step hlt (by omega) (by rw [HZ.out]; exact h)
        have HENC : Hid (encP (l.take (j + 1)) = encP (l.take j) ++ (47 :: esc s.data.toList)) := by
          have := encP_take hlt
          rw [HZ.out] at this
          exact this
        cases hk : textOk s with
        | false =>
          have HE : Hid (R = ⟨#[]⟩) := HB.out (by rw [HOK.out, hk]; rfl)
          rw [hk] at CT
          clear HR HG HC HS HA HB HOK HST HENC hk hcell
          have hcell : wr.cell? ⟨g, j, none⟩ = some (.string s) := (hb.cell (World.block_lt_of_cell? w _ hz)).trans hz
          go_wp2_with fail
          with_reducible refine CT.out.mono ?_
          rintro e w1 ⟨rfl, hb1⟩
          have HB1 := Lib.hid (hb.trans (hb1.mono hsz))
          clear hb1 CT
          go_wp2
          go_ret
          exact ⟨by rw [HE.out]; rfl, HB1.out⟩
        | true =>
          rw [hk] at CT
          by_cases h2 : s.size ≤ 2000
          · have h2' : ¬ (2000 : Int) < (s.size : Int) := by omega
            have HGG := Lib.hid (HST.out (by rw [HOK.out, hk, decide_eq_true h2]; rfl))
            clear HR HG HC HS HA HB HOK HST hk
            have HZZ := Lib.hid hz
            go_wp2_with fail
            with_reducible refine CT.out.mono ?_
            rintro e w1 ⟨rfl, hb1⟩
            have hbb := hb.trans (hb1.mono hsz)
            have hown1 := hown.below hb1
            have hzw1 := hb1.size
            have hcell1 : w1.cell? ⟨g, j, none⟩ = some (.string s) := (hbb.cell (World.block_lt_of_cell? w _ hz)).trans hz
            clear CT hcell hown hb1
            go_wp2_with (first
              | (at_builtin; refine wpList_app (by rfl) _ _ _ (by rfl) w.heap.size 5 encB i0 _ 1 Tryd.underlying69 hi0 hz0 hz1 hz2 rfl oneB u3 (encP (l.take j)) (by rfl) (hown1.alloc _) w1.heap.size 1 1 [47] (by rfl) (by rfl) _ (heap_alloc_new w1 _) (by rfl) (by unfold maxLen; omega) (by omega) (by simp; omega) ?_; intro v1 w2 hown2 hg2))
            have hb2 : Below w.heap.size w w2 := grown_below (hbb.alloc (by omega) _) (by simp; omega) (hown1.alloc _) hg2
            have HO := Lib.hid hown2
            have HB2 := Lib.hid hb2
            clear hown2 hg2 hb2 hown1 hcell1 hbb hzw1
            obtain ⟨wo, rfl⟩ : ∃ wo : World, wo = wr := ⟨_, rfl⟩
            go_loopg [3, 5] s.size (fun g2 v i wr => ∃ k : Nat, k + g2 = s.size ∧ i = .int .i64 k ∧ OwnL wr w.heap.size 5 encB v (encP (l.take j) ++ 47 :: esc (s.data.toList.take k)) ∧ Below w.heap.size w wr)
            case atStart => exact ⟨0, by omega, rfl, by have := HO.out; simpa [esc] using this, HB2.out⟩
            case round =>
              clear HO HB2
              obtain ⟨k, hkg, rfl, hown, hb⟩ := hrel
              have hsz := hb.size
              have hlk : (encP (l.take j) ++ 47 :: esc (s.data.toList.take k)).length ≤ 60000 := by
                have h1 := esc_len (s.data.toList.take k)
                rw [List.length_take] at h1
                have h3 : s.data.toList.length = s.size := by simp
                rw [List.length_append, List.length_cons]
                omega
              have hcell : wr.cell? ⟨g, j, none⟩ = some (.string s) := (hb.cell (World.block_lt_of_cell? w _ HZZ.out)).trans HZZ.out
              cases gk with
              | zero =>
                have hkn : ¬ (k : Int) < (s.size : Int) := by omega
                have e : k = s.size := by omega
                subst e
                have e2 : s.data.toList.take s.size = s.data.toList := List.take_of_length_le (by simp)
                rw [e2, ← HENC.out] at hown
                clear hkg
                go_wp2
                go_roundg gk
                case measure => omega
                case rel => exact ⟨j + 1, by omega, by first | rfl | simp, hown, HGG, hb⟩
              | succ g2 =>
                have hk : k < s.size := by omega
                have hk0 : (0 : Int) ≤ (k : Int) := by omega
                have hk1 : (k : Int) < (s.size : Int) := by omega
                have hes := esc_snoc s k hk
                by_cases h126 : s[k] = 126
                · have q1 : ((s[k].toNat : Int) == 126) = true := by rw [h126]; rfl
                  have HE : Hid (encP (l.take j) ++ 47 :: esc (s.data.toList.take (k + 1)) = (encP (l.take j) ++ 47 :: esc (s.data.toList.take k)) ++ [126, 48]) := by rw [hes, h126]; exact glue3 _ _ _
                  clear h126 hes
                  go_wp2_with (first
                    | (at_builtin; refine wpList_app (by rfl) _ _ _ (by rfl) w.heap.size 5 encB i0 _ 1 Tryd.underlying69 hi0 hz0 hz1 hz2 rfl oneB u3 (encP (l.take j) ++ 47 :: esc (s.data.toList.take k)) (by rfl) (hown.alloc _) wr.heap.size 2 2 [126, 48] (by rfl) (by rfl) _ (heap_alloc_new wr _) (by rfl) (by unfold maxLen; omega) (by omega) (by simp; omega) ?_; intro v1 w3 hown3 hg3))
                  have hb3 : Below w.heap.size w w3 := grown_below (hb.alloc hsz _) (by simp; omega) (hown.alloc _) hg3
                  go_roundg g2
                  case measure => omega
                  case rel => exact ⟨k + 1, by omega, by first | rfl | simp, by rw [HE.out]; exact hown3, hb3⟩
                · have q1 : ((s[k].toNat : Int) == 126) = false := by
                    rw [beq_eq_false_iff_ne]
                    exact fun e => h126 (UInt8.toNat_inj.1 (by have : (126 : UInt8).toNat = 126 := rfl; omega))
                  by_cases h47 : s[k] = 47
                  · have q2 : ((s[k].toNat : Int) == 47) = true := by rw [h47]; rfl
                    have HE : Hid (encP (l.take j) ++ 47 :: esc (s.data.toList.take (k + 1)) = (encP (l.take j) ++ 47 :: esc (s.data.toList.take k)) ++ [126, 49]) := by rw [hes, h47]; exact glue3 _ _ _
                    clear h126 h47 hes
                    go_wp2_with (first
                      | (at_builtin; refine wpList_app (by rfl) _ _ _ (by rfl) w.heap.size 5 encB i0 _ 1 Tryd.underlying69 hi0 hz0 hz1 hz2 rfl oneB u3 (encP (l.take j) ++ 47 :: esc (s.data.toList.take k)) (by rfl) (hown.alloc _) wr.heap.size 2 2 [126, 49] (by rfl) (by rfl) _ (heap_alloc_new wr _) (by rfl) (by unfold maxLen; omega) (by omega) (by simp; omega) ?_; intro v1 w3 hown3 hg3))
                    have hb3 : Below w.heap.size w w3 := grown_below (hb.alloc hsz _) (by simp; omega) (hown.alloc _) hg3
                    go_roundg g2
                    case measure => omega
                    case rel => exact ⟨k + 1, by omega, by first | rfl | simp, by rw [HE.out]; exact hown3, hb3⟩
                  · have q2 : ((s[k].toNat : Int) == 47) = false := by
                      rw [beq_eq_false_iff_ne]
                      exact fun e => h47 (UInt8.toNat_inj.1 (by have : (47 : UInt8).toNat = 47 := rfl; omega))
                    have HE : Hid (encP (l.take j) ++ 47 :: esc (s.data.toList.take (k + 1)) = (encP (l.take j) ++ 47 :: esc (s.data.toList.take k)) ++ [s[k]]) := by rw [hes, show escB s[k] = [s[k]] by unfold escB; rw [if_neg h126, if_neg h47]]; exact glue3 _ _ _
                    clear h126 h47 hes
                    go_wp2_with (first
                      | (at_builtin; refine wpList_app (by rfl) _ _ _ (by rfl) w.heap.size 5 encB i0 _ 1 Tryd.underlying69 hi0 hz0 hz1 hz2 rfl oneB u3 (encP (l.take j) ++ 47 :: esc (s.data.toList.take k)) (by rfl) (hown.alloc _) wr.heap.size 1 1 [s[k]] (by rfl) (by rfl) _ (heap_alloc_new wr _) (by rfl) (by unfold maxLen; omega) (by omega) (by simp; omega) ?_; intro v1 w3 hown3 hg3))
                    have hb3 : Below w.heap.size w w3 := grown_below (hb.alloc hsz _) (by simp; omega) (hown.alloc _) hg3
                    go_roundg g2
                    case measure => omega
                    case rel => exact ⟨k + 1, by omega, by first | rfl | simp, by rw [HE.out]; exact hown3, hb3⟩
          · have h2' : (2000 : Int) < (s.size : Int) := by omega
            have HE : Hid (R = ⟨#[]⟩) := HB.out (by rw [HOK.out, hk, decide_eq_false h2]; rfl)
            clear HR HG HC HS HA HB HOK HST HENC hk
            have HZZ := Lib.hid hz
            go_wp2_with fail
            with_reducible refine CT.out.mono ?_
            rintro e w1 ⟨rfl, hb1⟩
            have hbb := hb.trans (hb1.mono hsz)
            have hcell1 : w1.cell? ⟨g, j, none⟩ = some (.string s) := (hbb.cell (World.block_lt_of_cell? w _ hz)).trans hz
            clear hb1 CT hcell
            go_wp2
            go_ret
            exact ⟨by rw [HE.out]; rfl, hbb⟩
end Go.Proofs.YtkjffifdlckljaaDoor.path
