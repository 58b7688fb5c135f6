/-
  What spec.GetHead returns: the head at a place of a text if it is the shortest form.
-/
import Derived.Test.YtnaghafmpncdkaaDoorGetHeadSpec
import Derived.Deep.RegionHeld3
namespace Go.Proofs.YtnaghafmpncdkaaDoor.head
open Go.ChangeShapes Go.WideShapes Go.ChangeAt Go.RowKit
set_option maxRecDepth 100000

theorem cut_list (s : ByteArray) (i X M : Nat) (h : X = i + 1 + M) : (s.extract i X).toList = (s.data.toList.drop i).take (1 + M) := by
  rw [ByteArray.toList_eq, ByteArray.data_extract, Array.toList_extract, List.extract_eq_take_drop]
  congr 1
  omega
theorem beq_dec (a b : List UInt8) : (a == b) = decide (a = b) := by
  by_cases h : a = b
  · subst h; simp
  · rw [decide_eq_false h]; simpa using h
theorem num_lt {s : ByteArray} {i : Nat} (h : anyOk s i) : num s i < 18446744073709551616 := by
  unfold num
  split
  · have : low s i < 32 := Nat.mod_lt _ (by omega)
    omega
  · have h1 := beN_lt (tail s i)
    rw [tail_len h] at h1
    have h2 : many s i ≤ 8 := by
      have := h.2.1
      unfold many
      split
      · omega
      · have : 2 ^ (low s i - 24) ≤ 2 ^ 3 := Nat.pow_le_pow_right (by omega) (by omega)
        omega
    have h3 : 256 ^ many s i ≤ 256 ^ 8 := Nat.pow_le_pow_right (by omega) h2
    omega
set_option maxHeartbeats 4000000 in
theorem get_spec_yes (s : ByteArray) (i : Nat) (w : World) (hs : s.size ≤ 1048576) (h : anyOk s i) :
    Calls Tryd.prog 65 #[.string s, .int .i64 i] w fun e w' => e = .returned (triple (getHead s i)) ∧ Below w.heap.size w w' := by
  have CA := fun W => any_all s i W hs
  obtain ⟨X, hX, hX1, hX2⟩ : ∃ X : Nat, X = i + 1 + many s i ∧ i ≤ X ∧ X ≤ s.size := ⟨_, rfl, by omega, h.2.2⟩
  have e1 : anyHead s i = ((maj s i : Int), num s i, (X : Int)) := by unfold anyHead; rw [Int.toNat_natCast, if_pos ⟨by omega, h⟩, hX]; simp
  rw [e1] at CA
  unfold triple at CA
  simp only at CA
  replace CA := Lib.hid CA
  have CP := Lib.hid (fun W => spec_nat (maj s i) (num s i) (maj_lt s i) (num_lt h) W)
  have x0 : ¬ (X : Int) < 0 := by omega
  have x1 : (i : Int) ≤ (X : Int) := by omega
  have x2 : (X : Int) ≤ (s.size : Int) := by omega
  have HG : Hid (getHead s i = if headL (maj s i) (num s i) = (s.data.toList.drop i).take (1 + many s i) then ((maj s i : Int), num s i, (X : Int)) else (-1, 0, -1)) := by
    unfold Hid getHead
    rw [Int.toNat_natCast]
    by_cases hq : short s i
    · rw [if_pos ⟨by omega, h, hq⟩, if_pos ((short_iff h).2 hq), hX]; simp
    · rw [if_neg (fun h' => hq h'.2.2), if_neg (fun h' => hq ((short_iff h).1 h'))]
  have HX := Lib.hid hX
  generalize getHead s i = R at *
  generalize headL (maj s i) (num s i) = L at *
  generalize maj s i = m at *
  generalize num s i = n at *
  generalize many s i = M at *
  clear h hX e1 hX1 hX2
  go_enter Tryd.func65, Tryd.ntmps65
  go_wp2_with fail
  with_reducible refine (CA.out _).mono ?_
  rintro r w1 ⟨rfl, hb⟩
  have HB := Lib.hid hb
  clear hb CA
  go_wp2_with fail
  have hd : decide ((X : Int) < 0) = false := decide_eq_false (by omega)
  have hi : (0 : Int) ≤ (i : Int) := by omega
  clear x0
  have HE : Hid ((L == (s.extract i X).toList) = decide (L = (s.data.toList.drop i).take (1 + M))) := by unfold Hid; rw [cut_list s i X M HX.out]; exact beq_dec L _
  clear hs
  go_region_held3 (fun _ => True) (trivial) (first | (go_at_call 77; with_reducible refine (CP.out _).mono ?_; rintro r w2 ⟨rfl, hb2⟩))
  all_goals
    have HB2 := Lib.hid (HB.out.trans ((belowN (Below.refl _ _) 1).trans (hb2.mono HB.out.size)))
    by_cases hq : L = (s.data.toList.drop i).take (1 + M)
    · have he : (!(L == (s.extract i X).toList)) = false := by rw [HE.out, decide_eq_true hq]; rfl
      have HG2 : Hid (R = ((m : Int), n, (X : Int))) := by rw [HG.out, if_pos hq]; rfl
      clear hq HG HE HB hb2
      go_wp2
      all_goals first
        | (exfalso; rename_i hx; rw [he] at hx; cases hx; done)
        | (go_ret3; exact ⟨by rw [HG2.out]; rfl, HB2.out⟩)
    · have he : (!(L == (s.extract i X).toList)) = true := by rw [HE.out, decide_eq_false hq]; rfl
      have HG2 : Hid (R = (-1, 0, -1)) := by rw [HG.out, if_neg hq]; rfl
      clear hq HG HE HB hb2
      go_wp2
      all_goals first
        | (exfalso; rename_i hx; rw [he] at hx; cases hx; done)
        | (go_ret3; exact ⟨by rw [HG2.out]; rfl, HB2.out⟩)
set_option maxHeartbeats 1000000 in
theorem get_spec_no (s : ByteArray) (i : Int) (w : World) (hs : s.size ≤ 1048576) (h : ¬ (0 ≤ i ∧ anyOk s i.toNat)) :
    Calls Tryd.prog 65 #[.string s, .int .i64 i] w fun e w' => e = .returned (triple (getHead s i)) ∧ Below w.heap.size w w' := by
  have CA := fun W => any_all s i W hs
  have e1 : anyHead s i = (-1, 0, -1) := by unfold anyHead; rw [if_neg h]
  have HG : Hid (getHead s i = (-1, 0, -1)) := by unfold Hid getHead; rw [if_neg (fun h' => h ⟨h'.1, h'.2.1⟩)]
  rw [e1] at CA
  unfold triple at CA
  simp only at CA
  replace CA := Lib.hid CA
  generalize getHead s i = R at *
  clear h hs e1
  go_enter Tryd.func65, Tryd.ntmps65
  go_wp2_with fail
  with_reducible refine (CA.out _).mono ?_
  rintro r w1 ⟨rfl, hb⟩
  have HB := Lib.hid hb
  clear hb CA
  go_wp2_with fail
  go_region
  all_goals
    go_wp2
    go_ret3
    exact ⟨by rw [HG.out]; rfl, belowN HB.out 1⟩
theorem get_spec (s : ByteArray) (i : Int) (w : World) (hs : s.size ≤ 1048576) : Calls Tryd.prog 65 #[.string s, .int .i64 i] w fun e w' => e = .returned (triple (getHead s i)) ∧ Below w.heap.size w w' := by
  by_cases h : 0 ≤ i ∧ anyOk s i.toNat
  · obtain ⟨k, rfl⟩ : ∃ k : Nat, i = k := ⟨i.toNat, by omega⟩
    exact get_spec_yes s k w hs (by simpa using h.2)
  · exact get_spec_no s i w hs h

end Go.Proofs.YtnaghafmpncdkaaDoor.head
