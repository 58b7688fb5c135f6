/-
  Plain: a pointer's text of its steps, what strings.ReplaceAll makes of a step, what strings.SplitN makes of the text.
-/
import Derived.Lib.Replace
import Derived.Test.YtkjffifdlckljaaDoorPathsJ6
namespace Go.Proofs.YtkjffifdlckljaaDoor.path
open Go.Lib (replaceAll replace replaceK replaceNum count index splitK)
open Go.Proofs.YtkjffifdlckljaaDoor.sign (textOk)

theorem rep_def {s old new : List UInt8} (h : old ≠ new) : replaceAll s old new = replaceK old new (count s old) s := by
  unfold replaceAll replace replaceNum
  rw [if_neg (by simpa using h), if_pos (.inl (by decide))]
theorem rep_nil {old new : List UInt8} (h : old ≠ new) (h0 : old ≠ []) : replaceAll [] old new = [] := by
  rw [rep_def h, Lib.count_miss (by unfold index; rw [if_neg (by simpa using h0)]), replaceK]
theorem rep_hit {old new s : List UInt8} (h : old ≠ new) (h0 : old ≠ []) (hp : old.isPrefixOf s = true) : replaceAll s old new = new ++ replaceAll (s.drop old.length) old new := by
  have hi : index s old = ((0 : Nat) : Int) := by
    cases s with
    | nil => cases old with
      | nil => exact (h0 rfl).elim
      | cons a t => simp at hp
    | cons b l => unfold index; rw [if_pos hp]; rfl
  rw [rep_def h, rep_def h, Lib.count_hit h0 hi, Nat.add_comm 1, Lib.replaceK_hit _ _ _ _ 0 hi]
  simp
theorem rep_miss {old new : List UInt8} {b : UInt8} {l : List UInt8} (h : old ≠ new) (h0 : old ≠ []) (hp : old.isPrefixOf (b :: l) = false) : replaceAll (b :: l) old new = b :: replaceAll l old new := by
  have hi : index (b :: l) old = if index l old == -1 then -1 else index l old + 1 := by rw [index, hp]; simp
  rw [rep_def h, rep_def h]
  by_cases hm : index l old = -1
  · rw [Lib.count_miss hm, Lib.count_miss (by rw [hi, if_pos (beq_iff_eq.2 hm)]), replaceK, replaceK]
  · have hge := Lib.index_ge l old
    obtain ⟨j, hj⟩ : ∃ j : Nat, index l old = j := ⟨(index l old).toNat, by omega⟩
    have hi' : index (b :: l) old = ((j + 1 : Nat) : Int) := by rw [hi, if_neg (fun e => hm (beq_iff_eq.1 e)), hj]; omega
    rw [Lib.count_hit h0 hj, Lib.count_hit h0 hi', Nat.add_comm 1, Nat.add_comm 1, Lib.replaceK_hit _ _ _ _ j hj, Lib.replaceK_hit _ _ _ _ (j + 1) hi']
    have e : j + 1 + old.length = (j + old.length) + 1 := by omega
    rw [e, List.drop_succ_cons, List.take_succ_cons]
    simp
/-- One byte in another's place. -/
def one (c : UInt8) (new : List UInt8) (x : UInt8) : List UInt8 := if x = c then new else [x]
theorem rep_one (c : UInt8) (new l : List UInt8) (h : [c] ≠ new) : replaceAll l [c] new = l.flatMap (one c new) := by
  induction l with
  | nil => exact rep_nil h (by simp)
  | cons b l ih =>
    by_cases hb : b = c
    · subst hb
      rw [rep_hit h (by simp) (by simp [List.isPrefixOf]), List.flatMap_cons, ← ih]
      simp [one]
    · rw [rep_miss h (by simp) (by simp [List.isPrefixOf]; exact fun e => (hb e.symm).elim), List.flatMap_cons, ← ih]
      simp [one, hb]
/-- A step's bytes as the text has them. -/
def escB (x : UInt8) : List UInt8 := if x = 126 then [126, 48] else if x = 47 then [126, 49] else [x]
def esc (l : List UInt8) : List UInt8 := l.flatMap escB
theorem esc_cons (x : UInt8) (l : List UInt8) : esc (x :: l) = escB x ++ esc l := rfl
theorem escB_len (x : UInt8) : (escB x).length ≤ 2 := by unfold escB; (repeat' split) <;> simp
theorem esc_len (l : List UInt8) : (esc l).length ≤ 2 * l.length := by
  induction l with
  | nil => simp [esc]
  | cons x l ih => rw [esc_cons, List.length_append, List.length_cons]; have := escB_len x; omega
theorem one_len (l : List UInt8) : (l.flatMap (one 126 [126, 48])).length ≤ 2 * l.length := by
  induction l with
  | nil => simp
  | cons x l ih =>
    rw [List.flatMap_cons, List.length_append, List.length_cons]
    have : (one 126 [126, 48] x).length ≤ 2 := by unfold one; split <;> simp
    omega
theorem esc_append (a b : List UInt8) : esc (a ++ b) = esc a ++ esc b := by simp [esc]
theorem esc_two (l : List UInt8) : replaceAll (replaceAll l [126] [126, 48]) [47] [126, 49] = esc l := by
  rw [rep_one _ _ _ (by decide), rep_one _ _ _ (by decide), List.flatMap_assoc]
  unfold esc
  congr 1
  funext x
  unfold one escB
  by_cases h1 : x = 126
  · subst h1; decide
  · by_cases h2 : x = 47
    · subst h2; decide
    · simp [h1, h2]
theorem esc_no (l : List UInt8) : 47 ∉ esc l := by
  induction l with
  | nil => simp [esc]
  | cons x l ih =>
    rw [esc_cons, List.mem_append, not_or]
    refine ⟨?_, ih⟩
    unfold escB
    split
    · decide
    · split
      · decide
      · simpa [eq_comm] using ‹¬ x = 47›
theorem dec_one (l : List UInt8) : replaceAll (esc l) [126, 49] [47] = l.flatMap (one 126 [126, 48]) := by
  induction l with
  | nil => exact rep_nil (by decide) (by decide)
  | cons x l ih =>
    rw [esc_cons, List.flatMap_cons, ← ih]
    by_cases h1 : x = 126
    · subst h1
      rw [show escB 126 = [126, 48] from rfl, show one 126 [126, 48] 126 = [126, 48] from rfl]
      rw [List.cons_append, rep_miss (by decide) (by decide) (by simp [List.isPrefixOf]), List.cons_append, rep_miss (by decide) (by decide) (by simp [List.isPrefixOf])]
      rfl
    · by_cases h2 : x = 47
      · subst h2
        rw [show escB 47 = [126, 49] from rfl, show one 126 [126, 48] 47 = [47] from rfl]
        rw [rep_hit (by decide) (by decide) (by simp [List.isPrefixOf])]
        rfl
      · rw [show escB x = [x] by unfold escB; rw [if_neg h1, if_neg h2], show one 126 [126, 48] x = [x] by unfold one; rw [if_neg h1]]
        rw [List.singleton_append, rep_miss (by decide) (by decide) (by simp [List.isPrefixOf]; exact fun e => (h1 e.symm).elim)]
        rfl
theorem dec_two (l : List UInt8) : replaceAll (l.flatMap (one 126 [126, 48])) [126, 48] [126] = l := by
  induction l with
  | nil => exact rep_nil (by decide) (by decide)
  | cons x l ih =>
    rw [List.flatMap_cons]
    by_cases h1 : x = 126
    · subst h1
      rw [show one 126 [126, 48] 126 = [126, 48] from rfl]
      rw [rep_hit (by decide) (by decide) (by simp [List.isPrefixOf])]
      show [126] ++ replaceAll (l.flatMap (one 126 [126, 48])) [126, 48] [126] = _
      rw [ih]
      rfl
    · rw [show one 126 [126, 48] x = [x] by unfold one; rw [if_neg h1]]
      rw [List.singleton_append, rep_miss (by decide) (by decide) (by simp [List.isPrefixOf]; exact fun e => (h1 e.symm).elim), ih]
theorem dec_esc (l : List UInt8) : replaceAll (replaceAll (esc l) [126, 49] [47]) [126, 48] [126] = l := by rw [dec_one, dec_two]

/-- A path's bytes. -/
def encP (l : List ByteArray) : List UInt8 := l.flatMap fun s => 47 :: esc s.data.toList
theorem encP_cons (s : ByteArray) (l : List ByteArray) : encP (s :: l) = 47 :: (esc s.data.toList ++ encP l) := by simp [encP]
theorem encP_append (a b : List ByteArray) : encP (a ++ b) = encP a ++ encP b := by simp [encP]
theorem encP_ge (l : List ByteArray) : l.length ≤ (encP l).length := by
  induction l with
  | nil => simp
  | cons s l ih => rw [encP_cons, List.length_cons, List.length_cons, List.length_append]; omega
def stepOk (s : ByteArray) : Bool := textOk s && decide (s.size ≤ 2000)
def stepsOk (l : List ByteArray) : Prop := l.length ≤ 12 ∧ ∀ s ∈ l, stepOk s = true
instance (l : List ByteArray) : Decidable (stepsOk l) := by unfold stepsOk; infer_instance
/-- What PutPath returns. -/
def putP (l : List ByteArray) : ByteArray := if stepsOk l then ⟨(encP l).toArray⟩ else ⟨#[]⟩
theorem putP_ok {l : List ByteArray} (h : stepsOk l) : putP l = ⟨(encP l).toArray⟩ := if_pos h
theorem putP_no {l : List ByteArray} (h : ¬ stepsOk l) : putP l = ⟨#[]⟩ := if_neg h

/-! The text cut at its slashes. -/
theorem index_at (x r : List UInt8) (h : 47 ∉ x) : index (x ++ 47 :: r) [47] = x.length := by
  induction x with
  | nil => rw [List.nil_append]; unfold index; rw [if_pos (by simp [List.isPrefixOf])]; rfl
  | cons b x ih =>
    rw [List.mem_cons, not_or] at h
    rw [List.cons_append]
    unfold index
    rw [if_neg (by simp [List.isPrefixOf]; exact fun e => h.1 e), ih h.2, if_neg (by simp), List.length_cons]
    omega
theorem index_no (x : List UInt8) (h : 47 ∉ x) : index x [47] = -1 := by
  induction x with
  | nil => unfold index; rw [if_neg (by simp)]
  | cons b x ih =>
    rw [List.mem_cons, not_or] at h
    unfold index
    rw [if_neg (by simp [List.isPrefixOf]; exact fun e => h.1 e), ih h.2, if_pos (by decide)]
theorem split_rest (x : List UInt8) (hx : 47 ∉ x) : ∀ (l : List ByteArray) (k : Nat), l.length ≤ k → splitK [47] 0 k (x ++ encP l) = x :: l.map fun s => esc s.data.toList := by
  intro l
  induction l generalizing x with
  | nil =>
    intro k _
    rw [show encP [] = [] from rfl, List.append_nil, List.map_nil]
    cases k with
    | zero => rfl
    | succ k => unfold splitK; rw [if_pos (by rw [index_no x hx]; decide)]
  | cons s l ih =>
    intro k hk
    obtain ⟨k, rfl⟩ : ∃ j, k = j + 1 := ⟨k - 1, by simp at hk; omega⟩
    rw [encP_cons]
    unfold splitK
    have hi := index_at x (esc s.data.toList ++ encP l) hx
    rw [if_neg (by rw [hi]; simp), hi]
    simp only [Int.toNat_natCast, Nat.add_zero, List.length_singleton]
    rw [List.take_left, show x.length + 1 = x.length + 1 from rfl, ← List.drop_drop, List.drop_left, List.drop_succ_cons, List.drop_zero, ih _ (esc_no _) k (by simp at hk; omega), List.map_cons]
/-- SplitN at a path: nothing, then the steps' texts. -/
theorem split_path (l : List ByteArray) (h : l.length ≤ 12) : splitK [47] 0 (min 14 ((encP l).length + 1) - 1) (encP l) = [] :: l.map fun s => esc s.data.toList := by
  have := split_rest [] (by simp) l (min 14 ((encP l).length + 1) - 1) (by have := encP_ge l; omega)
  rwa [List.nil_append] at this
end Go.Proofs.YtkjffifdlckljaaDoor.path
