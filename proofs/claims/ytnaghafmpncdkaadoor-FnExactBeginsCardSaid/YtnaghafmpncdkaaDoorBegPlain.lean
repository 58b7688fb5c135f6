/-
  Plain: how a text begins a value, as far as its heads show.
-/
import Derived.Test.YtnaghafmpncdkaaDoorGetHeadSpec2
namespace Go.Proofs.YtnaghafmpncdkaaDoor.beg
open Go.Proofs.YtnaghafmpncdkaaDoor.head

/-- So many values one behind the other. -/
def loopW (f : Nat → Nat → Int × Int) : Nat → Int → Int → Int × Int
  | 0, i, l => (i, l)
  | n + 1, i, l => if (f i.toNat l.toNat).1 < 0 then f i.toNat l.toNat else loopW f n (f i.toNat l.toNat).1 (f i.toNat l.toNat).2
/-- The text ends within a head. -/
def cutH (s : ByteArray) (i : Nat) : Prop := s.size ≤ i ∨ (24 ≤ low s i ∧ low s i ≤ 27 ∧ s.size ≤ i + many s i)
instance (s : ByteArray) (i : Nat) : Decidable (cutH s i) := inferInstanceAs (Decidable (_ ∨ _))
/-- What stands behind a head of major m, number n, that ends at X. -/
def headW (s : ByteArray) (f : Nat → Nat → Int × Int) (m n X left : Nat) : Int × Int :=
  if m ≤ 1 then (if 9223372036854775807 < n then -1 else (X : Int), left)
  else if m = 7 then (if n < 20 ∨ 22 < n then -1 else (X : Int), left)
  else if m ≤ 3 then (if 2000 < n then -1 else if s.size - X < n then -2 else ((X + n : Nat) : Int), left)
  else if m = 6 then (if 1000000 < n then (-1, (left : Int)) else loopW f 1 X left)
  else if 300 < n then (-1, (left : Int)) else loopW f (if m = 5 then 2 * n else n) X left
/-- How a text begins a value from a place on, k levels down at most: the place behind it, -1 (none), -2 (the text ends within); how many values may still begin. -/
def wk (s : ByteArray) : Nat → Nat → Nat → Int × Int
  | 0, _, left => (-1, (left : Int) - 1)
  | k + 1, i, left =>
    if left = 0 then (-1, -1)
    else if cutH s i then (-2, (left : Int) - 1)
    else if (getHead s i).2.2 < 0 then (-1, (left : Int) - 1)
    else headW s (wk s k) (getHead s i).1.toNat (getHead s i).2.1 (getHead s i).2.2.toNat (left - 1)
/-- What a walk is: the place behind lies further on, and fewer may begin. -/
def Good (s : ByteArray) (f : Nat → Nat → Int × Int) : Prop := ∀ i left, i ≤ s.size → ((f i left).1 < 0 ∨ ((i : Int) < (f i left).1 ∧ (f i left).1 ≤ s.size ∧ 0 ≤ (f i left).2 ∧ (f i left).2 < left)) ∧ -1 ≤ (f i left).2 ∧ (f i left).2 ≤ left ∧ -2 ≤ (f i left).1
theorem loop_good {s : ByteArray} {f : Nat → Nat → Int × Int} (h : Good s f) : ∀ (n : Nat) (i l : Nat), i ≤ s.size → ((loopW f n i l).1 < 0 ∨ ((i : Int) ≤ (loopW f n i l).1 ∧ (loopW f n i l).1 ≤ s.size ∧ 0 ≤ (loopW f n i l).2 ∧ (loopW f n i l).2 ≤ l)) ∧ -1 ≤ (loopW f n i l).2 ∧ (loopW f n i l).2 ≤ l ∧ -2 ≤ (loopW f n i l).1
  | 0, i, l, hi => by rw [loopW]; exact ⟨.inr ⟨Int.le_refl _, by omega, by omega, Int.le_refl _⟩, by omega, Int.le_refl _, by omega⟩
  | n + 1, i, l, hi => by
    rw [loopW, Int.toNat_natCast, Int.toNat_natCast]
    obtain ⟨h1, h2, h3, h4⟩ := h i l hi
    split
    · rename_i hx
      exact ⟨.inl hx, by omega, by omega, by omega⟩
    · rename_i hx
      rcases h1 with h1 | ⟨g1, g2, g3, g4⟩
      · omega
      · obtain ⟨j, hj⟩ : ∃ j : Nat, (f i l).1 = j := ⟨(f i l).1.toNat, by omega⟩
        obtain ⟨l2, hl2⟩ : ∃ l2 : Nat, (f i l).2 = l2 := ⟨(f i l).2.toNat, by omega⟩
        rw [hj, hl2]
        rw [hj] at g1 g2
        rw [hl2] at g3 g4
        clear h2 h3 h4
        obtain ⟨k1, k2, k3, k4⟩ := loop_good h n j l2 (by omega)
        refine ⟨?_, by omega, by omega, by omega⟩
        rcases k1 with k1 | ⟨q1, q2, q3, q4⟩
        · exact .inl k1
        · exact .inr ⟨by omega, by omega, by omega, by omega⟩
theorem get_next {s : ByteArray} {i : Nat} (h : ¬ (getHead s i).2.2 < 0) : ∃ m n X : Nat, getHead s i = ((m : Int), n, (X : Int)) ∧ m < 8 ∧ n < 18446744073709551616 ∧ i < X ∧ X ≤ s.size ∧ anyOk s i := by
  unfold getHead at *
  rw [Int.toNat_natCast] at *
  split at h
  · rename_i hc
    rw [if_pos hc]
    refine ⟨maj s i, num s i, i + 1 + many s i, by simp, ?_, ?_, by omega, hc.2.1.2.2, hc.2.1⟩
    · unfold maj; have := (at_ s i).toNat_lt; omega
    · exact num_lt hc.2.1
  · exact absurd (by decide) h
theorem head_good {s : ByteArray} {f : Nat → Nat → Int × Int} (h : Good s f) {m n X left i : Nat} (hX : i < X ∧ X ≤ s.size) : ((headW s f m n X left).1 < 0 ∨ ((i : Int) < (headW s f m n X left).1 ∧ (headW s f m n X left).1 ≤ s.size ∧ 0 ≤ (headW s f m n X left).2 ∧ (headW s f m n X left).2 ≤ left)) ∧ -1 ≤ (headW s f m n X left).2 ∧ (headW s f m n X left).2 ≤ left ∧ -2 ≤ (headW s f m n X left).1 := by
  have L : ∀ N, ((loopW f N X left).1 < 0 ∨ ((i : Int) < (loopW f N X left).1 ∧ (loopW f N X left).1 ≤ s.size ∧ 0 ≤ (loopW f N X left).2 ∧ (loopW f N X left).2 ≤ left)) ∧ -1 ≤ (loopW f N X left).2 ∧ (loopW f N X left).2 ≤ left ∧ -2 ≤ (loopW f N X left).1 := fun N => by
    obtain ⟨h1, h2, h3, h4⟩ := loop_good h N X left hX.2
    refine ⟨?_, h2, h3, h4⟩
    rcases h1 with h1 | ⟨q1, q2, q3, q4⟩
    · exact .inl h1
    · exact .inr ⟨by omega, q2, q3, q4⟩
  unfold headW
  split
  · split <;> (simp only; omega)
  · split
    · split <;> (simp only; omega)
    · split
      · split
        · simp only; omega
        · split <;> (simp only; omega)
      · split
        · split
          · simp only; omega
          · exact L 1
        · split
          · simp only; omega
          · exact L _
theorem wk_good (s : ByteArray) : ∀ k, Good s (wk s k)
  | 0, i, left, hi => by rw [wk]; simp only; omega
  | k + 1, i, left, hi => by
    rw [wk]
    split
    · simp only; omega
    · split
      · simp only; omega
      · split
        · simp only; omega
        · rename_i h0 h1 h2
          obtain ⟨m, n, X, he, _, _, h3, h4, _⟩ := get_next h2
          rw [he]
          simp only [Int.toNat_natCast]
          obtain ⟨g1, g2, g3, g4⟩ := head_good (wk_good s k) (m := m) (n := n) (left := left - 1) (i := i) ⟨h3, h4⟩
          refine ⟨?_, g2, by omega, g4⟩
          rcases g1 with g1 | ⟨q1, q2, q3, q4⟩
          · exact .inl g1
          · exact .inr ⟨q1, q2, q3, by omega⟩
end Go.Proofs.YtnaghafmpncdkaaDoor.beg
